/-
  Texts of this claim, joined (part 8): contracts and lemmas that the last text goes by. No statement of the seat is proved here.
-/
import Derived.Test.YtgknlegomoaoeaaDoorAll7
import Derived.Test.YtgknlegomoaoeaaDoorAll3
import Derived.Test.YtgknlegomoaoeaaDoorAll2
import Derived.Test.YtgknlegomoaoeaaDoorAll4
import Derived.Test.YtgknlegomoaoeaaDoorAll1
set_option linter.unusedVariables false
set_option linter.unusedSimpArgs false
/-
  Words for the reference's methods that answer an expression; its times behind an error. No statement of the seat is proved here.
-/
namespace Go.Proofs.YtgknlegomoaoeaaDoor
open Go Go.RowKit
set_option maxRecDepth 100000


/-- an answer that is an expression, no row of which lies in the reader's block -/
def isReR (d0 g : Nat) (x : Ex) (v : Value) (w : World) : Prop := ∃ cs, v = reV cs ∧ ReR (fun b => b ≠ g ∧ d0 ≤ b) w x cs
def anyRe (d0 g : Nat) (v : Value) (w : World) : Prop := ∃ x, isReR d0 g x v w
theorem isReR.any {d0 g : Nat} {x : Ex} {v : Value} {w : World} (h : isReR d0 g x v w) : anyRe d0 g v w := ⟨x, h⟩
/-- rows that were there, apart from a block made since -/
theorem ReR.old {d0 g h : Nat} {w w' : World} {x : Ex} {cs : List Value} (hx : ReR (fun b => b ≠ g ∧ d0 ≤ b) w x cs) (hh : w.heap.size ≤ h) (ho : Only (fun b => b = g) w w') : ReR (fun b => (b ≠ g ∧ d0 ≤ b) ∧ b ≠ h) w' x cs :=
  ReR.keep (fun b hb hl => ho.block b hl hb.1) (fun b hb hl => ⟨hb, by omega⟩) _ hx

set_option maxRecDepth 100000 in
set_option maxHeartbeats 8000000 in
theorem rtimesx_bad (w : World) (d0 : Nat) (hd0 : d0 ≤ w.heap.size) (g : Nat) (s : ByteArray) (p b : Int) (hb : 0 ≤ b) (h : RdS w g s p b) (x : Ex) (cs : List Value) (hx : ReR (fun b => b ≠ g ∧ d0 ≤ b) w x cs) :
    Calls Tryd.prog 91 #[.pointer (some ⟨g, 0, none⟩), reV cs] w fun e w' => ∃ v, e = .returned v ∧ isReR d0 g x v w' ∧ RdS w' g s p b ∧ Only (fun b => b = g) w w' := by
  obtain ⟨k, p0, p1, p2, p3, ks, A, c, lo, hi, rfl, rfl, h1, h2, -, -, -, hs, h3⟩ := hx.fields
  have hlt := h.lt
  have hxo := hx.old (h := w.heap.size + 1) (by omega) (Only.refl _ w)
  have h0 := (h.alloc (Obj.cells #[.int .i64 k, .int .u64 (p0 : Int), .int .u64 (p1 : Int), .int .u64 (p2 : Int), .int .u64 (p3 : Int), .slice A ks.length c, .int .i64 lo, .int .i64 hi] 27)).alloc (Obj.cells zeroReR 27)
  have hB1 := (Blk.new w 27 #[.int .i64 k, .int .u64 (p0 : Int), .int .u64 (p1 : Int), .int .u64 (p2 : Int), .int .u64 (p3 : Int), .slice A ks.length c, .int .i64 lo, .int .i64 hi]).alloc (Obj.cells zeroReR 27)
  have hB2 := Blk.new (w.alloc (Obj.cells #[.int .i64 k, .int .u64 (p0 : Int), .int .u64 (p1 : Int), .int .u64 (p2 : Int), .int .u64 (p3 : Int), .slice A ks.length c, .int .i64 lo, .int .i64 hi] 27)) 27 zeroReR
  rw [World.size_alloc] at hB2
  have ho := ((Only.refl (fun b => b = g) w).alloc (Obj.cells #[.int .i64 k, .int .u64 (p0 : Int), .int .u64 (p1 : Int), .int .u64 (p2 : Int), .int .u64 (p3 : Int), .slice A ks.length c, .int .i64 lo, .int .i64 hi] 27)).alloc (Obj.cells zeroReR 27)
  obtain ⟨w0, hw0⟩ : ∃ w0, w0 = (w.alloc (Obj.cells #[.int .i64 k, .int .u64 (p0 : Int), .int .u64 (p1 : Int), .int .u64 (p2 : Int), .int .u64 (p3 : Int), .slice A ks.length c, .int .i64 lo, .int .i64 hi] 27)).alloc (Obj.cells zeroReR 27) := ⟨_, rfl⟩
  rw [← hw0] at h0 hB1 hB2 ho
  have hxn := ReR.ext hx (show Below w.heap.size w w0 by rw [hw0]; exact ext2 w _ _)
  have hxo0 := ReR.ext hxo (show Below w.heap.size w w0 by rw [hw0]; exact ext2 w _ _)
  have Hw0 := Lib.hid hw0
  have H0 := Lib.hid h0
  have HB1 := Lib.hid hB1
  have HB2 := Lib.hid hB2
  have Ho := Lib.hid ho
  have Hxo := Lib.hid hxo0
  have hone : (#[.int .i64 k, .int .u64 (p0 : Int), .int .u64 (p1 : Int), .int .u64 (p2 : Int), .int .u64 (p3 : Int), .slice A ks.length c, .int .i64 lo, .int .i64 hi] : Array Value).all (·.oneCell') = true := by simp [Value.oneCell']
  have Hone := Lib.hid hone
  clear h hx hxo h0 hB1 hB2 ho hxn hxo0 hw0 hs h3 hone
  unfold reV
  go_enter Tryd.func91, Tryd.ntmps91
  go_wp2_with fail
  have e0 : (w.alloc (Obj.cells #[.int .i64 k, .int .u64 (p0 : Int), .int .u64 (p1 : Int), .int .u64 (p2 : Int), .int .u64 (p3 : Int), .slice A ks.length c, .int .i64 lo, .int .i64 hi] 27)).alloc (Obj.cells #[.int .i64 0, .int .u64 0, .int .u64 0, .int .u64 0, .int .u64 0, .slice none 0 0, .int .i64 0, .int .i64 0] 27) = w0 := Hw0.out.symm
  rw [e0]
  clear e0
  refine (rnext_bad _ g s p b 42 hb H0.out).mono ?_
  rintro e wa ⟨rfl, na, rfl⟩
  go_wp2_with fail
  refine (rnext_bad _ g s p b 43 hb (H0.out.drewN _)).mono ?_
  rintro e wb ⟨rfl, nb, rfl⟩
  go_wp2_with fail
  refine (rnext_bad _ g s p b 63 hb (H0.out.drewN _)).mono ?_
  rintro e wc ⟨rfl, nc, rfl⟩
  go_wp2_with fail
  refine (rnext_bad _ g s p b 123 hb (H0.out.drewN _)).mono ?_
  rintro e wd ⟨rfl, nd, rfl⟩
  have c0 := HB1.out.cell 0
  have c1 := HB1.out.cell 1
  have c2 := HB1.out.cell 2
  have c3 := HB1.out.cell 3
  have c4 := HB1.out.cell 4
  have c5 := HB1.out.cell 5
  have c6 := HB1.out.cell 6
  have c7 := HB1.out.cell 7
  go_wp2_with (refine wpList_store_re rfl _ _ rfl (w.heap.size + 1) rfl rfl rfl rfl Hone.out (HB2.out.drewN _) ?_; intro w3 hB3 ho3)
  refine bodyPost_ret (results_re rfl _ _ (w.heap.size + 1) _ _ rfl hB3 rfl) rfl ⟨_, rfl, ⟨_, rfl, ?_⟩, ?_, ?_⟩
  · exact ReR.mono ((Hxo.out.ext (ext_drewN (Below.refl _ _) _)).only ho3 (fun b hb h => hb.2 h)) (fun b hb _ => hb.1)
  · exact (H0.out.drewN _).only ho3 (by omega)
  · exact (Ho.out.drewN _).trans ho3 (fun i hi h => by omega)
end Go.Proofs.YtgknlegomoaoeaaDoor

/-
  Contract of the reference's times (the sign behind an atom). No statement of the seat is proved here.
-/
namespace Go.Proofs.YtgknlegomoaoeaaDoor
open Go Go.RowKit
set_option maxRecDepth 100000


theorem sign_in (d : Nat) {l : List Nat} : (natsOf ⟨#[42, 43, 63, 123]⟩).contains d = signP (d :: l) := by
  have : natsOf ⟨#[42, 43, 63, 123]⟩ = [42, 43, 63, 123] := rfl
  rw [this, Bool.eq_iff_iff]
  simp [signP, or_assoc]

set_option maxRecDepth 100000 in
set_option maxHeartbeats 32000000 in
theorem rtimesx_any (w : World) (d0 : Nat) (hd0 : d0 ≤ w.heap.size) (g : Nat) (s : ByteArray) (p : Nat) (hs : s.size ≤ 1000000) (hp : p ≤ s.size) (h : RdS w g s (p : Int) (-1)) (x : Ex) (cs : List Value) (hx : ReR (fun b => b ≠ g ∧ d0 ≤ b) w x cs) :
    Calls Tryd.prog 91 #[.pointer (some ⟨g, 0, none⟩), reV cs] w (Took w g s (timesP x ((natsOf s).drop p)) (isReR d0 g) (anyRe d0 g)) := by
  have hsi : (s.size : Int) ≤ 1000000 := by omega
  obtain ⟨k, p0, p1, p2, p3, ks, A, c, lo, hi, hxe, rfl, h1, h2, -, -, -, hs, h3⟩ := hx.fields
  have hlt := h.lt
  have hxo := hx.old (h := w.heap.size + 1) (by omega) (Only.refl _ w)
  have h0 := (h.alloc (Obj.cells #[.int .i64 k, .int .u64 (p0 : Int), .int .u64 (p1 : Int), .int .u64 (p2 : Int), .int .u64 (p3 : Int), .slice A ks.length c, .int .i64 lo, .int .i64 hi] 27)).alloc (Obj.cells zeroReR 27)
  have hB1 := (Blk.new w 27 #[.int .i64 k, .int .u64 (p0 : Int), .int .u64 (p1 : Int), .int .u64 (p2 : Int), .int .u64 (p3 : Int), .slice A ks.length c, .int .i64 lo, .int .i64 hi]).alloc (Obj.cells zeroReR 27)
  have hB2 := Blk.new (w.alloc (Obj.cells #[.int .i64 k, .int .u64 (p0 : Int), .int .u64 (p1 : Int), .int .u64 (p2 : Int), .int .u64 (p3 : Int), .slice A ks.length c, .int .i64 lo, .int .i64 hi] 27)) 27 zeroReR
  rw [World.size_alloc] at hB2
  have ho := ((Only.refl (fun b => b = g) w).alloc (Obj.cells #[.int .i64 k, .int .u64 (p0 : Int), .int .u64 (p1 : Int), .int .u64 (p2 : Int), .int .u64 (p3 : Int), .slice A ks.length c, .int .i64 lo, .int .i64 hi] 27)).alloc (Obj.cells zeroReR 27)
  obtain ⟨w0, hw0⟩ : ∃ w0, w0 = (w.alloc (Obj.cells #[.int .i64 k, .int .u64 (p0 : Int), .int .u64 (p1 : Int), .int .u64 (p2 : Int), .int .u64 (p3 : Int), .slice A ks.length c, .int .i64 lo, .int .i64 hi] 27)).alloc (Obj.cells zeroReR 27) := ⟨_, rfl⟩
  rw [← hw0] at h0 hB1 hB2 ho
  have hxn := ReR.ext hx (show Below w.heap.size w w0 by rw [hw0]; exact ext2 w _ _)
  have hxo0 := ReR.ext hxo (show Below w.heap.size w w0 by rw [hw0]; exact ext2 w _ _)
  have HwB0 := Lib.hid (show Below w.heap.size w w0 by rw [hw0]; exact ext2 w _ _)
  have HoneB : Hid (∀ (A : Option Addr) (lo hi : Int), (#[.int .i64 4, .int .u64 0, .int .u64 0, .int .u64 0, .int .u64 0, .slice A 1 1, .int .i64 lo, .int .i64 hi] : Array Value).all (·.oneCell') = true) := Lib.hid fun A lo hi => by simp [Value.oneCell']
  have Hgl := Lib.hid hlt
  have Hw0 := Lib.hid hw0
  have H0 := Lib.hid h0
  have HB1 := Lib.hid hB1
  have HB2 := Lib.hid hB2
  have Ho := Lib.hid ho
  have Hxo := Lib.hid hxo0
  have hone : (#[.int .i64 k, .int .u64 (p0 : Int), .int .u64 (p1 : Int), .int .u64 (p2 : Int), .int .u64 (p3 : Int), .slice A ks.length c, .int .i64 lo, .int .i64 hi] : Array Value).all (·.oneCell') = true := by simp [Value.oneCell']
  have Hone := Lib.hid hone
  clear hxe
  clear h hx hxo h0 hB1 hB2 ho hxn hxo0 hw0 hs h3 hone
  unfold reV
  go_enter Tryd.func91, Tryd.ntmps91
  go_wp2_with fail
  have e0 : (w.alloc (Obj.cells #[.int .i64 k, .int .u64 (p0 : Int), .int .u64 (p1 : Int), .int .u64 (p2 : Int), .int .u64 (p3 : Int), .slice A ks.length c, .int .i64 lo, .int .i64 hi] 27)).alloc (Obj.cells #[.int .i64 0, .int .u64 0, .int .u64 0, .int .u64 0, .int .u64 0, .slice none 0 0, .int .i64 0, .int .i64 0] 27) = w0 := Hw0.out.symm
  rw [e0]
  clear e0
  by_cases h42 : isNextR 42 ((natsOf s).drop p) = true
  · obtain ⟨hps, hpd⟩ := isNext_at s p 42 hp h42
    obtain ⟨q5, hq5e⟩ : ∃ q5, q5 = p + 1 := ⟨_, rfl⟩
    have hq5 : q5 ≤ s.size := by omega
    have hpi : (p : Int) ≤ 1000000 := by omega
    have hqi5 : (q5 : Int) ≤ 1000000 := by omega
    have HP : Hid (timesP x ((natsOf s).drop p) = againP x 0 (-1) ((natsOf s).drop q5)) := Lib.hid (by rw [hpd, hq5e]; rfl)
    have Hq5 := Lib.hid hq5e
    have HIlo : Hid (isInt 0) := Lib.hid (by unfold isInt; omega)
    have HIhi : Hid (isInt (-1)) := Lib.hid (by unfold isInt; omega)
    have HN42 : Hid (∀ W, RdS W g s (p : Int) (-1) → Calls Tryd.prog 75 #[.pointer (some ⟨g, 0, none⟩), .int .u8 42] W fun e w' => e = .returned (.bool true) ∧ ∃ n, w' = W.drewN n) := Lib.hid fun W hW => by
      have := rnext_any W g s p 42 hs hp hW
      rw [show isNextR 42 ((natsOf s).drop p) = true from by rw [hpd]; rfl] at this
      exact this
    clear hpd hq5e h42
    refine (HN42.out _ H0.out).mono ?_
    rintro e wa ⟨rfl, na, rfl⟩
    have q0 := H0.out.c0
    have q1 := H0.out.c1
    have q2 := H0.out.c2
    have q3 := H0.out.f1
    go_wp2
    obtain ⟨W5, hW5⟩ : ∃ W5, W5 = (w0.drewN na).setCell ⟨g, 1, none⟩ (.int .i64 ((p : Int) + 1)) := ⟨_, rfl⟩
    rw [← hW5]
    have HR5 : Hid (RdS W5 g s (q5 : Int) (-1)) := Lib.hid (by rw [hW5]; exact RdS.to ((H0.out.drewN _).set1 _) (by have := Hq5.out; omega) rfl)
    have HO5 : Hid (Only (fun b => b = g) w W5) := Lib.hid (by rw [hW5]; exact (Ho.out.drewN _).setCell (p := ⟨g, 1, none⟩) (.inl rfl) _)
    have HK1 : Hid (Blk W5 w.heap.size 27 #[.int .i64 k, .int .u64 (p0 : Int), .int .u64 (p1 : Int), .int .u64 (p2 : Int), .int .u64 (p3 : Int), .slice A ks.length c, .int .i64 lo, .int .i64 hi]) := Lib.hid (by rw [hW5]; exact (HB1.out.drewN _).far (by have := Hgl.out; simp; omega) _)
    have HK2 : Hid (Blk W5 (w.heap.size + 1) 27 zeroReR) := Lib.hid (by rw [hW5]; exact (HB2.out.drewN _).far (by have := Hgl.out; simp; omega) _)
    have HKx : Hid (ReR (fun b => (b ≠ g ∧ d0 ≤ b) ∧ b ≠ w.heap.size + 1) W5 x (#[.int .i64 k, .int .u64 (p0 : Int), .int .u64 (p1 : Int), .int .u64 (p2 : Int), .int .u64 (p3 : Int), .slice A ks.length c, .int .i64 lo, .int .i64 hi] : Array Value).toList) := Lib.hid (by rw [hW5]; exact ReR.only (S := fun b => (b ≠ g ∧ d0 ≤ b) ∧ b ≠ w.heap.size + 1) (T := fun b => b = g) (Hxo.out.ext (ext_drewN (Below.refl _ _) _)) ((Only.refl (fun b => b = g) _).setCell (p := ⟨g, 1, none⟩) (.inl rfl) _) (fun b hb h => hb.1.1 h))
    have HwB : Hid (Below w.heap.size w w0) := HwB0
    clear hW5 q0 q1 q2 q3
    have q0 := HR5.out.c0
    have q1 := HR5.out.c1
    have q2 := HR5.out.c2
    have q3 := HR5.out.f1
    have hre : ∀ n, ReR (fun b => (b ≠ g ∧ d0 ≤ b) ∧ b ≠ w.heap.size + 1) ((W5.drewN n).alloc (Obj.cells #[.int .i64 k, .int .u64 (p0 : Int), .int .u64 (p1 : Int), .int .u64 (p2 : Int), .int .u64 (p3 : Int), .slice A ks.length c, .int .i64 lo, .int .i64 hi] 27)) (.mk 4 zeroB [x] 0 (-1)) [.int .i64 4, .int .u64 0, .int .u64 0, .int .u64 0, .int .u64 0, .slice (some ⟨W5.heap.size, 0, none⟩) 1 1, .int .i64 0, .int .i64 (-1)] := fun n => by
      rw [reR_iff]
      refine ⟨⟨by unfold isInt; omega, zero_ok, HIlo.out, HIhi.out⟩, some ⟨W5.heap.size, 0, none⟩, 1, rfl, Nat.le_refl _, by simp [maxLen], ?_⟩
      exact (RowE.one (W5.drewN n) (HKx.out.ext (ext_drewN (Below.refl _ _) n))).kids (fun b hb hl => hb.elim id (fun hin => by
        have h1 := (inA_some _ _ _ _).1 hin
        have h2 := HK2.out.lt
        have h3 := HR5.out.lt
        have h4 : (W5.drewN n).heap.size = W5.heap.size := rfl
        exact ⟨⟨by omega, by omega⟩, by omega⟩))
    have Hre := Lib.hid hre
    clear hre
    rcases Nat.lt_or_ge q5 s.size with hlt5 | hge5
    · obtain ⟨d, hd⟩ : ∃ d, (s[q5]'hlt5).toNat = d := ⟨_, rfl⟩
      have hdr : (natsOf s).drop q5 = d :: (natsOf s).drop (q5 + 1) := by rw [nats_dropR s q5 hlt5, hd]
      have hqd : decide (q5 < s.size) = true := by simpa using hlt5
      have hqi : (q5 : Int) < (s.size : Int) := by omega
      have hq0 : (0 : Int) ≤ (q5 : Int) := by omega
      have hlen5 := nats_lenR s q5
      obtain ⟨sg, hsg⟩ : ∃ b, signP ((natsOf s).drop q5) = b := ⟨_, rfl⟩
      have HIn : Hid (∀ W, Calls Tryd.prog 102 #[.int .u8 (d : Int), .string ⟨#[42, 43, 63, 123]⟩] W fun e w' => e = .returned (.bool sg) ∧ w' = W) := Lib.hid fun W => by
        refine (rin_any d ⟨#[42, 43, 63, 123]⟩ (by decide) W).mono fun e w' ⟨h1, h2⟩ => ⟨?_, h2.symm⟩
        rw [h1, ← hsg, hdr]
        exact ret_bool (sign_in d)
      have Hsg := Lib.hid hsg
      clear hdr hsg
      cases sg with
      | true =>
        have HPs : Hid (timesP x ((natsOf s).drop p) = .bad (s.size - q5)) := Lib.hid (by rw [HP.out, againP, if_pos Hsg.out, nats_lenR])
        clear Hre
        go_wp2
        go_quiet ((go_at_call 102; exact Calls.quiet_of_same (HIn.out _)))
        go_wp2_with fail
        refine (rfail_ok _ g s (q5 : Int) (q5 : Int) (HR5.out.drewN _)).mono ?_
        rintro e w6 ⟨rfl, h6, ho6⟩
        have H6 := Lib.hid h6
        have Ho6 := Lib.hid ho6
        have HB6 := Lib.hid ((HK2.out.drewN _).only ho6 (fun h => by have := Hgl.out; omega))
        clear h6 ho6
        go_wp2_with (refine wpList_store_re rfl _ _ rfl (w.heap.size + 1) rfl rfl rfl rfl zeroRe_oneR HB6.out ?_; intro w7 hB7 ho7)
        refine bodyPost_ret (results_re rfl _ _ (w.heap.size + 1) _ _ rfl hB7 rfl) rfl ?_
        rw [HPs.out]
        exact Took.bad (V := isReR d0 g) (U := anyRe d0 g) (p := q5) (((HO5.out.drewN _).trans Ho6.out (fun _ _ h => h)).trans ho7 (fun i hi h => by have := HwB.out.size; omega)) ⟨emptyE, _, rfl, reR_leaf _ (by unfold isInt; omega) zero_ok⟩ (by omega) (by omega) (by omega) (H6.out.only ho7 (by have := Hgl.out; omega))
      | false =>
        have HPs : Hid (timesP x ((natsOf s).drop p) = .ok (.mk 4 zeroB [x] 0 (-1)) ((natsOf s).drop q5)) := Lib.hid (by rw [HP.out, againP, if_neg (by rw [Hsg.out]; simp)])
        go_wp2
        go_quiet ((go_at_call 102; exact Calls.quiet_of_same (HIn.out _)))
        have c0 := HK1.out.cell 0
        have c1 := HK1.out.cell 1
        have c2 := HK1.out.cell 2
        have c3 := HK1.out.cell 3
        have c4 := HK1.out.cell 4
        have c5 := HK1.out.cell 5
        have c6 := HK1.out.cell 6
        have c7 := HK1.out.cell 7
        go_wp2_with (refine wpList_store_re rfl _ _ rfl (w.heap.size + 1) rfl rfl rfl rfl (HoneB.out _ _ _) ((HK2.out.drewN _).alloc _) ?_; intro w7 hB7 ho7)
        refine bodyPost_ret (results_re rfl _ _ (w.heap.size + 1) _ _ rfl hB7 rfl) rfl ?_
        rw [HPs.out]
        exact Took.ok (V := isReR d0 g) (U := anyRe d0 g) (((HO5.out.drewN _).alloc _).trans ho7 (fun i hi h => by have := HwB.out.size; omega)) ⟨_, rfl, ReR.mono ((Hre.out _).only ho7 (fun b hb h => hb.2 h)) (fun b hb _ => hb.1)⟩ hq5 rfl (((HR5.out.drewN _).alloc _).only ho7 (by have := Hgl.out; omega))
    · have he5 : q5 = s.size := by omega
      have hqd : decide (q5 < s.size) = false := by simp; omega
      have HPs : Hid (timesP x ((natsOf s).drop p) = .ok (.mk 4 zeroB [x] 0 (-1)) ((natsOf s).drop q5)) := Lib.hid (by rw [HP.out, againP, if_neg]; rw [he5, nats_endR]; simp [signP])
      clear he5
      go_wp2
      go_quiet (fail)
      have c0 := HK1.out.cell 0
      have c1 := HK1.out.cell 1
      have c2 := HK1.out.cell 2
      have c3 := HK1.out.cell 3
      have c4 := HK1.out.cell 4
      have c5 := HK1.out.cell 5
      have c6 := HK1.out.cell 6
      have c7 := HK1.out.cell 7
      go_wp2_with (refine wpList_store_re rfl _ _ rfl (w.heap.size + 1) rfl rfl rfl rfl (HoneB.out _ _ _) ((HK2.out.drewN _).alloc _) ?_; intro w7 hB7 ho7)
      refine bodyPost_ret (results_re rfl _ _ (w.heap.size + 1) _ _ rfl hB7 rfl) rfl ?_
      rw [HPs.out]
      exact Took.ok (V := isReR d0 g) (U := anyRe d0 g) (((HO5.out.drewN _).alloc _).trans ho7 (fun i hi h => by have := HwB.out.size; omega)) ⟨_, rfl, ReR.mono ((Hre.out _).only ho7 (fun b hb h => hb.2 h)) (fun b hb _ => hb.1)⟩ hq5 rfl (((HR5.out.drewN _).alloc _).only ho7 (by have := Hgl.out; omega))
  by_cases h43 : isNextR 43 ((natsOf s).drop p) = true
  · obtain ⟨hps, hpd⟩ := isNext_at s p 43 hp h43
    obtain ⟨q5, hq5e⟩ : ∃ q5, q5 = p + 1 := ⟨_, rfl⟩
    have hq5 : q5 ≤ s.size := by omega
    have hpi : (p : Int) ≤ 1000000 := by omega
    have hqi5 : (q5 : Int) ≤ 1000000 := by omega
    have HP : Hid (timesP x ((natsOf s).drop p) = againP x 1 (-1) ((natsOf s).drop q5)) := Lib.hid (by rw [hpd, hq5e]; rfl)
    have Hq5 := Lib.hid hq5e
    have HIlo : Hid (isInt 1) := Lib.hid (by unfold isInt; omega)
    have HIhi : Hid (isInt (-1)) := Lib.hid (by unfold isInt; omega)
    have HN42 : Hid (∀ W, RdS W g s (p : Int) (-1) → Calls Tryd.prog 75 #[.pointer (some ⟨g, 0, none⟩), .int .u8 42] W fun e w' => e = .returned (.bool false) ∧ ∃ n, w' = W.drewN n) := Lib.hid fun W hW => by
      have := rnext_any W g s p 42 hs hp hW
      rw [show isNextR 42 ((natsOf s).drop p) = false from by rw [hpd]; rfl] at this
      exact this
    have HN43 : Hid (∀ W, RdS W g s (p : Int) (-1) → Calls Tryd.prog 75 #[.pointer (some ⟨g, 0, none⟩), .int .u8 43] W fun e w' => e = .returned (.bool true) ∧ ∃ n, w' = W.drewN n) := Lib.hid fun W hW => by
      have := rnext_any W g s p 43 hs hp hW
      rw [show isNextR 43 ((natsOf s).drop p) = true from by rw [hpd]; rfl] at this
      exact this
    clear hpd hq5e h43
    refine (HN42.out _ H0.out).mono ?_
    rintro e wa ⟨rfl, na, rfl⟩
    go_wp2_with fail
    refine (HN43.out _ (H0.out.drewN _)).mono ?_
    rintro e wb ⟨rfl, nb, rfl⟩
    have q0 := H0.out.c0
    have q1 := H0.out.c1
    have q2 := H0.out.c2
    have q3 := H0.out.f1
    go_wp2
    obtain ⟨W5, hW5⟩ : ∃ W5, W5 = (w0.drewN (na + nb)).setCell ⟨g, 1, none⟩ (.int .i64 ((p : Int) + 1)) := ⟨_, rfl⟩
    rw [← hW5]
    have HR5 : Hid (RdS W5 g s (q5 : Int) (-1)) := Lib.hid (by rw [hW5]; exact RdS.to ((H0.out.drewN _).set1 _) (by have := Hq5.out; omega) rfl)
    have HO5 : Hid (Only (fun b => b = g) w W5) := Lib.hid (by rw [hW5]; exact (Ho.out.drewN _).setCell (p := ⟨g, 1, none⟩) (.inl rfl) _)
    have HK1 : Hid (Blk W5 w.heap.size 27 #[.int .i64 k, .int .u64 (p0 : Int), .int .u64 (p1 : Int), .int .u64 (p2 : Int), .int .u64 (p3 : Int), .slice A ks.length c, .int .i64 lo, .int .i64 hi]) := Lib.hid (by rw [hW5]; exact (HB1.out.drewN _).far (by have := Hgl.out; simp; omega) _)
    have HK2 : Hid (Blk W5 (w.heap.size + 1) 27 zeroReR) := Lib.hid (by rw [hW5]; exact (HB2.out.drewN _).far (by have := Hgl.out; simp; omega) _)
    have HKx : Hid (ReR (fun b => (b ≠ g ∧ d0 ≤ b) ∧ b ≠ w.heap.size + 1) W5 x (#[.int .i64 k, .int .u64 (p0 : Int), .int .u64 (p1 : Int), .int .u64 (p2 : Int), .int .u64 (p3 : Int), .slice A ks.length c, .int .i64 lo, .int .i64 hi] : Array Value).toList) := Lib.hid (by rw [hW5]; exact ReR.only (S := fun b => (b ≠ g ∧ d0 ≤ b) ∧ b ≠ w.heap.size + 1) (T := fun b => b = g) (Hxo.out.ext (ext_drewN (Below.refl _ _) _)) ((Only.refl (fun b => b = g) _).setCell (p := ⟨g, 1, none⟩) (.inl rfl) _) (fun b hb h => hb.1.1 h))
    have HwB : Hid (Below w.heap.size w w0) := HwB0
    clear hW5 q0 q1 q2 q3
    have q0 := HR5.out.c0
    have q1 := HR5.out.c1
    have q2 := HR5.out.c2
    have q3 := HR5.out.f1
    have hre : ∀ n, ReR (fun b => (b ≠ g ∧ d0 ≤ b) ∧ b ≠ w.heap.size + 1) ((W5.drewN n).alloc (Obj.cells #[.int .i64 k, .int .u64 (p0 : Int), .int .u64 (p1 : Int), .int .u64 (p2 : Int), .int .u64 (p3 : Int), .slice A ks.length c, .int .i64 lo, .int .i64 hi] 27)) (.mk 4 zeroB [x] 1 (-1)) [.int .i64 4, .int .u64 0, .int .u64 0, .int .u64 0, .int .u64 0, .slice (some ⟨W5.heap.size, 0, none⟩) 1 1, .int .i64 1, .int .i64 (-1)] := fun n => by
      rw [reR_iff]
      refine ⟨⟨by unfold isInt; omega, zero_ok, HIlo.out, HIhi.out⟩, some ⟨W5.heap.size, 0, none⟩, 1, rfl, Nat.le_refl _, by simp [maxLen], ?_⟩
      exact (RowE.one (W5.drewN n) (HKx.out.ext (ext_drewN (Below.refl _ _) n))).kids (fun b hb hl => hb.elim id (fun hin => by
        have h1 := (inA_some _ _ _ _).1 hin
        have h2 := HK2.out.lt
        have h3 := HR5.out.lt
        have h4 : (W5.drewN n).heap.size = W5.heap.size := rfl
        exact ⟨⟨by omega, by omega⟩, by omega⟩))
    have Hre := Lib.hid hre
    clear hre
    rcases Nat.lt_or_ge q5 s.size with hlt5 | hge5
    · obtain ⟨d, hd⟩ : ∃ d, (s[q5]'hlt5).toNat = d := ⟨_, rfl⟩
      have hdr : (natsOf s).drop q5 = d :: (natsOf s).drop (q5 + 1) := by rw [nats_dropR s q5 hlt5, hd]
      have hqd : decide (q5 < s.size) = true := by simpa using hlt5
      have hqi : (q5 : Int) < (s.size : Int) := by omega
      have hq0 : (0 : Int) ≤ (q5 : Int) := by omega
      have hlen5 := nats_lenR s q5
      obtain ⟨sg, hsg⟩ : ∃ b, signP ((natsOf s).drop q5) = b := ⟨_, rfl⟩
      have HIn : Hid (∀ W, Calls Tryd.prog 102 #[.int .u8 (d : Int), .string ⟨#[42, 43, 63, 123]⟩] W fun e w' => e = .returned (.bool sg) ∧ w' = W) := Lib.hid fun W => by
        refine (rin_any d ⟨#[42, 43, 63, 123]⟩ (by decide) W).mono fun e w' ⟨h1, h2⟩ => ⟨?_, h2.symm⟩
        rw [h1, ← hsg, hdr]
        exact ret_bool (sign_in d)
      have Hsg := Lib.hid hsg
      clear hdr hsg
      cases sg with
      | true =>
        have HPs : Hid (timesP x ((natsOf s).drop p) = .bad (s.size - q5)) := Lib.hid (by rw [HP.out, againP, if_pos Hsg.out, nats_lenR])
        clear Hre
        go_wp2
        go_quiet ((go_at_call 102; exact Calls.quiet_of_same (HIn.out _)))
        go_wp2_with fail
        refine (rfail_ok _ g s (q5 : Int) (q5 : Int) (HR5.out.drewN _)).mono ?_
        rintro e w6 ⟨rfl, h6, ho6⟩
        have H6 := Lib.hid h6
        have Ho6 := Lib.hid ho6
        have HB6 := Lib.hid ((HK2.out.drewN _).only ho6 (fun h => by have := Hgl.out; omega))
        clear h6 ho6
        go_wp2_with (refine wpList_store_re rfl _ _ rfl (w.heap.size + 1) rfl rfl rfl rfl zeroRe_oneR HB6.out ?_; intro w7 hB7 ho7)
        refine bodyPost_ret (results_re rfl _ _ (w.heap.size + 1) _ _ rfl hB7 rfl) rfl ?_
        rw [HPs.out]
        exact Took.bad (V := isReR d0 g) (U := anyRe d0 g) (p := q5) (((HO5.out.drewN _).trans Ho6.out (fun _ _ h => h)).trans ho7 (fun i hi h => by have := HwB.out.size; omega)) ⟨emptyE, _, rfl, reR_leaf _ (by unfold isInt; omega) zero_ok⟩ (by omega) (by omega) (by omega) (H6.out.only ho7 (by have := Hgl.out; omega))
      | false =>
        have HPs : Hid (timesP x ((natsOf s).drop p) = .ok (.mk 4 zeroB [x] 1 (-1)) ((natsOf s).drop q5)) := Lib.hid (by rw [HP.out, againP, if_neg (by rw [Hsg.out]; simp)])
        go_wp2
        go_quiet ((go_at_call 102; exact Calls.quiet_of_same (HIn.out _)))
        have c0 := HK1.out.cell 0
        have c1 := HK1.out.cell 1
        have c2 := HK1.out.cell 2
        have c3 := HK1.out.cell 3
        have c4 := HK1.out.cell 4
        have c5 := HK1.out.cell 5
        have c6 := HK1.out.cell 6
        have c7 := HK1.out.cell 7
        go_wp2_with (refine wpList_store_re rfl _ _ rfl (w.heap.size + 1) rfl rfl rfl rfl (HoneB.out _ _ _) ((HK2.out.drewN _).alloc _) ?_; intro w7 hB7 ho7)
        refine bodyPost_ret (results_re rfl _ _ (w.heap.size + 1) _ _ rfl hB7 rfl) rfl ?_
        rw [HPs.out]
        exact Took.ok (V := isReR d0 g) (U := anyRe d0 g) (((HO5.out.drewN _).alloc _).trans ho7 (fun i hi h => by have := HwB.out.size; omega)) ⟨_, rfl, ReR.mono ((Hre.out _).only ho7 (fun b hb h => hb.2 h)) (fun b hb _ => hb.1)⟩ hq5 rfl (((HR5.out.drewN _).alloc _).only ho7 (by have := Hgl.out; omega))
    · have he5 : q5 = s.size := by omega
      have hqd : decide (q5 < s.size) = false := by simp; omega
      have HPs : Hid (timesP x ((natsOf s).drop p) = .ok (.mk 4 zeroB [x] 1 (-1)) ((natsOf s).drop q5)) := Lib.hid (by rw [HP.out, againP, if_neg]; rw [he5, nats_endR]; simp [signP])
      clear he5
      go_wp2
      go_quiet (fail)
      have c0 := HK1.out.cell 0
      have c1 := HK1.out.cell 1
      have c2 := HK1.out.cell 2
      have c3 := HK1.out.cell 3
      have c4 := HK1.out.cell 4
      have c5 := HK1.out.cell 5
      have c6 := HK1.out.cell 6
      have c7 := HK1.out.cell 7
      go_wp2_with (refine wpList_store_re rfl _ _ rfl (w.heap.size + 1) rfl rfl rfl rfl (HoneB.out _ _ _) ((HK2.out.drewN _).alloc _) ?_; intro w7 hB7 ho7)
      refine bodyPost_ret (results_re rfl _ _ (w.heap.size + 1) _ _ rfl hB7 rfl) rfl ?_
      rw [HPs.out]
      exact Took.ok (V := isReR d0 g) (U := anyRe d0 g) (((HO5.out.drewN _).alloc _).trans ho7 (fun i hi h => by have := HwB.out.size; omega)) ⟨_, rfl, ReR.mono ((Hre.out _).only ho7 (fun b hb h => hb.2 h)) (fun b hb _ => hb.1)⟩ hq5 rfl (((HR5.out.drewN _).alloc _).only ho7 (by have := Hgl.out; omega))
  by_cases h63 : isNextR 63 ((natsOf s).drop p) = true
  · obtain ⟨hps, hpd⟩ := isNext_at s p 63 hp h63
    obtain ⟨q5, hq5e⟩ : ∃ q5, q5 = p + 1 := ⟨_, rfl⟩
    have hq5 : q5 ≤ s.size := by omega
    have hpi : (p : Int) ≤ 1000000 := by omega
    have hqi5 : (q5 : Int) ≤ 1000000 := by omega
    have HP : Hid (timesP x ((natsOf s).drop p) = againP x 0 1 ((natsOf s).drop q5)) := Lib.hid (by rw [hpd, hq5e]; rfl)
    have Hq5 := Lib.hid hq5e
    have HIlo : Hid (isInt 0) := Lib.hid (by unfold isInt; omega)
    have HIhi : Hid (isInt 1) := Lib.hid (by unfold isInt; omega)
    have HN42 : Hid (∀ W, RdS W g s (p : Int) (-1) → Calls Tryd.prog 75 #[.pointer (some ⟨g, 0, none⟩), .int .u8 42] W fun e w' => e = .returned (.bool false) ∧ ∃ n, w' = W.drewN n) := Lib.hid fun W hW => by
      have := rnext_any W g s p 42 hs hp hW
      rw [show isNextR 42 ((natsOf s).drop p) = false from by rw [hpd]; rfl] at this
      exact this
    have HN43 : Hid (∀ W, RdS W g s (p : Int) (-1) → Calls Tryd.prog 75 #[.pointer (some ⟨g, 0, none⟩), .int .u8 43] W fun e w' => e = .returned (.bool false) ∧ ∃ n, w' = W.drewN n) := Lib.hid fun W hW => by
      have := rnext_any W g s p 43 hs hp hW
      rw [show isNextR 43 ((natsOf s).drop p) = false from by rw [hpd]; rfl] at this
      exact this
    have HN63 : Hid (∀ W, RdS W g s (p : Int) (-1) → Calls Tryd.prog 75 #[.pointer (some ⟨g, 0, none⟩), .int .u8 63] W fun e w' => e = .returned (.bool true) ∧ ∃ n, w' = W.drewN n) := Lib.hid fun W hW => by
      have := rnext_any W g s p 63 hs hp hW
      rw [show isNextR 63 ((natsOf s).drop p) = true from by rw [hpd]; rfl] at this
      exact this
    clear hpd hq5e h63
    refine (HN42.out _ H0.out).mono ?_
    rintro e wa ⟨rfl, na, rfl⟩
    go_wp2_with fail
    refine (HN43.out _ (H0.out.drewN _)).mono ?_
    rintro e wb ⟨rfl, nb, rfl⟩
    go_wp2_with fail
    refine (HN63.out _ (H0.out.drewN _)).mono ?_
    rintro e wc ⟨rfl, nc, rfl⟩
    have q0 := H0.out.c0
    have q1 := H0.out.c1
    have q2 := H0.out.c2
    have q3 := H0.out.f1
    go_wp2
    obtain ⟨W5, hW5⟩ : ∃ W5, W5 = (w0.drewN (na + nb + nc)).setCell ⟨g, 1, none⟩ (.int .i64 ((p : Int) + 1)) := ⟨_, rfl⟩
    rw [← hW5]
    have HR5 : Hid (RdS W5 g s (q5 : Int) (-1)) := Lib.hid (by rw [hW5]; exact RdS.to ((H0.out.drewN _).set1 _) (by have := Hq5.out; omega) rfl)
    have HO5 : Hid (Only (fun b => b = g) w W5) := Lib.hid (by rw [hW5]; exact (Ho.out.drewN _).setCell (p := ⟨g, 1, none⟩) (.inl rfl) _)
    have HK1 : Hid (Blk W5 w.heap.size 27 #[.int .i64 k, .int .u64 (p0 : Int), .int .u64 (p1 : Int), .int .u64 (p2 : Int), .int .u64 (p3 : Int), .slice A ks.length c, .int .i64 lo, .int .i64 hi]) := Lib.hid (by rw [hW5]; exact (HB1.out.drewN _).far (by have := Hgl.out; simp; omega) _)
    have HK2 : Hid (Blk W5 (w.heap.size + 1) 27 zeroReR) := Lib.hid (by rw [hW5]; exact (HB2.out.drewN _).far (by have := Hgl.out; simp; omega) _)
    have HKx : Hid (ReR (fun b => (b ≠ g ∧ d0 ≤ b) ∧ b ≠ w.heap.size + 1) W5 x (#[.int .i64 k, .int .u64 (p0 : Int), .int .u64 (p1 : Int), .int .u64 (p2 : Int), .int .u64 (p3 : Int), .slice A ks.length c, .int .i64 lo, .int .i64 hi] : Array Value).toList) := Lib.hid (by rw [hW5]; exact ReR.only (S := fun b => (b ≠ g ∧ d0 ≤ b) ∧ b ≠ w.heap.size + 1) (T := fun b => b = g) (Hxo.out.ext (ext_drewN (Below.refl _ _) _)) ((Only.refl (fun b => b = g) _).setCell (p := ⟨g, 1, none⟩) (.inl rfl) _) (fun b hb h => hb.1.1 h))
    have HwB : Hid (Below w.heap.size w w0) := HwB0
    clear hW5 q0 q1 q2 q3
    have q0 := HR5.out.c0
    have q1 := HR5.out.c1
    have q2 := HR5.out.c2
    have q3 := HR5.out.f1
    have hre : ∀ n, ReR (fun b => (b ≠ g ∧ d0 ≤ b) ∧ b ≠ w.heap.size + 1) ((W5.drewN n).alloc (Obj.cells #[.int .i64 k, .int .u64 (p0 : Int), .int .u64 (p1 : Int), .int .u64 (p2 : Int), .int .u64 (p3 : Int), .slice A ks.length c, .int .i64 lo, .int .i64 hi] 27)) (.mk 4 zeroB [x] 0 1) [.int .i64 4, .int .u64 0, .int .u64 0, .int .u64 0, .int .u64 0, .slice (some ⟨W5.heap.size, 0, none⟩) 1 1, .int .i64 0, .int .i64 1] := fun n => by
      rw [reR_iff]
      refine ⟨⟨by unfold isInt; omega, zero_ok, HIlo.out, HIhi.out⟩, some ⟨W5.heap.size, 0, none⟩, 1, rfl, Nat.le_refl _, by simp [maxLen], ?_⟩
      exact (RowE.one (W5.drewN n) (HKx.out.ext (ext_drewN (Below.refl _ _) n))).kids (fun b hb hl => hb.elim id (fun hin => by
        have h1 := (inA_some _ _ _ _).1 hin
        have h2 := HK2.out.lt
        have h3 := HR5.out.lt
        have h4 : (W5.drewN n).heap.size = W5.heap.size := rfl
        exact ⟨⟨by omega, by omega⟩, by omega⟩))
    have Hre := Lib.hid hre
    clear hre
    rcases Nat.lt_or_ge q5 s.size with hlt5 | hge5
    · obtain ⟨d, hd⟩ : ∃ d, (s[q5]'hlt5).toNat = d := ⟨_, rfl⟩
      have hdr : (natsOf s).drop q5 = d :: (natsOf s).drop (q5 + 1) := by rw [nats_dropR s q5 hlt5, hd]
      have hqd : decide (q5 < s.size) = true := by simpa using hlt5
      have hqi : (q5 : Int) < (s.size : Int) := by omega
      have hq0 : (0 : Int) ≤ (q5 : Int) := by omega
      have hlen5 := nats_lenR s q5
      obtain ⟨sg, hsg⟩ : ∃ b, signP ((natsOf s).drop q5) = b := ⟨_, rfl⟩
      have HIn : Hid (∀ W, Calls Tryd.prog 102 #[.int .u8 (d : Int), .string ⟨#[42, 43, 63, 123]⟩] W fun e w' => e = .returned (.bool sg) ∧ w' = W) := Lib.hid fun W => by
        refine (rin_any d ⟨#[42, 43, 63, 123]⟩ (by decide) W).mono fun e w' ⟨h1, h2⟩ => ⟨?_, h2.symm⟩
        rw [h1, ← hsg, hdr]
        exact ret_bool (sign_in d)
      have Hsg := Lib.hid hsg
      clear hdr hsg
      cases sg with
      | true =>
        have HPs : Hid (timesP x ((natsOf s).drop p) = .bad (s.size - q5)) := Lib.hid (by rw [HP.out, againP, if_pos Hsg.out, nats_lenR])
        clear Hre
        go_wp2
        go_quiet ((go_at_call 102; exact Calls.quiet_of_same (HIn.out _)))
        go_wp2_with fail
        refine (rfail_ok _ g s (q5 : Int) (q5 : Int) (HR5.out.drewN _)).mono ?_
        rintro e w6 ⟨rfl, h6, ho6⟩
        have H6 := Lib.hid h6
        have Ho6 := Lib.hid ho6
        have HB6 := Lib.hid ((HK2.out.drewN _).only ho6 (fun h => by have := Hgl.out; omega))
        clear h6 ho6
        go_wp2_with (refine wpList_store_re rfl _ _ rfl (w.heap.size + 1) rfl rfl rfl rfl zeroRe_oneR HB6.out ?_; intro w7 hB7 ho7)
        refine bodyPost_ret (results_re rfl _ _ (w.heap.size + 1) _ _ rfl hB7 rfl) rfl ?_
        rw [HPs.out]
        exact Took.bad (V := isReR d0 g) (U := anyRe d0 g) (p := q5) (((HO5.out.drewN _).trans Ho6.out (fun _ _ h => h)).trans ho7 (fun i hi h => by have := HwB.out.size; omega)) ⟨emptyE, _, rfl, reR_leaf _ (by unfold isInt; omega) zero_ok⟩ (by omega) (by omega) (by omega) (H6.out.only ho7 (by have := Hgl.out; omega))
      | false =>
        have HPs : Hid (timesP x ((natsOf s).drop p) = .ok (.mk 4 zeroB [x] 0 1) ((natsOf s).drop q5)) := Lib.hid (by rw [HP.out, againP, if_neg (by rw [Hsg.out]; simp)])
        go_wp2
        go_quiet ((go_at_call 102; exact Calls.quiet_of_same (HIn.out _)))
        have c0 := HK1.out.cell 0
        have c1 := HK1.out.cell 1
        have c2 := HK1.out.cell 2
        have c3 := HK1.out.cell 3
        have c4 := HK1.out.cell 4
        have c5 := HK1.out.cell 5
        have c6 := HK1.out.cell 6
        have c7 := HK1.out.cell 7
        go_wp2_with (refine wpList_store_re rfl _ _ rfl (w.heap.size + 1) rfl rfl rfl rfl (HoneB.out _ _ _) ((HK2.out.drewN _).alloc _) ?_; intro w7 hB7 ho7)
        refine bodyPost_ret (results_re rfl _ _ (w.heap.size + 1) _ _ rfl hB7 rfl) rfl ?_
        rw [HPs.out]
        exact Took.ok (V := isReR d0 g) (U := anyRe d0 g) (((HO5.out.drewN _).alloc _).trans ho7 (fun i hi h => by have := HwB.out.size; omega)) ⟨_, rfl, ReR.mono ((Hre.out _).only ho7 (fun b hb h => hb.2 h)) (fun b hb _ => hb.1)⟩ hq5 rfl (((HR5.out.drewN _).alloc _).only ho7 (by have := Hgl.out; omega))
    · have he5 : q5 = s.size := by omega
      have hqd : decide (q5 < s.size) = false := by simp; omega
      have HPs : Hid (timesP x ((natsOf s).drop p) = .ok (.mk 4 zeroB [x] 0 1) ((natsOf s).drop q5)) := Lib.hid (by rw [HP.out, againP, if_neg]; rw [he5, nats_endR]; simp [signP])
      clear he5
      go_wp2
      go_quiet (fail)
      have c0 := HK1.out.cell 0
      have c1 := HK1.out.cell 1
      have c2 := HK1.out.cell 2
      have c3 := HK1.out.cell 3
      have c4 := HK1.out.cell 4
      have c5 := HK1.out.cell 5
      have c6 := HK1.out.cell 6
      have c7 := HK1.out.cell 7
      go_wp2_with (refine wpList_store_re rfl _ _ rfl (w.heap.size + 1) rfl rfl rfl rfl (HoneB.out _ _ _) ((HK2.out.drewN _).alloc _) ?_; intro w7 hB7 ho7)
      refine bodyPost_ret (results_re rfl _ _ (w.heap.size + 1) _ _ rfl hB7 rfl) rfl ?_
      rw [HPs.out]
      exact Took.ok (V := isReR d0 g) (U := anyRe d0 g) (((HO5.out.drewN _).alloc _).trans ho7 (fun i hi h => by have := HwB.out.size; omega)) ⟨_, rfl, ReR.mono ((Hre.out _).only ho7 (fun b hb h => hb.2 h)) (fun b hb _ => hb.1)⟩ hq5 rfl (((HR5.out.drewN _).alloc _).only ho7 (by have := Hgl.out; omega))
  by_cases h123 : isNextR 123 ((natsOf s).drop p) = true
  · obtain ⟨hps, hpd⟩ := isNext_at s p 123 hp h123
    have hpi : (p : Int) ≤ 1000000 := by omega
    have HN42 : Hid (∀ W, RdS W g s (p : Int) (-1) → Calls Tryd.prog 75 #[.pointer (some ⟨g, 0, none⟩), .int .u8 42] W fun e w' => e = .returned (.bool false) ∧ ∃ n, w' = W.drewN n) := Lib.hid fun W hW => by
      have := rnext_any W g s p 42 hs hp hW
      rw [show isNextR 42 ((natsOf s).drop p) = false from by rw [hpd]; rfl] at this
      exact this
    have HN43 : Hid (∀ W, RdS W g s (p : Int) (-1) → Calls Tryd.prog 75 #[.pointer (some ⟨g, 0, none⟩), .int .u8 43] W fun e w' => e = .returned (.bool false) ∧ ∃ n, w' = W.drewN n) := Lib.hid fun W hW => by
      have := rnext_any W g s p 43 hs hp hW
      rw [show isNextR 43 ((natsOf s).drop p) = false from by rw [hpd]; rfl] at this
      exact this
    have HN63 : Hid (∀ W, RdS W g s (p : Int) (-1) → Calls Tryd.prog 75 #[.pointer (some ⟨g, 0, none⟩), .int .u8 63] W fun e w' => e = .returned (.bool false) ∧ ∃ n, w' = W.drewN n) := Lib.hid fun W hW => by
      have := rnext_any W g s p 63 hs hp hW
      rw [show isNextR 63 ((natsOf s).drop p) = false from by rw [hpd]; rfl] at this
      exact this
    have HN123 : Hid (∀ W, RdS W g s (p : Int) (-1) → Calls Tryd.prog 75 #[.pointer (some ⟨g, 0, none⟩), .int .u8 123] W fun e w' => e = .returned (.bool true) ∧ ∃ n, w' = W.drewN n) := Lib.hid fun W hW => by
      have := rnext_any W g s p 123 hs hp hW
      rw [show isNextR 123 ((natsOf s).drop p) = true from by rw [hpd]; rfl] at this
      exact this
    have HP0 : Hid (timesP x ((natsOf s).drop p) = (curlyP ((natsOf s).drop (p + 1))).bind fun q l2 => againP x q.1 q.2 l2) := Lib.hid (by rw [hpd]; rfl)
    clear hpd h123
    refine (HN42.out _ H0.out).mono ?_
    rintro e wa ⟨rfl, na, rfl⟩
    go_wp2_with fail
    refine (HN43.out _ (H0.out.drewN _)).mono ?_
    rintro e wb ⟨rfl, nb, rfl⟩
    go_wp2_with fail
    refine (HN63.out _ (H0.out.drewN _)).mono ?_
    rintro e wc ⟨rfl, nc, rfl⟩
    go_wp2_with fail
    refine (HN123.out _ (H0.out.drewN _)).mono ?_
    rintro e wd ⟨rfl, nd, rfl⟩
    go_wp2_with fail
    refine (rcurly_any _ g s p hs hps (H0.out.drewN _)).mono ?_
    rintro e W5 ⟨ho5, v5, rfl, hpost⟩
    have HO5 := Lib.hid ((Ho.out.drewN _).trans ho5 (fun _ _ h => h))
    have HK1 : Hid (Blk W5 w.heap.size 27 #[.int .i64 k, .int .u64 (p0 : Int), .int .u64 (p1 : Int), .int .u64 (p2 : Int), .int .u64 (p3 : Int), .slice A ks.length c, .int .i64 lo, .int .i64 hi]) := Lib.hid ((HB1.out.drewN _).only ho5 (fun h => by have := Hgl.out; omega))
    have HK2 : Hid (Blk W5 (w.heap.size + 1) 27 zeroReR) := Lib.hid ((HB2.out.drewN _).only ho5 (fun h => by have := Hgl.out; omega))
    have HKx : Hid (ReR (fun b => (b ≠ g ∧ d0 ≤ b) ∧ b ≠ w.heap.size + 1) W5 x (#[.int .i64 k, .int .u64 (p0 : Int), .int .u64 (p1 : Int), .int .u64 (p2 : Int), .int .u64 (p3 : Int), .slice A ks.length c, .int .i64 lo, .int .i64 hi] : Array Value).toList) := Lib.hid (ReR.only (S := fun b => (b ≠ g ∧ d0 ≤ b) ∧ b ≠ w.heap.size + 1) (Hxo.out.ext (ext_drewN (Below.refl _ _) _)) ho5 (fun b hb h => hb.1.1 h))
    have HwB : Hid (Below w.heap.size w w0) := HwB0
    clear ho5
    cases hd : curlyP ((natsOf s).drop (p + 1)) with
    | bad left =>
      rw [hd] at hpost
      obtain ⟨⟨a5, b5, rfl, ia, ib⟩, hleft, pb, hpb, h5⟩ := hpost
      have HIlo := Lib.hid ia
      have HIhi := Lib.hid ib
      have HP : Hid (timesP x ((natsOf s).drop p) = .bad left) := Lib.hid (by rw [HP0.out, hd]; rfl)
      have HR5 := Lib.hid h5
      have q0 := h5.c0
      have q1 := h5.c1
      have q2 := h5.c2
      have q3 := h5.f1
      have hbd : decide (((s.size - left : Nat) : Int) < 0) = false := by simp <;> omega
      clear h5 hd ia ib
      have hre : ∀ n, ReR (fun b => (b ≠ g ∧ d0 ≤ b) ∧ b ≠ w.heap.size + 1) ((W5.drewN n).alloc (Obj.cells #[.int .i64 k, .int .u64 (p0 : Int), .int .u64 (p1 : Int), .int .u64 (p2 : Int), .int .u64 (p3 : Int), .slice A ks.length c, .int .i64 lo, .int .i64 hi] 27)) (.mk 4 zeroB [x] a5 b5) [.int .i64 4, .int .u64 0, .int .u64 0, .int .u64 0, .int .u64 0, .slice (some ⟨W5.heap.size, 0, none⟩) 1 1, .int .i64 a5, .int .i64 b5] := fun n => by
        rw [reR_iff]
        refine ⟨⟨by unfold isInt; omega, zero_ok, HIlo.out, HIhi.out⟩, some ⟨W5.heap.size, 0, none⟩, 1, rfl, Nat.le_refl _, by simp [maxLen], ?_⟩
        exact (RowE.one (W5.drewN n) (HKx.out.ext (ext_drewN (Below.refl _ _) n))).kids (fun b hb hl => hb.elim id (fun hin => by
          have h1 := (inA_some _ _ _ _).1 hin
          have h2 := HK2.out.lt
          have h3 := HR5.out.lt
          have h4 : (W5.drewN n).heap.size = W5.heap.size := rfl
          exact ⟨⟨by omega, by omega⟩, by omega⟩))
      have Hre := Lib.hid hre
      clear hre
      go_wp2
      go_quiet (fail)
      have c0 := HK1.out.cell 0
      have c1 := HK1.out.cell 1
      have c2 := HK1.out.cell 2
      have c3 := HK1.out.cell 3
      have c4 := HK1.out.cell 4
      have c5 := HK1.out.cell 5
      have c6 := HK1.out.cell 6
      have c7 := HK1.out.cell 7
      go_wp2_with (refine wpList_store_re rfl _ _ rfl (w.heap.size + 1) rfl rfl rfl rfl (HoneB.out _ _ _) ((HK2.out.drewN _).alloc _) ?_; intro w7 hB7 ho7)
      refine bodyPost_ret (results_re rfl _ _ (w.heap.size + 1) _ _ rfl hB7 rfl) rfl ?_
      rw [HP.out]
      exact Took.bad (V := isReR d0 g) (U := anyRe d0 g) (((HO5.out.drewN _).alloc _).trans ho7 (fun i hi h => by have := HwB.out.size; omega)) ⟨_, ⟨_, rfl, ReR.mono ((Hre.out _).only ho7 (fun b hb h => hb.2 h)) (fun b hb _ => hb.1)⟩⟩ hleft hpb rfl (((HR5.out.drewN _).alloc _).only ho7 (by have := Hgl.out; omega))
    | ok ab r5 =>
      obtain ⟨a5, b5⟩ := ab
      rw [hd] at hpost
      obtain ⟨⟨rfl, ia, ib⟩, q5, hq5, hr5, h5⟩ := hpost
      subst hr5
      have HIlo : Hid (isInt a5) := Lib.hid ia
      have HIhi : Hid (isInt b5) := Lib.hid ib
      have HP : Hid (timesP x ((natsOf s).drop p) = againP x a5 b5 ((natsOf s).drop q5)) := Lib.hid (by rw [HP0.out, hd]; rfl)
      have HR5 := Lib.hid h5
      have q0 := h5.c0
      have q1 := h5.c1
      have q2 := h5.c2
      have q3 := h5.f1
      have hqi5 : (q5 : Int) ≤ 1000000 := by omega
      clear h5 hd ia ib
      have hre : ∀ n, ReR (fun b => (b ≠ g ∧ d0 ≤ b) ∧ b ≠ w.heap.size + 1) ((W5.drewN n).alloc (Obj.cells #[.int .i64 k, .int .u64 (p0 : Int), .int .u64 (p1 : Int), .int .u64 (p2 : Int), .int .u64 (p3 : Int), .slice A ks.length c, .int .i64 lo, .int .i64 hi] 27)) (.mk 4 zeroB [x] a5 b5) [.int .i64 4, .int .u64 0, .int .u64 0, .int .u64 0, .int .u64 0, .slice (some ⟨W5.heap.size, 0, none⟩) 1 1, .int .i64 a5, .int .i64 b5] := fun n => by
        rw [reR_iff]
        refine ⟨⟨by unfold isInt; omega, zero_ok, HIlo.out, HIhi.out⟩, some ⟨W5.heap.size, 0, none⟩, 1, rfl, Nat.le_refl _, by simp [maxLen], ?_⟩
        exact (RowE.one (W5.drewN n) (HKx.out.ext (ext_drewN (Below.refl _ _) n))).kids (fun b hb hl => hb.elim id (fun hin => by
          have h1 := (inA_some _ _ _ _).1 hin
          have h2 := HK2.out.lt
          have h3 := HR5.out.lt
          have h4 : (W5.drewN n).heap.size = W5.heap.size := rfl
          exact ⟨⟨by omega, by omega⟩, by omega⟩))
      have Hre := Lib.hid hre
      clear hre
      rcases Nat.lt_or_ge q5 s.size with hlt5 | hge5
      · obtain ⟨d, hd⟩ : ∃ d, (s[q5]'hlt5).toNat = d := ⟨_, rfl⟩
        have hdr : (natsOf s).drop q5 = d :: (natsOf s).drop (q5 + 1) := by rw [nats_dropR s q5 hlt5, hd]
        have hqd : decide (q5 < s.size) = true := by simpa using hlt5
        have hqi : (q5 : Int) < (s.size : Int) := by omega
        have hq0 : (0 : Int) ≤ (q5 : Int) := by omega
        have hlen5 := nats_lenR s q5
        obtain ⟨sg, hsg⟩ : ∃ b, signP ((natsOf s).drop q5) = b := ⟨_, rfl⟩
        have HIn : Hid (∀ W, Calls Tryd.prog 102 #[.int .u8 (d : Int), .string ⟨#[42, 43, 63, 123]⟩] W fun e w' => e = .returned (.bool sg) ∧ w' = W) := Lib.hid fun W => by
          refine (rin_any d ⟨#[42, 43, 63, 123]⟩ (by decide) W).mono fun e w' ⟨h1, h2⟩ => ⟨?_, h2.symm⟩
          rw [h1, ← hsg, hdr]
          exact ret_bool (sign_in d)
        have Hsg := Lib.hid hsg
        clear hdr hsg
        cases sg with
        | true =>
          have HPs : Hid (timesP x ((natsOf s).drop p) = .bad (s.size - q5)) := Lib.hid (by rw [HP.out, againP, if_pos Hsg.out, nats_lenR])
          clear Hre
          go_wp2
          go_quiet ((go_at_call 102; exact Calls.quiet_of_same (HIn.out _)))
          go_wp2_with fail
          refine (rfail_ok _ g s (q5 : Int) (q5 : Int) (HR5.out.drewN _)).mono ?_
          rintro e w6 ⟨rfl, h6, ho6⟩
          have H6 := Lib.hid h6
          have Ho6 := Lib.hid ho6
          have HB6 := Lib.hid ((HK2.out.drewN _).only ho6 (fun h => by have := Hgl.out; omega))
          clear h6 ho6
          go_wp2_with (refine wpList_store_re rfl _ _ rfl (w.heap.size + 1) rfl rfl rfl rfl zeroRe_oneR HB6.out ?_; intro w7 hB7 ho7)
          refine bodyPost_ret (results_re rfl _ _ (w.heap.size + 1) _ _ rfl hB7 rfl) rfl ?_
          rw [HPs.out]
          exact Took.bad (V := isReR d0 g) (U := anyRe d0 g) (p := q5) (((HO5.out.drewN _).trans Ho6.out (fun _ _ h => h)).trans ho7 (fun i hi h => by have := HwB.out.size; omega)) ⟨emptyE, _, rfl, reR_leaf _ (by unfold isInt; omega) zero_ok⟩ (by omega) (by omega) (by omega) (H6.out.only ho7 (by have := Hgl.out; omega))
        | false =>
          have HPs : Hid (timesP x ((natsOf s).drop p) = .ok (.mk 4 zeroB [x] a5 b5) ((natsOf s).drop q5)) := Lib.hid (by rw [HP.out, againP, if_neg (by rw [Hsg.out]; simp)])
          go_wp2
          go_quiet ((go_at_call 102; exact Calls.quiet_of_same (HIn.out _)))
          have c0 := HK1.out.cell 0
          have c1 := HK1.out.cell 1
          have c2 := HK1.out.cell 2
          have c3 := HK1.out.cell 3
          have c4 := HK1.out.cell 4
          have c5 := HK1.out.cell 5
          have c6 := HK1.out.cell 6
          have c7 := HK1.out.cell 7
          go_wp2_with (refine wpList_store_re rfl _ _ rfl (w.heap.size + 1) rfl rfl rfl rfl (HoneB.out _ _ _) ((HK2.out.drewN _).alloc _) ?_; intro w7 hB7 ho7)
          refine bodyPost_ret (results_re rfl _ _ (w.heap.size + 1) _ _ rfl hB7 rfl) rfl ?_
          rw [HPs.out]
          exact Took.ok (V := isReR d0 g) (U := anyRe d0 g) (((HO5.out.drewN _).alloc _).trans ho7 (fun i hi h => by have := HwB.out.size; omega)) ⟨_, rfl, ReR.mono ((Hre.out _).only ho7 (fun b hb h => hb.2 h)) (fun b hb _ => hb.1)⟩ hq5 rfl (((HR5.out.drewN _).alloc _).only ho7 (by have := Hgl.out; omega))
      · have he5 : q5 = s.size := by omega
        have hqd : decide (q5 < s.size) = false := by simp; omega
        have HPs : Hid (timesP x ((natsOf s).drop p) = .ok (.mk 4 zeroB [x] a5 b5) ((natsOf s).drop q5)) := Lib.hid (by rw [HP.out, againP, if_neg]; rw [he5, nats_endR]; simp [signP])
        clear he5
        go_wp2
        go_quiet (fail)
        have c0 := HK1.out.cell 0
        have c1 := HK1.out.cell 1
        have c2 := HK1.out.cell 2
        have c3 := HK1.out.cell 3
        have c4 := HK1.out.cell 4
        have c5 := HK1.out.cell 5
        have c6 := HK1.out.cell 6
        have c7 := HK1.out.cell 7
        go_wp2_with (refine wpList_store_re rfl _ _ rfl (w.heap.size + 1) rfl rfl rfl rfl (HoneB.out _ _ _) ((HK2.out.drewN _).alloc _) ?_; intro w7 hB7 ho7)
        refine bodyPost_ret (results_re rfl _ _ (w.heap.size + 1) _ _ rfl hB7 rfl) rfl ?_
        rw [HPs.out]
        exact Took.ok (V := isReR d0 g) (U := anyRe d0 g) (((HO5.out.drewN _).alloc _).trans ho7 (fun i hi h => by have := HwB.out.size; omega)) ⟨_, rfl, ReR.mono ((Hre.out _).only ho7 (fun b hb h => hb.2 h)) (fun b hb _ => hb.1)⟩ hq5 rfl (((HR5.out.drewN _).alloc _).only ho7 (by have := Hgl.out; omega))
  have hno : timesP x ((natsOf s).drop p) = .ok x ((natsOf s).drop p) := by
    unfold timesP
    split
    · rename_i h; rw [h] at h42; simp [isNextR] at h42
    · rename_i h; rw [h] at h43; simp [isNextR] at h43
    · rename_i h; rw [h] at h63; simp [isNextR] at h63
    · rename_i h; rw [h] at h123; simp [isNextR] at h123
    · rfl
  have HP := Lib.hid hno
  have HN42 : Hid (∀ W, RdS W g s (p : Int) (-1) → Calls Tryd.prog 75 #[.pointer (some ⟨g, 0, none⟩), .int .u8 42] W fun e w' => e = .returned (.bool false) ∧ ∃ n, w' = W.drewN n) := Lib.hid fun W hW => by
    have := rnext_any W g s p 42 hs hp hW
    rw [show isNextR 42 ((natsOf s).drop p) = false from by simpa using h42] at this
    exact this
  have HN43 : Hid (∀ W, RdS W g s (p : Int) (-1) → Calls Tryd.prog 75 #[.pointer (some ⟨g, 0, none⟩), .int .u8 43] W fun e w' => e = .returned (.bool false) ∧ ∃ n, w' = W.drewN n) := Lib.hid fun W hW => by
    have := rnext_any W g s p 43 hs hp hW
    rw [show isNextR 43 ((natsOf s).drop p) = false from by simpa using h43] at this
    exact this
  have HN63 : Hid (∀ W, RdS W g s (p : Int) (-1) → Calls Tryd.prog 75 #[.pointer (some ⟨g, 0, none⟩), .int .u8 63] W fun e w' => e = .returned (.bool false) ∧ ∃ n, w' = W.drewN n) := Lib.hid fun W hW => by
    have := rnext_any W g s p 63 hs hp hW
    rw [show isNextR 63 ((natsOf s).drop p) = false from by simpa using h63] at this
    exact this
  have HN123 : Hid (∀ W, RdS W g s (p : Int) (-1) → Calls Tryd.prog 75 #[.pointer (some ⟨g, 0, none⟩), .int .u8 123] W fun e w' => e = .returned (.bool false) ∧ ∃ n, w' = W.drewN n) := Lib.hid fun W hW => by
    have := rnext_any W g s p 123 hs hp hW
    rw [show isNextR 123 ((natsOf s).drop p) = false from by simpa using h123] at this
    exact this
  clear hno h42 h43 h63 h123
  refine (HN42.out _ H0.out).mono ?_
  rintro e wa ⟨rfl, na, rfl⟩
  go_wp2_with fail
  refine (HN43.out _ (H0.out.drewN _)).mono ?_
  rintro e wb ⟨rfl, nb, rfl⟩
  go_wp2_with fail
  refine (HN63.out _ (H0.out.drewN _)).mono ?_
  rintro e wc ⟨rfl, nc, rfl⟩
  go_wp2_with fail
  refine (HN123.out _ (H0.out.drewN _)).mono ?_
  rintro e wd ⟨rfl, nd, rfl⟩
  have c0 := HB1.out.cell 0
  have c1 := HB1.out.cell 1
  have c2 := HB1.out.cell 2
  have c3 := HB1.out.cell 3
  have c4 := HB1.out.cell 4
  have c5 := HB1.out.cell 5
  have c6 := HB1.out.cell 6
  have c7 := HB1.out.cell 7
  go_wp2_with (refine wpList_store_re rfl _ _ rfl (w.heap.size + 1) rfl rfl rfl rfl Hone.out (HB2.out.drewN _) ?_; intro w3 hB3 ho3)
  have q0 := ((H0.out.drewN (na + nb + nc + nd)).only ho3 (by have := Hgl.out; omega)).c0
  refine bodyPost_ret (results_re rfl _ _ (w.heap.size + 1) _ _ rfl hB3 rfl) rfl ?_
  rw [HP.out]
  exact Took.ok (V := isReR d0 g) (U := anyRe d0 g) ((Ho.out.drewN _).trans ho3 (fun i hi h => by omega)) ⟨_, rfl, ReR.mono ((Hxo.out.ext (ext_drewN (Below.refl _ _) _)).only ho3 (fun b hb h => hb.2 h)) (fun b hb _ => hb.1)⟩ hp rfl ((H0.out.drewN _).only ho3 (by have := Hgl.out; omega))
end Go.Proofs.YtgknlegomoaoeaaDoor

/-
  Contract of the reference's class (what stands in brackets). No statement of the seat is proved here.
-/
namespace Go.Proofs.YtgknlegomoaoeaaDoor
open Go Go.RowKit
set_option maxRecDepth 100000

/-- how a method leaves the reader: behind what was taken, or with the place of an error -/
def StG (K : Nat) {α : Type} (s : ByteArray) (T : PR α) (x : α) (p b : Int) : Prop :=
  (b = -1 ∧ ∃ q : Nat, q ≤ s.size ∧ p = (q : Int) ∧ T = .ok x ((natsOf s).drop q)) ∨ (∃ left : Nat, left ≤ s.size ∧ b = ((s.size - left : Nat) : Int) ∧ (∃ m : Nat, p = (m : Int) ∧ m ≤ s.size + K) ∧ T = .bad left)
theorem one_st (w : World) (g : Nat) (s : ByteArray) (p : Nat) (hs : s.size ≤ 1000000) (hp : p ≤ s.size) (h : RdS w g s (p : Int) (-1)) :
    Calls Tryd.prog 105 #[.pointer (some ⟨g, 0, none⟩)] w fun e w' => ∃ (c : Nat) (p' b' : Int), e = .returned (.int .u8 (c : Int)) ∧ c < 256 ∧ Only (fun x => x = g) w w' ∧ RdS w' g s p' b' ∧ StG 2 s (byteP ((natsOf s).drop p)) c p' b' := by
  refine (rbyte_any w g s p hs hp h).mono fun e w' ⟨ho, v, he, hr⟩ => ?_
  cases hT : byteP ((natsOf s).drop p) with
  | ok c rest =>
    rw [hT] at hr
    obtain ⟨⟨hv, hc⟩, q, hq, hrest, hR⟩ := hr
    subst he hv hrest
    exact ⟨c, q, -1, rfl, hc, ho, hR, .inl ⟨rfl, q, hq, rfl, rfl⟩⟩
  | bad left =>
    rw [hT] at hr
    obtain ⟨⟨c, hv, hc⟩, hl, m, hm, hR⟩ := hr
    subst he hv
    exact ⟨c, m, _, rfl, hc, ho, hR, .inr ⟨left, hl, rfl, ⟨m, rfl, hm⟩, rfl⟩⟩
/-- a reader's state as the loops have it -/
def Stand (s : ByteArray) (p b : Int) : Prop := (b = -1 ∧ ∃ q : Nat, q ≤ s.size ∧ p = (q : Int)) ∨ 0 ≤ b
theorem StG.stand {K : Nat} {α : Type} {s : ByteArray} {T : PR α} {x : α} {p b : Int} (h : StG K s T x p b) : Stand s p b := by
  rcases h with ⟨h1, q, h2, h3, _⟩ | ⟨l, _, h2, _⟩
  · exact .inl ⟨h1, q, h2, h3⟩
  · exact .inr (by omega)
theorem next_st (w : World) (g : Nat) (s : ByteArray) (p b : Int) (c : Nat) (hs : s.size ≤ 1000000) (hst : Stand s p b) (h : RdS w g s p b) :
    Calls Tryd.prog 75 #[.pointer (some ⟨g, 0, none⟩), .int .u8 (c : Int)] w fun e w' => ∃ nx : Bool, e = .returned (.bool nx) ∧ (∃ n, w' = w.drewN n) ∧ (nx = true ↔ b = -1 ∧ isNextR c ((natsOf s).drop p.toNat) = true) := by
  rcases hst with ⟨rfl, q, hq, rfl⟩ | hb
  · refine (rnext_any w g s q c hs hq h).mono fun e w' ⟨h1, h2⟩ => ⟨_, h1, h2, ?_⟩
    simp
  · refine (rnext_bad w g s p b c hb h).mono fun e w' ⟨h1, h2⟩ => ⟨_, h1, h2, ?_⟩
    simp
    omega
theorem fail_st (w : World) (g : Nat) (s : ByteArray) (p b a : Int) (hst : Stand s p b) (h : RdS w g s p b) :
    Calls Tryd.prog 59 #[.pointer (some ⟨g, 0, none⟩), .int .i64 a] w fun e w' => e = .returned (.agg zeroReR) ∧ RdS w' g s p (if b = -1 then a else b) ∧ Only (fun x => x = g) w w' := by
  rcases hst with ⟨rfl, _⟩ | hb
  · rw [if_pos rfl]; exact rfail_ok w g s p a h
  · rw [if_neg (by omega)]; exact rfail_bad w g s p b a hb h

/-! ### what is in brackets -/
theorem rangeP_st1 {s : ByteArray} {q lo : Nat} {p b : Int} (h : StG 2 s (byteP ((natsOf s).drop q)) lo p b) (hn : ¬ (b = -1 ∧ isNextR 45 ((natsOf s).drop p.toNat) = true)) : StG 2 s (rangeP ((natsOf s).drop q)) (lo, lo) p b := by
  rcases h with ⟨h1, q2, h2, h3, h4⟩ | ⟨l, h1, h2, h3, h4⟩
  · refine .inl ⟨h1, q2, h2, h3, ?_⟩
    have h5 : isNextR 45 ((natsOf s).drop q2) ≠ true := fun h5 => hn ⟨h1, by rw [h3]; exact h5⟩
    unfold rangeP
    rw [h4]
    simp only [PR.bind]
    split
    · rename_i heq
      rw [heq] at h5
      simp [isNextR] at h5
    · rfl
  · refine .inr ⟨l, h1, h2, h3, ?_⟩
    unfold rangeP
    rw [h4]
    rfl
theorem rangeP_st2 {s : ByteArray} {q lo hi q2 : Nat} {p b : Int} (h1 : byteP ((natsOf s).drop q) = .ok lo ((natsOf s).drop q2)) (hq : q2 < s.size) (hn : isNextR 45 ((natsOf s).drop q2) = true) (h : StG 2 s (byteP ((natsOf s).drop (q2 + 1))) hi p b)
    (hb : b = -1 → lo ≤ hi) : StG 2 s (rangeP ((natsOf s).drop q)) (lo, hi) p b := by
  have e := (isNext_at s q2 45 (by omega) hn).2
  rcases h with ⟨k1, q3, k2, k3, k4⟩ | ⟨l, k1, k2, k3, k4⟩
  · refine .inl ⟨k1, q3, k2, k3, ?_⟩
    unfold rangeP
    rw [h1]
    simp only [PR.bind]
    rw [e]
    simp only
    rw [k4]
    simp only
    rw [if_neg (by have := hb k1; omega)]
  · refine .inr ⟨l, k1, k2, k3, ?_⟩
    unfold rangeP
    rw [h1]
    simp only [PR.bind]
    rw [e]
    simp only
    rw [k4]
theorem rangeP_st3 {s : ByteArray} {q lo hi q2 : Nat} {p b : Int} (h1 : byteP ((natsOf s).drop q) = .ok lo ((natsOf s).drop q2)) (hq : q2 < s.size) (hn : isNextR 45 ((natsOf s).drop q2) = true) (h : StG 2 s (byteP ((natsOf s).drop (q2 + 1))) hi p b)
    (hb : b = -1 → hi < lo) : StG 2 s (rangeP ((natsOf s).drop q)) (lo, hi) p (if b = -1 then ((q2 : Int) + 1) else b) := by
  have e := (isNext_at s q2 45 (by omega) hn).2
  rcases h with ⟨k1, q3, k2, k3, k4⟩ | ⟨l, k1, k2, k3, k4⟩
  · rw [if_pos k1]
    refine .inr ⟨s.size - (q2 + 1), by omega, by omega, ⟨q3, k3, by omega⟩, ?_⟩
    unfold rangeP
    rw [h1]
    simp only [PR.bind]
    rw [e]
    simp only
    rw [k4]
    simp only
    rw [if_pos (hb k1), nats_lenR]
  · rw [if_neg (by omega)]
    refine .inr ⟨l, k1, k2, k3, ?_⟩
    unfold rangeP
    rw [h1]
    simp only [PR.bind]
    rw [e]
    simp only
    rw [k4]
/-- sets so far, ahead of a round -/
def StC (T : PR (List Nat)) (s : ByteArray) (n : Nat) (ws : List Nat) (p b : Int) : Prop :=
  (b = -1 ∧ ∃ q f : Nat, q ≤ s.size ∧ p = (q : Int) ∧ n ≤ q ∧ T = rangesP f (decide (n = 0)) ws ((natsOf s).drop q) ∧ s.size - q < f) ∨ (∃ left : Nat, left ≤ s.size ∧ b = ((s.size - left : Nat) : Int) ∧ (∃ m : Nat, p = (m : Int) ∧ m ≤ s.size + 2) ∧ T = .bad left)
theorem StC.stand {T : PR (List Nat)} {s : ByteArray} {n : Nat} {ws : List Nat} {p b : Int} (h : StC T s n ws p b) : Stand s p b := by
  rcases h with ⟨h1, q, f, h2, h3, _⟩ | ⟨l, _, h2, _⟩
  · exact .inl ⟨h1, q, h2, h3⟩
  · exact .inr (by omega)
/-- is there one more round? -/
def Ent (s : ByteArray) (n : Nat) (p b : Int) : Prop := b = -1 ∧ (n = 0 ∨ isNextR 93 ((natsOf s).drop p.toNat) = false)
theorem StC.next {T : PR (List Nat)} {s : ByteArray} {n lo hi : Nat} {ws : List Nat} {p b p' b' : Int} (h : StC T s n ws p b) (he : Ent s n p b) (hr : StG 2 s (rangeP ((natsOf s).drop p.toNat)) (lo, hi) p' b') :
    StC T s (n + 1) (joinB [ws, ofB (rangeB lo hi)]) p' b' := by
  rcases h with ⟨h1, q, f, h2, h3, h4, h5, h6⟩ | ⟨l, _, h2, _⟩
  · obtain ⟨f', rfl⟩ : ∃ f', f = f' + 1 := ⟨f - 1, by omega⟩
    have hp : p.toNat = q := by omega
    have hT : T = (rangeP ((natsOf s).drop q)).bind fun p l1 => rangesP f' false (joinB [ws, ofB (rangeB p.1 p.2)]) l1 := by
      rw [h5]
      conv => lhs; simp only [rangesP]
      rw [if_neg]
      rintro ⟨h8, h9⟩
      have h8' : n ≠ 0 := by simpa using h8
      rcases he.2 with h7 | h7
      · exact h8' h7
      · rw [hp] at h7; rw [isNextR, h9] at h7; simp at h7
    rw [hp] at hr
    rcases hr with ⟨k1, q2, k2, k3, k4⟩ | ⟨l, k1, k2, k3, k4⟩
    · have hl := len_rangeP k4
      rw [nats_lenR, nats_lenR] at hl
      refine .inl ⟨k1, q2, f', k2, k3, by omega, ?_, by omega⟩
      rw [hT, k4]
      simp [PR.bind]
    · refine .inr ⟨l, k1, k2, k3, ?_⟩
      rw [hT, k4]
      rfl
  · exact absurd he.1 (by omega)
/-- behind the last round -/
def StT (T : PR (List Nat)) (s : ByteArray) (ws : List Nat) (p b : Int) : Prop :=
  (b = -1 ∧ ∃ q : Nat, q < s.size ∧ p = (q : Int) ∧ T = .ok ws ((natsOf s).drop q)) ∨ (∃ left : Nat, left ≤ s.size ∧ b = ((s.size - left : Nat) : Int) ∧ (∃ m : Nat, p = (m : Int) ∧ m ≤ s.size + 2) ∧ T = .bad left)
theorem StC.last {T : PR (List Nat)} {s : ByteArray} {n : Nat} {ws : List Nat} {p b : Int} (h : StC T s n ws p b) (he : ¬ Ent s n p b) : StT T s ws p b := by
  rcases h with ⟨h1, q, f, h2, h3, h4, h5, h6⟩ | h
  · have hp : p.toNat = q := by omega
    have hn : n ≠ 0 := fun h => he ⟨h1, .inl h⟩
    have h7 : isNextR 93 ((natsOf s).drop q) = true := by
      cases h8 : isNextR 93 ((natsOf s).drop q) with
      | true => rfl
      | false => exact absurd ⟨h1, .inr (by rw [hp]; exact h8)⟩ he
    have h9 := isNext_at s q 93 h2 h7
    obtain ⟨f', rfl⟩ : ∃ f', f = f' + 1 := ⟨f - 1, by omega⟩
    refine .inl ⟨h1, q, h9.1, h3, ?_⟩
    rw [h5]
    simp only [rangesP]
    rw [if_pos ⟨by simpa using hn, by simpa [isNextR] using h7⟩]
  · exact .inr h
/-- a slot's number -/
def nOf : Value → Nat
  | .int _ z => z.toNat
  | _ => 0
theorem join_twoR (W : World) (g : Nat) (hg : g = W.heap.size) {a0 a1 a2 a3 b0 b1 b2 b3 : Nat} (ha : SetOk [a0, a1, a2, a3]) (hb : SetOk [b0, b1, b2, b3]) : Calls Tryd.prog 113 #[.slice (some ⟨g, 0, none⟩) 2 2] (W.alloc (Obj.cells #[.int .u64 (a0 : Int), .int .u64 (a1 : Int), .int .u64 (a2 : Int), .int .u64 (a3 : Int), .int .u64 (b0 : Int), .int .u64 (b1 : Int), .int .u64 (b2 : Int), .int .u64 (b3 : Int)] 24)) fun e w' => e = .returned (setV (joinB [[a0, a1, a2, a3], [b0, b1, b2, b3]])) ∧ Below (W.alloc (Obj.cells #[.int .u64 (a0 : Int), .int .u64 (a1 : Int), .int .u64 (a2 : Int), .int .u64 (a3 : Int), .int .u64 (b0 : Int), .int .u64 (b1 : Int), .int .u64 (b2 : Int), .int .u64 (b3 : Int)] 24)).heap.size (W.alloc (Obj.cells #[.int .u64 (a0 : Int), .int .u64 (a1 : Int), .int .u64 (a2 : Int), .int .u64 (a3 : Int), .int .u64 (b0 : Int), .int .u64 (b1 : Int), .int .u64 (b2 : Int), .int .u64 (b3 : Int)] 24)) w' := by
  subst hg
  exact rjoin_any (some ⟨W.heap.size, 0, none⟩) 2 2 [[a0, a1, a2, a3], [b0, b1, b2, b3]] _ rfl (by simp) ⟨fun _ ad h => by injection h with h; exact ⟨_, _, h.symm⟩, Rd.lit W #[.int .u64 (a0 : Int), .int .u64 (a1 : Int), .int .u64 (a2 : Int), .int .u64 (a3 : Int), .int .u64 (b0 : Int), .int .u64 (b1 : Int), .int .u64 (b2 : Int), .int .u64 (b3 : Int)] 24, by simp; exact ⟨ha, hb⟩⟩

theorem StT.stand {T : PR (List Nat)} {s : ByteArray} {ws : List Nat} {p b : Int} (h : StT T s ws p b) : Stand s p b := by
  rcases h with ⟨h1, q, h2, h3, _⟩ | ⟨l, _, h2, _⟩
  · exact .inl ⟨h1, q, by omega, h3⟩
  · exact .inr (by omega)
theorem StT.bound {T : PR (List Nat)} {s : ByteArray} {ws : List Nat} {p b : Int} (h : StT T s ws p b) (hs : s.size ≤ 1000000) : 0 ≤ p ∧ p ≤ 1000002 := by
  rcases h with ⟨h1, q, h2, h3, _⟩ | ⟨l, _, h2, ⟨m, h3, h4⟩, _⟩
  · omega
  · omega
theorem class_zero {T : PR (List Nat)} {s : ByteArray} {ws l : List Nat} {p b : Int} {tb : Bool} {w w7 : World} {g d0 : Nat} (h : StT T s ws p b)
    (hC : classP l = T.bind fun s l1 => if (if tb = true then notB s else s) = zeroB then .bad l1.length else .ok (classE (if tb = true then notB s else s)) l1.tail)
    (hz : (if tb = true then notB ws else ws) = zeroB) (ho : Only (fun x => x = g) w w7) (hR : RdS w7 g s p (if b = -1 then p else b)) : Took w g s (classP l) (isReR d0 g) (anyRe d0 g) (.returned (.agg zeroReR)) w7 := by
  have hu : anyRe d0 g (.agg zeroReR) w7 := ⟨emptyE, _, rfl, reR_leaf _ (by unfold isInt; omega) zero_ok⟩
  rcases h with ⟨h1, q, h2, h3, h4⟩ | ⟨left, h1, h2, ⟨m, h3, h4⟩, h5⟩
  · subst h1 h3
    rw [if_pos rfl] at hR
    have e : classP l = .bad (s.size - q) := by
      rw [hC, h4]
      simp only [PR.bind]
      rw [if_pos hz, nats_lenR]
    rw [e]
    exact Took.bad (p := q) ho hu (by omega) (by omega) (by omega) hR
  · rw [if_neg (by omega)] at hR
    subst h3
    have e : classP l = .bad left := by rw [hC, h5]; rfl
    rw [e]
    exact Took.bad (p := m) ho hu h1 (by omega) h2 hR
theorem class_some {T : PR (List Nat)} {s : ByteArray} {ws zs l : List Nat} {p b : Int} {tb : Bool} {w w7 : World} {g d0 : Nat} {v : Value} (h : StT T s ws p b)
    (hC : classP l = T.bind fun s l1 => if (if tb = true then notB s else s) = zeroB then .bad l1.length else .ok (classE (if tb = true then notB s else s)) l1.tail)
    (hzs : zs = if tb = true then notB ws else ws) (hz : ¬ zs = zeroB) (ho : Only (fun x => x = g) w w7) (hR : RdS w7 g s (p + 1) b) (hv : isReR d0 g (classE zs) v w7) : Took w g s (classP l) (isReR d0 g) (anyRe d0 g) (.returned v) w7 := by
  rcases h with ⟨h1, q, h2, h3, h4⟩ | ⟨left, h1, h2, ⟨m, h3, h4⟩, h5⟩
  · subst h1 h3
    have e : classP l = .ok (classE zs) ((natsOf s).drop (q + 1)) := by
      rw [hC, h4]
      simp only [PR.bind]
      rw [← hzs, if_neg hz, List.tail_drop]
    rw [e]
    exact Took.ok (p := q + 1) ho hv (by omega) rfl (RdS.to hR (by omega) rfl)
  · subst h3
    have e : classP l = .bad left := by rw [hC, h5]; rfl
    rw [e]
    exact Took.bad (p := m + 1) ho ⟨_, hv⟩ h1 (by omega) h2 (RdS.to hR (by omega) rfl)

set_option maxHeartbeats 16000000 in
theorem rcls_any (w : World) (d0 : Nat) (hd0 : d0 ≤ w.heap.size) (g : Nat) (s : ByteArray) (p : Nat) (hs : s.size ≤ 1000000) (hp : p < s.size) (h : RdS w g s (p : Int) (-1)) :
    Calls Tryd.prog 104 #[.pointer (some ⟨g, 0, none⟩)] w (Took w g s (classP ((natsOf s).drop (p + 1))) (isReR d0 g) (anyRe d0 g)) := by
  have hz := zeros_set
  have hgl := h.lt
  have hpi : (p : Int) < (s.size : Int) := by omega
  have hsi : (s.size : Int) ≤ 1000000 := by omega
  have h1 := h.alloc (Obj.cells #[.int .i64 0, .int .u64 0, .int .u64 0, .int .u64 0, .int .u64 0, .slice none 0 0, .int .i64 0, .int .i64 0] 27)
  have x1 := h1.c1
  have f1 := h1.f1
  have H0 := Lib.hid h
  have hBn := Blk.new (w.setCell ⟨g, 1, none⟩ (.int .i64 ((p : Int) + 1))) 27 #[.int .i64 0, .int .u64 0, .int .u64 0, .int .u64 0, .int .u64 0, .slice none 0 0, .int .i64 0, .int .i64 0]
  rw [show (w.setCell ⟨g, 1, none⟩ (.int .i64 ((p : Int) + 1))).heap.size = w.heap.size by simp [World.setCell]] at hBn
  have HR := Lib.hid hBn
  have HO1 : Hid (Only (fun x => x = g) w ((w.setCell ⟨g, 1, none⟩ (.int .i64 ((p : Int) + 1))).alloc (Obj.cells #[.int .i64 0, .int .u64 0, .int .u64 0, .int .u64 0, .int .u64 0, .slice none 0 0, .int .i64 0, .int .i64 0] 27))) := Lib.hid (((Only.refl (fun x => x = g) w).setCell (p := ⟨g, 1, none⟩) (.inl rfl) _).alloc _)
  clear h h1 hBn
  go_enter Tryd.func104, Tryd.ntmps104
  go_wp2_with fail
  refine (next_st _ g s ((p + 1 : Nat) : Int) (-1) 94 hs (.inl ⟨rfl, p + 1, by omega, rfl⟩) (RdS.to ((H0.out.set1 ((p : Int) + 1)).alloc _) (by omega) rfl)).mono ?_
  rintro e w1 ⟨tb, rfl, ⟨n1, rfl⟩, htb⟩
  have Htb := Lib.hid htb
  clear htb x1 f1
  go_upto_if 18 with fail
  go_cut [] (fun wx => ∃ q : Nat, q ≤ s.size ∧ Hid (q = if tb = true then p + 2 else p + 1) ∧ RdS wx g s (q : Int) (-1) ∧ Blk wx w.heap.size 27 #[.int .i64 0, .int .u64 0, .int .u64 0, .int .u64 0, .int .u64 0, .slice none 0 0, .int .i64 0, .int .i64 0] ∧ Only (fun x => x = g) w wx ∧ Hid (wx.heap.size = w.heap.size + 1))
  case first =>
    have HRa : Hid (RdS (((w.setCell ⟨g, 1, none⟩ (.int .i64 ((p : Int) + 1))).alloc (Obj.cells #[.int .i64 0, .int .u64 0, .int .u64 0, .int .u64 0, .int .u64 0, .slice none 0 0, .int .i64 0, .int .i64 0] 27)).drewN n1) g s ((p + 1 : Nat) : Int) (-1)) := Lib.hid (RdS.to (((H0.out.set1 ((p : Int) + 1)).alloc _).drewN _) (by omega) rfl)
    cases tb with
    | true =>
      have h94 := (isNext_at s (p + 1) 94 (by omega) (by have := (Htb.out.1 rfl).2; simpa using this)).1
      have x1 := HRa.out.c1
      have f1 := HRa.out.f1
      have h94i : ((p + 1 : Nat) : Int) < (s.size : Int) := by omega
      go_wp2
      go_meet
      case rel => exact ⟨p + 2, by omega, Lib.hid rfl, RdS.to (HRa.out.set1 (((p + 1 : Nat) : Int) + 1)) (by omega) rfl, ((HR.out.drewN _).far (by simp; omega) _), (HO1.out.drewN _).setCell (p := ⟨g, 1, none⟩) (.inl rfl) _, Lib.hid (by simp [World.setCell, World.drewN])⟩
    | false =>
      go_wp2
      go_meet
      case rel => exact ⟨p + 1, by omega, Lib.hid rfl, HRa.out, HR.out.drewN _, HO1.out.drewN _, Lib.hid (by simp [World.setCell, World.drewN])⟩
  case rest =>
    obtain ⟨q0, hq0, Hq0, hR1, hB1, hO1, Hs1⟩ := hcut
    obtain ⟨v1, hv1⟩ : ∃ v1, v1 = wc := ⟨_, rfl⟩
    subst hv1
    have hcp := classP_eq ((natsOf s).drop (p + 1)) tb ((natsOf s).drop q0) (by
      have := Htb.out
      cases tb with
      | true => have := (this.1 rfl).2; simpa [isNext, isNextR] using this
      | false =>
        cases hn : isNextR 94 ((natsOf s).drop (p + 1)) with
        | false => simpa [isNext, isNextR] using hn
        | true => exact absurd (this.2 ⟨by trivial, by simpa using hn⟩) (by simp)) (by
      have := Hq0.out
      cases tb with
      | true => simp only [if_true] at this ⊢; rw [List.tail_drop, this]
      | false => simp only [Bool.false_eq_true, if_false] at this ⊢; rw [this])
    obtain ⟨T, hT⟩ : ∃ T, rangesP (((natsOf s).drop q0).length + 1) true zeroB ((natsOf s).drop q0) = T := ⟨_, rfl⟩
    rw [hT] at hcp
    have HT0 : Hid (StC T s 0 zeroB (q0 : Int) (-1)) := Lib.hid (.inl ⟨rfl, q0, _, hq0, rfl, Nat.zero_le _, hT.symm, by rw [nats_lenR]; omega⟩)
    have HCp := Lib.hid hcp
    have HR1 := Lib.hid (hR1.alloc (Obj.cells (cellsU zeroB) 24))
    have HB1 := Lib.hid (hB1.alloc (Obj.cells (cellsU zeroB) 24))
    have HO1 : Hid (Only (fun x => x = g) w (v1.alloc (Obj.cells (cellsU zeroB) 24))) := Lib.hid (hO1.alloc _)
    have HD1 := Lib.hid (Blk.new v1 24 (cellsU zeroB))
    clear hcp hT hR1 hB1 hO1 HR H0
    go_wp2
    go_loopw [5] (fun nv wr => ∃ (n : Nat) (ws : List Nat) (p1 b1 : Int), nv = .int .i64 (n : Int) ∧ n ≤ s.size + 1 ∧ SetOk ws ∧ RdS wr g s p1 b1 ∧ Blk wr v1.heap.size 24 (cellsU ws) ∧ Blk wr w.heap.size 27 #[.int .i64 0, .int .u64 0, .int .u64 0, .int .u64 0, .int .u64 0, .slice none 0 0, .int .i64 0, .int .i64 0] ∧ Only (fun x => x = g) w wr ∧ Hid (StC T s n ws p1 b1)) (fun nv _ => s.size + 2 - nOf nv)
    case atStart => exact ⟨0, zeroB, q0, -1, rfl, by omega, zero_ok, HR1.out, HD1.out, HB1.out, HO1.out, HT0⟩
    case round =>
      clear HR1 HD1 HB1 HO1 HT0
      obtain ⟨n, ws, p1, b1, rfl, hn, hok, hR, hD, hB, hO, hC⟩ := hrel
      have Hnn := Lib.hid hn
      have hni : (n : Int) ≤ 1000001 := by omega
      have y2 := hR.c2
      have HR := Lib.hid hR
      have HD := Lib.hid hD
      have HB := Lib.hid hB
      have HO := Lib.hid hO
      have Hok := Lib.hid hok
      clear hR hD hB hO hn hok
      go_upto_region 7 with fail
      go_cut [39] (fun v wx => ∃ en : Bool, v = .bool en ∧ Hid (en = true ↔ Ent s n p1 b1) ∧ ∃ k, wx = wr.drewN k)
      case first =>
        rcases hC.out.stand with ⟨hb1, q1, hq1, hp1⟩ | hb1
        · subst hb1 hp1
          rcases Nat.eq_zero_or_pos n with hn0 | hn0
          · subst hn0
            go_wp2
            go_meet
            case rel => exact ⟨true, rfl, Lib.hid ⟨fun _ => ⟨rfl, .inl rfl⟩, fun _ => rfl⟩, 0, rfl⟩
          · have hnd : decide ((n : Int) = 0) = false := by simp; omega
            have hnd2 : decide (n = 0) = false := by simp; omega
            have hnd3 : ((n : Int) == 0) = false := by simp; omega
            have hnd4 : (n == 0) = false := by simp; omega
            have Hn0 := Lib.hid hn0
            clear hn0
            go_wp2_with fail
            refine (next_st _ g s (q1 : Int) (-1) 93 hs (.inl ⟨rfl, q1, hq1, rfl⟩) (by first | exact HR.out | exact HR.out.drewN _)).mono ?_
            rintro e w2 ⟨nx, rfl, ⟨n2, rfl⟩, hnx⟩
            have Hnx := Lib.hid hnx
            clear hnx
            go_wp2
            go_meet
            case rel =>
              refine ⟨!nx, rfl, Lib.hid ?_, n2, rfl⟩
              have h5 := Hnx.out
              have h6 := Hn0.out
              unfold Ent
              cases nx with
              | true => have := (h5.1 rfl).2; simp only [Bool.not_true, Bool.false_eq_true, false_iff]; rintro ⟨_, h | h⟩; · omega
                        · rw [this] at h; cases h
              | false =>
                simp only [Bool.not_false, true_iff]
                refine ⟨by trivial, .inr ?_⟩
                cases h7 : isNextR 93 ((natsOf s).drop (q1 : Int).toNat) with
                | false => rfl
                | true => exact absurd (h5.2 ⟨by trivial, h7⟩) (by simp)
        · have hbd : decide (b1 < 0) = false := by simp; omega
          go_wp2
          go_meet
          case rel => exact ⟨false, rfl, Lib.hid ⟨fun h => (by cases h), fun h => (by have := h.1; omega)⟩, 0, rfl⟩
      case rest =>
        obtain ⟨en, rfl, Hen, k0, rfl⟩ := hcut
        clear y2
        cases en with
        | false =>
          have HT := Lib.hid (hC.out.last (fun h => by have := Hen.out.2 h; cases this))
          clear hC
          have HRk := Lib.hid (HR.out.drewN k0)
          have HDk := Lib.hid (HD.out.drewN k0)
          have HBk := Lib.hid (HB.out.drewN k0)
          have HOk := Lib.hid (HO.out.drewN k0)
          clear HR HD HB HO
          generalize wr.drewN k0 = wr at *
          go_upto_if 72 with fail
          go_cut [] (fun wx => ∃ zs : List Nat, SetOk zs ∧ Hid (zs = if tb = true then notB ws else ws) ∧ RdS wx g s p1 b1 ∧ Blk wx v1.heap.size 24 (cellsU zs) ∧ Blk wx w.heap.size 27 #[.int .i64 0, .int .u64 0, .int .u64 0, .int .u64 0, .int .u64 0, .slice none 0 0, .int .i64 0, .int .i64 0] ∧ Only (fun x => x = g) w wx)
          case first =>
            cases tb with
            | false =>
              go_wp2
              go_meet
              case rel => exact ⟨ws, Hok.out, Lib.hid rfl, HRk.out, HDk.out, HBk.out, HOk.out⟩
            | true =>
              have HNt := Lib.hid (rnot_any ws Hok.out)
              have Hnok := Lib.hid (not_ok Hok.out)
              obtain ⟨a0, a1, a2, a3, rfl⟩ := four_words Hok.out
              have c0 : wr.cell? ⟨v1.heap.size, 0, none⟩ = some (.int .u64 (a0 : Int)) := HDk.out.cell 0
              have c1 : wr.cell? ⟨v1.heap.size, 1, none⟩ = some (.int .u64 (a1 : Int)) := HDk.out.cell 1
              have c2 : wr.cell? ⟨v1.heap.size, 2, none⟩ = some (.int .u64 (a2 : Int)) := HDk.out.cell 2
              have c3 : wr.cell? ⟨v1.heap.size, 3, none⟩ = some (.int .u64 (a3 : Int)) := HDk.out.cell 3
              go_wp2_with fail
              refine (HNt.out _).mono ?_
              rintro e w4 ⟨rfl, hb4⟩
              clear c0 c1 c2 c3
              have HR4 := Lib.hid (HRk.out.ext hb4)
              have hD4 := HDk.out.ext hb4
              have HB4 := Lib.hid (HBk.out.ext hb4)
              have HO4 : Hid (Only (fun x => x = g) w w4) := Lib.hid (HOk.out.trans (Only.of_ext hb4) (fun _ _ h => h))
              clear hb4
              unfold setV
              go_wp2_with (refine wpList_store_set rfl _ _ rfl v1.heap.size rfl rfl Hnok.out Hok.out hD4 ?_; intro w6 hB6 hfar6 hsz6 hbel6)
              have ho6 := only_store hfar6 hbel6
              go_meet
              case rel => exact ⟨_, Hnok.out, Lib.hid rfl, HR4.out.only ho6 (by have := Hs1.out; omega), hB6, HB4.out.only ho6 (by have := Hs1.out; omega), HO4.out.trans ho6 (fun i hi h => by have := Hs1.out; omega)⟩
          case rest =>
            obtain ⟨zs, hzok, Hzs, hR5, hD5, hB5, hO5⟩ := hcut
            obtain ⟨v2, hv2⟩ : ∃ v2, v2 = wc := ⟨_, rfl⟩
            subst hv2
            have hzz := fun W => eq_sets hzok zero_ok W
            have hRc := rclass_any zs hzok
            have HR5 := Lib.hid hR5
            have HD5 := Lib.hid hD5
            have HB5 := Lib.hid hB5
            have HO5 := Lib.hid hO5
            have HRc := Lib.hid hRc
            obtain ⟨zb, hzb⟩ : ∃ b, decide (zs = zeroB) = b := ⟨_, rfl⟩
            rw [hzb] at hzz
            have Hzb := Lib.hid hzb
            obtain ⟨a0, a1, a2, a3, rfl⟩ := four_words hzok
            have hz' : ∀ W, (Op.equalIn 10000 24 (.agg #[.int .u64 (a0 : Int), .int .u64 (a1 : Int), .int .u64 (a2 : Int), .int .u64 (a3 : Int)]) (.agg (cellsU zeroB))).run Tryd.prog W = .ok zb W := hzz
            have c0 : v2.cell? ⟨v1.heap.size, 0, none⟩ = some (.int .u64 (a0 : Int)) := hD5.cell 0
            have c1 : v2.cell? ⟨v1.heap.size, 1, none⟩ = some (.int .u64 (a1 : Int)) := hD5.cell 1
            have c2 : v2.cell? ⟨v1.heap.size, 2, none⟩ = some (.int .u64 (a2 : Int)) := hD5.cell 2
            have c3 : v2.cell? ⟨v1.heap.size, 3, none⟩ = some (.int .u64 (a3 : Int)) := hD5.cell 3
            clear hzz hRc hR5 hD5 hB5 hO5 hzb HRk HDk HBk HOk
            cases zb with
            | true =>
              have y1 := HR5.out.c1
              go_wp2_with fail
              refine (fail_st _ g s p1 b1 p1 HT.out.stand HR5.out).mono ?_
              rintro e w6 ⟨rfl, hR6, ho6⟩
              have HB6 := Lib.hid (HB5.out.only ho6 (by omega))
              have HR6 := Lib.hid hR6
              have HO6 : Hid (Only (fun x => x = g) w w6) := Lib.hid (HO5.out.trans ho6 (fun _ _ h => h))
              clear hR6 ho6 c0 c1 c2 c3
              go_wp2_with (refine wpList_store_re rfl _ _ rfl w.heap.size rfl rfl rfl rfl zeroRe_oneR HB6.out ?_; intro w7 hB7 ho7)
              refine bodyPost_ret (results_re rfl _ _ w.heap.size _ _ rfl hB7 rfl) rfl ?_
              exact class_zero HT.out HCp.out (by rw [Hzs.out.symm]; exact of_decide_eq_true Hzb.out) (HO6.out.trans ho7 (fun i hi h => by omega)) (HR6.out.only ho7 (by omega))
            | false =>
              have y1 := HR5.out.c1
              have g1 := HR5.out.f1
              have hne1 : ¬ v1.heap.size = g := by have := Hs1.out; omega
              have hne2 : ¬ g = v1.heap.size := by have := Hs1.out; omega
              have hpb := HT.out.bound hs
              obtain ⟨hpb0, hpb1⟩ := hpb
              go_wp2_with fail
              refine (HRc.out _).mono ?_
              rintro e w6 ⟨cs6, rfl, hr6, hb6⟩
              have hB6 := (HB5.out.far (by simp; omega) _).ext hb6
              have HR6 := Lib.hid ((HR5.out.set1 (p1 + 1)).ext hb6)
              have HO6 : Hid (Only (fun x => x = g) w w6) := Lib.hid ((HO5.out.setCell (p := ⟨g, 1, none⟩) (.inl rfl) _).trans (Only.of_ext hb6) (fun _ _ h => h))
              have Hr6 := Lib.hid hr6
              have harr := reR_arr (hr6 (fun _ => True) w)
              clear hb6 hr6 c0 c1 c2 c3
              unfold reV
              go_wp2_with (refine wpList_store_re rfl _ _ rfl w.heap.size rfl rfl harr.1 rfl harr.2 hB6 ?_; intro w7 hB7 ho7)
              refine bodyPost_ret (results_re rfl _ _ w.heap.size _ _ rfl hB7 harr.1) rfl ?_
              exact class_some HT.out HCp.out Hzs.out (by exact of_decide_eq_false Hzb.out) (HO6.out.trans ho7 (fun i hi h => by omega)) (HR6.out.only ho7 (by omega)) ⟨cs6, rfl, Hr6.out _ _⟩
        | true =>
          have hE := Hen.out.1 rfl
          have HE := Lib.hid hE
          rcases hC.out.stand with ⟨hb1, q1, hq1, hp1⟩ | hb1
          case inr => exact absurd hE.1 (by omega)
          subst hb1 hp1
          have HRk := Lib.hid (HR.out.drewN k0)
          have HDk := Lib.hid (HD.out.drewN k0)
          have HBk := Lib.hid (HB.out.drewN k0)
          have HOk := Lib.hid (HO.out.drewN k0)
          clear HR HD HB HO hE
          generalize wr.drewN k0 = wr at *
          go_wp2_with fail
          refine (one_st _ g s q1 hs hq1 HRk.out).mono ?_
          rintro e w3 ⟨lo, p3, b3, rfl, hlo, ho3, hR3, hS3⟩
          have HR3 := Lib.hid hR3
          have HS3 := Lib.hid hS3
          have HD3 := Lib.hid (HDk.out.only ho3 (by have := Hs1.out; omega))
          have HB3 := Lib.hid (HBk.out.only ho3 (by omega))
          have HO3 : Hid (Only (fun x => x = g) w w3) := Lib.hid (HOk.out.trans ho3 (fun _ _ h => h))
          clear hR3 hS3 ho3 HRk HDk HBk HOk
          go_wp2_with fail
          refine (next_st _ g s p3 b3 45 hs HS3.out.stand HR3.out).mono ?_
          rintro e w4 ⟨nx, rfl, ⟨n4, rfl⟩, hnx⟩
          have Hnx := Lib.hid hnx
          clear hnx
          go_upto_if 46 with fail
          go_cut [7] (fun hv wx => ∃ (hi : Nat) (p5 b5 : Int), hv = .int .u8 (hi : Int) ∧ hi < 256 ∧ RdS wx g s p5 b5 ∧ Blk wx v1.heap.size 24 (cellsU ws) ∧ Blk wx w.heap.size 27 #[.int .i64 0, .int .u64 0, .int .u64 0, .int .u64 0, .int .u64 0, .slice none 0 0, .int .i64 0, .int .i64 0] ∧ Only (fun x => x = g) w wx ∧ Hid (StG 2 s (rangeP ((natsOf s).drop q1)) (lo, hi) p5 b5))
          case first =>
            cases nx with
            | false =>
              go_wp2
              go_meet
              case rel => exact ⟨lo, p3, b3, rfl, hlo, HR3.out.drewN _, HD3.out.drewN _, HB3.out.drewN _, HO3.out.drewN _, Lib.hid (rangeP_st1 HS3.out (fun h => by have := Hnx.out.2 h; cases this))⟩
            | true =>
              have hx2 := Hnx.out.1 rfl
              rcases HS3.out with ⟨hb3, q2, hq2, hp3, hT2⟩ | ⟨l, _, h2, _⟩
              case inr => exact absurd hx2.1 (by omega)
              subst hb3 hp3
              have hn45 : isNextR 45 ((natsOf s).drop q2) = true := by have := hx2.2; simpa using this
              have hlt2 := (isNext_at s q2 45 hq2 hn45).1
              have hlt2i : (q2 : Int) < (s.size : Int) := by omega
              have HT2 := Lib.hid hT2
              have Hn45 := Lib.hid hn45
              have y1 := HR3.out.c1
              have y2 := HR3.out.f1
              clear hT2 hn45 hx2 HS3
              go_wp2_with fail
              refine (one_st _ g s (q2 + 1) hs (by omega) (RdS.to ((HR3.out.drewN _).set1 ((q2 : Int) + 1)) (by omega) rfl)).mono ?_
              rintro e w5 ⟨hi, p5, b5, rfl, hhi, ho5, hR5, hS5⟩
              have HR5 := Lib.hid hR5
              have HS5 := Lib.hid hS5
              have HD5 := Lib.hid (((HD3.out.drewN _).far (by have := Hs1.out; simp; omega) _).only ho5 (by have := Hs1.out; omega))
              have HB5 := Lib.hid (((HB3.out.drewN _).far (by simp; omega) _).only ho5 (by omega))
              have HO5 : Hid (Only (fun x => x = g) w w5) := Lib.hid ((((HO3.out.drewN _).setCell (p := ⟨g, 1, none⟩) (.inl rfl) _)).trans ho5 (fun _ _ h => h))
              clear hR5 hS5 ho5 y1 y2
              by_cases hlh : hi < lo
              · have g1 : decide ((hi : Int) < (lo : Int)) = true := by simpa using hlh
                have g2 : decide (hi < lo) = true := by simpa using hlh
                have Hlh := Lib.hid hlh
                clear hlh
                go_wp2_with fail
                refine (fail_st _ g s p5 b5 _ HS5.out.stand HR5.out).mono ?_
                rintro e w6 ⟨rfl, hR6, ho6⟩
                go_wp2
                go_meet
                case rel => exact ⟨hi, p5, _, rfl, hhi, hR6, HD5.out.only ho6 (by have := Hs1.out; omega), HB5.out.only ho6 (by omega), HO5.out.trans ho6 (fun _ _ h => h), Lib.hid (rangeP_st3 HT2.out hlt2 Hn45.out HS5.out (fun _ => Hlh.out))⟩
              · have g1 : decide ((hi : Int) < (lo : Int)) = false := by simp; omega
                have g2 : decide (hi < lo) = false := by simp; omega
                have Hlh := Lib.hid hlh
                clear hlh
                go_wp2
                go_meet
                case rel => exact ⟨hi, p5, b5, rfl, hhi, HR5.out, HD5.out, HB5.out, HO5.out, Lib.hid (rangeP_st2 HT2.out hlt2 Hn45.out HS5.out (fun _ => by have := Hlh.out; omega))⟩
          case rest =>
            obtain ⟨hi, p5, b5, rfl, hhi, hR5, hD5, hB5, hO5, HS5⟩ := hcut
            obtain ⟨w5, hw5⟩ : ∃ v2, v2 = wc := ⟨_, rfl⟩
            subst hw5
            have hSn := hC.out.next HE.out HS5.out
            have hnq : n ≤ s.size := by rcases hC.out with ⟨_, q, _, h2, _, h4, _⟩ | ⟨l, _, h2, _⟩ <;> omega
            have hjo := joinB_ok2 Hok.out (ofB_ok (rangeB lo hi))
            have hbo := ofB_ok (rangeB lo hi)
            have hRg := fun W => rrange_any lo hi W hlo hhi
            obtain ⟨a0, a1, a2, a3, rfl⟩ := four_words Hok.out
            obtain ⟨us, hus⟩ : ∃ us, ofB (rangeB lo hi) = us := ⟨_, rfl⟩
            rw [hus] at hSn hjo hbo
            have hRg2 : ∀ W, Calls Tryd.prog 114 #[.int .u8 (lo : Int), .int .u8 (hi : Int)] W fun e w' => e = .returned (setV us) ∧ Below W.heap.size W w' := fun W => by rw [← hus]; exact hRg W
            obtain ⟨b0, b1, b2, b3, rfl⟩ := four_words hbo
            have HJ := Lib.hid fun W => join_twoR W W.heap.size rfl Hok.out hbo
            have HRg := Lib.hid hRg2
            have HSn := Lib.hid hSn
            have Hjok := Lib.hid hjo
            have HR5 := Lib.hid hR5
            have HD5 := Lib.hid hD5
            have HB5 := Lib.hid hB5
            have HO5 := Lib.hid hO5
            have z0 : w5.cell? ⟨v1.heap.size, 0, none⟩ = some (.int .u64 (a0 : Int)) := hD5.cell 0
            have z1 : w5.cell? ⟨v1.heap.size, 1, none⟩ = some (.int .u64 (a1 : Int)) := hD5.cell 1
            have z2 : w5.cell? ⟨v1.heap.size, 2, none⟩ = some (.int .u64 (a2 : Int)) := hD5.cell 2
            have z3 : w5.cell? ⟨v1.heap.size, 3, none⟩ = some (.int .u64 (a3 : Int)) := hD5.cell 3
            have HSd : Hid (∀ W, Below w5.heap.size w5 W → W.cell? ⟨v1.heap.size, 0, none⟩ = some (.int .u64 (a0 : Int)) ∧ W.cell? ⟨v1.heap.size, 1, none⟩ = some (.int .u64 (a1 : Int)) ∧ W.cell? ⟨v1.heap.size, 2, none⟩ = some (.int .u64 (a2 : Int)) ∧ W.cell? ⟨v1.heap.size, 3, none⟩ = some (.int .u64 (a3 : Int))) := Lib.hid fun W hW => by
              have h9 := HD5.out.ext hW
              exact ⟨h9.cell 0, h9.cell 1, h9.cell 2, h9.cell 3⟩
            clear hSn hjo hbo hRg hRg2 hus hR5 hD5 hB5 hO5 hC HE Hen
            go_wp2_with fail
            refine wp_region_held_drew (S := fun _ => True) (by kernel_rfl) ?_ (fun hHeld => ?_)
            · all_goals trivial
            refine wpAnyH_take (i := 1) (v := ?_) (take_list rfl) (by kernel_rfl) (by kernel_rfl) (by kernel_rfl) (fun _ _ _ h => h) (Or.inl ⟨by rfl, ?_⟩) (by assumption) ?_
            rotate_left
            · intro w hSw
              try dsimp only at hSw
              first | (go_simp; done) | (go_simp; with_reducible rfl)
            try simp only [Act.put, List.setIfInBounds_toArray, List.set_cons_zero, List.set_cons_succ]
            refine wpAnyH_take (i := 2) (v := ?_) (take_list rfl) (by kernel_rfl) (by kernel_rfl) (by kernel_rfl) (fun _ _ _ h => h) (Or.inl ⟨by rfl, ?_⟩) (by assumption) ?_
            rotate_left
            · intro w hSw
              try dsimp only at hSw
              first | (go_simp; done) | (go_simp; with_reducible rfl)
            try simp only [Act.put, List.setIfInBounds_toArray, List.set_cons_zero, List.set_cons_succ]
            refine wpAnyH_ready (rs := [0, 3]) (by kernel_rfl) (by simp) ?_
            refine AllReadyH.cons (take_list rfl) (fun K hK => ?_) ?_
            · skip
              go_simp
              refine hK.out _ _ ?_ (fun hHeld => ?_)
              · try dsimp only
                all_goals trivial
              clear hK K
              refine wpAnyH_ready (rs := [3]) (by kernel_rfl) (by simp) ?_
              refine AllReadyH.cons (take_list rfl) (fun K hK => ?_) ?_
              · skip
                go_simp
                refine (HRg.out _).mono ?_
                rintro e wx ⟨rfl, hbx'⟩
                dsimp only
                have hbx : Below w5.heap.size w5 wx := (by first | exact hbx' | exact ext_trans (ext_drew (Below.refl _ _)) hbx')
                unfold setV
                refine hK.out _ _ ?_ (fun hHeld => ?_)
                · try dsimp only
                  all_goals trivial
                clear hK K
                refine wpAnyH_ready (rs := [4]) (by kernel_rfl) (by simp) ?_
                refine AllReadyH.cons (take_list rfl) (fun K hK => ?_) ?_
                · skip
                  go_simp
                  refine hK.out _ _ ?_ (fun hHeld => ?_)
                  · try dsimp only
                    all_goals trivial
                  clear hK K
                  refine wpAnyH_ready (rs := [5]) (by kernel_rfl) (by simp) ?_
                  refine AllReadyH.cons (take_list rfl) (fun K hK => ?_) ?_
                  · skip
                    go_simp
                    refine (HJ.out _).mono ?_
                    rintro e wz ⟨rfl, hbz'⟩
                    dsimp only
                    have hbz : Below w5.heap.size w5 wz := (by first | exact ext_trans (ext_trans hbx ((Below.refl _ _).alloc (Nat.le_refl _) _)) hbz' | exact ext_trans (ext_trans (ext_drew hbx) ((Below.refl _ _).alloc (Nat.le_refl _) _)) hbz')
                    refine hK.out _ _ ?_ (fun hHeld => ?_)
                    · try dsimp only
                      all_goals trivial
                    clear hK K
                    refine wpAnyH_ready (rs := [6]) (by kernel_rfl) (by simp) ?_
                    refine AllReadyH.cons (take_list rfl) (fun K hK => ?_) ?_
                    · skip
                      refine step_store_set rfl _ _ rfl v1.heap.size rfl (ws := joinB [[a0, a1, a2, a3], [b0, b1, b2, b3]]) rfl Hjok.out Hok.out (HD5.out.ext hbz) ?_
                      intro wy hBy hoy
                      have hRy := (HR5.out.ext hbz).only hoy (by have := Hs1.out; omega)
                      have hBBy := (HB5.out.ext hbz).only hoy (by have := Hs1.out; omega)
                      have hOy : Only (fun x => x = g) w wy := (HO5.out.trans (Only.of_ext (S := fun x => x = g) hbz) (fun _ _ h => h)).trans hoy (fun i hi h => by have := Hs1.out; omega)
                      refine hK.out _ _ ?_ (fun hHeld => ?_)
                      · try dsimp only
                        all_goals trivial
                      clear hK K
                      refine wpAnyH_done (by kernel_rfl) ?_ _
                      go_wp2
                      go_roundw
                      case rel => refine ⟨n + 1, joinB [[a0, a1, a2, a3], [b0, b1, b2, b3]], p5, b5, rfl, by omega, Hjok.out, hRy, hBy, hBBy, hOy, HSn⟩
                      case measure => simp only [nOf]; have := Hnn.out; omega
                    exact AllReadyH.nil
                  exact AllReadyH.nil
                exact AllReadyH.nil
              exact AllReadyH.nil
            refine AllReadyH.cons (take_list rfl) (fun K hK => ?_) ?_
            · skip
              go_simp
              refine (HRg.out _).mono ?_
              rintro e wx ⟨rfl, hbx'⟩
              dsimp only
              have hbx : Below w5.heap.size w5 wx := (by first | exact hbx' | exact ext_trans (ext_drew (Below.refl _ _)) hbx')
              unfold setV
              obtain ⟨y0, y1, y2, y3⟩ := HSd.out wx hbx
              refine hK.out _ _ ?_ (fun hHeld => ?_)
              · try dsimp only
                all_goals trivial
              clear hK K
              refine wpAnyH_ready (rs := [0]) (by kernel_rfl) (by simp) ?_
              refine AllReadyH.cons (take_list rfl) (fun K hK => ?_) ?_
              · skip
                go_simp
                refine hK.out _ _ ?_ (fun hHeld => ?_)
                · try dsimp only
                  all_goals trivial
                clear hK K
                refine wpAnyH_ready (rs := [4]) (by kernel_rfl) (by simp) ?_
                refine AllReadyH.cons (take_list rfl) (fun K hK => ?_) ?_
                · skip
                  go_simp
                  refine hK.out _ _ ?_ (fun hHeld => ?_)
                  · try dsimp only
                    all_goals trivial
                  clear hK K
                  refine wpAnyH_ready (rs := [5]) (by kernel_rfl) (by simp) ?_
                  refine AllReadyH.cons (take_list rfl) (fun K hK => ?_) ?_
                  · skip
                    go_simp
                    refine (HJ.out _).mono ?_
                    rintro e wz ⟨rfl, hbz'⟩
                    dsimp only
                    have hbz : Below w5.heap.size w5 wz := (by first | exact ext_trans (ext_trans hbx ((Below.refl _ _).alloc (Nat.le_refl _) _)) hbz' | exact ext_trans (ext_trans (ext_drew hbx) ((Below.refl _ _).alloc (Nat.le_refl _) _)) hbz')
                    refine hK.out _ _ ?_ (fun hHeld => ?_)
                    · try dsimp only
                      all_goals trivial
                    clear hK K
                    refine wpAnyH_ready (rs := [6]) (by kernel_rfl) (by simp) ?_
                    refine AllReadyH.cons (take_list rfl) (fun K hK => ?_) ?_
                    · skip
                      refine step_store_set rfl _ _ rfl v1.heap.size rfl (ws := joinB [[a0, a1, a2, a3], [b0, b1, b2, b3]]) rfl Hjok.out Hok.out (HD5.out.ext hbz) ?_
                      intro wy hBy hoy
                      have hRy := (HR5.out.ext hbz).only hoy (by have := Hs1.out; omega)
                      have hBBy := (HB5.out.ext hbz).only hoy (by have := Hs1.out; omega)
                      have hOy : Only (fun x => x = g) w wy := (HO5.out.trans (Only.of_ext (S := fun x => x = g) hbz) (fun _ _ h => h)).trans hoy (fun i hi h => by have := Hs1.out; omega)
                      refine hK.out _ _ ?_ (fun hHeld => ?_)
                      · try dsimp only
                        all_goals trivial
                      clear hK K
                      refine wpAnyH_done (by kernel_rfl) ?_ _
                      go_wp2
                      go_roundw
                      case rel => refine ⟨n + 1, joinB [[a0, a1, a2, a3], [b0, b1, b2, b3]], p5, b5, rfl, by omega, Hjok.out, hRy, hBy, hBBy, hOy, HSn⟩
                      case measure => simp only [nOf]; have := Hnn.out; omega
                    exact AllReadyH.nil
                  exact AllReadyH.nil
                exact AllReadyH.nil
              exact AllReadyH.nil
            exact AllReadyH.nil
end Go.Proofs.YtgknlegomoaoeaaDoor

/-
  Contract of the reference's atom, where that of alternatives is known. No statement of the seat is proved here.
-/
namespace Go.Proofs.YtgknlegomoaoeaaDoor
open Go Go.RowKit
set_option maxRecDepth 100000

/-- what a method leaves that answers an expression, whose rows lie in blocks from 'd' on -/
def TkR (d : Nat) (w : World) (g : Nat) (s : ByteArray) (T : PR Ex) (e : Ending) (w' : World) : Prop :=
  ∃ (x : Ex) (p b : Int) (cs : List Value), e = .returned (reV cs) ∧ Only (fun x => x = g) w w' ∧ RdS w' g s p b ∧ ReR (fun b => d ≤ b) w' x cs ∧ StG 8 s T x p b
theorem took_st {d g : Nat} {w w' : World} {s : ByteArray} {T : PR Ex} {e : Ending} (h : Took w g s T (isReR d g) (anyRe d g) e w') :
    ∃ (x : Ex) (p b : Int) (cs : List Value), e = .returned (reV cs) ∧ Only (fun x => x = g) w w' ∧ RdS w' g s p b ∧ ReR (fun b => b ≠ g ∧ d ≤ b) w' x cs ∧ StG 8 s T x p b := by
  obtain ⟨ho, v, he, hr⟩ := h
  cases T with
  | ok x rest =>
    obtain ⟨⟨cs, hv, hx⟩, q, hq, hrest, hR⟩ := hr
    subst he hv hrest
    exact ⟨x, q, -1, cs, rfl, ho, hR, hx, .inl ⟨rfl, q, hq, rfl, rfl⟩⟩
  | bad left =>
    obtain ⟨⟨x, cs, hv, hx⟩, hl, m, hm, hR⟩ := hr
    subst he hv
    exact ⟨x, m, _, cs, rfl, ho, hR, hx, .inr ⟨left, hl, rfl, ⟨m, rfl, hm⟩, rfl⟩⟩
def groupP (T : PR Ex) : PR Ex := T.bind fun x l2 => match l2 with
  | 41 :: l3 => .ok x l3
  | _ => .bad l2.length
theorem group_ok {x : Ex} {s : ByteArray} {q : Nat} (h : isNextR 41 ((natsOf s).drop q) = true) : groupP (.ok x ((natsOf s).drop q)) = .ok x ((natsOf s).drop (q + 1)) := by
  have hq : q ≤ s.size := by
    rcases Nat.lt_or_ge s.size q with h1 | h1
    · rw [List.drop_of_length_le (by rw [natsOf_len]; omega)] at h; simp [isNextR] at h
    · exact h1
  unfold groupP
  simp only [PR.bind]
  rw [(isNext_at s q 41 hq h).2]
  rfl
theorem group_bad {K : Nat} {x : Ex} {s : ByteArray} {T : PR Ex} {p b : Int} (h : StG K s T x p b) (hn : ¬ (b = -1 ∧ isNextR 41 ((natsOf s).drop p.toNat) = true)) : StG K s (groupP T) emptyE p (if b = -1 then p else b) := by
  rcases h with ⟨h1, q, h2, h3, h4⟩ | ⟨left, h1, h2, h3, h4⟩
  · subst h1 h3
    rw [if_pos rfl]
    refine .inr ⟨s.size - q, by omega, by omega, ⟨q, rfl, by omega⟩, ?_⟩
    rw [h4]
    unfold groupP
    simp only [PR.bind]
    split
    · rename_i l3 he
      refine absurd ⟨rfl, ?_⟩ hn
      simp [isNextR, he]
    · rw [nats_lenR]
  · rw [if_neg (by omega)]
    refine .inr ⟨left, h1, h2, h3, ?_⟩
    rw [h4]
    rfl
theorem atomP_else {f : Nat} {l : List Nat} (h1 : isNextR 46 l = false) (h2 : isNextR 40 l = false) (h3 : isNextR 91 l = false) : atomP (f + 1) l = (byteP l).bind fun b l1 => .ok (byteE b) l1 := by
  simp only [atomP]
  split
  · simp [isNextR] at h1
  · simp [isNextR] at h2
  · simp [isNextR] at h3
  · rfl
theorem StG.byte {s : ByteArray} {T : PR Nat} {c : Nat} {p b : Int} (h : StG 2 s T c p b) : StG 8 s (T.bind fun b l1 => .ok (byteE b) l1) (byteE c) p b := by
  rcases h with ⟨h1, q, h2, h3, h4⟩ | ⟨left, h1, h2, ⟨m, h3, h5⟩, h4⟩
  · exact .inl ⟨h1, q, h2, h3, by rw [h4]; rfl⟩
  · exact .inr ⟨left, h1, h2, ⟨m, h3, by omega⟩, by rw [h4]; rfl⟩

set_option maxHeartbeats 16000000 in
theorem ratom_of (f : Nat) (w : World) (g : Nat) (s : ByteArray) (p : Nat) (hs : s.size ≤ 1000000) (hp : p ≤ s.size) (h : RdS w g s (p : Int) (-1))
    (hA : ∀ W, w.heap.size ≤ W.heap.size → p + 1 ≤ s.size → RdS W g s ((p + 1 : Nat) : Int) (-1) → Calls Tryd.prog 58 #[.pointer (some ⟨g, 0, none⟩)] W (TkR W.heap.size W g s (altsP f ((natsOf s).drop (p + 1))))) :
    Calls Tryd.prog 92 #[.pointer (some ⟨g, 0, none⟩)] w (TkR w.heap.size w g s (atomP (f + 1) ((natsOf s).drop p))) := by
  have hgl := h.lt
  have hz := zeros_set
  have hsi : (s.size : Int) ≤ 1000000 := by omega
  have HRd := Lib.hid (h.alloc (Obj.cells #[.int .i64 0, .int .u64 0, .int .u64 0, .int .u64 0, .int .u64 0, .slice none 0 0, .int .i64 0, .int .i64 0] 27))
  have HR := Lib.hid (Blk.new w 27 #[.int .i64 0, .int .u64 0, .int .u64 0, .int .u64 0, .int .u64 0, .slice none 0 0, .int .i64 0, .int .i64 0])
  have HO1 : Hid (Only (fun x => x = g) w (w.alloc (Obj.cells #[.int .i64 0, .int .u64 0, .int .u64 0, .int .u64 0, .int .u64 0, .slice none 0 0, .int .i64 0, .int .i64 0] 27))) := Lib.hid ((Only.refl _ _).alloc _)
  have HA := Lib.hid hA
  have HN : Hid (∀ c : Nat, isNextR c ((natsOf s).drop p) = false → ∀ W, RdS W g s (p : Int) (-1) → Calls Tryd.prog 75 #[.pointer (some ⟨g, 0, none⟩), .int .u8 (c : Int)] W fun e w' => e = .returned (.bool false) ∧ ∃ n, w' = W.drewN n) := Lib.hid fun c hc W hW => by
    have := rnext_any W g s p c hs hp hW
    rwa [hc] at this
  have HY : Hid (∀ c : Nat, isNextR c ((natsOf s).drop p) = true → ∀ W, RdS W g s (p : Int) (-1) → Calls Tryd.prog 75 #[.pointer (some ⟨g, 0, none⟩), .int .u8 (c : Int)] W fun e w' => e = .returned (.bool true) ∧ ∃ n, w' = W.drewN n) := Lib.hid fun c hc W hW => by
    have := rnext_any W g s p c hs hp hW
    rwa [hc] at this
  clear h hA
  go_enter Tryd.func92, Tryd.ntmps92
  go_wp2_with fail
  by_cases hc46 : isNextR 46 ((natsOf s).drop p) = true
  · have hT : atomP (f + 1) ((natsOf s).drop p) = .ok dotE ((natsOf s).drop (p + 1)) := by rw [(isNext_at s p 46 hp hc46).2]; rfl
    have HT := Lib.hid hT
    have Hc := Lib.hid hc46
    have hps := (isNext_at s p 46 hp hc46).1
    have hpi : (p : Int) < (s.size : Int) := by omega
    clear hT hc46
    refine (HY.out 46 Hc.out _ (HRd.out)).mono ?_
    rintro e wq ⟨rfl, my, rfl⟩
    have x1 := HRd.out.c1
    have f1 := HRd.out.f1
    go_wp2_with fail
    obtain ⟨w3, hw3⟩ : ∃ w3, w3 = ((w.alloc (Obj.cells #[.int .i64 0, .int .u64 0, .int .u64 0, .int .u64 0, .int .u64 0, .slice none 0 0, .int .i64 0, .int .i64 0] 27)).drewN my).setCell ⟨g, 1, none⟩ (.int .i64 ((p : Int) + 1)) := ⟨_, rfl⟩
    try rw [← hw3]
    have HR3 : Hid (Blk w3 w.heap.size 27 #[.int .i64 0, .int .u64 0, .int .u64 0, .int .u64 0, .int .u64 0, .slice none 0 0, .int .i64 0, .int .i64 0]) := Lib.hid (by rw [hw3]; exact (HR.out.drewN _).far (by simp; omega) _)
    have HO3 : Hid (Only (fun x => x = g) w w3) := Lib.hid (by rw [hw3]; exact (HO1.out.drewN _).setCell (p := ⟨g, 1, none⟩) (.inl rfl) _)
    have HRd3 : Hid (RdS w3 g s ((p + 1 : Nat) : Int) (-1)) := Lib.hid (by rw [hw3]; exact RdS.to ((HRd.out.drewN _).set1 _) (by omega) rfl)
    have Hs3 : Hid (w3.heap.size = w.heap.size + 1) := Lib.hid (by rw [hw3]; simp [World.setCell, World.drewN])
    have Hw3 := Lib.hid hw3
    clear hw3 x1 f1
    try rw [← Hw3.out]
    refine (rnot_any zeroB zero_ok _).mono ?_
    rintro e w4 ⟨rfl, hb4⟩
    have HR4 := Lib.hid (HR3.out.ext hb4)
    have HRd4 := Lib.hid (HRd3.out.ext hb4)
    have HO4 : Hid (Only (fun x => x = g) w w4) := Lib.hid (HO3.out.trans (Only.of_ext hb4) (fun _ _ h => h))
    clear hb4
    go_wp2_with fail
    refine (rclass_any _ (not_ok zero_ok) _).mono ?_
    rintro e w8 ⟨cs8, rfl, hr8, hb8⟩
    have harr := reR_arr (hr8 (fun b => w.heap.size ≤ b) w8)
    have hR8 := HR4.out.ext hb8
    have HRd8 := Lib.hid (HRd4.out.ext hb8)
    have HO8 : Hid (Only (fun x => x = g) w w8) := Lib.hid (HO4.out.trans (Only.of_ext hb8) (fun _ _ h => h))
    have Hr8 := Lib.hid hr8
    clear hr8 hb8
    unfold reV
    go_wp2_with (refine wpList_store_re rfl _ _ rfl w.heap.size rfl rfl harr.1 rfl harr.2 hR8 ?_; intro w9 hB9 ho9)
    refine bodyPost_ret (results_re rfl _ _ w.heap.size _ _ rfl hB9 harr.1) rfl ?_
    exact ⟨dotE, _, _, cs8, rfl, HO8.out.trans ho9 (fun i hi h => by omega), HRd8.out.only ho9 (by omega), Hr8.out (fun b => w.heap.size ≤ b) w9, .inl ⟨rfl, p + 1, by omega, rfl, HT.out⟩⟩
  have hf46 : isNextR 46 ((natsOf s).drop p) = false := by simpa using hc46
  have Hf46 := Lib.hid hf46
  clear hc46 hf46
  by_cases hc40 : isNextR 40 ((natsOf s).drop p) = true
  · have hT : atomP (f + 1) ((natsOf s).drop p) = groupP (altsP f ((natsOf s).drop (p + 1))) := by rw [(isNext_at s p 40 hp hc40).2]; rfl
    have HT := Lib.hid hT
    have Hc := Lib.hid hc40
    have hps := (isNext_at s p 40 hp hc40).1
    have hpi : (p : Int) < (s.size : Int) := by omega
    clear hT hc40
    refine (HN.out 46 Hf46.out _ (HRd.out)).mono ?_
    rintro e wq ⟨rfl, m0, rfl⟩
    go_wp2_with fail
    refine (HY.out 40 Hc.out _ (HRd.out.drewN _)).mono ?_
    rintro e wq ⟨rfl, my, rfl⟩
    have x1 := HRd.out.c1
    have f1 := HRd.out.f1
    go_wp2_with fail
    obtain ⟨w3, hw3⟩ : ∃ w3, w3 = ((w.alloc (Obj.cells #[.int .i64 0, .int .u64 0, .int .u64 0, .int .u64 0, .int .u64 0, .slice none 0 0, .int .i64 0, .int .i64 0] 27)).drewN (m0 + my)).setCell ⟨g, 1, none⟩ (.int .i64 ((p : Int) + 1)) := ⟨_, rfl⟩
    try rw [← hw3]
    have HR3 : Hid (Blk w3 w.heap.size 27 #[.int .i64 0, .int .u64 0, .int .u64 0, .int .u64 0, .int .u64 0, .slice none 0 0, .int .i64 0, .int .i64 0]) := Lib.hid (by rw [hw3]; exact (HR.out.drewN _).far (by simp; omega) _)
    have HO3 : Hid (Only (fun x => x = g) w w3) := Lib.hid (by rw [hw3]; exact (HO1.out.drewN _).setCell (p := ⟨g, 1, none⟩) (.inl rfl) _)
    have HRd3 : Hid (RdS w3 g s ((p + 1 : Nat) : Int) (-1)) := Lib.hid (by rw [hw3]; exact RdS.to ((HRd.out.drewN _).set1 _) (by omega) rfl)
    have Hs3 : Hid (w3.heap.size = w.heap.size + 1) := Lib.hid (by rw [hw3]; simp [World.setCell, World.drewN])
    have Hw3 := Lib.hid hw3
    clear hw3 x1 f1
    try rw [← Hw3.out]
    refine (HA.out w3 (by have := Hs3.out; omega) (by omega) HRd3.out).mono ?_
    rintro e w4 ⟨x, p4, b4, cs4, he, ho4, hRd4, hr4, hS4⟩
    have hs4 := ho4.size
    have HR4 := Lib.hid (HR3.out.only ho4 (by omega))
    have HO4 : Hid (Only (fun x => x = g) w w4) := Lib.hid (HO3.out.trans ho4 (fun _ _ h => h))
    have HRd4 := Lib.hid hRd4
    have HS4 := Lib.hid hS4
    have Hs4 : Hid (w.heap.size < w4.heap.size) := Lib.hid (by have := Hs3.out; omega)
    have Hr4 : Hid (ReR (fun b => w.heap.size < b ∧ b < w4.heap.size) w4 x cs4) := Lib.hid (hr4.mono (fun b hb hl => ⟨by have := Hs3.out; omega, hl⟩))
    have harr := reR_arr hr4
    obtain ⟨u0, u1, u2, u3, u4, u5, u6, u7, hcs⟩ := arr_eight harr.1
    have hone := harr.2
    rw [hcs] at hone
    have he2 : e = .returned (.agg #[u0, u1, u2, u3, u4, u5, u6, u7]) := by rw [he, reV, hcs]
    subst he2
    have hcl : cs4 = [u0, u1, u2, u3, u4, u5, u6, u7] := by have := congrArg Array.toList hcs; simpa using this
    subst hcl
    have hone2 : (#[u0, u1, u2, u3, u4, u5, u6, u7] : Array Value).all (·.oneCell') = true := hone
    have Hone := Lib.hid hone2
    clear ho4 hRd4 hr4 hS4 hs4 harr hone hcs hone2 he
    have hone := Hone.out
    go_wp2_with (refine wpList_store_re rfl _ _ rfl w4.heap.size rfl rfl rfl rfl hone (Blk.new _ _ _) ?_; intro w5 hB5 ho5; clear hone)
    have HR5 := Lib.hid ((HR4.out.alloc (Obj.cells #[.int .i64 0, .int .u64 0, .int .u64 0, .int .u64 0, .int .u64 0, .slice none 0 0, .int .i64 0, .int .i64 0] 27)).only ho5 (by have := Hs4.out; omega))
    have HRd5 := Lib.hid ((HRd4.out.alloc (Obj.cells #[.int .i64 0, .int .u64 0, .int .u64 0, .int .u64 0, .int .u64 0, .slice none 0 0, .int .i64 0, .int .i64 0] 27)).only ho5 (by have := Hs4.out; omega))
    have HO5 : Hid (Only (fun x => x = g) w w5) := Lib.hid ((HO4.out.alloc (Obj.cells #[.int .i64 0, .int .u64 0, .int .u64 0, .int .u64 0, .int .u64 0, .slice none 0 0, .int .i64 0, .int .i64 0] 27)).trans ho5 (fun i hi h => by have := Hs4.out; omega))
    have Hr5 := Lib.hid ((Hr4.out.ext ((Below.refl _ _).alloc (Nat.le_refl _) (Obj.cells #[.int .i64 0, .int .u64 0, .int .u64 0, .int .u64 0, .int .u64 0, .slice none 0 0, .int .i64 0, .int .i64 0] 27))).only ho5 (fun b hb h => by omega))
    have HD5 := Lib.hid hB5
    clear hB5 ho5 HR4 HRd4 HO4 Hr4
    go_wp2_with fail
    refine (next_st _ g s p4 b4 41 hs HS4.out.stand HRd5.out).mono ?_
    rintro e w6 ⟨nx, rfl, ⟨n6, rfl⟩, hnx⟩
    have Hnx := Lib.hid hnx
    clear hnx
    cases nx with
    | false =>
      have y1 := HRd5.out.c1
      go_wp2_with fail
      refine (fail_st _ g s p4 b4 p4 HS4.out.stand (HRd5.out.drewN _)).mono ?_
      rintro e w7 ⟨rfl, hRd7, ho7⟩
      have hR7 := (HR5.out.drewN n6).only ho7 (by omega)
      have HRd7 := Lib.hid hRd7
      have HO7 : Hid (Only (fun x => x = g) w w7) := Lib.hid ((HO5.out.drewN n6).trans ho7 (fun _ _ h => h))
      clear hRd7 ho7 y1
      go_wp2_with (refine wpList_store_re rfl _ _ rfl w.heap.size rfl rfl rfl rfl zeroRe_oneR hR7 ?_; intro w9 hB9 ho9)
      refine bodyPost_ret (results_re rfl _ _ w.heap.size _ _ rfl hB9 rfl) rfl ?_
      exact ⟨emptyE, _, _, _, rfl, HO7.out.trans ho9 (fun i hi h => by omega), HRd7.out.only ho9 (by omega), empty_re _ _, by rw [HT.out]; exact group_bad HS4.out (fun h => by have := Hnx.out.2 h; cases this)⟩
    | true =>
      have hx2 := Hnx.out.1 rfl
      have hS := HS4.out
      rcases hS with ⟨hb3, q2, hq2, hp3, hT2⟩ | ⟨l, _, h2, _⟩
      case inr => exact absurd hx2.1 (by omega)
      subst hb3 hp3
      have hn41 : isNextR 41 ((natsOf s).drop q2) = true := by have := hx2.2; simpa using this
      have hq2l := (isNext_at s q2 41 hq2 hn41).1
      have hq2i : (q2 : Int) < (s.size : Int) := by omega
      have HG : Hid (groupP (altsP f ((natsOf s).drop (p + 1))) = .ok x ((natsOf s).drop (q2 + 1))) := Lib.hid (by rw [hT2]; exact group_ok hn41)
      have y1 := HRd5.out.c1
      have y2 := HRd5.out.f1
      have e0 : w5.cell? ⟨w4.heap.size, 0, none⟩ = some u0 := HD5.out.cell 0
      have e1 : w5.cell? ⟨w4.heap.size, 1, none⟩ = some u1 := HD5.out.cell 1
      have e2 : w5.cell? ⟨w4.heap.size, 2, none⟩ = some u2 := HD5.out.cell 2
      have e3 : w5.cell? ⟨w4.heap.size, 3, none⟩ = some u3 := HD5.out.cell 3
      have e4 : w5.cell? ⟨w4.heap.size, 4, none⟩ = some u4 := HD5.out.cell 4
      have e5 : w5.cell? ⟨w4.heap.size, 5, none⟩ = some u5 := HD5.out.cell 5
      have e6 : w5.cell? ⟨w4.heap.size, 6, none⟩ = some u6 := HD5.out.cell 6
      have e7 : w5.cell? ⟨w4.heap.size, 7, none⟩ = some u7 := HD5.out.cell 7
      have hne1 : ¬ w4.heap.size = g := by have := Hs4.out; omega
      have hne2 : ¬ g = w4.heap.size := by have := Hs4.out; omega
      have hone := Hone.out
      have hR7 := (HR5.out.drewN n6).far (p := ⟨g, 1, none⟩) (by simp; omega) (.int .i64 ((q2 : Int) + 1))
      clear hx2 hT2 hn41
      go_wp2_with (refine wpList_store_re rfl _ _ rfl w.heap.size rfl rfl rfl rfl hone hR7 ?_; intro w9 hB9 ho9)
      refine bodyPost_ret (results_re rfl _ _ w.heap.size _ _ rfl hB9 rfl) rfl ?_
      refine ⟨x, _, _, [u0, u1, u2, u3, u4, u5, u6, u7], rfl, ((HO5.out.drewN n6).setCell (p := ⟨g, 1, none⟩) (.inl rfl) _).trans ho9 (fun i hi h => by omega), ((HRd5.out.drewN n6).set1 _).only ho9 (by omega), ?_, .inl ⟨rfl, q2 + 1, by omega, by omega, HT.out.trans HG.out⟩⟩
      exact (((Hr5.out.ext (ext_drewN (Below.refl _ _) n6)).only ((Only.refl (fun x => x = g) _).setCell (p := ⟨g, 1, none⟩) (.inl rfl) _) (fun b hb h => by have := hb.1; omega)).only ho9 (fun b hb h => by have := hb.1; omega)).mono (fun b hb _ => by have := hb.1; omega)
  have hf40 : isNextR 40 ((natsOf s).drop p) = false := by simpa using hc40
  have Hf40 := Lib.hid hf40
  clear hc40 hf40 HA
  by_cases hc91 : isNextR 91 ((natsOf s).drop p) = true
  · have hT : atomP (f + 1) ((natsOf s).drop p) = classP ((natsOf s).drop (p + 1)) := by rw [(isNext_at s p 91 hp hc91).2]; rfl
    have HT := Lib.hid hT
    have Hc := Lib.hid hc91
    have hps := (isNext_at s p 91 hp hc91).1
    clear hT hc91
    refine (HN.out 46 Hf46.out _ (HRd.out)).mono ?_
    rintro e wq ⟨rfl, m0, rfl⟩
    go_wp2_with fail
    refine (HN.out 40 Hf40.out _ (HRd.out.drewN _)).mono ?_
    rintro e wq ⟨rfl, m1, rfl⟩
    go_wp2_with fail
    refine (HY.out 91 Hc.out _ (HRd.out.drewN _)).mono ?_
    rintro e wq ⟨rfl, my, rfl⟩
    go_wp2_with fail
    refine (rcls_any _ (w.heap.size + 1) (by simp [World.drewN]) g s p hs hps (HRd.out.drewN _)).mono ?_
    intro e w4 h4
    obtain ⟨x, p4, b4, cs4, rfl, ho4, hRd4, hr4, hS4⟩ := took_st h4
    have HR4 := Lib.hid ((HR.out.drewN _).only ho4 (by omega))
    have HO4 : Hid (Only (fun x => x = g) w w4) := Lib.hid ((HO1.out.drewN _).trans ho4 (fun _ _ h => h))
    have HRd4 := Lib.hid hRd4
    have HS4 := Lib.hid hS4
    have harr := reR_arr hr4
    have Hr4 := Lib.hid hr4
    have hR4 := HR4.out
    clear ho4 hRd4 hr4 hS4 h4
    unfold reV
    go_wp2_with (refine wpList_store_re rfl _ _ rfl w.heap.size rfl rfl harr.1 rfl harr.2 hR4 ?_; intro w9 hB9 ho9)
    refine bodyPost_ret (results_re rfl _ _ w.heap.size _ _ rfl hB9 harr.1) rfl ?_
    exact ⟨x, p4, b4, cs4, rfl, HO4.out.trans ho9 (fun i hi h => by omega), HRd4.out.only ho9 (by omega), (Hr4.out.only ho9 (fun b hb h => by have := hb.2; omega)).mono (fun b hb _ => by have := hb.2; omega), by rw [HT.out]; exact HS4.out⟩
  have hf91 : isNextR 91 ((natsOf s).drop p) = false := by simpa using hc91
  have Hf91 := Lib.hid hf91
  have HT := Lib.hid (atomP_else (f := f) Hf46.out Hf40.out Hf91.out)
  clear hc91 hf91
  refine (HN.out 46 Hf46.out _ (HRd.out)).mono ?_
  rintro e wq ⟨rfl, m0, rfl⟩
  go_wp2_with fail
  refine (HN.out 40 Hf40.out _ (HRd.out.drewN _)).mono ?_
  rintro e wq ⟨rfl, m1, rfl⟩
  go_wp2_with fail
  refine (HN.out 91 Hf91.out _ (HRd.out.drewN _)).mono ?_
  rintro e wq ⟨rfl, m2, rfl⟩
  go_wp2_with fail
  refine (one_st _ g s p hs hp (HRd.out.drewN _)).mono ?_
  rintro e w3 ⟨c, p3, b3, rfl, hc, ho3, hRd3, hS3⟩
  have HR3 := Lib.hid ((HR.out.drewN _).only ho3 (by omega))
  have HO3 : Hid (Only (fun x => x = g) w w3) := Lib.hid ((HO1.out.drewN _).trans ho3 (fun _ _ h => h))
  have HRd3 := Lib.hid hRd3
  have HS3 := Lib.hid hS3
  clear ho3 hRd3 hS3
  go_wp2_with fail
  refine (rof_any (some ⟨_, 0, none⟩) 1 1 [c] _ rfl (by simpa using hc) (by simp) (Rd.lit w3 #[.int .u8 (c : Int)] 5)).mono ?_
  rintro e w4 ⟨rfl, hb4'⟩
  have hb4 : Below w3.heap.size w3 w4 := ext_trans ((Below.refl _ _).alloc (Nat.le_refl _) _) hb4'
  have HR4 := Lib.hid (HR3.out.ext hb4)
  have HRd4 := Lib.hid (HRd3.out.ext hb4)
  have HO4 : Hid (Only (fun x => x = g) w w4) := Lib.hid (HO3.out.trans (Only.of_ext hb4) (fun _ _ h => h))
  clear hb4 hb4'
  go_wp2_with fail
  refine (rclass_any _ (ofB_ok _) _).mono ?_
  rintro e w8 ⟨cs8, rfl, hr8, hb8⟩
  have harr := reR_arr (hr8 (fun b => w.heap.size ≤ b) w8)
  have hR8 := HR4.out.ext hb8
  have HRd8 := Lib.hid (HRd4.out.ext hb8)
  have HO8 : Hid (Only (fun x => x = g) w w8) := Lib.hid (HO4.out.trans (Only.of_ext hb8) (fun _ _ h => h))
  have Hr8 := Lib.hid hr8
  clear hr8 hb8
  unfold reV
  go_wp2_with (refine wpList_store_re rfl _ _ rfl w.heap.size rfl rfl harr.1 rfl harr.2 hR8 ?_; intro w9 hB9 ho9)
  refine bodyPost_ret (results_re rfl _ _ w.heap.size _ _ rfl hB9 harr.1) rfl ?_
  exact ⟨byteE c, p3, b3, cs8, rfl, HO8.out.trans ho9 (fun i hi h => by omega), HRd8.out.only ho9 (by omega), Hr8.out (fun b => w.heap.size ≤ b) w9, by rw [HT.out]; exact HS3.out.byte⟩
end Go.Proofs.YtgknlegomoaoeaaDoor
