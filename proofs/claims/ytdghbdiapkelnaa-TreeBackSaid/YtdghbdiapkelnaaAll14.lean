/-
  Texts of this claim, joined (part 14): contracts and lemmas that the last text goes by. No statement of the seat is proved here.
-/
import Derived.Test.YtdghbdiapkelnaaAll13
import Derived.Test.YtdghbdiapkelnaaAll8
import Derived.Test.YtdghbdiapkelnaaAll12
import Derived.Deep.WholeRow
set_option linter.unusedVariables false
set_option linter.unusedSimpArgs false
/-
  What Decode (program) takes, and the tree out of a decoder's block. No statement of the seat is proved here.
-/
namespace Go.Proofs.Ytdghbdiapkelnaa
open Go Go.RowKit Go.Maps
set_option maxRecDepth 100000

/-! ### what is taken -/
def U0 : List Bool := List.replicate 64 false
def dtTo : Nat → BSt → List (List Prt) × BSt
  | 0, s => ([], s)
  | k + 1, s => ((dtTo k s).1 ++ [(tpN (dtTo k s).2).1], (tpN (dtTo k s).2).2)
def dlTo (t0 : Tr) : Nat → BSt → Tr × List Bool × BSt
  | 0, s => (t0, U0, s)
  | k + 1, s => lfN (dlTo t0 k s).1 (dlTo t0 k s).2.1 (dlTo t0 k s).2.2
def dhN (bs : List UInt8) : Nat × BSt := wiN 1 64 (bs, false)
def dT (bs : List UInt8) : List (List Prt) × BSt := dtTo ((dhN bs).1 - 1) (dhN bs).2
def dM (bs : List UInt8) : Nat × BSt := wiN 0 32 (dT bs).2
def dL (bs : List UInt8) (k : Nat) : Tr × List Bool × BSt := dlTo ⟨(dT bs).1, []⟩ k (dM bs).2
def dR (bs : List UInt8) : Tr × List Bool × BSt := dL bs (dM bs).1
def wholeB (s : BSt) : Bool := !s.2 && s.1.isEmpty
theorem dtTo_len : ∀ k s, (dtTo k s).1.length = k ∧ (dtTo k s).2.1.length ≤ s.1.length ∧ ∀ p ∈ (dtTo k s).1, p.length ≤ 64
  | 0, s => ⟨rfl, Nat.le_refl _, fun p hp => (nomatch hp)⟩
  | k + 1, s => by
    obtain ⟨h1, h2, h3⟩ := dtTo_len k s
    obtain ⟨h4, h5⟩ := tpN_len (dtTo k s).2
    refine ⟨?_, Nat.le_trans h4 h2, fun p hp => ?_⟩
    · rw [dtTo, List.length_append, h1]; rfl
    · rcases List.mem_append.1 hp with hp | hp
      · exact h3 p hp
      · rw [List.mem_singleton] at hp; subst hp; exact h5
theorem lfN_len (t : Tr) (U : List Bool) (s : BSt) : (lfN t U s).1.ts = t.ts ∧ (lfN t U s).1.lv.length = t.lv.length + 1 ∧ (lfN t U s).2.1.length = U.length ∧ (lfN t U s).2.2.1.length ≤ s.1.length := by
  have h1 := ldN_len t s
  have h2 := wiN_len 1 8 (ldN t s)
  obtain ⟨-, h4, h5⟩ := gsTo_len t (lkN s).1.1 (wiN 1 8 (ldN t s)).1 U (wiN 1 8 (ldN t s)).2
  unfold lfN
  exact ⟨rfl, by rw [List.length_append]; rfl, h4, Nat.le_trans h5 (Nat.le_trans h2 h1)⟩
theorem dlTo_len (t0 : Tr) : ∀ k s, (dlTo t0 k s).1.ts = t0.ts ∧ (dlTo t0 k s).1.lv.length = t0.lv.length + k ∧ (dlTo t0 k s).2.1.length = 64 ∧ (dlTo t0 k s).2.2.1.length ≤ s.1.length
  | 0, s => ⟨rfl, rfl, by simp [dlTo, U0], Nat.le_refl _⟩
  | k + 1, s => by
    obtain ⟨h1, h2, h3, h4⟩ := dlTo_len t0 k s
    obtain ⟨h5, h6, h7, h8⟩ := lfN_len (dlTo t0 k s).1 (dlTo t0 k s).2.1 (dlTo t0 k s).2.2
    rw [dlTo]
    exact ⟨h5.trans h1, by rw [h6, h2]; omega, h7.trans h3, Nat.le_trans h8 h4⟩
theorem dec_cells (p : Value) : Try.zeroCells102.setIfInBounds 0 p = (p :: .slice none 0 0 :: .slice none 0 0 :: .map none :: U0.map .bool).toArray := by kernel_rfl
theorem dec_size : Try.zeroCells102.size = 68 := by kernel_rfl
theorem info_dec : (Try.prog.info? 102).map (·.size) = some 68 := by kernel_rfl
section
variable {S : Nat → Prop} {w : World} {g : Nat} {t : Tr} {rp : Value} {us : List Value}
/-- a tree out of a decoder's block -/
theorem TdIn.out_ (h : TdIn rp us S w g t) : ∃ A c R d M, w.cell? ⟨g, 1, none⟩ = some (.slice A t.ts.length c) ∧ w.cell? ⟨g, 2, none⟩ = some (.slice R t.lv.length d) ∧ w.cell? ⟨g, 3, none⟩ = some (.map M) ∧
    TrIn (fun k => S k ∨ k = w.heap.size) (w.alloc (.cells #[.slice A t.ts.length c, .slice R t.lv.length d, .map M] 70)) w.heap.size t := by
  obtain ⟨A, c, xs, R, d, ys, M, h⟩ := h
  have x1 := h.blk.cell 1
  have x2 := h.blk.cell 2
  have x3 := h.blk.cell 3
  simp only [List.getElem?_toArray, List.getElem?_cons_zero, List.getElem?_cons_succ] at x1 x2 x3
  have hb : Below w.heap.size w (w.alloc (.cells #[.slice A t.ts.length c, .slice R t.lv.length d, .map M] 70)) := ext_alloc (Below.refl _ _) _
  have h2 := h.ext hb
  refine ⟨A, c, R, d, M, x1, x2, x3, A, c, xs, R, d, ys, M, ⟨Blk.new _ _ _, h2.own, h2.rows, h2.map, fun j hj => ?_, fun j hj => ?_, h2.apart, h2.okl, .inr rfl, fun k hk => .inl (h2.sA k hk), fun k hk => .inl (h2.sR k hk), fun b e => .inl (h2.sM b e), fun k hk => ?_⟩⟩
  · obtain ⟨B, e, h3, h4, h5⟩ := h2.tsAt j hj
    exact ⟨B, e, h3, h4, fun k hk => .inl (h5 k hk)⟩
  · obtain ⟨G, e, a1, a2, a3, a4, a5, a6⟩ := h2.lvAt j hj
    exact ⟨G, e, a1, a2, a3, a4, a5, fun k hk => .inl (a6 k hk)⟩
  · rw [World.size_alloc]
    rcases hk with hk | hk
    · have := h.lt k hk; omega
    · omega
theorem TdIn.sN (h : TdIn rp us S w g t) : w.cell? ⟨g, 0, none⟩ = some rp := by
  obtain ⟨A, c, xs, R, d, ys, M, h⟩ := h
  exact h.sN
theorem TdIn.lt (h : TdIn rp us S w g t) : ∀ k, S k → k < w.heap.size := by
  obtain ⟨A, c, xs, R, d, ys, M, h⟩ := h
  exact h.lt
end
theorem TdIn.born (w : World) (rp : Value) (us : List Value) : TdIn rp us (fun k => k = w.heap.size) (w.alloc (.cells (rp :: .slice none 0 0 :: .slice none 0 0 :: .map none :: us).toArray 102)) w.heap.size ⟨[], []⟩ :=
  ⟨none, 0, [], none, 0, [], none, ⟨Blk.new _ _ _, RowO.none_ _ _ _, RowO.none_ _ _ _, .inl ⟨rfl, rfl⟩, fun j hj => (nomatch hj), fun j hj => (nomatch hj), fun i j G G' n n' e e' _ hg => (nomatch hg), fun x hx => (nomatch hx), rfl, fun k hk => absurd hk (inA_none k), fun k hk => absurd hk (inA_none k), fun b e => (nomatch e), fun k hk => by rw [World.size_alloc]; omega⟩⟩
end Go.Proofs.Ytdghbdiapkelnaa

/-
  Decode (program). No statement of the seat is proved here.
-/
namespace Go.Proofs.Ytdghbdiapkelnaa
open Go Go.RowKit Go.Maps
set_option maxRecDepth 100000
set_option maxHeartbeats 16000000 in
theorem decode_any (A : Option Addr) (c : Nat) (bs : List UInt8) (w : World) (hc : bs.length ≤ c) (hA : Rd w A (bs.map bv)) (hb : bs.length ≤ 100000000) (hcnt : ∀ k, k < (dM bs).1 → (lkN (dL bs k).2.2).1.1 ≤ 1000000) :
    Calls Try.prog 27 #[.slice A bs.length c] w fun e w' => Hid (Below w.heap.size w w') ∧ ((wholeB (dR bs).2.2 = true ∧ ∃ g T, e = .returned (.tuple #[.pointer (some ⟨g, 0, none⟩), .int .i64 0]) ∧ Hid (TrIn T w' g (dR bs).1) ∧ Hid (∀ j, T j → w.heap.size ≤ j)) ∨ (wholeB (dR bs).2.2 = false ∧ e = .returned (.tuple #[.pointer none, .int .i64 2]))) := by
  have HN := Lib.hid (newreader A _ c bs w rfl hc hA (by omega))
  have hn64 := wiN_le (low := 1) (high := 64) (bs, false) (by omega)
  have hl0 := wiN_len 1 64 (bs, false)
  have HDT : Hid (dT bs = dtTo ((dhN bs).1 - 1) (dhN bs).2) := Lib.hid rfl
  have HDM : Hid (dM bs = wiN 0 32 (dT bs).2) := Lib.hid rfl
  have HDL : Hid (∀ k, dL bs k = dlTo ⟨(dT bs).1, []⟩ k (dM bs).2) := Lib.hid (fun _ => rfl)
  have HDR : Hid (dR bs = dL bs (dM bs).1) := Lib.hid rfl
  have HCn := Lib.hid hcnt
  have HH : Hid (wiN 1 64 (bs, false) = dhN bs) := Lib.hid rfl
  rw [HH.out] at hn64 hl0
  generalize dhN bs = DH at *
  obtain ⟨n, s0⟩ := DH
  dsimp only at hn64 hl0 HDT
  have hdt := dtTo_len (n - 1) s0
  rw [← HDT.out] at hdt
  have hdm := wiN_len 0 32 (dT bs).2
  have hm32 := wiN_le (low := 0) (high := 32) (dT bs).2 (by omega)
  rw [← HDM.out] at hdm hm32
  have HTl : Hid (∀ k, (dtTo k s0).1.length = k ∧ (dtTo k s0).2.1.length ≤ 100000000 ∧ ∀ p ∈ (dtTo k s0).1, p.length ≤ 64) := Lib.hid (fun k => by
    obtain ⟨h1, h2, h3⟩ := dtTo_len k s0
    exact ⟨h1, by omega, h3⟩)
  have HLl : Hid (∀ k, (dL bs k).1.ts = (dT bs).1 ∧ (dL bs k).1.lv.length = k ∧ (dL bs k).2.1.length = 64 ∧ (dL bs k).2.2.1.length ≤ 100000000) := Lib.hid (fun k => by
    rw [HDL.out]
    obtain ⟨h1, h2, h3, h4⟩ := dlTo_len ⟨(dT bs).1, []⟩ k (dM bs).2
    exact ⟨h1, by rw [h2]; simp, h3, by omega⟩)
  have HLS : Hid (∀ k, dL bs (k + 1) = lfN (dL bs k).1 (dL bs k).2.1 (dL bs k).2.2) := Lib.hid (fun k => by rw [HDL.out, HDL.out]; rfl)
  have HL0 : Hid (dL bs 0 = (⟨(dT bs).1, []⟩, U0, (dM bs).2)) := Lib.hid (by rw [HDL.out]; rfl)
  have hd63 : (dT bs).1.length ≤ 63 := by rw [hdt.1]; omega
  have Hd63 := Lib.hid hd63
  have HdT := Lib.hid hdt
  generalize dR bs = DR at *
  generalize dL bs = DLf at *
  generalize dM bs = DMv at *
  obtain ⟨m, s2⟩ := DMv
  generalize dT bs = DTv at *
  obtain ⟨tts, s1⟩ := DTv
  dsimp only at HDT HDM HDR HCn hm32 HLl HL0 Hd63 HdT
  obtain ⟨nn, hnn⟩ : ∃ nn : Int, nn = (n : Int) - 1 := ⟨_, rfl⟩
  have Hnn := Lib.hid hnn
  have hw1 : IntKind.i64.wrap ((n : Int) - 1) = nn := by rw [hnn]; exact IntWalk.i64_in _ (by omega)
  have hmi : (m : Int) ≤ 32 := hm32
  have Hb := Lib.hid hb
  have HWh : Hid (∀ (fp : Nat → Prop) (rg : Nat) (W : World), Rdr W fp rg DR.2.2.1 DR.2.2.2 → Calls Try.prog 55 #[.pointer (some ⟨rg, 0, none⟩)] W fun e w' => e = .returned (.bool (wholeB DR.2.2)) ∧ w' = W) := Lib.hid (fun fp rg W hW => by
    unfold wholeB
    cases hb : DR.2.2.2 with
    | true =>
      rw [hb] at hW
      have he : DR.2.2.1 = [] := hW.2.1 rfl
      rw [he] at hW ⊢
      exact (rwhole_bad fp rg [] W hW).mono (fun e w' ⟨h1, h2⟩ => ⟨h1, h2.symm⟩)
    | false =>
      rw [hb] at hW
      exact (rwhole fp rg _ W hW).mono (fun e w' ⟨h1, h2⟩ => ⟨h1, h2.symm⟩))
  clear hA hc hb hcnt hn64 hl0 hdt hdm hm32 hd63 hnn HDL
  go_enter Try.func27, Try.ntmps27
  go_wp2_with fail
  refine HN.out.mono ?_
  rintro e w1 ⟨rg, rfl, hr1, hb1⟩
  have Hr1 := Lib.hid hr1
  have Hb1 := Lib.hid hb1
  obtain ⟨fp, hfp⟩ : ∃ fp : Nat → Prop, fp = fun k => w.heap.size ≤ k ∧ k < w1.heap.size := ⟨_, rfl⟩
  have HFp : Hid (∀ k, fp k → k < w1.heap.size) := Lib.hid (fun k hk => by rw [hfp] at hk; exact hk.2)
  have Hrg : Hid (rg < w1.heap.size) := Lib.hid hr1.lt
  rw [← hfp] at Hr1
  have HFr : Hid (fp rg) := Lib.hid Hr1.out.1
  have Hrw : Hid (w.heap.size ≤ rg) := Lib.hid (by have := HFr.out; rw [hfp] at this; exact this.1)
  clear hr1 hb1 hfp HN
  have hst := run_storeCells_new (P := Try.prog) w1 102 Try.zeroCells102 (Try.zeroCells102.setIfInBounds 0 (.pointer (some ⟨rg, 0, none⟩))) (by rw [info_dec, Array.size_setIfInBounds, dec_size]) (by rw [Array.size_setIfInBounds]) (by rw [dec_cells]; exact all_oneCell_toArray (by intro u hu; simp only [List.mem_cons] at hu; rcases hu with rfl | rfl | rfl | rfl | hu; rfl; rfl; rfl; rfl; obtain ⟨b, _, rfl⟩ := List.mem_map.1 hu; rfl))
  rw [Array.toList_setIfInBounds, dec_cells] at hst
  have hT2 := TdIn.born w1 (.pointer (some ⟨rg, 0, none⟩)) (U0.map .bool)
  have HBb : Hid (Below w1.heap.size w1 (w1.alloc (.cells (Value.pointer (some ⟨rg, 0, none⟩) :: .slice none 0 0 :: .slice none 0 0 :: .map none :: U0.map .bool).toArray 102))) := Lib.hid (ext_alloc (Below.refl _ _) _)
  have Hsz : Hid ((w1.alloc (.cells (Value.pointer (some ⟨rg, 0, none⟩) :: .slice none 0 0 :: .slice none 0 0 :: .map none :: U0.map .bool).toArray 102)).heap.size = w1.heap.size + 1) := Lib.hid (World.size_alloc _ _)
  have HT2 := Lib.hid hT2
  clear hT2
  generalize w1.alloc (.cells (Value.pointer (some ⟨rg, 0, none⟩) :: .slice none 0 0 :: .slice none 0 0 :: .map none :: U0.map .bool).toArray 102) = w2 at *
  go_wp2_with fail
  clear hst
  have Hne : Hid (w1.heap.size ≠ rg) := Lib.hid (by have := Hrg.out; omega)
  have Hr2 := Lib.hid (Hr1.out.ext HBb.out)
  have HB2 := Lib.hid (Hb1.out.trans (HBb.out.mono (Hb1.out.size)))
  have HFq : Hid (∀ W : World, w1.heap.size ≤ W.heap.size → ∀ k, fp k → k < W.heap.size) := Lib.hid (fun W hW k hk => Nat.lt_of_lt_of_le (HFp.out k hk) hW)
  have HW1 := within_any HT2.out.sN Hne.out Hr2.out (by have := Hb.out; omega) 1 64 ⟨by omega, by omega⟩ ⟨by omega, by omega⟩
  rw [HH.out] at HW1
  have HW1 := Lib.hid HW1
  refine HW1.out.mono ?_
  rintro e w3 ⟨rfl, hr3, ho3⟩
  have Hr3 := Lib.hid hr3
  have Hs3 : Hid (w1.heap.size ≤ w3.heap.size) := Lib.hid (by have := ho3.size; have := Hsz.out; omega)
  have HT3 := Lib.hid (HT2.out.only ho3 (fun j hj hx => by have h1 := Hrg.out; omega))
  have HB3 := Lib.hid (HB2.out.trans (ho3.below (B := w.heap.size) (fun j hj => by rw [hj]; exact Hrw.out) HB2.out.size))
  clear hr3 ho3 HW1
  dsimp only
  have hdt0 := HdT.out.1
  have hk63 : n - 1 ≤ 63 := by have := Hd63.out; omega
  have hnb := Hnn.out
  have HMw : Hid (∀ (k : Nat), k ≤ n - 1 → ¬ k < n - 1 → k = n - 1) := Lib.hid (fun k h1 h2 => by omega)
  clear hdt0
  have Hnb : Hid (∀ k : Nat, k < n - 1 → (k : Int) < nn) := Lib.hid (fun k hk => by omega)
  have Hnc : Hid (∀ k : Nat, ¬ k < n - 1 → ¬ (k : Int) < nn) := Lib.hid (fun k hk => by omega)
  have Hnd : Hid (∀ k : Nat, k ≤ n - 1 → (k : Int) ≤ 63) := Lib.hid (fun k hk => by omega)
  clear hnb hk63
  go_wp2
  go_loopw [11] (fun i wr => ∃ (k : Nat) (S : Nat → Prop), k ≤ n - 1 ∧ i = .int .i64 (k : Int) ∧ Hid (TdIn (.pointer (some ⟨rg, 0, none⟩)) (U0.map .bool) S wr w1.heap.size ⟨(dtTo k s0).1, []⟩) ∧ Hid (∀ j, S j → w1.heap.size ≤ j) ∧ Hid (Rdr wr fp rg (dtTo k s0).2.1 (dtTo k s0).2.2) ∧ Hid (Below w.heap.size w wr) ∧ Hid (w1.heap.size ≤ wr.heap.size)) (fun i _ => n - (intOf i).toNat)
  case atStart => exact ⟨0, _, Nat.zero_le _, rfl, HT3, Lib.hid (fun j hj => by rw [hj]; exact Nat.le_refl _), Hr3, HB3, Hs3⟩
  case round =>
    obtain ⟨k, S, hk, rfl, HTr, HSr, HRr, HBr, Hsr⟩ := hrel
    by_cases hlt : k < n - 1
    · have hki := Hnb.out k hlt
      have hk63 := Hnd.out k hk
      have HP := dtmpl_any HTr.out.sN Hne.out HRr.out (HFq.out _ Hsr.out) (by have := (HTl.out k).2.1; omega)
      obtain ⟨tp, htp⟩ : ∃ tp, tp = tpN ((dtTo k s0).2.1, (dtTo k s0).2.2) := ⟨_, rfl⟩
      rw [← htp] at HP
      have HSn : Hid (dtTo (k + 1) s0 = ((dtTo k s0).1 ++ [tp.1], tp.2)) := Lib.hid (by rw [htp]; rfl)
      have HP := Lib.hid HP
      have Hlen := Lib.hid (HTl.out k).1
      clear htp
      obtain ⟨p, s3⟩ := tp
      go_wp2_with fail
      refine HP.out.mono ?_
      rintro e w4 ⟨A4, c4, rfl, hrow4, hn4, hr4, ho4⟩
      have HT4 := HTr.out.only ho4.out (fun j hj hx => by have h1 := Hrg.out; have h2 := HSr.out j hj; omega)
      have Hs4 : Hid (w1.heap.size ≤ w4.heap.size) := Lib.hid (Nat.le_trans Hsr.out ho4.out.size)
      have HB4 := Lib.hid (HBr.out.trans (ho4.out.below (B := w.heap.size) (fun j hj => by rw [hj]; exact Hrw.out) HBr.out.size))
      obtain ⟨A0, c0, xs0, R0, d0, ys0, M0, hT4⟩ := HT4
      have HAdd := Lib.hid (dadd_any hT4 (by dsimp only; have := Hlen.out; omega) hrow4.out)
      have HnA : Hid (∀ j, inA A4 j → w1.heap.size ≤ j) := Lib.hid (fun j hj => Nat.le_trans Hsr.out (hn4.out j hj))
      clear hT4 ho4 hrow4 hn4 HP HTr HBr HRr
      dsimp only at HAdd ⊢
      go_wp2_with fail
      refine HAdd.out.mono ?_
      rintro e w5 ⟨rfl, ⟨A1, c1, h5⟩, ho5⟩
      have HT5 := Lib.hid h5
      have Hr5 := Lib.hid (hr4.out.only ho5 (fun j hj hx => by have h1 := HFp.out j hj; have h2 := HSr.out j hx; omega))
      have Hs5 : Hid (w1.heap.size ≤ w5.heap.size) := Lib.hid (Nat.le_trans Hs4.out ho5.size)
      have HB5 := Lib.hid (HB4.out.trans (ho5.below (B := w.heap.size) (fun j hj => by have h2 := HSr.out j hj; have h3 := Hb1.out.size; omega) HB4.out.size))
      have HS5 : Hid (∀ j, grewS S w4 w5 j ∨ inA A4 j → w1.heap.size ≤ j) := Lib.hid (fun j hj => by
        rcases hj with hj | hj
        · rcases hj with hj | hj
          · exact HSr.out j hj
          · have := Hs4.out; omega
        · exact HnA.out j hj)
      obtain ⟨v16, hv16⟩ : ∃ v, v = ((dtTo k s0).1.length : Int) + 1 := ⟨_, rfl⟩
      dsimp only
      rw [← hv16]
      clear hv16 h5 ho5 hr4 HAdd
      go_wp2
      go_roundw
      case rel => exact ⟨k + 1, _, by omega, by go_num, by rw [HSn.out]; exact Lib.hid ⟨_, _, _, _, _, _, _, HT5.out⟩, HS5, by rw [HSn.out]; exact Hr5, HB5, Hs5⟩
      case measure => simp [intOf]; omega
    · have hki := Hnc.out k hlt
      have hke := HMw.out k hk hlt
      clear hk hlt
      subst hke
      rw [← HDT.out] at HTr HRr
      dsimp only at HTr HRr
      have HW2 := within_any HTr.out.sN Hne.out HRr.out (by have := HdT.out.2.1; have := Hb.out; have := (HTl.out (n - 1)).2.1; rw [← HDT.out] at this; dsimp only at this; omega) 0 32 ⟨by omega, by omega⟩ ⟨by omega, by omega⟩
      rw [← HDM.out] at HW2
      have HW2 := Lib.hid HW2
      go_wp2_with fail
      refine HW2.out.mono ?_
      rintro e w4 ⟨rfl, hr4, ho4⟩
      have Hr4 := Lib.hid hr4
      have Hs4 : Hid (w1.heap.size ≤ w4.heap.size) := Lib.hid (by have := ho4.size; have := Hsr.out; omega)
      have HT4 := Lib.hid (HTr.out.only ho4 (fun j hj hx => by have h1 := Hrg.out; have h2 := HSr.out j hj; omega))
      have HB4 := Lib.hid (HBr.out.trans (ho4.below (B := w.heap.size) (fun j hj => by rw [hj]; exact Hrw.out) HBr.out.size))
      have Hm := Lib.hid hmi
      have Hm2 : Hid (∀ k : Nat, k < m → (k : Int) < (m : Int)) := Lib.hid (fun k hk => by omega)
      have Hpl : Hid (∀ k, ∀ p ∈ (DLf k).1.ts, p.length ≤ 64) := Lib.hid (fun k p hp => by
        rw [(HLl.out k).1] at hp
        have := (HTl.out (n - 1)).2.2
        rw [← HDT.out] at this
        exact this p hp)
      clear hr4 ho4 HW2 HTr HRr hki HBr Hsr
      dsimp only
      go_wp2
      go_loopw [19] (fun i wr => ∃ (k : Nat) (S : Nat → Prop), k ≤ m ∧ i = .int .i64 (k : Int) ∧ Hid (TdIn (.pointer (some ⟨rg, 0, none⟩)) ((DLf k).2.1.map .bool) S wr w1.heap.size (DLf k).1) ∧ Hid (∀ j, S j → w1.heap.size ≤ j) ∧ Hid (Rdr wr fp rg (DLf k).2.2.1 (DLf k).2.2.2) ∧ Hid (Below w.heap.size w wr) ∧ Hid (w1.heap.size ≤ wr.heap.size)) (fun i _ => m - (intOf i).toNat)
      case atStart => exact ⟨0, _, Nat.zero_le _, rfl, by rw [HL0.out]; exact HT4, HSr, by rw [HL0.out]; exact Hr4, HB4, Hs4⟩
      case round =>
        clear HSr
        obtain ⟨k, S, hk, rfl, HTr, HSr, HRr, HBr, Hsr⟩ := hrel
        by_cases hlt : k < m
        · have hki := Hm2.out k hlt
          have hk32 : (k : Int) ≤ 32 := by have := Hm.out; omega
          have HLe := dleaf_any HTr.out (HLl.out k).2.2.1 HRr.out (fun j hj hx => by have h1 := HFp.out j hj; have h2 := HSr.out j hx; omega) (HFq.out _ Hsr.out) (by have := (HLl.out k).2.2.2; omega) (by rw [(HLl.out k).1]; exact Hd63.out) (by rw [(HLl.out k).2.1]; have := Hm.out; omega) (Hpl.out k) (HCn.out k hlt)
          have HLe := Lib.hid HLe
          have HSn := Lib.hid (HLS.out k)
          go_wp2_with fail
          refine HLe.out.mono ?_
          rintro e w5 ⟨rfl, S5, hT5, hr5, hs5, ho5⟩
          have HT5 := hT5
          have Hs5 : Hid (w1.heap.size ≤ w5.heap.size) := Lib.hid (Nat.le_trans Hsr.out ho5.out.size)
          have HB5 := Lib.hid (HBr.out.trans (ho5.out.below (B := w.heap.size) (fun j hj => by rcases hj with hj | hj; (have h2 := HSr.out j hj; have h3 := Hb1.out.size; omega); (rw [hj]; exact Hrw.out)) HBr.out.size))
          have HS5 : Hid (∀ j, S5 j → w1.heap.size ≤ j) := Lib.hid (fun j hj => by
            rcases hs5.out j hj with hj | hj
            · exact HSr.out j hj
            · have := Hsr.out; omega)
          clear HLe HTr HRr HBr Hsr ho5 hs5
          go_wp2
          go_roundw
          case rel => exact ⟨k + 1, S5, by omega, by go_num, by rw [HSn.out]; exact HT5, HS5, by rw [HSn.out]; exact hr5, HB5, Hs5⟩
          case measure => simp [intOf]; omega
        · have hke : k = m := by omega
          have hki : ¬ (k : Int) < (m : Int) := by omega
          clear hk hlt
          subst hke
          rw [← HDR.out] at HTr HRr
          have HWh' := Lib.hid (HWh.out fp rg wr HRr.out)
          have hcell := HTr.out.sN
          obtain ⟨A6, c6, R6, d6, M6, y1, y2, y3, hT6⟩ := HTr.out.out_
          have HT6 := Lib.hid hT6
          have HT6S := Lib.hid (HTr.out.lt)
          clear hT6
          go_wp2_with fail
          refine HWh'.out.mono ?_
          rintro e w6 ⟨rfl, hw6⟩
          have hw6 := hw6.symm
          subst hw6
          dsimp only
          have HSz : Hid (∀ j, S j ∨ j = wr.heap.size → w.heap.size ≤ j) := Lib.hid (fun j hj => by
            have h3 := Hb1.out.size
            rcases hj with hj | hj
            · have := HSr.out j hj; omega
            · have := Hsr.out; omega)
          have HB6 := Lib.hid (ext_alloc HBr.out (.cells #[.slice A6 DR.1.ts.length c6, .slice R6 DR.1.lv.length d6, .map M6] 70))
          cases hbo : wholeB DR.2.2 with
          | true =>
            go_wp2
            go_ret2
            exact ⟨HB6, wr.heap.size, rfl, _, HT6, HSz⟩
          | false =>
            go_wp2
            go_ret2
            exact ⟨HBr, rfl⟩
end Go.Proofs.Ytdghbdiapkelnaa

/-
  Texts stay short. No statement of the seat is proved here.
-/
namespace Go.Proofs.Ytdghbdiapkelnaa
open Go Go.RowKit Go.Maps
set_option maxRecDepth 100000

theorem tok_small {l : List Tok} (hs : sumT l l.length ≤ 6000) : ∀ x ∈ l, x.text.length ≤ 6000 := fun x hx => by
  obtain ⟨k, hk, rfl⟩ := List.getElem_of_mem hx
  have h3 := sumT_succ l k hk
  have h4 : sumT l (k + 1) ≤ sumT l l.length := sumT_mono l (k + 1)
  omega
theorem ofL_small {l : List Tok} (h : ∀ x ∈ l, x.text.length ≤ 6000) : ∀ q ∈ ofL l, q.text.length ≤ 6000 := fun q hq => by
  unfold ofL at hq
  obtain ⟨x, hx, rfl⟩ := List.mem_map.1 hq
  unfold ofT
  split
  · simp [dot]
  · exact h x hx
theorem mergeL_small : ∀ (ps : List Prt) (l : List Tok), (∀ q ∈ ps, q.text.length ≤ 6000) → ∀ q ∈ mergeL ps l, q.text.length ≤ 6000
  | [], _, _, q, hq => by simp [mergeL] at hq
  | a :: r, l, h, q, hq => by
    rw [mergeL] at hq
    rcases List.mem_cons.1 hq with rfl | hq
    · unfold merge1
      have ha := h a (List.mem_cons_self ..)
      have hd : dot.text.length ≤ 6000 := by simp [dot]
      split
      · exact hd
      · split
        · split
          · exact ha
          · exact hd
        · exact ha
    · exact mergeL_small r _ (fun q hq => h q (List.mem_cons_of_mem _ hq)) q hq
theorem keyT_small {x : Tok} (h : x.text.length ≤ 6000) : (keyT x).length ≤ 6000 := by
  unfold keyT
  split
  · exact h
  · simp
theorem keys_small {l : List Tok} (h : ∀ x ∈ l, x.text.length ≤ 6000) : (keyA l).length ≤ 6000 ∧ (keyB l).length ≤ 6000 := by
  match l with
  | [] => exact ⟨by simp [keyA], by simp [keyB]⟩
  | [a] => exact ⟨keyT_small (h a (List.mem_cons_self ..)), by simp [keyB, keyA]⟩
  | a :: b :: r => exact ⟨keyT_small (h a (List.mem_cons_self ..)), keyT_small (h b (List.mem_cons_of_mem _ (List.mem_cons_self ..)))⟩
theorem Sml.new : Sml ⟨[], []⟩ := ⟨fun p hp => (nomatch hp), fun x hx => (nomatch hx)⟩
theorem Sml.add {t : Tr} (h : Sml t) {p : List Prt} {lv : List Lf} (hp : ∀ q ∈ p, q.text.length ≤ 6000) (hl : ∀ x ∈ lv, x.a.length ≤ 6000 ∧ x.b.length ≤ 6000 ∧ x.count ≤ 64) : Sml (addT t p lv) := ⟨fun r hr q hq => by
  rcases List.mem_append.1 hr with hr | hr
  · exact h.tx r hr q hq
  · rw [List.mem_singleton] at hr; subst hr; exact hp q hq, hl⟩
theorem Sml.tmpl {t : Tr} (h : Sml t) (g : Nat) : ∀ q ∈ tmpl t g, q.text.length ≤ 6000 := fun q hq => by
  unfold Go.Proofs.Ytdghbdiapkelnaa.tmpl at hq
  split at hq
  · rw [List.mem_singleton] at hq; subst hq; simp [dot]
  · rw [List.getD_eq_getElem?_getD] at hq
    cases hx : t.ts[g - 1]? with
    | none => rw [hx] at hq; simp at hq
    | some p => rw [hx] at hq; exact h.tx p (List.mem_of_getElem? hx) q hq
theorem Sml.step {t : Tr} (h : Sml t) {l : List Tok} (hs : sumT l l.length ≤ 6000) : Sml (numT t l).1 := by
  have hx := tok_small hs
  have hk := keys_small hx
  unfold numT
  by_cases ho : overB l = true
  · rw [if_pos ho]; exact h
  · rw [if_neg ho]
    have hl := over_no ho
    cases hf : leafAt t l with
    | none =>
      simp only
      split
      · exact h
      · refine h.add (ofL_small hx) (fun x hxm => ?_)
        rcases List.mem_append.1 hxm with hxm | hxm
        · exact h.ky x hxm
        · rw [List.mem_singleton] at hxm; subst hxm; exact ⟨hk.1, hk.2, hl.2⟩
    | some i =>
      simp only
      obtain ⟨hi, e1, -, -, -⟩ := leaf_some hf
      rw [e1]
      have hki := h.ky _ (List.getElem_mem hi)
      have hset : ∀ gs, ∀ x ∈ t.lv.set i ⟨t.lv[i].count, t.lv[i].a, t.lv[i].b, gs⟩, x.a.length ≤ 6000 ∧ x.b.length ≤ 6000 ∧ x.count ≤ 64 := fun gs x hxm => by
        rcases List.mem_or_eq_of_mem_set hxm with hxm | rfl
        · exact h.ky x hxm
        · exact hki
      unfold atLeaf
      split
      · split
        · exact h
        · exact h.add (ofL_small hx) (hset _)
      · split
        · exact h
        · split
          · exact h
          · exact h.add (mergeL_small _ _ (h.tmpl _)) (hset _)
end Go.Proofs.Ytdghbdiapkelnaa

/-
  What Decode takes of a tree's own bytes: the tree (mathematics). No statement of the seat is proved here.
-/
namespace Go.Proofs.Ytdghbdiapkelnaa
open Go Go.RowKit
set_option maxRecDepth 100000

/-! ### what a tree of plain rows is -/
def okP (q : Prt) : Prop := (q.any = true → q = dot) ∧ (q.any = false → 1 ≤ q.text.length ∧ q.text.length ≤ 256)
/-- short texts; each template in one group -/
structure Pl (t : Tr) : Prop where
  pt : ∀ p ∈ t.ts, ∀ q ∈ p, okP q
  ky : ∀ x ∈ t.lv, x.a.length ≤ 256 ∧ x.b.length ≤ 256
  nd : (t.lv.flatMap Lf.gr).Nodup
theorem okP_dot : okP dot := ⟨fun _ => rfl, fun h => absurd h (by simp [dot])⟩
theorem ofL_ok {l : List Tok} (h : ∀ x ∈ l, 1 ≤ x.text.length ∧ x.text.length ≤ 256) : ∀ q ∈ ofL l, okP q := fun q hq => by
  unfold ofL at hq
  obtain ⟨x, hx, rfl⟩ := List.mem_map.1 hq
  unfold ofT
  split
  · exact okP_dot
  · exact ⟨fun h => absurd h (by simp), fun _ => h x hx⟩
theorem mergeL_ok : ∀ (ps : List Prt) (l : List Tok), (∀ q ∈ ps, okP q) → ∀ q ∈ mergeL ps l, okP q
  | [], _, _, q, hq => by simp [mergeL] at hq
  | a :: r, l, h, q, hq => by
    rw [mergeL] at hq
    rcases List.mem_cons.1 hq with rfl | hq
    · unfold merge1
      have ha := h a (List.mem_cons_self ..)
      split
      · exact okP_dot
      · split
        · split
          · exact ha
          · exact okP_dot
        · exact ha
    · exact mergeL_ok r _ (fun q hq => h q (List.mem_cons_of_mem _ hq)) q hq
theorem keyT_ok {x : Tok} (h : x.text.length ≤ 256) : (keyT x).length ≤ 256 := by
  unfold keyT
  split
  · exact h
  · simp
theorem keys_ok {l : List Tok} (h : ∀ x ∈ l, x.text.length ≤ 256) : (keyA l).length ≤ 256 ∧ (keyB l).length ≤ 256 := by
  match l with
  | [] => exact ⟨by simp [keyA], by simp [keyB]⟩
  | [a] => exact ⟨keyT_ok (h a (List.mem_cons_self ..)), by simp [keyB, keyA]⟩
  | a :: b :: r => exact ⟨keyT_ok (h a (List.mem_cons_self ..)), keyT_ok (h b (List.mem_cons_of_mem _ (List.mem_cons_self ..)))⟩
theorem Pl.new : Pl ⟨[], []⟩ := ⟨fun p hp => (nomatch hp), fun x hx => (nomatch hx), List.nodup_nil⟩
theorem Pl.tmpl {t : Tr} (h : Pl t) (g : Nat) : ∀ q ∈ tmpl t g, okP q := fun q hq => by
  unfold Go.Proofs.Ytdghbdiapkelnaa.tmpl at hq
  split at hq
  · rw [List.mem_singleton] at hq; subst hq; exact okP_dot
  · rw [List.getD_eq_getElem?_getD] at hq
    cases hx : t.ts[g - 1]? with
    | none => rw [hx] at hq; simp at hq
    | some p => rw [hx] at hq; exact h.pt p (List.mem_of_getElem? hx) q hq
theorem Pl.add {t : Tr} (h : Pl t) {p : List Prt} {lv : List Lf} (hp : ∀ q ∈ p, okP q) (hl : ∀ x ∈ lv, x.a.length ≤ 256 ∧ x.b.length ≤ 256) (hn : (lv.flatMap Lf.gr).Nodup) : Pl (addT t p lv) := ⟨fun r hr q hq => by
  rcases List.mem_append.1 hr with hr | hr
  · exact h.pt r hr q hq
  · rw [List.mem_singleton] at hr; subst hr; exact hp q hq, hl, hn⟩
/-- one row of a list of rows grows by new elements only, or loses some -/
theorem nodup_set {lv : List Lf} {i : Nat} (hi : i < lv.length) {y : Lf} {n : Nat} (h : (lv.flatMap Lf.gr).Nodup) (hy : y.gr.Nodup) (hm : ∀ g ∈ y.gr, g ∈ lv[i].gr ∨ g = n) (hn : ∀ x ∈ lv, n ∉ x.gr) : ((lv.set i y).flatMap Lf.gr).Nodup := by
  induction lv generalizing i with
  | nil => exact absurd hi (by simp)
  | cons a r ih =>
    rw [List.flatMap_cons, List.nodup_append] at h
    obtain ⟨h1, h2, h3⟩ := h
    cases i with
    | zero =>
      rw [List.set_cons_zero, List.flatMap_cons, List.nodup_append]
      refine ⟨hy, h2, fun g hg b hb => ?_⟩
      rcases hm g hg with hm | rfl
      · exact h3 g hm b hb
      · intro e
        subst e
        obtain ⟨x, hx, hgx⟩ := List.mem_flatMap.1 hb
        exact hn x (List.mem_cons_of_mem _ hx) hgx
    | succ i =>
      rw [List.set_cons_succ, List.flatMap_cons, List.nodup_append]
      refine ⟨h1, ih (by simpa using hi) h2 (fun g hg => by simpa using hm g hg) (fun x hx => hn x (List.mem_cons_of_mem _ hx)), fun g hg b hb => ?_⟩
      obtain ⟨x, hx, hbx⟩ := List.mem_flatMap.1 hb
      rcases List.mem_or_eq_of_mem_set hx with hx | rfl
      · exact h3 g hg b (List.mem_flatMap.2 ⟨x, hx, hbx⟩)
      · rcases hm b hbx with hm | rfl
        · refine h3 g hg b (List.mem_flatMap.2 ⟨_, List.getElem_mem (by simpa using hi), ?_⟩)
          simpa using hm
        · intro e
          subst e
          exact hn a (List.mem_cons_self ..) hg
theorem nodup_put {gr : List Nat} {b n : Nat} (h : gr.Nodup) (hn : n ∉ gr) : (gr.set b n).Nodup := by
  induction gr generalizing b with
  | nil => simp
  | cons a r ih =>
    rw [List.nodup_cons] at h
    rw [List.mem_cons, not_or] at hn
    cases b with
    | zero => rw [List.set_cons_zero, List.nodup_cons]; exact ⟨hn.2, h.2⟩
    | succ b =>
      rw [List.set_cons_succ, List.nodup_cons]
      refine ⟨fun hm => ?_, ih h.2 hn.2⟩
      rcases List.mem_or_eq_of_mem_set hm with hm | rfl
      · exact h.1 hm
      · exact hn.1 rfl
theorem nodup_of {lv : List Lf} (h : (lv.flatMap Lf.gr).Nodup) {x : Lf} (hx : x ∈ lv) : x.gr.Nodup := by
  induction lv with
  | nil => exact (nomatch hx)
  | cons a r ih =>
    rw [List.flatMap_cons, List.nodup_append] at h
    rcases List.mem_cons.1 hx with rfl | hx
    · exact h.1
    · exact ih h.2.1 hx
theorem Pl.step {t : Tr} (h : Pl t) (hG : Good t) {l : List Tok} (hx : ∀ x ∈ l, 1 ≤ x.text.length ∧ x.text.length ≤ 256) : Pl (numT t l).1 := by
  have hk := keys_ok (fun x hxm => (hx x hxm).2)
  have hfr : ∀ x ∈ t.lv, t.ts.length + 1 ∉ x.gr := fun x hxm hm => by
    have := ((hG.gr x hxm).2.2.2 _ hm).2.1
    omega
  unfold numT
  by_cases ho : overB l = true
  · rw [if_pos ho]; exact h
  · rw [if_neg ho]
    cases hf : leafAt t l with
    | none =>
      simp only
      split
      · exact h
      · refine h.add (ofL_ok hx) (fun x hxm => ?_) ?_
        · rcases List.mem_append.1 hxm with hxm | hxm
          · exact h.ky x hxm
          · rw [List.mem_singleton] at hxm; subst hxm; exact hk
        · rw [List.flatMap_append, List.nodup_append]
          refine ⟨h.nd, by simp, fun g hg b hb => ?_⟩
          obtain ⟨x, hxm, hgx⟩ := List.mem_flatMap.1 hg
          rw [List.flatMap_cons, List.flatMap_nil, List.append_nil, List.mem_singleton] at hb
          intro e
          rw [e, hb] at hgx
          exact hfr x hxm hgx
    | some i =>
      simp only
      obtain ⟨hi, e1, -, -, -⟩ := leaf_some hf
      rw [e1]
      have hki := h.ky _ (List.getElem_mem hi)
      have hset : ∀ gs, ∀ x ∈ t.lv.set i ⟨t.lv[i].count, t.lv[i].a, t.lv[i].b, gs⟩, x.a.length ≤ 256 ∧ x.b.length ≤ 256 := fun gs x hxm => by
        rcases List.mem_or_eq_of_mem_set hxm with hxm | rfl
        · exact h.ky x hxm
        · exact hki
      have hni := nodup_of h.nd (List.getElem_mem hi)
      have hfi := hfr _ (List.getElem_mem hi)
      unfold atLeaf
      split
      · split
        · exact h
        · refine h.add (ofL_ok hx) (hset _) (nodup_set hi h.nd ?_ (n := t.ts.length + 1) (fun g hg => ?_) hfr)
          · rw [List.nodup_append]
            refine ⟨hni, by simp, fun g hg b hb => ?_⟩
            rw [List.mem_singleton] at hb
            intro e
            rw [e, hb] at hg
            exact hfi hg
          · rcases List.mem_append.1 hg with hg | hg
            · exact .inl hg
            · rw [List.mem_singleton] at hg; exact .inr hg
      · split
        · exact h
        · split
          · exact h
          · refine h.add (mergeL_ok _ _ (h.tmpl _)) (hset _) (nodup_set hi h.nd ?_ (n := t.ts.length + 1) (fun g hg => ?_) hfr)
            · exact nodup_put hni hfi
            · exact List.mem_or_eq_of_mem_set hg

/-! ### its bytes are read back -/
theorem wiN_dig {n : Nat} {lo hi : Int} (r : List UInt8) (h1 : lo ≤ n) (h2 : (n : Int) ≤ hi) (h : n ≤ 1000000) : wiN lo hi (dig n ++ r, false) = (n, (r, false)) := by
  unfold wiN
  rw [stNum_digD n r (by omega)]
  dsimp only
  rw [if_neg (by omega)]
theorem txN_row {lo : Nat} (xs r : List UInt8) (h1 : lo ≤ xs.length) (h2 : xs.length ≤ 256) : txN lo (dig xs.length ++ xs ++ r, false) = (xs, (r, false)) := by
  unfold txN
  rw [stBytes_row xs r (by omega)]
  dsimp only
  rw [if_neg (by omega)]
theorem tp1_prt {q : Prt} (h : okP q) (r : List UInt8) : tp1 (prtB q ++ r, false) = (q, (r, false)) := by
  unfold prtB tp1
  by_cases ha : q.any = true
  · rw [if_pos ha, wiN_dig r (by decide) (by decide) (by decide), if_pos rfl, h.1 ha]
  · rw [if_neg ha]
    rw [Bool.not_eq_true] at ha
    obtain ⟨h1, h2⟩ := h.2 ha
    rw [List.append_assoc, wiN_dig _ (by decide) (by decide) (by decide), if_neg (by dsimp only; omega), txN_row q.text r h1 h2]
    obtain ⟨a, x⟩ := q
    dsimp only at ha ⊢
    rw [ha]
theorem tpTo_cons : ∀ (k : Nat) (s : BSt), tpTo (k + 1) s = ((tp1 s).1 :: (tpTo k (tp1 s).2).1, (tpTo k (tp1 s).2).2)
  | 0, s => rfl
  | k + 1, s => by
    have e := tpTo_cons k s
    rw [tpTo, e, tpTo]
    rfl
theorem tpTo_flat : ∀ (p : List Prt) (r : List UInt8), (∀ q ∈ p, okP q) → tpTo p.length (p.flatMap prtB ++ r, false) = (p, (r, false))
  | [], r, _ => rfl
  | q :: p, r, h => by
    rw [List.length_cons, tpTo_cons, List.flatMap_cons, List.append_assoc, tp1_prt (h q (List.mem_cons_self ..))]
    dsimp only
    rw [tpTo_flat p r (fun q hq => h q (List.mem_cons_of_mem _ hq))]
theorem tpN_tmp {p : List Prt} (h : ∀ q ∈ p, okP q) (hl : 1 ≤ p.length ∧ p.length ≤ 64) (r : List UInt8) : tpN (tmpB p ++ r, false) = (p, (r, false)) := by
  unfold tmpB tpN
  rw [List.append_assoc, wiN_dig _ (by omega) (by omega) (by omega)]
  exact tpTo_flat p r h
theorem dtTo_cons : ∀ (k : Nat) (s : BSt), dtTo (k + 1) s = ((tpN s).1 :: (dtTo k (tpN s).2).1, (dtTo k (tpN s).2).2)
  | 0, s => rfl
  | k + 1, s => by
    have e := dtTo_cons k s
    rw [dtTo, e, dtTo]
    rfl
theorem dtTo_flat : ∀ (ts : List (List Prt)) (r : List UInt8), (∀ p ∈ ts, (∀ q ∈ p, okP q) ∧ 1 ≤ p.length ∧ p.length ≤ 64) → dtTo ts.length (ts.flatMap tmpB ++ r, false) = (ts, (r, false))
  | [], r, _ => rfl
  | p :: ts, r, h => by
    obtain ⟨h1, h2⟩ := h p (List.mem_cons_self ..)
    rw [List.length_cons, dtTo_cons, List.flatMap_cons, List.append_assoc, tpN_tmp h1 h2]
    dsimp only
    rw [dtTo_flat ts r (fun q hq => h q (List.mem_cons_of_mem _ hq))]
/-- the flags behind some groups -/
def usd (U : List Bool) (gs : List Nat) : List Bool := gs.foldl (fun U g => U.set g true) U
theorem usd_len : ∀ (gs : List Nat) (U : List Bool), (usd U gs).length = U.length
  | [], _ => rfl
  | g :: gs, U => by
    unfold usd
    rw [List.foldl_cons]
    exact (usd_len gs _).trans (by simp)
theorem usd_snoc (U : List Bool) (gs : List Nat) (g : Nat) : usd U (gs ++ [g]) = (usd U gs).set g true := by unfold usd; rw [List.foldl_append]; rfl
theorem usd_append (U : List Bool) (a b : List Nat) : usd U (a ++ b) = usd (usd U a) b := by unfold usd; rw [List.foldl_append]
theorem usd_not {g : Nat} : ∀ (gs : List Nat) (U : List Bool), g ∉ gs → U.getD g false = false → (usd U gs).getD g false = false
  | [], _, _, h => h
  | a :: gs, U, hn, h => by
    rw [List.mem_cons, not_or] at hn
    unfold usd
    rw [List.foldl_cons]
    refine usd_not gs _ hn.2 ?_
    rw [List.getD_eq_getElem?_getD, List.getElem?_set_ne (fun e => hn.1 e.symm)]
    rw [List.getD_eq_getElem?_getD] at h
    exact h
theorem gsTo_flat (t : Tr) (parts : Nat) (U : List Bool) (gs : List Nat) (r : List UInt8) (hts : t.ts.length ≤ 63) (hg : ∀ g ∈ gs, 1 ≤ g ∧ g ≤ t.ts.length ∧ (tmpl t g).length = parts) (hn : gs.Nodup) (hu : ∀ g ∈ gs, U.getD g false = false) :
    ∀ k, k ≤ gs.length → gsTo t parts k U (gs.flatMap dig ++ r, false) = (gs.take k, usd U (gs.take k), ((gs.drop k).flatMap dig ++ r, false))
  | 0, _ => by simp [gsTo, usd]
  | k + 1, hk => by
    have ih := gsTo_flat t parts U gs r hts hg hn hu k (by omega)
    have hlt : k < gs.length := by omega
    obtain ⟨b1, b2, b3⟩ := hg _ (List.getElem_mem hlt)
    have hfl : (usd U (gs.take k)).getD gs[k] false = false := by
      refine usd_not _ _ (fun hm => ?_) (hu _ (List.getElem_mem hlt))
      obtain ⟨j, hj, e⟩ := List.getElem_of_mem hm
      rw [List.length_take] at hj
      rw [List.getElem_take] at e
      have := (List.getElem_inj hn).1 e
      omega
    have hgp : gpN t (usd U (gs.take k)) parts ((gs.drop k).flatMap dig ++ r, false) = (gs[k], ((gs.drop (k + 1)).flatMap dig ++ r, false)) := by
      unfold gpN
      rw [List.drop_eq_getElem_cons hlt, List.flatMap_cons, List.append_assoc, wiN_dig _ (by omega) (by omega) (by omega)]
      dsimp only
      rw [if_neg (by rintro (h | h); (rw [hfl] at h; exact absurd h (by simp)); exact h b3)]
    rw [gsTo, ih]
    dsimp only
    rw [hgp]
    dsimp only
    rw [take_snoc _ _ hlt, usd_snoc]
theorem lkN_lf {x : Lf} (h : x.a.length ≤ 256 ∧ x.b.length ≤ 256) (hc : x.count ≤ 64) (r : List UInt8) : lkN (dig x.count ++ (dig x.a.length ++ x.a) ++ (dig x.b.length ++ x.b) ++ r, false) = ((x.count, x.a, x.b), (r, false)) := by
  unfold lkN
  rw [List.append_assoc, List.append_assoc]
  dsimp only
  rw [stNum_digD _ _ (by omega)]
  dsimp only
  rw [txN_row x.a _ (Nat.zero_le _) h.1]
  dsimp only
  rw [txN_row x.b _ (Nat.zero_le _) h.2]
/-- one leaf -/
theorem lfN_lf (ts : List (List Prt)) (lv : List Lf) (x : Lf) (U : List Bool) (r : List UInt8) (hts : ts.length ≤ 63) (h : x.a.length ≤ 256 ∧ x.b.length ≤ 256) (hc : x.count ≤ 64) (hg1 : 1 ≤ x.gr.length ∧ x.gr.length ≤ 8) (hg : ∀ g ∈ x.gr, 1 ≤ g ∧ g ≤ ts.length ∧ (tmpl ⟨ts, lv⟩ g).length = x.count) (hn : x.gr.Nodup) (hu : ∀ g ∈ x.gr, U.getD g false = false)
    (hh : ∀ y ∈ lv, ¬ (y.count = x.count ∧ y.a = x.a ∧ y.b = x.b)) : lfN ⟨ts, lv⟩ U (lfB x ++ r, false) = (⟨ts, lv ++ [x]⟩, usd U x.gr, (r, false)) := by
  have e1 : lfB x ++ r = dig x.count ++ (dig x.a.length ++ x.a) ++ (dig x.b.length ++ x.b) ++ (dig x.gr.length ++ (x.gr.flatMap dig ++ r)) := by unfold lfB; simp only [List.append_assoc]
  have e2 := lkN_lf h hc (dig x.gr.length ++ (x.gr.flatMap dig ++ r))
  have e3 : hasK ⟨ts, lv⟩ x.count x.a x.b = false := by
    unfold hasK
    rw [List.any_eq_false]
    intro y hy hd
    rw [decide_eq_true_eq] at hd
    exact hh y hy hd
  have e4 : ldN ⟨ts, lv⟩ (lfB x ++ r, false) = (dig x.gr.length ++ (x.gr.flatMap dig ++ r), false) := by
    unfold ldN
    rw [e1, e2]
    dsimp only
    rw [e3, if_neg (by simp)]
  have e5 := gsTo_flat ⟨ts, lv⟩ x.count U x.gr r hts hg hn hu x.gr.length (Nat.le_refl _)
  rw [List.take_length, List.drop_length, List.flatMap_nil, List.nil_append] at e5
  unfold lfN
  rw [e4, wiN_dig _ (by omega) (by omega) (by omega), e1, e2]
  dsimp only
  rw [e5]
theorem take_mem {α : Type} {l : List α} {k : Nat} (h : k < l.length) {y : α} (hy : y ∈ l.take k) : ∃ (j : Nat) (hj : j < l.length), j < k ∧ l[j] = y := by
  obtain ⟨j, hj, e⟩ := List.getElem_of_mem hy
  rw [List.length_take] at hj
  rw [List.getElem_take] at e
  exact ⟨j, by omega, by omega, e⟩
theorem dlTo_flat {t : Tr} (hG : Good t) (hP : Pl t) (hS : Sml t) : ∀ k, k ≤ t.lv.length → dlTo ⟨t.ts, []⟩ k (t.lv.flatMap lfB, false) = (⟨t.ts, t.lv.take k⟩, usd U0 ((t.lv.take k).flatMap Lf.gr), ((t.lv.drop k).flatMap lfB, false))
  | 0, _ => by simp [dlTo, usd]
  | k + 1, hk => by
    have hlt : k < t.lv.length := by omega
    have hm := List.getElem_mem hlt
    obtain ⟨g1, g2, -, g4⟩ := hG.gr _ hm
    rw [dlTo, dlTo_flat hG hP hS k (by omega)]
    dsimp only
    rw [List.drop_eq_getElem_cons hlt, List.flatMap_cons, lfN_lf t.ts (t.lv.take k) t.lv[k] _ _ hG.ids (hP.ky _ hm) (hS.ky _ hm).2.2 ⟨g1, g2⟩ (fun g hg => g4 g hg) (nodup_of hP.nd hm) (fun g hg => ?_) (fun y hy => ?_)]
    · rw [take_snoc _ _ hlt, List.flatMap_append, usd_append]
      simp
    · refine usd_not _ _ (fun hx => ?_) (by unfold U0; rw [List.getD_eq_getElem?_getD, List.getElem?_replicate]; split <;> rfl)
      have hnd := hP.nd
      rw [← List.take_append_drop k t.lv, List.flatMap_append, List.nodup_append] at hnd
      refine hnd.2.2 g hx g ?_ rfl
      rw [List.drop_eq_getElem_cons hlt, List.flatMap_cons]
      exact List.mem_append.2 (.inl hg)
    · obtain ⟨j, hj, hjk, rfl⟩ := take_mem hlt hy
      exact List.pairwise_iff_getElem.1 hG.apart j k hj hlt hjk
theorem dec_back {t : Tr} (hG : Good t) (hP : Pl t) (hS : Sml t) : ∃ U, dR (treeB t) = (t, U, ([], false)) ∧ ∀ k, k < (dM (treeB t)).1 → (lkN (dL (treeB t) k).2.2).1.1 ≤ 64 := by
  have e0 : treeB t = dig (t.ts.length + 1) ++ (t.ts.flatMap tmpB ++ (dig t.lv.length ++ t.lv.flatMap lfB)) := by unfold treeB; simp only [List.append_assoc]
  have e1 : dhN (treeB t) = (t.ts.length + 1, (t.ts.flatMap tmpB ++ (dig t.lv.length ++ t.lv.flatMap lfB), false)) := by
    unfold dhN
    rw [e0]
    exact wiN_dig _ (by omega) (by have := hG.ids; omega) (by have := hG.ids; omega)
  have e2 : dT (treeB t) = (t.ts, (dig t.lv.length ++ t.lv.flatMap lfB, false)) := by
    unfold dT
    rw [e1]
    exact dtTo_flat t.ts _ (fun p hp => ⟨hP.pt p hp, hG.long p hp⟩)
  have e3 : dM (treeB t) = (t.lv.length, (t.lv.flatMap lfB, false)) := by
    unfold dM
    rw [e2]
    exact wiN_dig _ (by omega) (by have := hG.lvs; omega) (by have := hG.lvs; omega)
  have e4 : ∀ k, k ≤ t.lv.length → dL (treeB t) k = (⟨t.ts, t.lv.take k⟩, usd U0 ((t.lv.take k).flatMap Lf.gr), ((t.lv.drop k).flatMap lfB, false)) := fun k hk => by
    unfold dL
    rw [e2, e3]
    exact dlTo_flat hG hP hS k hk
  refine ⟨usd U0 (t.lv.flatMap Lf.gr), ?_, fun k hk => ?_⟩
  · unfold dR
    rw [e3, e4 _ (Nat.le_refl _), List.take_length, List.drop_length]
    rfl
  · rw [e3] at hk
    dsimp only at hk
    rw [e4 k (by omega), List.drop_eq_getElem_cons hk, List.flatMap_cons]
    have hm := List.getElem_mem hk
    have e5 : lfB t.lv[k] ++ (t.lv.drop (k + 1)).flatMap lfB = dig t.lv[k].count ++ (dig t.lv[k].a.length ++ t.lv[k].a) ++ (dig t.lv[k].b.length ++ t.lv[k].b) ++ (dig t.lv[k].gr.length ++ (t.lv[k].gr.flatMap dig ++ (t.lv.drop (k + 1)).flatMap lfB)) := by unfold lfB; simp only [List.append_assoc]
    dsimp only
    rw [e5, lkN_lf (hP.ky _ hm) (hS.ky _ hm).2.2]
    exact (hS.ky _ hm).2.2
end Go.Proofs.Ytdghbdiapkelnaa
