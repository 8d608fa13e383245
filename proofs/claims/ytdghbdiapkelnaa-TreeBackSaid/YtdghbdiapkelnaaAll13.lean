/-
  Texts of this claim, joined (part 13): contracts and lemmas that the last text goes by. No statement of the seat is proved here.
-/
import Derived.Test.YtdghbdiapkelnaaAll12
set_option linter.unusedVariables false
set_option linter.unusedSimpArgs false
/-
  A leaf that a decoder takes. No statement of the seat is proved here.
-/
namespace Go.Proofs.Ytdghbdiapkelnaa
open Go Go.RowKit Go.Maps
set_option maxRecDepth 100000

/-- groups that a leaf takes: them, the flags, what is left -/
def gsTo (t : Tr) (parts : Nat) : Nat → List Bool → BSt → List Nat × List Bool × BSt
  | 0, U, s => ([], U, s)
  | k + 1, U, s => ((gsTo t parts k U s).1 ++ [(gpN t (gsTo t parts k U s).2.1 parts (gsTo t parts k U s).2.2).1], (gsTo t parts k U s).2.1.set (gpN t (gsTo t parts k U s).2.1 parts (gsTo t parts k U s).2.2).1 true, (gpN t (gsTo t parts k U s).2.1 parts (gsTo t parts k U s).2.2).2)
theorem gsTo_len (t : Tr) (parts : Nat) : ∀ k U s, (gsTo t parts k U s).1.length = k ∧ (gsTo t parts k U s).2.1.length = U.length ∧ (gsTo t parts k U s).2.2.1.length ≤ s.1.length
  | 0, U, s => ⟨rfl, rfl, Nat.le_refl _⟩
  | k + 1, U, s => by
    obtain ⟨h1, h2, h3⟩ := gsTo_len t parts k U s
    have h4 := gpN_len t (gsTo t parts k U s).2.1 parts (gsTo t parts k U s).2.2
    refine ⟨?_, ?_, Nat.le_trans h4 h3⟩
    · rw [gsTo, List.length_append, h1]; rfl
    · rw [gsTo, List.length_set, h2]
/-- the key, and what is left -/
def lkN (s : BSt) : (Nat × List UInt8 × List UInt8) × BSt := (((stNum s.1 s.2).1, (txN 0 (stNum s.1 s.2).2).1, (txN 0 (txN 0 (stNum s.1 s.2).2).2).1), (txN 0 (txN 0 (stNum s.1 s.2).2).2).2)
/-- what is left behind the look -/
def ldN (t : Tr) (s : BSt) : BSt := if hasK t (lkN s).1.1 (lkN s).1.2.1 (lkN s).1.2.2 = true then ([], true) else (lkN s).2
/-- what 'leaf' takes: the tree, the flags, what is left -/
def lfN (t : Tr) (U : List Bool) (s : BSt) : Tr × List Bool × BSt :=
  (⟨t.ts, t.lv ++ [⟨(lkN s).1.1, (lkN s).1.2.1, (lkN s).1.2.2, (gsTo t (lkN s).1.1 (wiN 1 8 (ldN t s)).1 U (wiN 1 8 (ldN t s)).2).1⟩]⟩, (gsTo t (lkN s).1.1 (wiN 1 8 (ldN t s)).1 U (wiN 1 8 (ldN t s)).2).2)
theorem lkN_len (s : BSt) : (lkN s).2.1.length ≤ s.1.length ∧ (lkN s).1.2.1.length ≤ s.1.length ∧ (lkN s).1.2.2.length ≤ s.1.length ∧ (lkN s).1.1 ≤ 4611686018427387904 := by
  have h1 := stNum_len s.1 s.2
  have h2 := txN_len 0 (stNum s.1 s.2).2
  have h3 := txN_len 0 (txN 0 (stNum s.1 s.2).2).2
  have h4 := stNum_le s.1 s.2
  unfold lkN
  exact ⟨by dsimp only; omega, by dsimp only; omega, by dsimp only; omega, h4⟩
theorem ldN_len (t : Tr) (s : BSt) : (ldN t s).1.length ≤ s.1.length := by
  unfold ldN
  split
  · simp
  · exact (lkN_len s).1
theorem info_intD : (Try.prog.info? 3).map (fun i => (i.zero, i.size, i.bytes)) = some (some (.int .i64 0), 1, 8) := by kernel_rfl
theorem TdAt.sN {rp : Value} {us : List Value} {S : Nat → Prop} {w : World} {g : Nat} {t : Tr} {A R : Option Addr} {c d : Nat} {xs ys : List Value} {M : Option Nat} (h : TdAt rp us S w g t A c xs R d ys M) : w.cell? ⟨g, 0, none⟩ = some rp := by
  have := h.blk.cell 0
  simpa using this
section
variable {S fp : Nat → Prop} {w : World} {g rg : Nat} {t : Tr} {bs : List UInt8} {bad : Bool} {U : List Bool}
set_option maxHeartbeats 16000000 in
theorem dleaf_any (h : TdIn (.pointer (some ⟨rg, 0, none⟩)) (U.map .bool) S w g t) (hU : U.length = 64) (hr : Rdr w fp rg bs bad) (hap : ∀ k, fp k → ¬ S k) (hfp : ∀ k, fp k → k < w.heap.size) (hb : bs.length ≤ 1000000000) (hn : t.ts.length ≤ 63) (hlv : t.lv.length ≤ 1000) (hpl : ∀ p ∈ t.ts, p.length ≤ 64) (hcnt : (lkN (bs, bad)).1.1 ≤ 1000000) :
    Calls Try.prog 54 #[.pointer (some ⟨g, 0, none⟩)] w fun e w' => e = .returned (.tuple #[]) ∧ ∃ S', Hid (TdIn (.pointer (some ⟨rg, 0, none⟩)) ((lfN t U (bs, bad)).2.1.map .bool) S' w' g (lfN t U (bs, bad)).1) ∧ Hid (Rdr w' fp rg (lfN t U (bs, bad)).2.2.1 (lfN t U (bs, bad)).2.2.2) ∧ Hid (∀ k, S' k → S k ∨ w.heap.size ≤ k) ∧ Hid (Only (fun k => S k ∨ k = rg) w w') := by
  obtain ⟨A, c, xs, R, d, ys, M, h⟩ := h
  have hgr : g ≠ rg := fun e => hap rg hr.1 (by rw [← e]; exact h.sg)
  have Hgr := Lib.hid hgr
  have H := Lib.hid h
  have Hgl := Lib.hid h.blk.lt
  have Hrl := Lib.hid hr.lt
  have HSr : Hid (∀ k, S k → k ≠ rg) := Lib.hid (fun k hk e => hap rg hr.1 (by rw [← e]; exact hk))
  have HFp := Lib.hid hfp
  have Hap := Lib.hid hap
  have Hpl := Lib.hid hpl
  have hti : (t.ts.length : Int) ≤ 63 := by omega
  have Hlv := Lib.hid hlv
  have Hn := Lib.hid hn
  have hc0 := h.sN
  have HN0 : Hid (∀ W, Rdr W fp rg bs bad → Calls Try.prog 78 #[.pointer (some ⟨rg, 0, none⟩)] W fun e w' => e = .returned (.int .i64 ((stNum bs bad).1 : Int)) ∧ Rdr w' fp rg (stNum bs bad).2.1 (stNum bs bad).2.2 ∧ Only (fun k => k = rg) W w') := Lib.hid (fun W hW => rnum_st fp rg bs bad W hW (by omega))
  have HLk : Hid (lkN (bs, bad) = (((stNum bs bad).1, (txN 0 (stNum bs bad).2).1, (txN 0 (txN 0 (stNum bs bad).2).2).1), (txN 0 (txN 0 (stNum bs bad).2).2).2)) := Lib.hid rfl
  have hll := lkN_len (bs, bad)
  have hld := ldN_len t (bs, bad)
  have HLd : Hid (ldN t (bs, bad) = if hasK t (lkN (bs, bad)).1.1 (lkN (bs, bad)).1.2.1 (lkN (bs, bad)).1.2.2 = true then ([], true) else (lkN (bs, bad)).2) := Lib.hid rfl
  have HLf : Hid (lfN t U (bs, bad) = (⟨t.ts, t.lv ++ [⟨(lkN (bs, bad)).1.1, (lkN (bs, bad)).1.2.1, (lkN (bs, bad)).1.2.2, (gsTo t (lkN (bs, bad)).1.1 (wiN 1 8 (ldN t (bs, bad))).1 U (wiN 1 8 (ldN t (bs, bad))).2).1⟩]⟩, (gsTo t (lkN (bs, bad)).1.1 (wiN 1 8 (ldN t (bs, bad))).1 U (wiN 1 8 (ldN t (bs, bad))).2).2)) := Lib.hid rfl
  have hs1 := stNum_len bs bad
  have hs2 := (txN_len 0 (stNum bs bad).2).1
  generalize lfN t U (bs, bad) = LF at *
  generalize ldN t (bs, bad) = LD at *
  generalize lkN (bs, bad) = LK at *
  generalize stNum bs bad = q0 at *
  obtain ⟨n, s1⟩ := q0
  dsimp only at HN0 HLk hs1 hs2
  have HT1 : Hid (∀ W, W.cell? ⟨g, 0, none⟩ = some (.pointer (some ⟨rg, 0, none⟩)) → Rdr W fp rg s1.1 s1.2 → Calls Try.prog 80 #[.pointer (some ⟨g, 0, none⟩), .int .i64 0] W fun e w' => e = .returned (strV (txN 0 s1).1) ∧ Rdr w' fp rg (txN 0 s1).2.1 (txN 0 s1).2.2 ∧ Only (fun k => k = rg) W w') := Lib.hid (fun W h1 h2 => text_any h1 Hgr.out h2 (by omega) 0 (by omega))
  generalize txN 0 s1 = q1 at *
  obtain ⟨ka, s2⟩ := q1
  dsimp only at HT1 HLk hs2
  have HT2 : Hid (∀ W, W.cell? ⟨g, 0, none⟩ = some (.pointer (some ⟨rg, 0, none⟩)) → Rdr W fp rg s2.1 s2.2 → Calls Try.prog 80 #[.pointer (some ⟨g, 0, none⟩), .int .i64 0] W fun e w' => e = .returned (strV (txN 0 s2).1) ∧ Rdr w' fp rg (txN 0 s2).2.1 (txN 0 s2).2.2 ∧ Only (fun k => k = rg) W w') := Lib.hid (fun W h1 h2 => text_any h1 Hgr.out h2 (by omega) 0 (by omega))
  generalize txN 0 s2 = q2 at *
  obtain ⟨kb, s3⟩ := q2
  dsimp only at HT2 HLk
  have hlk := HLk.out
  subst hlk
  dsimp only at HLd HLf hll hcnt
  obtain ⟨-, hl2, hl3, hl4⟩ := hll
  have Hkey : Hid (okKey n ka kb) := Lib.hid ⟨hcnt, by omega, by omega⟩
  have hni : (n : Int) ≤ 4611686018427387904 := by omega
  have HLDl : Hid (LD.1.length ≤ 1000000000) := Lib.hid (by dsimp only at hld; omega)
  have hw8 := wiN_le (low := 1) (high := 8) LD (by omega)
  have hwl := wiN_len 1 8 LD
  have HW8 : Hid (∀ W, W.cell? ⟨g, 0, none⟩ = some (.pointer (some ⟨rg, 0, none⟩)) → Rdr W fp rg LD.1 LD.2 → Calls Try.prog 51 #[.pointer (some ⟨g, 0, none⟩), .int .i64 1, .int .i64 8] W fun e w' => e = .returned (.int .i64 ((wiN 1 8 LD).1 : Int)) ∧ Rdr w' fp rg (wiN 1 8 LD).2.1 (wiN 1 8 LD).2.2 ∧ Only (fun k => k = rg) W w') := Lib.hid (fun W h1 h2 => within_any h1 Hgr.out h2 (by have := HLDl.out; omega) 1 8 ⟨by omega, by omega⟩ ⟨by omega, by omega⟩)
  generalize wiN 1 8 LD = q3 at *
  obtain ⟨m, s4⟩ := q3
  dsimp only at HW8 HLf hw8 hwl
  have HGl : Hid (∀ k, (gsTo t n k U s4).1.length = k ∧ (gsTo t n k U s4).2.1.length = 64 ∧ (gsTo t n k U s4).2.2.1.length ≤ 1000000000) := Lib.hid (fun k => by
    obtain ⟨h1, h2, h3⟩ := gsTo_len t n k U s4
    exact ⟨h1, by omega, by have := HLDl.out; omega⟩)
  have HGr : Hid (∀ k W, k ≤ m → TdAt (.pointer (some ⟨rg, 0, none⟩)) ((gsTo t n k U s4).2.1.map .bool) S W g t A c xs R d ys M → Rdr W fp rg (gsTo t n k U s4).2.2.1 (gsTo t n k U s4).2.2.2 → Calls Try.prog 81 #[.pointer (some ⟨g, 0, none⟩), .int .i64 (n : Int)] W fun e w' => e = .returned (.int .i64 ((gpN t (gsTo t n k U s4).2.1 n (gsTo t n k U s4).2.2).1 : Int)) ∧ Hid (TdAt (.pointer (some ⟨rg, 0, none⟩)) ((gsTo t n (k + 1) U s4).2.1.map .bool) S w' g t A c xs R d ys M) ∧ Hid (Rdr w' fp rg (gsTo t n (k + 1) U s4).2.2.1 (gsTo t n (k + 1) U s4).2.2.2) ∧ Hid (Only (fun k => k = rg ∨ k = g) W w')) := Lib.hid (fun k W _ h1 h2 => dgroup_any h1 (HGl.out k).2.1 h2 Hap.out (HGl.out k).2.2 Hn.out n (by omega) Hpl.out)
  have HGs : Hid (∀ k, (gsTo t n (k + 1) U s4).1 = (gsTo t n k U s4).1 ++ [(gpN t (gsTo t n k U s4).2.1 n (gsTo t n k U s4).2.2).1]) := Lib.hid (fun k => rfl)
  have HG0 : Hid (gsTo t n 0 U s4 = ([], U, s4)) := Lib.hid rfl
  have HGle : Hid (∀ k, (gpN t (gsTo t n k U s4).2.1 n (gsTo t n k U s4).2.2).1 ≤ 63) := Lib.hid (fun k => by have := gpN_le t (gsTo t n k U s4).2.1 n (gsTo t n k U s4).2.2; omega)
  obtain ⟨GS, hGS⟩ : ∃ GS : Nat → List Nat × List Bool × BSt, GS = fun k => gsTo t n k U s4 := ⟨_, rfl⟩
  obtain ⟨GP, hGP⟩ : ∃ GP : Nat → Nat, GP = fun k => (gpN t (gsTo t n k U s4).2.1 n (gsTo t n k U s4).2.2).1 := ⟨_, rfl⟩
  have HgS : Hid (∀ k, GS k = gsTo t n k U s4) := Lib.hid (fun k => by rw [hGS])
  have HgP : Hid (∀ k, GP k = (gpN t (gsTo t n k U s4).2.1 n (gsTo t n k U s4).2.2).1) := Lib.hid (fun k => by rw [hGP])
  have HGr2 : Hid (∀ k W, k ≤ m → TdAt (.pointer (some ⟨rg, 0, none⟩)) ((GS k).2.1.map .bool) S W g t A c xs R d ys M → Rdr W fp rg (GS k).2.2.1 (GS k).2.2.2 → Calls Try.prog 81 #[.pointer (some ⟨g, 0, none⟩), .int .i64 (n : Int)] W fun e w' => e = .returned (.int .i64 (GP k : Int)) ∧ Hid (TdAt (.pointer (some ⟨rg, 0, none⟩)) ((GS (k + 1)).2.1.map .bool) S w' g t A c xs R d ys M) ∧ Hid (Rdr w' fp rg (GS (k + 1)).2.2.1 (GS (k + 1)).2.2.2) ∧ Hid (Only (fun k => k = rg ∨ k = g) W w')) := Lib.hid (fun k W hk h1 h2 => by
    rw [HgS.out k] at h1 h2
    rw [HgS.out (k + 1), HgP.out k]
    exact HGr.out k W hk h1 h2)
  have HGs2 : Hid (∀ k, (GS (k + 1)).1 = (GS k).1 ++ [GP k]) := Lib.hid (fun k => by rw [HgS.out, HgS.out, HgP.out]; exact HGs.out k)
  have HGl2 : Hid (∀ k, (GS k).1.length = k) := Lib.hid (fun k => by rw [HgS.out]; exact (HGl.out k).1)
  have HG02 : Hid (GS 0 = ([], U, s4)) := Lib.hid (by rw [HgS.out]; exact HG0.out)
  have HGP2 : Hid (∀ k, GP k ≤ 63) := Lib.hid (fun k => by rw [HgP.out]; exact HGle.out k)
  have HLf2 : Hid (LF = (⟨t.ts, t.lv ++ [⟨n, ka, kb, (GS m).1⟩]⟩, (GS m).2)) := Lib.hid (by rw [HLf.out, HgS.out])
  have hmi : (m : Int) ≤ 8 := hw8
  obtain ⟨KA, hKA, -⟩ := str_hide ka
  obtain ⟨KB, hKB, -⟩ := str_hide kb
  rw [hKA] at HT1
  rw [hKB] at HT2
  have HKA := Lib.hid hKA
  have HKB := Lib.hid hKB
  obtain ⟨w0, hw0⟩ : ∃ w0, w0 = w.alloc (.cells #[.int .i64 0, .string ⟨#[]⟩, .string ⟨#[]⟩] 94) := ⟨_, rfl⟩
  have hb0 : Below w.heap.size w w0 := by rw [hw0]; exact ext_alloc (Below.refl _ _) _
  have hB0 : Blk w0 w.heap.size 94 #[.int .i64 0, .string ⟨#[]⟩, .string ⟨#[]⟩] := by rw [hw0]; exact Blk.new _ _ _
  have HB0 := Lib.hid hB0
  have Hb0 := Lib.hid hb0
  have H0 := Lib.hid (h.ext hb0)
  have HN1 := Lib.hid (HN0.out w0 (hr.ext hb0))
  have c0 := H0.out.sN
  have Hw0 := Lib.hid hw0
  have Hz : Hid (w0.heap.size = w.heap.size + 1) := Lib.hid (by rw [hw0, World.size_alloc])
  rw [hw0] at c0
  clear h hU hr hap hfp hb hn hlv hpl hcnt hgr hc0 hld hs1 hs2 HLk HN0 hl2 hl3 hl4 hw8 hwl HGl HGr HGs HG0 HGle hGS hGP HgS HgP HLf hKA hKB hb0 hB0 hw0
  go_enter Try.func54, Try.ntmps54
  go_wp2_with fail
  rw [← Hw0.out]
  refine HN1.out.mono ?_
  rintro e w1 ⟨rfl, hr1, ho1⟩
  have hB1 := HB0.out.only ho1 (by have := Hrl.out; show ¬ w.heap.size = rg; omega)
  have k0 := hB1.cell 0
  have f0 := hB1.free 0
  have hB1' := hB1.put 0 (.int .i64 (n : Int))
  have hO1 : Only (fun k => k = w.heap.size) w1 (w1.setCell ⟨w.heap.size, 0, none⟩ (.int .i64 (n : Int))) := (Only.refl (fun k => k = w.heap.size) w1).setCell (p := ⟨w.heap.size, 0, none⟩) (.inl rfl) _
  have h1 := (H0.out.only ho1 (fun k hk hx => HSr.out k hk hx)).only hO1 (fun k hk hx => by have h2 := H.out.lt k hk; have h3 : k = w.heap.size := hx; omega)
  have hr1' := hr1.only hO1 (fun k hk hx => by have h2 := HFp.out k hk; have h3 : k = w.heap.size := hx; omega)
  simp only [List.getElem?_toArray, List.getElem?_cons_zero, List.getElem?_cons_succ, List.setIfInBounds_toArray, List.set_cons_zero, List.set_cons_succ] at k0 hB1'
  obtain ⟨w2, hw2⟩ : ∃ w2, w2 = w1.setCell ⟨w.heap.size, 0, none⟩ (.int .i64 (n : Int)) := ⟨_, rfl⟩
  have Hw2 := Lib.hid hw2
  have Ho2 : Hid (Only (fun k => k = rg) w w2) := Lib.hid (by rw [hw2]; exact ((Only.of_ext (S := fun k => k = rg) Hb0.out).trans ho1 (fun _ _ h => h)).trans hO1 (fun k hk hx => by have h3 : k = w.heap.size := hx; omega))
  rw [← hw2] at h1 hr1' hB1'
  have H2 := Lib.hid h1
  have HB2 := Lib.hid hB1'
  have HTa := Lib.hid (HT1.out w2 h1.sN hr1')
  clear hr1 ho1 hB1 hB1' hO1 h1 hr1' hw2 c0 HN1
  go_wp2_with fail
  rw [← Hw2.out]
  refine HTa.out.mono ?_
  rintro e w3 ⟨rfl, hr3, ho3⟩
  clear k0 f0 HTa
  have hB3 := HB2.out.only ho3 (by have := Hrl.out; show ¬ w.heap.size = rg; omega)
  have k0 := hB3.cell 1
  have f0 := hB3.free 1
  have hB3' := hB3.put 1 (.string KA)
  have hO3 : Only (fun k => k = w.heap.size) w3 (w3.setCell ⟨w.heap.size, 1, none⟩ (.string KA)) := (Only.refl (fun k => k = w.heap.size) w3).setCell (p := ⟨w.heap.size, 1, none⟩) (.inl rfl) _
  have h3 := (H2.out.only ho3 (fun k hk hx => HSr.out k hk hx)).only hO3 (fun k hk hx => by have h2 := H.out.lt k hk; have h3 : k = w.heap.size := hx; omega)
  have hr3' := hr3.only hO3 (fun k hk hx => by have h2 := HFp.out k hk; have h3 : k = w.heap.size := hx; omega)
  simp only [List.getElem?_toArray, List.getElem?_cons_zero, List.getElem?_cons_succ, List.setIfInBounds_toArray, List.set_cons_zero, List.set_cons_succ] at k0 hB3'
  obtain ⟨w4, hw4⟩ : ∃ x, x = w3.setCell ⟨w.heap.size, 1, none⟩ (.string KA) := ⟨_, rfl⟩
  have Hw4 := Lib.hid hw4
  have Ho4 : Hid (Only (fun k => k = rg) w w4) := Lib.hid (by rw [hw4]; exact (Ho2.out.trans ho3 (fun _ _ h => h)).trans hO3 (fun k hk hx => by have h3 : k = w.heap.size := hx; omega))
  rw [← hw4] at h3 hr3' hB3'
  have H4 := Lib.hid h3
  have HB4 := Lib.hid hB3'
  have HTb := Lib.hid (HT2.out w4 h3.sN hr3')
  clear hr3 ho3 hB3 hB3' hO3 h3 hr3' hw4
  go_wp2_with fail
  rw [← Hw4.out]
  refine HTb.out.mono ?_
  rintro e w5 ⟨rfl, hr5, ho5⟩
  clear k0 f0 HTb
  have hB3 := HB4.out.only ho5 (by have := Hrl.out; show ¬ w.heap.size = rg; omega)
  have k0 := hB3.cell 2
  have f0 := hB3.free 2
  have hB3' := hB3.put 2 (.string KB)
  have hO3 : Only (fun k => k = w.heap.size) w5 (w5.setCell ⟨w.heap.size, 2, none⟩ (.string KB)) := (Only.refl (fun k => k = w.heap.size) w5).setCell (p := ⟨w.heap.size, 2, none⟩) (.inl rfl) _
  have h3 := (H4.out.only ho5 (fun k hk hx => HSr.out k hk hx)).only hO3 (fun k hk hx => by have h2 := H.out.lt k hk; have h3 : k = w.heap.size := hx; omega)
  have hr3' := hr5.only hO3 (fun k hk hx => by have h2 := HFp.out k hk; have h3 : k = w.heap.size := hx; omega)
  simp only [List.getElem?_toArray, List.getElem?_cons_zero, List.getElem?_cons_succ, List.setIfInBounds_toArray, List.set_cons_zero, List.set_cons_succ] at k0 hB3'
  obtain ⟨w6, hw6⟩ : ∃ x, x = w5.setCell ⟨w.heap.size, 2, none⟩ (.string KB) := ⟨_, rfl⟩
  have Hw6 := Lib.hid hw6
  have Ho6 : Hid (Only (fun k => k = rg) w w6) := Lib.hid (by rw [hw6]; exact (Ho4.out.trans ho5 (fun _ _ h => h)).trans hO3 (fun k hk hx => by have h3 : k = w.heap.size := hx; omega))
  rw [← hw6] at h3 hr3' hB3'
  have H6 := Lib.hid h3
  have HB6 := Lib.hid hB3'
  have HR6 := Lib.hid hr3'
  have hfi := dfindK_any (h3.ext (w' := w6.drew) (ext_drew (Below.refl _ _))) Hlv.out n ka kb Hkey.out
  have HS6 : Hid (∀ W, Below w6.heap.size w6 W → W.cell? ⟨w.heap.size, 0, none⟩ = some (.int .i64 (n : Int)) ∧ W.cell? ⟨w.heap.size, 1, none⟩ = some (.string KA) ∧ W.cell? ⟨w.heap.size, 2, none⟩ = some (.string KB)) := Lib.hid (fun W hW => by
    have hX := hB3'.ext hW
    have x0 := hX.cell 0
    have x1 := hX.cell 1
    have x2 := hX.cell 2
    simp only [List.getElem?_toArray, List.getElem?_cons_zero, List.getElem?_cons_succ] at x0 x1 x2
    exact ⟨x0, x1, x2⟩)
  unfold keyV at hfi
  rw [HKA.out, HKB.out] at hfi
  have HFi := Lib.hid hfi
  have Hsz6 : Hid (w.heap.size < w6.heap.size) := Lib.hid hB3'.lt
  clear hr5 ho5 hB3 hB3' hO3 h3 hr3' hw6 hfi
  go_wp2
  rw [← Hw6.out]
  clear k0 f0
  refine wp_region_held_drew (S := (fun W => W.cell? ⟨w.heap.size, 0, none⟩ = some (.int .i64 (n : Int)) ∧ W.cell? ⟨w.heap.size, 1, none⟩ = some (.string KA) ∧ W.cell? ⟨w.heap.size, 2, none⟩ = some (.string KB))) (by kernel_rfl) ?_ (fun hHeld => ?_)
  · exact HS6.out _ (by repeat (first | exact Below.refl _ _ | refine ext_drewN ?_ _ | refine ext_drew ?_) : Below w6.heap.size w6 w6.drew)
  refine wpAnyH_take (i := 0) (v := ?_) (take_list rfl) (by kernel_rfl) (by kernel_rfl) (by kernel_rfl) (fun _ _ _ h => h) (Or.inl ⟨by rfl, ?_⟩) (by assumption) ?_
  rotate_left
  · intro w hSw
    try dsimp only at hSw
    first | (go_simp; done) | (go_simp; with_reducible rfl)
  try simp only [Act.put, List.setIfInBounds_toArray, List.set_cons_zero, List.set_cons_succ]
  refine wpAnyH_take (i := 1) (v := ?_) (take_list rfl) (by kernel_rfl) (by kernel_rfl) (by kernel_rfl) (fun _ _ _ h => h) (Or.inl ⟨by rfl, ?_⟩) (by assumption) ?_
  rotate_left
  · intro w hSw
    try dsimp only at hSw
    first | (go_simp; done) | (go_simp; with_reducible rfl)
  try simp only [Act.put, List.setIfInBounds_toArray, List.set_cons_zero, List.set_cons_succ]
  refine wpAnyH_take (i := 2) (v := ?_) (take_list rfl) (by kernel_rfl) (by kernel_rfl) (by kernel_rfl) (fun _ _ _ h => h) (Or.inl ⟨by rfl, ?_⟩) (by assumption) ?_
  rotate_left
  · intro w hSw
    try dsimp only at hSw
    first | (go_simp; done) | (go_simp; with_reducible rfl)
  try simp only [Act.put, List.setIfInBounds_toArray, List.set_cons_zero, List.set_cons_succ]
  refine wpAnyH_take (i := 3) (v := ?_) (take_list rfl) (by kernel_rfl) (by kernel_rfl) (by kernel_rfl) (fun _ _ _ h => h) (Or.inl ⟨by rfl, ?_⟩) (by assumption) ?_
  rotate_left
  · intro w hSw
    try dsimp only at hSw
    first | (go_simp; done) | (go_simp; with_reducible rfl)
  try simp only [Act.put, List.setIfInBounds_toArray, List.set_cons_zero, List.set_cons_succ]
  refine wpAnyH_take (i := 4) (v := ?_) (take_list rfl) (by kernel_rfl) (by kernel_rfl) (by kernel_rfl) (fun _ _ _ h => h) (Or.inl ⟨by rfl, ?_⟩) (by assumption) ?_
  rotate_left
  · intro w hSw
    try dsimp only at hSw
    first | (go_simp; done) | (go_simp; with_reducible rfl)
  try simp only [Act.put, List.setIfInBounds_toArray, List.set_cons_zero, List.set_cons_succ]
  refine wpAnyH_ready (rs := [5]) (by kernel_rfl) (by simp) ?_
  refine AllReadyH.cons (take_list rfl) (fun K hK => ?_) ?_
  · skip
    go_simp
    refine HFi.out.mono ?_
    rintro e w7 ⟨hb7, hcase⟩
    have HCase := Lib.hid hcase
    have Hb7 : Hid (Below w6.heap.size w6 w7) := Lib.hid (ext_trans (by repeat (first | exact Below.refl _ _ | refine ext_drewN ?_ _ | refine ext_drew ?_) : Below w6.heap.size w6 w6.drew) hb7)
    clear hb7 hcase
    rcases HCase.out with ⟨hk, rfl⟩ | ⟨r, hk, rfl⟩
    · refine hK.out _ _ ?_ (fun hHeld => ?_)
      · try dsimp only
        exact HS6.out _ Hb7.out
      clear hK K
      refine wpAnyH_take (i := 6) (v := ?_) (take_list rfl) (by kernel_rfl) (by kernel_rfl) (by kernel_rfl) (fun _ _ _ h => h) (Or.inl ⟨by rfl, ?_⟩) (by assumption) ?_
      rotate_left
      · intro w hSw
        try dsimp only at hSw
        first | (go_simp; done) | (go_simp; with_reducible rfl)
      try simp only [Act.put, List.setIfInBounds_toArray, List.set_cons_zero, List.set_cons_succ]
      refine wpAnyH_done (by kernel_rfl) ?_ _
      have Hk := Lib.hid hk
      clear hk
      have HLD : Hid (LD = s3) := Lib.hid (by rw [HLd.out, Hk.out]; rfl)
      have HX7 := Lib.hid (H6.out.ext Hb7.out)
      have HR7 := Lib.hid (HR6.out.ext Hb7.out)
      have Ho7 : Hid (Only (fun k => k = rg) w w7) := Lib.hid (Ho6.out.trans (Only.of_ext Hb7.out) (fun _ _ h => h))
      have Hwx : Hid (w.heap.size < w7.heap.size) := Lib.hid (World.block_lt_of_cell? w7 _ (HS6.out w7 Hb7.out).1)
      obtain ⟨a1, a2, a3⟩ := (HS6.out w7 Hb7.out)
      have HBl := Lib.hid (Blk.new w7 96 #[.int .i64 (n : Int), .string KA, .string KB, .slice none 0 0])
      have hbl : Below w7.heap.size w7 (w7.alloc (.cells #[.int .i64 (n : Int), .string KA, .string KB, .slice none 0 0] 96)) := ext_alloc (Below.refl _ _) _
      have HTl := Lib.hid (HX7.out.ext hbl)
      have HRl := Lib.hid ((HR7.out).ext hbl)
      have Hol : Hid (Only (fun k => k = rg) w (w7.alloc (.cells #[.int .i64 (n : Int), .string KA, .string KB, .slice none 0 0] 96))) := Lib.hid (Ho7.out.trans (Only.of_ext hbl) (fun _ _ h => h))
      have HKl := Lib.hid (cell_only a1 (Only.of_ext (S := fun _ => False) hbl) (fun h => h))
      have HW9 := Lib.hid (HW8.out _ HTl.out.sN (by rw [HLD.out]; exact HRl.out))
      have c9 := HTl.out.sN
      obtain ⟨lb, hlb⟩ : ∃ lb, lb = w7.heap.size := ⟨_, rfl⟩
      have Hlb := Lib.hid hlb
      rw [← hlb] at HBl
      have Hlw : Hid (w.heap.size < lb) := Lib.hid (by rw [hlb]; exact Hwx.out)
      clear hbl hlb
      go_wp2_with fail
      refine HW9.out.mono ?_
      rintro e w10 ⟨rfl, hr10, ho10⟩
      have Hr10 := Lib.hid hr10
      have hnl : ¬ lb = rg := by have := Hrl.out; have := Hlw.out; omega
      have hnk : ¬ w.heap.size = rg := by have := Hrl.out; omega
      have HB10 := Lib.hid (HBl.out.only ho10 hnl)
      have HK10 := Lib.hid (cell_only HKl.out ho10 hnk)
      have HT10 := Lib.hid (HTl.out.only ho10 (fun k hk hx => HSr.out k hk hx))
      have Ho10 : Hid (Only (fun k => k = rg ∨ k = g) w w10) := Lib.hid ((Hol.out.trans ho10 (fun _ _ h => h)).mono (fun k _ hk => .inl hk))
      clear a1 a2 a3 c9 hr10 ho10 hnl hnk HW9 HTl HRl Hol HKl HBl
      go_wp2
      rw [← Hlb.out]
      go_loopw [32] (fun i wr => ∃ (k cG : Nat) (G : Option Addr), k ≤ m ∧ i = .int .i64 (k : Int) ∧ Hid (TdAt (.pointer (some ⟨rg, 0, none⟩)) ((GS k).2.1.map .bool) S wr g t A c xs R d ys M) ∧ Hid (Rdr wr fp rg (GS k).2.2.1 (GS k).2.2.2) ∧ Hid (RowO wr 3 1 G k cG ((GS k).1.map natV)) ∧ Hid (∀ j, inA G j → lb < j) ∧ Hid (Blk wr lb 96 #[.int .i64 (n : Int), .string KA, .string KB, .slice G k cG]) ∧ Hid (wr.cell? ⟨w.heap.size, 0, none⟩ = some (.int .i64 (n : Int))) ∧ Hid (Only (fun k => k = rg ∨ k = g) w wr)) (fun i _ => m - (intOf i).toNat)
      case atStart => exact ⟨0, 0, none, Nat.zero_le _, rfl, by rw [HG02.out]; exact HT10, by rw [HG02.out]; exact Hr10, by rw [HG02.out]; exact Lib.hid (RowO.none_ _ _ _), Lib.hid (fun j hj => absurd hj (inA_none j)), HB10, HK10, Ho10⟩
      case round =>
        obtain ⟨k, cG, G, hk, rfl, HTr, HRr, HGw, HGn, HBr, HKr, Hor⟩ := hrel
        by_cases hlt : k < m
        · have hki : (k : Int) < (m : Int) := by omega
          have HGc := Lib.hid (HGr2.out k wr.drew (by omega) (HTr.out.ext (ext_drew (Below.refl _ _))) (HRr.out.ext (ext_drew (Below.refl _ _))))
          have hgle := HGP2.out k
          have hg1 : k + 1 ≤ maxLen := by unfold maxLen; omega
          have hg2 : (k + 1) * 8 ≤ 140737488355328 := by omega
          have HSn := Lib.hid (HGs2.out k)
          have hgi : (GP k : Int) ≤ 63 := by omega
          have Hlr : Hid (lb < wr.heap.size) := Lib.hid HBr.out.lt
          have Hgl : Hid (g < w.heap.size) := Lib.hid Hgl.out
          generalize GP k = gp at *
          clear hgle
          go_wp2
          refine wp_region_held_drew (S := (fun W => W.cell? ⟨w.heap.size, 0, none⟩ = some (.int .i64 (n : Int)))) (by kernel_rfl) ?_ (fun hHeld => ?_)
          · exact cell_only HKr.out (Only.of_ext (S := fun _ => False) (ext_drew (Below.refl _ _) : Below wr.heap.size wr wr.drew)) (fun h => h)
          refine wpAnyH_take (i := 0) (v := ?_) (take_list rfl) (by kernel_rfl) (by kernel_rfl) (by kernel_rfl) (fun _ _ _ h => h) (Or.inl ⟨by rfl, ?_⟩) (by assumption) ?_
          rotate_left
          · intro w hSw
            try dsimp only at hSw
            first | (go_simp; done) | (go_simp; with_reducible rfl)
          try simp only [Act.put, List.setIfInBounds_toArray, List.set_cons_zero, List.set_cons_succ]
          refine wpAnyH_take (i := 2) (v := ?_) (take_list rfl) (by kernel_rfl) (by kernel_rfl) (by kernel_rfl) (fun _ _ _ h => h) (Or.inl ⟨by rfl, ?_⟩) (by assumption) ?_
          rotate_left
          · intro w hSw
            try dsimp only at hSw
            first | (go_simp; done) | (go_simp; with_reducible rfl)
          try simp only [Act.put, List.setIfInBounds_toArray, List.set_cons_zero, List.set_cons_succ]
          refine wpAnyH_take (i := 3) (v := ?_) (take_list rfl) (by kernel_rfl) (by kernel_rfl) (by kernel_rfl) (fun _ _ _ h => h) (Or.inl ⟨by rfl, ?_⟩) (by assumption) ?_
          rotate_left
          · intro w hSw
            try dsimp only at hSw
            first | (go_simp; done) | (go_simp; with_reducible rfl)
          try simp only [Act.put, List.setIfInBounds_toArray, List.set_cons_zero, List.set_cons_succ]
          refine wpAnyH_take (i := 4) (v := ?_) (take_list rfl) (by kernel_rfl) (by kernel_rfl) (by kernel_rfl) (fun _ _ _ h => h) (Or.inl ⟨by rfl, ?_⟩) (by assumption) ?_
          rotate_left
          · intro w hSw
            try dsimp only at hSw
            first | (go_simp; done) | (go_simp; with_reducible rfl)
          try simp only [Act.put, List.setIfInBounds_toArray, List.set_cons_zero, List.set_cons_succ]
          refine wpAnyH_ready (rs := [1, 5]) (by kernel_rfl) (by simp) ?_
          refine AllReadyH.cons (take_list rfl) (fun K hK => ?_) ?_
          · skip
            have ql := (HBr.out.ext (by repeat (first | exact Below.refl _ _ | apply ext_drew | apply ext_drewN | apply ext_alloc) : Below _ _ (wr.drew))).cell 3
            simp only [List.getElem?_toArray, List.getElem?_cons_zero, List.getElem?_cons_succ] at ql
            go_simp
            clear ql
            refine hK.out _ _ ?_ (fun hHeld => ?_)
            · try dsimp only
              exact cell_only HKr.out (Only.of_ext (S := fun _ => False) (ext_drew (Below.refl _ _) : Below wr.heap.size wr wr.drew)) (fun h => h)
            clear hK K
            refine wpAnyH_ready (rs := [5]) (by kernel_rfl) (by simp) ?_
            refine AllReadyH.cons (take_list rfl) (fun K hK => ?_) ?_
            · skip
              go_simp
              refine HGc.out.mono ?_
              rintro e11 w11 ⟨rfl, hT11, hR11, ho11⟩
              dsimp only
              have hle : ¬ (lb = rg ∨ lb = g) := by have h1 := Hrl.out; have h2 := Hlw.out; have h3 := Hgl.out; omega
              have hke : ¬ (w.heap.size = rg ∨ w.heap.size = g) := by have h1 := Hrl.out; have h3 := Hgl.out; omega
              have HB11 := Lib.hid ((HBr.out.ext (w' := wr.drew) (ext_drew (Below.refl _ _))).only ho11.out hle)
              have HK11 := Lib.hid (cell_only (cell_only HKr.out (Only.of_ext (S := fun _ => False) (ext_drew (Below.refl _ _) : Below wr.heap.size wr wr.drew)) (fun h => h)) ho11.out hke)
              have HG11 := Lib.hid ((HGw.out.ext (w' := wr.drew) (ext_drew (Below.refl _ _))).only ho11.out (fun j hj hx => by have h0 := HGn.out j hj; have h1 := Hrl.out; have h2 := Hlw.out; have h3 := Hgl.out; omega))
              have Ho11 : Hid (Only (fun k => k = rg ∨ k = g) w w11) := Lib.hid ((Hor.out.trans (Only.of_ext (S := fun k => k = rg ∨ k = g) (ext_drew (Below.refl _ _) : Below wr.heap.size wr wr.drew)) (fun _ _ h => h)).trans ho11.out (fun _ _ h => h))
              have Hls : Hid (lb < w11.heap.size) := Lib.hid HB11.out.lt
              clear hle hke ho11
              refine hK.out _ _ ?_ (fun hHeld => ?_)
              · try dsimp only
                exact HK11.out
              clear hK K
              refine wpAnyH_ready (rs := [6]) (by kernel_rfl) (by simp) ?_
              refine AllReadyH.cons (take_list rfl) (fun K hK => ?_) ?_
              · skip
                go_simp
                refine hK.out _ _ ?_ (fun hHeld => ?_)
                · try dsimp only
                  exact cell_only HK11.out (Only.of_ext (S := fun _ => False) (ext_alloc (Below.refl _ _) _ : Below w11.heap.size w11 _)) (fun h => h)
                clear hK K
                refine wpAnyH_ready (rs := [7]) (by kernel_rfl) (by simp) ?_
                refine AllReadyH.cons (take_list rfl) (fun K hK => ?_) ?_
                · skip
                  refine step_appO _ rfl (.tmp 35) (.tmp 40) _ rfl 3 _ 1 8 Try.underlying82 info_intD rfl G k cG ((GS k).1.map natV) rfl (HG11.out.ext (by repeat (first | exact Below.refl _ _ | apply ext_drew | apply ext_drewN | apply ext_alloc))) (some ⟨_, 0, none⟩) 1 1 [.int .i64 (gp : Int)] rfl rfl (by repeat (first | exact Rd.lit_at _ #[.int .i64 (gp : Int)] _ (by first | rfl | (simp; done)) | apply Rd.drew | apply Rd.alloc)) (by intro u hu; simp at hu; rw [hu]; rfl) (by intro h; cases h) hg1 hg2 ?_
                  intro A5 c5 w5 hr5 ho5 hA5
                  have hbA : Below w11.heap.size w11 (w11.alloc (.cells #[.int .i64 (gp : Int)] 3)) := ext_alloc (Below.refl _ _) _
                  have hB5 := (HB11.out.ext hbA).only ho5 (fun hx => by have := HGn.out lb hx; omega)
                  have k3 := hB5.cell 3
                  have f3 := hB5.free 3
                  have hB6 := hB5.put 3 (.slice A5 (k + 1) c5)
                  have hO6 : Only (fun j => j = lb) w5 (w5.setCell ⟨lb, 3, none⟩ (.slice A5 (k + 1) c5)) := (Only.refl (fun j => j = lb) w5).setCell (p := ⟨lb, 3, none⟩) (.inl rfl) _
                  simp only [List.getElem?_toArray, List.getElem?_cons_zero, List.getElem?_cons_succ, List.setIfInBounds_toArray, List.set_cons_zero, List.set_cons_succ] at k3 hB6
                  have HB6 := Lib.hid hB6
                  have HT6 := Lib.hid (((hT11.out.ext hbA).only ho5 (fun j hj hx => by have h1 := HGn.out j hx; have h2 := H.out.lt j hj; have := Hlw.out; omega)).only hO6 (fun j hj hx => by have h2 := H.out.lt j hj; have := Hlw.out; omega))
                  have HR6 := Lib.hid (((hR11.out.ext hbA).only ho5 (fun j hj hx => by have h1 := HGn.out j hx; have h2 := HFp.out j hj; have := Hlw.out; omega)).only hO6 (fun j hj hx => by have h2 := HFp.out j hj; have := Hlw.out; omega))
                  have HG6 : Hid (RowO (w5.setCell ⟨lb, 3, none⟩ (.slice A5 (k + 1) c5)) 3 1 A5 (k + 1) c5 ((GS (k + 1)).1.map natV)) := Lib.hid (by rw [HSn.out, List.map_append]; exact hr5.only hO6 (fun j hj hx => hr5.ne_blk hB5 (by decide) (by rw [← show j = lb from hx]; exact hj)))
                  have hs5 : lb < (w11.alloc (.cells #[.int .i64 (gp : Int)] 3)).heap.size := Nat.lt_of_lt_of_le Hls.out hbA.size
                  have HA6 : Hid (∀ j, inA A5 j → lb < j) := Lib.hid (fun j hj => by
                    rcases hA5 j hj with h | h
                    · exact HGn.out j h
                    · omega)
                  have HK5 := cell_only (cell_only HK11.out (Only.of_ext (S := fun _ => False) hbA) (fun h => h)) ho5 (fun hx => by have h1 : lb < w.heap.size := HGn.out _ hx; have := Hlw.out; omega)
                  have HK6 := Lib.hid (cell_only HK5 hO6 (by have := Hlw.out; show ¬ w.heap.size = lb; omega))
                  have Ho6 : Hid (Only (fun k => k = rg ∨ k = g) w (w5.setCell ⟨lb, 3, none⟩ (.slice A5 (k + 1) c5))) := Lib.hid (((Ho11.out.trans (Only.of_ext (S := fun k => k = rg ∨ k = g) hbA) (fun _ _ h => h)).trans ho5 (fun j hj hx => by have h1 := HGn.out j hx; have := Hlw.out; omega)).trans hO6 (fun j hj hx => by have := Hlw.out; omega))
                  clear hr5 ho5 hA5 hbA hB5 hB6 hO6 hs5
                  refine hK.out _ _ ?_ (fun hHeld => ?_)
                  · try dsimp only
                    exact HK5
                  clear hK K
                  refine wpAnyH_take (i := 8) (v := ?_) (take_list rfl) (by kernel_rfl) (by kernel_rfl) (by kernel_rfl) (fun _ _ _ h => h) (Or.inl ⟨by rfl, ?_⟩) (by assumption) ?_
                  rotate_left
                  · intro w hSw
                    try dsimp only at hSw
                    first | (go_simp; done) | (go_simp; with_reducible rfl)
                  try simp only [Act.put, List.setIfInBounds_toArray, List.set_cons_zero, List.set_cons_succ]
                  refine wpAnyH_ready (rs := [9]) (by kernel_rfl) (by simp) ?_
                  refine AllReadyH.cons (take_list rfl) (fun K hK => ?_) ?_
                  · skip
                    go_simp
                    refine hK.out _ _ ?_ (fun hHeld => ?_)
                    · try dsimp only
                      exact HK6.out
                    clear hK K
                    refine wpAnyH_done (by kernel_rfl) ?_ _
                    go_wp2
                    go_roundw
                    case rel => exact ⟨k + 1, c5, A5, by omega, by go_num, HT6, HR6, HG6, HA6, HB6, HK6, Ho6⟩
                    case measure => simp [intOf]; omega
                  exact AllReadyH.nil
                exact AllReadyH.nil
              exact AllReadyH.nil
            exact AllReadyH.nil
          refine AllReadyH.cons (take_list rfl) (fun K hK => ?_) ?_
          · skip
            go_simp
            refine HGc.out.mono ?_
            rintro e11 w11 ⟨rfl, hT11, hR11, ho11⟩
            dsimp only
            have hle : ¬ (lb = rg ∨ lb = g) := by have h1 := Hrl.out; have h2 := Hlw.out; have h3 := Hgl.out; omega
            have hke : ¬ (w.heap.size = rg ∨ w.heap.size = g) := by have h1 := Hrl.out; have h3 := Hgl.out; omega
            have HB11 := Lib.hid ((HBr.out.ext (w' := wr.drew) (ext_drew (Below.refl _ _))).only ho11.out hle)
            have HK11 := Lib.hid (cell_only (cell_only HKr.out (Only.of_ext (S := fun _ => False) (ext_drew (Below.refl _ _) : Below wr.heap.size wr wr.drew)) (fun h => h)) ho11.out hke)
            have HG11 := Lib.hid ((HGw.out.ext (w' := wr.drew) (ext_drew (Below.refl _ _))).only ho11.out (fun j hj hx => by have h0 := HGn.out j hj; have h1 := Hrl.out; have h2 := Hlw.out; have h3 := Hgl.out; omega))
            have Ho11 : Hid (Only (fun k => k = rg ∨ k = g) w w11) := Lib.hid ((Hor.out.trans (Only.of_ext (S := fun k => k = rg ∨ k = g) (ext_drew (Below.refl _ _) : Below wr.heap.size wr wr.drew)) (fun _ _ h => h)).trans ho11.out (fun _ _ h => h))
            have Hls : Hid (lb < w11.heap.size) := Lib.hid HB11.out.lt
            clear hle hke ho11
            refine hK.out _ _ ?_ (fun hHeld => ?_)
            · try dsimp only
              exact HK11.out
            clear hK K
            refine wpAnyH_ready (rs := [1, 6]) (by kernel_rfl) (by simp) ?_
            refine AllReadyH.cons (take_list rfl) (fun K hK => ?_) ?_
            · skip
              have ql := (HB11.out.ext (by repeat (first | exact Below.refl _ _ | apply ext_drew | apply ext_drewN | apply ext_alloc) : Below _ _ (w11))).cell 3
              simp only [List.getElem?_toArray, List.getElem?_cons_zero, List.getElem?_cons_succ] at ql
              go_simp
              clear ql
              refine hK.out _ _ ?_ (fun hHeld => ?_)
              · try dsimp only
                exact HK11.out
              clear hK K
              refine wpAnyH_ready (rs := [6]) (by kernel_rfl) (by simp) ?_
              refine AllReadyH.cons (take_list rfl) (fun K hK => ?_) ?_
              · skip
                go_simp
                refine hK.out _ _ ?_ (fun hHeld => ?_)
                · try dsimp only
                  exact cell_only HK11.out (Only.of_ext (S := fun _ => False) (ext_alloc (Below.refl _ _) _ : Below w11.heap.size w11 _)) (fun h => h)
                clear hK K
                refine wpAnyH_ready (rs := [7]) (by kernel_rfl) (by simp) ?_
                refine AllReadyH.cons (take_list rfl) (fun K hK => ?_) ?_
                · skip
                  refine step_appO _ rfl (.tmp 35) (.tmp 40) _ rfl 3 _ 1 8 Try.underlying82 info_intD rfl G k cG ((GS k).1.map natV) rfl (HG11.out.ext (by repeat (first | exact Below.refl _ _ | apply ext_drew | apply ext_drewN | apply ext_alloc))) (some ⟨_, 0, none⟩) 1 1 [.int .i64 (gp : Int)] rfl rfl (by repeat (first | exact Rd.lit_at _ #[.int .i64 (gp : Int)] _ (by first | rfl | (simp; done)) | apply Rd.drew | apply Rd.alloc)) (by intro u hu; simp at hu; rw [hu]; rfl) (by intro h; cases h) hg1 hg2 ?_
                  intro A5 c5 w5 hr5 ho5 hA5
                  have hbA : Below w11.heap.size w11 (w11.alloc (.cells #[.int .i64 (gp : Int)] 3)) := ext_alloc (Below.refl _ _) _
                  have hB5 := (HB11.out.ext hbA).only ho5 (fun hx => by have := HGn.out lb hx; omega)
                  have k3 := hB5.cell 3
                  have f3 := hB5.free 3
                  have hB6 := hB5.put 3 (.slice A5 (k + 1) c5)
                  have hO6 : Only (fun j => j = lb) w5 (w5.setCell ⟨lb, 3, none⟩ (.slice A5 (k + 1) c5)) := (Only.refl (fun j => j = lb) w5).setCell (p := ⟨lb, 3, none⟩) (.inl rfl) _
                  simp only [List.getElem?_toArray, List.getElem?_cons_zero, List.getElem?_cons_succ, List.setIfInBounds_toArray, List.set_cons_zero, List.set_cons_succ] at k3 hB6
                  have HB6 := Lib.hid hB6
                  have HT6 := Lib.hid (((hT11.out.ext hbA).only ho5 (fun j hj hx => by have h1 := HGn.out j hx; have h2 := H.out.lt j hj; have := Hlw.out; omega)).only hO6 (fun j hj hx => by have h2 := H.out.lt j hj; have := Hlw.out; omega))
                  have HR6 := Lib.hid (((hR11.out.ext hbA).only ho5 (fun j hj hx => by have h1 := HGn.out j hx; have h2 := HFp.out j hj; have := Hlw.out; omega)).only hO6 (fun j hj hx => by have h2 := HFp.out j hj; have := Hlw.out; omega))
                  have HG6 : Hid (RowO (w5.setCell ⟨lb, 3, none⟩ (.slice A5 (k + 1) c5)) 3 1 A5 (k + 1) c5 ((GS (k + 1)).1.map natV)) := Lib.hid (by rw [HSn.out, List.map_append]; exact hr5.only hO6 (fun j hj hx => hr5.ne_blk hB5 (by decide) (by rw [← show j = lb from hx]; exact hj)))
                  have hs5 : lb < (w11.alloc (.cells #[.int .i64 (gp : Int)] 3)).heap.size := Nat.lt_of_lt_of_le Hls.out hbA.size
                  have HA6 : Hid (∀ j, inA A5 j → lb < j) := Lib.hid (fun j hj => by
                    rcases hA5 j hj with h | h
                    · exact HGn.out j h
                    · omega)
                  have HK5 := cell_only (cell_only HK11.out (Only.of_ext (S := fun _ => False) hbA) (fun h => h)) ho5 (fun hx => by have h1 : lb < w.heap.size := HGn.out _ hx; have := Hlw.out; omega)
                  have HK6 := Lib.hid (cell_only HK5 hO6 (by have := Hlw.out; show ¬ w.heap.size = lb; omega))
                  have Ho6 : Hid (Only (fun k => k = rg ∨ k = g) w (w5.setCell ⟨lb, 3, none⟩ (.slice A5 (k + 1) c5))) := Lib.hid (((Ho11.out.trans (Only.of_ext (S := fun k => k = rg ∨ k = g) hbA) (fun _ _ h => h)).trans ho5 (fun j hj hx => by have h1 := HGn.out j hx; have := Hlw.out; omega)).trans hO6 (fun j hj hx => by have := Hlw.out; omega))
                  clear hr5 ho5 hA5 hbA hB5 hB6 hO6 hs5
                  refine hK.out _ _ ?_ (fun hHeld => ?_)
                  · try dsimp only
                    exact HK5
                  clear hK K
                  refine wpAnyH_take (i := 8) (v := ?_) (take_list rfl) (by kernel_rfl) (by kernel_rfl) (by kernel_rfl) (fun _ _ _ h => h) (Or.inl ⟨by rfl, ?_⟩) (by assumption) ?_
                  rotate_left
                  · intro w hSw
                    try dsimp only at hSw
                    first | (go_simp; done) | (go_simp; with_reducible rfl)
                  try simp only [Act.put, List.setIfInBounds_toArray, List.set_cons_zero, List.set_cons_succ]
                  refine wpAnyH_ready (rs := [9]) (by kernel_rfl) (by simp) ?_
                  refine AllReadyH.cons (take_list rfl) (fun K hK => ?_) ?_
                  · skip
                    go_simp
                    refine hK.out _ _ ?_ (fun hHeld => ?_)
                    · try dsimp only
                      exact HK6.out
                    clear hK K
                    refine wpAnyH_done (by kernel_rfl) ?_ _
                    go_wp2
                    go_roundw
                    case rel => exact ⟨k + 1, c5, A5, by omega, by go_num, HT6, HR6, HG6, HA6, HB6, HK6, Ho6⟩
                    case measure => simp [intOf]; omega
                  exact AllReadyH.nil
                exact AllReadyH.nil
              exact AllReadyH.nil
            refine AllReadyH.cons (take_list rfl) (fun K hK => ?_) ?_
            · skip
              go_simp
              refine hK.out _ _ ?_ (fun hHeld => ?_)
              · try dsimp only
                exact cell_only HK11.out (Only.of_ext (S := fun _ => False) (ext_alloc (Below.refl _ _) _ : Below w11.heap.size w11 _)) (fun h => h)
              clear hK K
              refine wpAnyH_ready (rs := [1]) (by kernel_rfl) (by simp) ?_
              refine AllReadyH.cons (take_list rfl) (fun K hK => ?_) ?_
              · skip
                have ql := (HB11.out.ext (by repeat (first | exact Below.refl _ _ | apply ext_drew | apply ext_drewN | apply ext_alloc) : Below _ _ (w11.alloc (.cells #[.int .i64 (gp : Int)] 3)))).cell 3
                simp only [List.getElem?_toArray, List.getElem?_cons_zero, List.getElem?_cons_succ] at ql
                go_simp
                clear ql
                refine hK.out _ _ ?_ (fun hHeld => ?_)
                · try dsimp only
                  exact cell_only HK11.out (Only.of_ext (S := fun _ => False) (ext_alloc (Below.refl _ _) _ : Below w11.heap.size w11 _)) (fun h => h)
                clear hK K
                refine wpAnyH_ready (rs := [7]) (by kernel_rfl) (by simp) ?_
                refine AllReadyH.cons (take_list rfl) (fun K hK => ?_) ?_
                · skip
                  refine step_appO _ rfl (.tmp 35) (.tmp 40) _ rfl 3 _ 1 8 Try.underlying82 info_intD rfl G k cG ((GS k).1.map natV) rfl (HG11.out.ext (by repeat (first | exact Below.refl _ _ | apply ext_drew | apply ext_drewN | apply ext_alloc))) (some ⟨_, 0, none⟩) 1 1 [.int .i64 (gp : Int)] rfl rfl (by repeat (first | exact Rd.lit_at _ #[.int .i64 (gp : Int)] _ (by first | rfl | (simp; done)) | apply Rd.drew | apply Rd.alloc)) (by intro u hu; simp at hu; rw [hu]; rfl) (by intro h; cases h) hg1 hg2 ?_
                  intro A5 c5 w5 hr5 ho5 hA5
                  have hbA : Below w11.heap.size w11 (w11.alloc (.cells #[.int .i64 (gp : Int)] 3)) := ext_alloc (Below.refl _ _) _
                  have hB5 := (HB11.out.ext hbA).only ho5 (fun hx => by have := HGn.out lb hx; omega)
                  have k3 := hB5.cell 3
                  have f3 := hB5.free 3
                  have hB6 := hB5.put 3 (.slice A5 (k + 1) c5)
                  have hO6 : Only (fun j => j = lb) w5 (w5.setCell ⟨lb, 3, none⟩ (.slice A5 (k + 1) c5)) := (Only.refl (fun j => j = lb) w5).setCell (p := ⟨lb, 3, none⟩) (.inl rfl) _
                  simp only [List.getElem?_toArray, List.getElem?_cons_zero, List.getElem?_cons_succ, List.setIfInBounds_toArray, List.set_cons_zero, List.set_cons_succ] at k3 hB6
                  have HB6 := Lib.hid hB6
                  have HT6 := Lib.hid (((hT11.out.ext hbA).only ho5 (fun j hj hx => by have h1 := HGn.out j hx; have h2 := H.out.lt j hj; have := Hlw.out; omega)).only hO6 (fun j hj hx => by have h2 := H.out.lt j hj; have := Hlw.out; omega))
                  have HR6 := Lib.hid (((hR11.out.ext hbA).only ho5 (fun j hj hx => by have h1 := HGn.out j hx; have h2 := HFp.out j hj; have := Hlw.out; omega)).only hO6 (fun j hj hx => by have h2 := HFp.out j hj; have := Hlw.out; omega))
                  have HG6 : Hid (RowO (w5.setCell ⟨lb, 3, none⟩ (.slice A5 (k + 1) c5)) 3 1 A5 (k + 1) c5 ((GS (k + 1)).1.map natV)) := Lib.hid (by rw [HSn.out, List.map_append]; exact hr5.only hO6 (fun j hj hx => hr5.ne_blk hB5 (by decide) (by rw [← show j = lb from hx]; exact hj)))
                  have hs5 : lb < (w11.alloc (.cells #[.int .i64 (gp : Int)] 3)).heap.size := Nat.lt_of_lt_of_le Hls.out hbA.size
                  have HA6 : Hid (∀ j, inA A5 j → lb < j) := Lib.hid (fun j hj => by
                    rcases hA5 j hj with h | h
                    · exact HGn.out j h
                    · omega)
                  have HK5 := cell_only (cell_only HK11.out (Only.of_ext (S := fun _ => False) hbA) (fun h => h)) ho5 (fun hx => by have h1 : lb < w.heap.size := HGn.out _ hx; have := Hlw.out; omega)
                  have HK6 := Lib.hid (cell_only HK5 hO6 (by have := Hlw.out; show ¬ w.heap.size = lb; omega))
                  have Ho6 : Hid (Only (fun k => k = rg ∨ k = g) w (w5.setCell ⟨lb, 3, none⟩ (.slice A5 (k + 1) c5))) := Lib.hid (((Ho11.out.trans (Only.of_ext (S := fun k => k = rg ∨ k = g) hbA) (fun _ _ h => h)).trans ho5 (fun j hj hx => by have h1 := HGn.out j hx; have := Hlw.out; omega)).trans hO6 (fun j hj hx => by have := Hlw.out; omega))
                  clear hr5 ho5 hA5 hbA hB5 hB6 hO6 hs5
                  refine hK.out _ _ ?_ (fun hHeld => ?_)
                  · try dsimp only
                    exact HK5
                  clear hK K
                  refine wpAnyH_take (i := 8) (v := ?_) (take_list rfl) (by kernel_rfl) (by kernel_rfl) (by kernel_rfl) (fun _ _ _ h => h) (Or.inl ⟨by rfl, ?_⟩) (by assumption) ?_
                  rotate_left
                  · intro w hSw
                    try dsimp only at hSw
                    first | (go_simp; done) | (go_simp; with_reducible rfl)
                  try simp only [Act.put, List.setIfInBounds_toArray, List.set_cons_zero, List.set_cons_succ]
                  refine wpAnyH_ready (rs := [9]) (by kernel_rfl) (by simp) ?_
                  refine AllReadyH.cons (take_list rfl) (fun K hK => ?_) ?_
                  · skip
                    go_simp
                    refine hK.out _ _ ?_ (fun hHeld => ?_)
                    · try dsimp only
                      exact HK6.out
                    clear hK K
                    refine wpAnyH_done (by kernel_rfl) ?_ _
                    go_wp2
                    go_roundw
                    case rel => exact ⟨k + 1, c5, A5, by omega, by go_num, HT6, HR6, HG6, HA6, HB6, HK6, Ho6⟩
                    case measure => simp [intOf]; omega
                  exact AllReadyH.nil
                exact AllReadyH.nil
              exact AllReadyH.nil
            exact AllReadyH.nil
          exact AllReadyH.nil
        · obtain rfl : k = m := by omega
          have HTd := Lib.hid (HTr.out.ext (w' := wr.drew) (ext_drew (Below.refl _ _)))
          have hgk : (GS k).1.length = k := HGl2.out k
          have hgr := dgrow_any HTd.out Hlv.out (⟨n, ka, kb, (GS k).1⟩ : Lf) Hkey.out (G := G) (e := cG) (by show RowO wr.drew _ 1 G (GS k).1.length cG _; rw [hgk]; exact HGw.out.ext (ext_drew (Below.refl _ _))) (fun j hj hx => by have h1 := HGn.out j hj; have h2 := H.out.lt j hx; have := Hlw.out; omega)
          unfold lfV natV at hgr
          dsimp only at hgr
          rw [HKA.out, HKB.out, hgk] at hgr
          have HGw2 := Lib.hid hgr
          have HCl : Hid (∀ W, Below wr.heap.size wr W → W.cell? ⟨lb, 0, none⟩ = some (.int .i64 (n : Int)) ∧ W.cell? ⟨lb, 1, none⟩ = some (.string KA) ∧ W.cell? ⟨lb, 2, none⟩ = some (.string KB) ∧ W.cell? ⟨lb, 3, none⟩ = some (.slice G k cG)) := Lib.hid (fun W hW => by
            have hX := HBr.out.ext hW
            have x0 := hX.cell 0
            have x1 := hX.cell 1
            have x2 := hX.cell 2
            have x3 := hX.cell 3
            simp only [List.getElem?_toArray, List.getElem?_cons_zero, List.getElem?_cons_succ] at x0 x1 x2 x3
            exact ⟨x0, x1, x2, x3⟩)
          have Hlr : Hid (lb < wr.heap.size) := Lib.hid HBr.out.lt
          clear hgr hgk
          go_wp2
          refine wp_region_held_drew (S := (fun W => W.cell? ⟨lb, 0, none⟩ = some (.int .i64 (n : Int)) ∧ W.cell? ⟨lb, 1, none⟩ = some (.string KA) ∧ W.cell? ⟨lb, 2, none⟩ = some (.string KB) ∧ W.cell? ⟨lb, 3, none⟩ = some (.slice G k cG))) (by kernel_rfl) ?_ (fun hHeld => ?_)
          · exact HCl.out _ (ext_drew (Below.refl _ _))
          refine wpAnyH_take (i := 0) (v := ?_) (take_list rfl) (by kernel_rfl) (by kernel_rfl) (by kernel_rfl) (fun _ _ _ h => h) (Or.inl ⟨by rfl, ?_⟩) (by assumption) ?_
          rotate_left
          · intro w hSw
            try dsimp only at hSw
            first | (go_simp; done) | (go_simp; with_reducible rfl)
          try simp only [Act.put, List.setIfInBounds_toArray, List.set_cons_zero, List.set_cons_succ]
          refine wpAnyH_take (i := 1) (v := ?_) (take_list rfl) (by kernel_rfl) (by kernel_rfl) (by kernel_rfl) (fun _ _ _ h => h) (Or.inl ⟨by rfl, ?_⟩) (by assumption) ?_
          rotate_left
          · intro w hSw
            try dsimp only at hSw
            first | (go_simp; done) | (go_simp; with_reducible rfl)
          try simp only [Act.put, List.setIfInBounds_toArray, List.set_cons_zero, List.set_cons_succ]
          refine wpAnyH_take (i := 2) (v := ?_) (take_list rfl) (by kernel_rfl) (by kernel_rfl) (by kernel_rfl) (fun _ _ _ h => h) (Or.inl ⟨by rfl, ?_⟩) (by assumption) ?_
          rotate_left
          · intro w hSw
            try dsimp only at hSw
            first | (go_simp; done) | (go_simp; with_reducible rfl)
          try simp only [Act.put, List.setIfInBounds_toArray, List.set_cons_zero, List.set_cons_succ]
          refine wpAnyH_take (i := 3) (v := ?_) (take_list rfl) (by kernel_rfl) (by kernel_rfl) (by kernel_rfl) (fun _ _ _ h => h) (Or.inl ⟨by rfl, ?_⟩) (by assumption) ?_
          rotate_left
          · intro w hSw
            try dsimp only at hSw
            first | (go_simp; done) | (go_simp; with_reducible rfl)
          try simp only [Act.put, List.setIfInBounds_toArray, List.set_cons_zero, List.set_cons_succ]
          refine wpAnyH_take (i := 4) (v := ?_) (take_list rfl) (by kernel_rfl) (by kernel_rfl) (by kernel_rfl) (fun _ _ _ h => h) (Or.inl ⟨by rfl, ?_⟩) (by assumption) ?_
          rotate_left
          · intro w hSw
            try dsimp only at hSw
            first | (go_simp; done) | (go_simp; with_reducible rfl)
          try simp only [Act.put, List.setIfInBounds_toArray, List.set_cons_zero, List.set_cons_succ]
          refine wpAnyH_ready (rs := [5]) (by kernel_rfl) (by simp) ?_
          refine AllReadyH.cons (take_list rfl) (fun K hK => ?_) ?_
          · skip
            go_simp
            refine HGw2.out.mono ?_
            rintro e12 w12 ⟨rfl, ⟨R6, d6, ys6, b6, h12⟩, ho12⟩
            dsimp only
            have H12 := Lib.hid h12
            have Ho12 := Lib.hid ho12
            have hns : ¬ S lb := fun hx => by have h1 := H.out.lt lb hx; have := Hlw.out; omega
            obtain ⟨z0, z1, z2, z3⟩ := HCl.out wr.drew (ext_drew (Below.refl _ _))
            have hs12 : w12.cell? ⟨lb, 0, none⟩ = some (.int .i64 (n : Int)) ∧ w12.cell? ⟨lb, 1, none⟩ = some (.string KA) ∧ w12.cell? ⟨lb, 2, none⟩ = some (.string KB) ∧ w12.cell? ⟨lb, 3, none⟩ = some (.slice G k cG) := ⟨cell_only z0 ho12 hns, cell_only z1 ho12 hns, cell_only z2 ho12 hns, cell_only z3 ho12 hns⟩
            clear h12 ho12 hns z0 z1 z2 z3
            refine hK.out _ _ ?_ (fun hHeld => ?_)
            · try dsimp only
              exact hs12
            clear hK K
            refine wpAnyH_done (by kernel_rfl) ?_ _
            go_wp2
            go_end0
            have hrd : Rdr w12 fp rg (GS k).2.2.1 (GS k).2.2.2 := (HRr.out.ext (w' := wr.drew) (ext_drew (Below.refl _ _))).only Ho12.out (fun j hj hx => Hap.out j hj hx)
            have hoA : Only (fun k => S k ∨ k = rg) w wr.drew := (Hor.out.mono (fun j _ hj => by rcases hj with rfl | rfl; exact .inr rfl; exact .inl H.out.sg)).trans (Only.of_ext (ext_drew (Below.refl _ _))) (fun _ _ h => h)
            have hsz : w.heap.size ≤ wr.heap.size := Hor.out.size
            rw [HLf2.out]
            exact ⟨rfl, _, Lib.hid ⟨_, _, _, _, _, _, _, H12.out⟩, Lib.hid hrd, Lib.hid (fun j hj => by
              rcases hj with (hj | hj) | hj
              · exact .inl hj
              · exact .inr (Nat.le_trans hsz hj.1)
              · exact .inr (by have := HGn.out j hj; have := Hlw.out; omega)), Lib.hid (hoA.trans Ho12.out (fun j _ hj => .inl hj))⟩
          exact AllReadyH.nil
    · refine hK.out _ _ ?_ (fun hHeld => ?_)
      · try dsimp only
        exact HS6.out _ Hb7.out
      clear hK K
      refine wpAnyH_take (i := 6) (v := ?_) (take_list rfl) (by kernel_rfl) (by kernel_rfl) (by kernel_rfl) (fun _ _ _ h => h) (Or.inl ⟨by rfl, ?_⟩) (by assumption) ?_
      rotate_left
      · intro w hSw
        try dsimp only at hSw
        first | (go_simp; done) | (go_simp; with_reducible rfl)
      try simp only [Act.put, List.setIfInBounds_toArray, List.set_cons_zero, List.set_cons_succ]
      refine wpAnyH_done (by kernel_rfl) ?_ _
      have Hk := Lib.hid hk
      clear hk
      have HLD : Hid (LD = ([], true)) := Lib.hid (by rw [HLd.out, Hk.out]; rfl)
      have HX7 := Lib.hid (H6.out.ext Hb7.out)
      have HR7 := Lib.hid (HR6.out.ext Hb7.out)
      have Ho7 : Hid (Only (fun k => k = rg) w w7) := Lib.hid (Ho6.out.trans (Only.of_ext Hb7.out) (fun _ _ h => h))
      have HB := Lib.hid (rbad fp rg _ _ w7 HR7.out)
      have c7 := HX7.out.sN
      go_wp2_with fail
      refine HB.out.mono ?_
      rintro e w8 ⟨rfl, hr8, ho8⟩
      have HX8 := Lib.hid (HX7.out.only ho8 (fun k hk hx => HSr.out k hk hx))
      have HR8 := Lib.hid hr8
      have Ho8 : Hid (Only (fun k => k = rg) w w8) := Lib.hid (Ho7.out.trans ho8 (fun _ _ h => h))
      have HS8 : Hid (w8.cell? ⟨w.heap.size, 0, none⟩ = some (.int .i64 (n : Int)) ∧ w8.cell? ⟨w.heap.size, 1, none⟩ = some (.string KA) ∧ w8.cell? ⟨w.heap.size, 2, none⟩ = some (.string KB)) := Lib.hid (by
        obtain ⟨a1, a2, a3⟩ := HS6.out w7 Hb7.out
        have hne : ¬ w.heap.size = rg := by have := Hrl.out; omega
        exact ⟨cell_only a1 ho8 hne, cell_only a2 ho8 hne, cell_only a3 ho8 hne⟩)
      clear c7 hr8 ho8 HB
      have Hwx : Hid (w.heap.size < w8.heap.size) := Lib.hid (World.block_lt_of_cell? w8 _ HS8.out.1)
      obtain ⟨a1, a2, a3⟩ := HS8.out
      have HBl := Lib.hid (Blk.new w8 96 #[.int .i64 (n : Int), .string KA, .string KB, .slice none 0 0])
      have hbl : Below w8.heap.size w8 (w8.alloc (.cells #[.int .i64 (n : Int), .string KA, .string KB, .slice none 0 0] 96)) := ext_alloc (Below.refl _ _) _
      have HTl := Lib.hid (HX8.out.ext hbl)
      have HRl := Lib.hid ((HR8.out).ext hbl)
      have Hol : Hid (Only (fun k => k = rg) w (w8.alloc (.cells #[.int .i64 (n : Int), .string KA, .string KB, .slice none 0 0] 96))) := Lib.hid (Ho8.out.trans (Only.of_ext hbl) (fun _ _ h => h))
      have HKl := Lib.hid (cell_only a1 (Only.of_ext (S := fun _ => False) hbl) (fun h => h))
      have HW9 := Lib.hid (HW8.out _ HTl.out.sN (by rw [HLD.out]; exact HRl.out))
      have c9 := HTl.out.sN
      obtain ⟨lb, hlb⟩ : ∃ lb, lb = w8.heap.size := ⟨_, rfl⟩
      have Hlb := Lib.hid hlb
      rw [← hlb] at HBl
      have Hlw : Hid (w.heap.size < lb) := Lib.hid (by rw [hlb]; exact Hwx.out)
      clear hbl hlb
      go_wp2_with fail
      refine HW9.out.mono ?_
      rintro e w10 ⟨rfl, hr10, ho10⟩
      have Hr10 := Lib.hid hr10
      have hnl : ¬ lb = rg := by have := Hrl.out; have := Hlw.out; omega
      have hnk : ¬ w.heap.size = rg := by have := Hrl.out; omega
      have HB10 := Lib.hid (HBl.out.only ho10 hnl)
      have HK10 := Lib.hid (cell_only HKl.out ho10 hnk)
      have HT10 := Lib.hid (HTl.out.only ho10 (fun k hk hx => HSr.out k hk hx))
      have Ho10 : Hid (Only (fun k => k = rg ∨ k = g) w w10) := Lib.hid ((Hol.out.trans ho10 (fun _ _ h => h)).mono (fun k _ hk => .inl hk))
      clear a1 a2 a3 c9 hr10 ho10 hnl hnk HW9 HTl HRl Hol HKl HBl
      go_wp2
      rw [← Hlb.out]
      go_loopw [32] (fun i wr => ∃ (k cG : Nat) (G : Option Addr), k ≤ m ∧ i = .int .i64 (k : Int) ∧ Hid (TdAt (.pointer (some ⟨rg, 0, none⟩)) ((GS k).2.1.map .bool) S wr g t A c xs R d ys M) ∧ Hid (Rdr wr fp rg (GS k).2.2.1 (GS k).2.2.2) ∧ Hid (RowO wr 3 1 G k cG ((GS k).1.map natV)) ∧ Hid (∀ j, inA G j → lb < j) ∧ Hid (Blk wr lb 96 #[.int .i64 (n : Int), .string KA, .string KB, .slice G k cG]) ∧ Hid (wr.cell? ⟨w.heap.size, 0, none⟩ = some (.int .i64 (n : Int))) ∧ Hid (Only (fun k => k = rg ∨ k = g) w wr)) (fun i _ => m - (intOf i).toNat)
      case atStart => exact ⟨0, 0, none, Nat.zero_le _, rfl, by rw [HG02.out]; exact HT10, by rw [HG02.out]; exact Hr10, by rw [HG02.out]; exact Lib.hid (RowO.none_ _ _ _), Lib.hid (fun j hj => absurd hj (inA_none j)), HB10, HK10, Ho10⟩
      case round =>
        obtain ⟨k, cG, G, hk, rfl, HTr, HRr, HGw, HGn, HBr, HKr, Hor⟩ := hrel
        by_cases hlt : k < m
        · have hki : (k : Int) < (m : Int) := by omega
          have HGc := Lib.hid (HGr2.out k wr.drew (by omega) (HTr.out.ext (ext_drew (Below.refl _ _))) (HRr.out.ext (ext_drew (Below.refl _ _))))
          have hgle := HGP2.out k
          have hg1 : k + 1 ≤ maxLen := by unfold maxLen; omega
          have hg2 : (k + 1) * 8 ≤ 140737488355328 := by omega
          have HSn := Lib.hid (HGs2.out k)
          have hgi : (GP k : Int) ≤ 63 := by omega
          have Hlr : Hid (lb < wr.heap.size) := Lib.hid HBr.out.lt
          have Hgl : Hid (g < w.heap.size) := Lib.hid Hgl.out
          generalize GP k = gp at *
          clear hgle
          go_wp2
          refine wp_region_held_drew (S := (fun W => W.cell? ⟨w.heap.size, 0, none⟩ = some (.int .i64 (n : Int)))) (by kernel_rfl) ?_ (fun hHeld => ?_)
          · exact cell_only HKr.out (Only.of_ext (S := fun _ => False) (ext_drew (Below.refl _ _) : Below wr.heap.size wr wr.drew)) (fun h => h)
          refine wpAnyH_take (i := 0) (v := ?_) (take_list rfl) (by kernel_rfl) (by kernel_rfl) (by kernel_rfl) (fun _ _ _ h => h) (Or.inl ⟨by rfl, ?_⟩) (by assumption) ?_
          rotate_left
          · intro w hSw
            try dsimp only at hSw
            first | (go_simp; done) | (go_simp; with_reducible rfl)
          try simp only [Act.put, List.setIfInBounds_toArray, List.set_cons_zero, List.set_cons_succ]
          refine wpAnyH_take (i := 2) (v := ?_) (take_list rfl) (by kernel_rfl) (by kernel_rfl) (by kernel_rfl) (fun _ _ _ h => h) (Or.inl ⟨by rfl, ?_⟩) (by assumption) ?_
          rotate_left
          · intro w hSw
            try dsimp only at hSw
            first | (go_simp; done) | (go_simp; with_reducible rfl)
          try simp only [Act.put, List.setIfInBounds_toArray, List.set_cons_zero, List.set_cons_succ]
          refine wpAnyH_take (i := 3) (v := ?_) (take_list rfl) (by kernel_rfl) (by kernel_rfl) (by kernel_rfl) (fun _ _ _ h => h) (Or.inl ⟨by rfl, ?_⟩) (by assumption) ?_
          rotate_left
          · intro w hSw
            try dsimp only at hSw
            first | (go_simp; done) | (go_simp; with_reducible rfl)
          try simp only [Act.put, List.setIfInBounds_toArray, List.set_cons_zero, List.set_cons_succ]
          refine wpAnyH_take (i := 4) (v := ?_) (take_list rfl) (by kernel_rfl) (by kernel_rfl) (by kernel_rfl) (fun _ _ _ h => h) (Or.inl ⟨by rfl, ?_⟩) (by assumption) ?_
          rotate_left
          · intro w hSw
            try dsimp only at hSw
            first | (go_simp; done) | (go_simp; with_reducible rfl)
          try simp only [Act.put, List.setIfInBounds_toArray, List.set_cons_zero, List.set_cons_succ]
          refine wpAnyH_ready (rs := [1, 5]) (by kernel_rfl) (by simp) ?_
          refine AllReadyH.cons (take_list rfl) (fun K hK => ?_) ?_
          · skip
            have ql := (HBr.out.ext (by repeat (first | exact Below.refl _ _ | apply ext_drew | apply ext_drewN | apply ext_alloc) : Below _ _ (wr.drew))).cell 3
            simp only [List.getElem?_toArray, List.getElem?_cons_zero, List.getElem?_cons_succ] at ql
            go_simp
            clear ql
            refine hK.out _ _ ?_ (fun hHeld => ?_)
            · try dsimp only
              exact cell_only HKr.out (Only.of_ext (S := fun _ => False) (ext_drew (Below.refl _ _) : Below wr.heap.size wr wr.drew)) (fun h => h)
            clear hK K
            refine wpAnyH_ready (rs := [5]) (by kernel_rfl) (by simp) ?_
            refine AllReadyH.cons (take_list rfl) (fun K hK => ?_) ?_
            · skip
              go_simp
              refine HGc.out.mono ?_
              rintro e11 w11 ⟨rfl, hT11, hR11, ho11⟩
              dsimp only
              have hle : ¬ (lb = rg ∨ lb = g) := by have h1 := Hrl.out; have h2 := Hlw.out; have h3 := Hgl.out; omega
              have hke : ¬ (w.heap.size = rg ∨ w.heap.size = g) := by have h1 := Hrl.out; have h3 := Hgl.out; omega
              have HB11 := Lib.hid ((HBr.out.ext (w' := wr.drew) (ext_drew (Below.refl _ _))).only ho11.out hle)
              have HK11 := Lib.hid (cell_only (cell_only HKr.out (Only.of_ext (S := fun _ => False) (ext_drew (Below.refl _ _) : Below wr.heap.size wr wr.drew)) (fun h => h)) ho11.out hke)
              have HG11 := Lib.hid ((HGw.out.ext (w' := wr.drew) (ext_drew (Below.refl _ _))).only ho11.out (fun j hj hx => by have h0 := HGn.out j hj; have h1 := Hrl.out; have h2 := Hlw.out; have h3 := Hgl.out; omega))
              have Ho11 : Hid (Only (fun k => k = rg ∨ k = g) w w11) := Lib.hid ((Hor.out.trans (Only.of_ext (S := fun k => k = rg ∨ k = g) (ext_drew (Below.refl _ _) : Below wr.heap.size wr wr.drew)) (fun _ _ h => h)).trans ho11.out (fun _ _ h => h))
              have Hls : Hid (lb < w11.heap.size) := Lib.hid HB11.out.lt
              clear hle hke ho11
              refine hK.out _ _ ?_ (fun hHeld => ?_)
              · try dsimp only
                exact HK11.out
              clear hK K
              refine wpAnyH_ready (rs := [6]) (by kernel_rfl) (by simp) ?_
              refine AllReadyH.cons (take_list rfl) (fun K hK => ?_) ?_
              · skip
                go_simp
                refine hK.out _ _ ?_ (fun hHeld => ?_)
                · try dsimp only
                  exact cell_only HK11.out (Only.of_ext (S := fun _ => False) (ext_alloc (Below.refl _ _) _ : Below w11.heap.size w11 _)) (fun h => h)
                clear hK K
                refine wpAnyH_ready (rs := [7]) (by kernel_rfl) (by simp) ?_
                refine AllReadyH.cons (take_list rfl) (fun K hK => ?_) ?_
                · skip
                  refine step_appO _ rfl (.tmp 35) (.tmp 40) _ rfl 3 _ 1 8 Try.underlying82 info_intD rfl G k cG ((GS k).1.map natV) rfl (HG11.out.ext (by repeat (first | exact Below.refl _ _ | apply ext_drew | apply ext_drewN | apply ext_alloc))) (some ⟨_, 0, none⟩) 1 1 [.int .i64 (gp : Int)] rfl rfl (by repeat (first | exact Rd.lit_at _ #[.int .i64 (gp : Int)] _ (by first | rfl | (simp; done)) | apply Rd.drew | apply Rd.alloc)) (by intro u hu; simp at hu; rw [hu]; rfl) (by intro h; cases h) hg1 hg2 ?_
                  intro A5 c5 w5 hr5 ho5 hA5
                  have hbA : Below w11.heap.size w11 (w11.alloc (.cells #[.int .i64 (gp : Int)] 3)) := ext_alloc (Below.refl _ _) _
                  have hB5 := (HB11.out.ext hbA).only ho5 (fun hx => by have := HGn.out lb hx; omega)
                  have k3 := hB5.cell 3
                  have f3 := hB5.free 3
                  have hB6 := hB5.put 3 (.slice A5 (k + 1) c5)
                  have hO6 : Only (fun j => j = lb) w5 (w5.setCell ⟨lb, 3, none⟩ (.slice A5 (k + 1) c5)) := (Only.refl (fun j => j = lb) w5).setCell (p := ⟨lb, 3, none⟩) (.inl rfl) _
                  simp only [List.getElem?_toArray, List.getElem?_cons_zero, List.getElem?_cons_succ, List.setIfInBounds_toArray, List.set_cons_zero, List.set_cons_succ] at k3 hB6
                  have HB6 := Lib.hid hB6
                  have HT6 := Lib.hid (((hT11.out.ext hbA).only ho5 (fun j hj hx => by have h1 := HGn.out j hx; have h2 := H.out.lt j hj; have := Hlw.out; omega)).only hO6 (fun j hj hx => by have h2 := H.out.lt j hj; have := Hlw.out; omega))
                  have HR6 := Lib.hid (((hR11.out.ext hbA).only ho5 (fun j hj hx => by have h1 := HGn.out j hx; have h2 := HFp.out j hj; have := Hlw.out; omega)).only hO6 (fun j hj hx => by have h2 := HFp.out j hj; have := Hlw.out; omega))
                  have HG6 : Hid (RowO (w5.setCell ⟨lb, 3, none⟩ (.slice A5 (k + 1) c5)) 3 1 A5 (k + 1) c5 ((GS (k + 1)).1.map natV)) := Lib.hid (by rw [HSn.out, List.map_append]; exact hr5.only hO6 (fun j hj hx => hr5.ne_blk hB5 (by decide) (by rw [← show j = lb from hx]; exact hj)))
                  have hs5 : lb < (w11.alloc (.cells #[.int .i64 (gp : Int)] 3)).heap.size := Nat.lt_of_lt_of_le Hls.out hbA.size
                  have HA6 : Hid (∀ j, inA A5 j → lb < j) := Lib.hid (fun j hj => by
                    rcases hA5 j hj with h | h
                    · exact HGn.out j h
                    · omega)
                  have HK5 := cell_only (cell_only HK11.out (Only.of_ext (S := fun _ => False) hbA) (fun h => h)) ho5 (fun hx => by have h1 : lb < w.heap.size := HGn.out _ hx; have := Hlw.out; omega)
                  have HK6 := Lib.hid (cell_only HK5 hO6 (by have := Hlw.out; show ¬ w.heap.size = lb; omega))
                  have Ho6 : Hid (Only (fun k => k = rg ∨ k = g) w (w5.setCell ⟨lb, 3, none⟩ (.slice A5 (k + 1) c5))) := Lib.hid (((Ho11.out.trans (Only.of_ext (S := fun k => k = rg ∨ k = g) hbA) (fun _ _ h => h)).trans ho5 (fun j hj hx => by have h1 := HGn.out j hx; have := Hlw.out; omega)).trans hO6 (fun j hj hx => by have := Hlw.out; omega))
                  clear hr5 ho5 hA5 hbA hB5 hB6 hO6 hs5
                  refine hK.out _ _ ?_ (fun hHeld => ?_)
                  · try dsimp only
                    exact HK5
                  clear hK K
                  refine wpAnyH_take (i := 8) (v := ?_) (take_list rfl) (by kernel_rfl) (by kernel_rfl) (by kernel_rfl) (fun _ _ _ h => h) (Or.inl ⟨by rfl, ?_⟩) (by assumption) ?_
                  rotate_left
                  · intro w hSw
                    try dsimp only at hSw
                    first | (go_simp; done) | (go_simp; with_reducible rfl)
                  try simp only [Act.put, List.setIfInBounds_toArray, List.set_cons_zero, List.set_cons_succ]
                  refine wpAnyH_ready (rs := [9]) (by kernel_rfl) (by simp) ?_
                  refine AllReadyH.cons (take_list rfl) (fun K hK => ?_) ?_
                  · skip
                    go_simp
                    refine hK.out _ _ ?_ (fun hHeld => ?_)
                    · try dsimp only
                      exact HK6.out
                    clear hK K
                    refine wpAnyH_done (by kernel_rfl) ?_ _
                    go_wp2
                    go_roundw
                    case rel => exact ⟨k + 1, c5, A5, by omega, by go_num, HT6, HR6, HG6, HA6, HB6, HK6, Ho6⟩
                    case measure => simp [intOf]; omega
                  exact AllReadyH.nil
                exact AllReadyH.nil
              exact AllReadyH.nil
            exact AllReadyH.nil
          refine AllReadyH.cons (take_list rfl) (fun K hK => ?_) ?_
          · skip
            go_simp
            refine HGc.out.mono ?_
            rintro e11 w11 ⟨rfl, hT11, hR11, ho11⟩
            dsimp only
            have hle : ¬ (lb = rg ∨ lb = g) := by have h1 := Hrl.out; have h2 := Hlw.out; have h3 := Hgl.out; omega
            have hke : ¬ (w.heap.size = rg ∨ w.heap.size = g) := by have h1 := Hrl.out; have h3 := Hgl.out; omega
            have HB11 := Lib.hid ((HBr.out.ext (w' := wr.drew) (ext_drew (Below.refl _ _))).only ho11.out hle)
            have HK11 := Lib.hid (cell_only (cell_only HKr.out (Only.of_ext (S := fun _ => False) (ext_drew (Below.refl _ _) : Below wr.heap.size wr wr.drew)) (fun h => h)) ho11.out hke)
            have HG11 := Lib.hid ((HGw.out.ext (w' := wr.drew) (ext_drew (Below.refl _ _))).only ho11.out (fun j hj hx => by have h0 := HGn.out j hj; have h1 := Hrl.out; have h2 := Hlw.out; have h3 := Hgl.out; omega))
            have Ho11 : Hid (Only (fun k => k = rg ∨ k = g) w w11) := Lib.hid ((Hor.out.trans (Only.of_ext (S := fun k => k = rg ∨ k = g) (ext_drew (Below.refl _ _) : Below wr.heap.size wr wr.drew)) (fun _ _ h => h)).trans ho11.out (fun _ _ h => h))
            have Hls : Hid (lb < w11.heap.size) := Lib.hid HB11.out.lt
            clear hle hke ho11
            refine hK.out _ _ ?_ (fun hHeld => ?_)
            · try dsimp only
              exact HK11.out
            clear hK K
            refine wpAnyH_ready (rs := [1, 6]) (by kernel_rfl) (by simp) ?_
            refine AllReadyH.cons (take_list rfl) (fun K hK => ?_) ?_
            · skip
              have ql := (HB11.out.ext (by repeat (first | exact Below.refl _ _ | apply ext_drew | apply ext_drewN | apply ext_alloc) : Below _ _ (w11))).cell 3
              simp only [List.getElem?_toArray, List.getElem?_cons_zero, List.getElem?_cons_succ] at ql
              go_simp
              clear ql
              refine hK.out _ _ ?_ (fun hHeld => ?_)
              · try dsimp only
                exact HK11.out
              clear hK K
              refine wpAnyH_ready (rs := [6]) (by kernel_rfl) (by simp) ?_
              refine AllReadyH.cons (take_list rfl) (fun K hK => ?_) ?_
              · skip
                go_simp
                refine hK.out _ _ ?_ (fun hHeld => ?_)
                · try dsimp only
                  exact cell_only HK11.out (Only.of_ext (S := fun _ => False) (ext_alloc (Below.refl _ _) _ : Below w11.heap.size w11 _)) (fun h => h)
                clear hK K
                refine wpAnyH_ready (rs := [7]) (by kernel_rfl) (by simp) ?_
                refine AllReadyH.cons (take_list rfl) (fun K hK => ?_) ?_
                · skip
                  refine step_appO _ rfl (.tmp 35) (.tmp 40) _ rfl 3 _ 1 8 Try.underlying82 info_intD rfl G k cG ((GS k).1.map natV) rfl (HG11.out.ext (by repeat (first | exact Below.refl _ _ | apply ext_drew | apply ext_drewN | apply ext_alloc))) (some ⟨_, 0, none⟩) 1 1 [.int .i64 (gp : Int)] rfl rfl (by repeat (first | exact Rd.lit_at _ #[.int .i64 (gp : Int)] _ (by first | rfl | (simp; done)) | apply Rd.drew | apply Rd.alloc)) (by intro u hu; simp at hu; rw [hu]; rfl) (by intro h; cases h) hg1 hg2 ?_
                  intro A5 c5 w5 hr5 ho5 hA5
                  have hbA : Below w11.heap.size w11 (w11.alloc (.cells #[.int .i64 (gp : Int)] 3)) := ext_alloc (Below.refl _ _) _
                  have hB5 := (HB11.out.ext hbA).only ho5 (fun hx => by have := HGn.out lb hx; omega)
                  have k3 := hB5.cell 3
                  have f3 := hB5.free 3
                  have hB6 := hB5.put 3 (.slice A5 (k + 1) c5)
                  have hO6 : Only (fun j => j = lb) w5 (w5.setCell ⟨lb, 3, none⟩ (.slice A5 (k + 1) c5)) := (Only.refl (fun j => j = lb) w5).setCell (p := ⟨lb, 3, none⟩) (.inl rfl) _
                  simp only [List.getElem?_toArray, List.getElem?_cons_zero, List.getElem?_cons_succ, List.setIfInBounds_toArray, List.set_cons_zero, List.set_cons_succ] at k3 hB6
                  have HB6 := Lib.hid hB6
                  have HT6 := Lib.hid (((hT11.out.ext hbA).only ho5 (fun j hj hx => by have h1 := HGn.out j hx; have h2 := H.out.lt j hj; have := Hlw.out; omega)).only hO6 (fun j hj hx => by have h2 := H.out.lt j hj; have := Hlw.out; omega))
                  have HR6 := Lib.hid (((hR11.out.ext hbA).only ho5 (fun j hj hx => by have h1 := HGn.out j hx; have h2 := HFp.out j hj; have := Hlw.out; omega)).only hO6 (fun j hj hx => by have h2 := HFp.out j hj; have := Hlw.out; omega))
                  have HG6 : Hid (RowO (w5.setCell ⟨lb, 3, none⟩ (.slice A5 (k + 1) c5)) 3 1 A5 (k + 1) c5 ((GS (k + 1)).1.map natV)) := Lib.hid (by rw [HSn.out, List.map_append]; exact hr5.only hO6 (fun j hj hx => hr5.ne_blk hB5 (by decide) (by rw [← show j = lb from hx]; exact hj)))
                  have hs5 : lb < (w11.alloc (.cells #[.int .i64 (gp : Int)] 3)).heap.size := Nat.lt_of_lt_of_le Hls.out hbA.size
                  have HA6 : Hid (∀ j, inA A5 j → lb < j) := Lib.hid (fun j hj => by
                    rcases hA5 j hj with h | h
                    · exact HGn.out j h
                    · omega)
                  have HK5 := cell_only (cell_only HK11.out (Only.of_ext (S := fun _ => False) hbA) (fun h => h)) ho5 (fun hx => by have h1 : lb < w.heap.size := HGn.out _ hx; have := Hlw.out; omega)
                  have HK6 := Lib.hid (cell_only HK5 hO6 (by have := Hlw.out; show ¬ w.heap.size = lb; omega))
                  have Ho6 : Hid (Only (fun k => k = rg ∨ k = g) w (w5.setCell ⟨lb, 3, none⟩ (.slice A5 (k + 1) c5))) := Lib.hid (((Ho11.out.trans (Only.of_ext (S := fun k => k = rg ∨ k = g) hbA) (fun _ _ h => h)).trans ho5 (fun j hj hx => by have h1 := HGn.out j hx; have := Hlw.out; omega)).trans hO6 (fun j hj hx => by have := Hlw.out; omega))
                  clear hr5 ho5 hA5 hbA hB5 hB6 hO6 hs5
                  refine hK.out _ _ ?_ (fun hHeld => ?_)
                  · try dsimp only
                    exact HK5
                  clear hK K
                  refine wpAnyH_take (i := 8) (v := ?_) (take_list rfl) (by kernel_rfl) (by kernel_rfl) (by kernel_rfl) (fun _ _ _ h => h) (Or.inl ⟨by rfl, ?_⟩) (by assumption) ?_
                  rotate_left
                  · intro w hSw
                    try dsimp only at hSw
                    first | (go_simp; done) | (go_simp; with_reducible rfl)
                  try simp only [Act.put, List.setIfInBounds_toArray, List.set_cons_zero, List.set_cons_succ]
                  refine wpAnyH_ready (rs := [9]) (by kernel_rfl) (by simp) ?_
                  refine AllReadyH.cons (take_list rfl) (fun K hK => ?_) ?_
                  · skip
                    go_simp
                    refine hK.out _ _ ?_ (fun hHeld => ?_)
                    · try dsimp only
                      exact HK6.out
                    clear hK K
                    refine wpAnyH_done (by kernel_rfl) ?_ _
                    go_wp2
                    go_roundw
                    case rel => exact ⟨k + 1, c5, A5, by omega, by go_num, HT6, HR6, HG6, HA6, HB6, HK6, Ho6⟩
                    case measure => simp [intOf]; omega
                  exact AllReadyH.nil
                exact AllReadyH.nil
              exact AllReadyH.nil
            refine AllReadyH.cons (take_list rfl) (fun K hK => ?_) ?_
            · skip
              go_simp
              refine hK.out _ _ ?_ (fun hHeld => ?_)
              · try dsimp only
                exact cell_only HK11.out (Only.of_ext (S := fun _ => False) (ext_alloc (Below.refl _ _) _ : Below w11.heap.size w11 _)) (fun h => h)
              clear hK K
              refine wpAnyH_ready (rs := [1]) (by kernel_rfl) (by simp) ?_
              refine AllReadyH.cons (take_list rfl) (fun K hK => ?_) ?_
              · skip
                have ql := (HB11.out.ext (by repeat (first | exact Below.refl _ _ | apply ext_drew | apply ext_drewN | apply ext_alloc) : Below _ _ (w11.alloc (.cells #[.int .i64 (gp : Int)] 3)))).cell 3
                simp only [List.getElem?_toArray, List.getElem?_cons_zero, List.getElem?_cons_succ] at ql
                go_simp
                clear ql
                refine hK.out _ _ ?_ (fun hHeld => ?_)
                · try dsimp only
                  exact cell_only HK11.out (Only.of_ext (S := fun _ => False) (ext_alloc (Below.refl _ _) _ : Below w11.heap.size w11 _)) (fun h => h)
                clear hK K
                refine wpAnyH_ready (rs := [7]) (by kernel_rfl) (by simp) ?_
                refine AllReadyH.cons (take_list rfl) (fun K hK => ?_) ?_
                · skip
                  refine step_appO _ rfl (.tmp 35) (.tmp 40) _ rfl 3 _ 1 8 Try.underlying82 info_intD rfl G k cG ((GS k).1.map natV) rfl (HG11.out.ext (by repeat (first | exact Below.refl _ _ | apply ext_drew | apply ext_drewN | apply ext_alloc))) (some ⟨_, 0, none⟩) 1 1 [.int .i64 (gp : Int)] rfl rfl (by repeat (first | exact Rd.lit_at _ #[.int .i64 (gp : Int)] _ (by first | rfl | (simp; done)) | apply Rd.drew | apply Rd.alloc)) (by intro u hu; simp at hu; rw [hu]; rfl) (by intro h; cases h) hg1 hg2 ?_
                  intro A5 c5 w5 hr5 ho5 hA5
                  have hbA : Below w11.heap.size w11 (w11.alloc (.cells #[.int .i64 (gp : Int)] 3)) := ext_alloc (Below.refl _ _) _
                  have hB5 := (HB11.out.ext hbA).only ho5 (fun hx => by have := HGn.out lb hx; omega)
                  have k3 := hB5.cell 3
                  have f3 := hB5.free 3
                  have hB6 := hB5.put 3 (.slice A5 (k + 1) c5)
                  have hO6 : Only (fun j => j = lb) w5 (w5.setCell ⟨lb, 3, none⟩ (.slice A5 (k + 1) c5)) := (Only.refl (fun j => j = lb) w5).setCell (p := ⟨lb, 3, none⟩) (.inl rfl) _
                  simp only [List.getElem?_toArray, List.getElem?_cons_zero, List.getElem?_cons_succ, List.setIfInBounds_toArray, List.set_cons_zero, List.set_cons_succ] at k3 hB6
                  have HB6 := Lib.hid hB6
                  have HT6 := Lib.hid (((hT11.out.ext hbA).only ho5 (fun j hj hx => by have h1 := HGn.out j hx; have h2 := H.out.lt j hj; have := Hlw.out; omega)).only hO6 (fun j hj hx => by have h2 := H.out.lt j hj; have := Hlw.out; omega))
                  have HR6 := Lib.hid (((hR11.out.ext hbA).only ho5 (fun j hj hx => by have h1 := HGn.out j hx; have h2 := HFp.out j hj; have := Hlw.out; omega)).only hO6 (fun j hj hx => by have h2 := HFp.out j hj; have := Hlw.out; omega))
                  have HG6 : Hid (RowO (w5.setCell ⟨lb, 3, none⟩ (.slice A5 (k + 1) c5)) 3 1 A5 (k + 1) c5 ((GS (k + 1)).1.map natV)) := Lib.hid (by rw [HSn.out, List.map_append]; exact hr5.only hO6 (fun j hj hx => hr5.ne_blk hB5 (by decide) (by rw [← show j = lb from hx]; exact hj)))
                  have hs5 : lb < (w11.alloc (.cells #[.int .i64 (gp : Int)] 3)).heap.size := Nat.lt_of_lt_of_le Hls.out hbA.size
                  have HA6 : Hid (∀ j, inA A5 j → lb < j) := Lib.hid (fun j hj => by
                    rcases hA5 j hj with h | h
                    · exact HGn.out j h
                    · omega)
                  have HK5 := cell_only (cell_only HK11.out (Only.of_ext (S := fun _ => False) hbA) (fun h => h)) ho5 (fun hx => by have h1 : lb < w.heap.size := HGn.out _ hx; have := Hlw.out; omega)
                  have HK6 := Lib.hid (cell_only HK5 hO6 (by have := Hlw.out; show ¬ w.heap.size = lb; omega))
                  have Ho6 : Hid (Only (fun k => k = rg ∨ k = g) w (w5.setCell ⟨lb, 3, none⟩ (.slice A5 (k + 1) c5))) := Lib.hid (((Ho11.out.trans (Only.of_ext (S := fun k => k = rg ∨ k = g) hbA) (fun _ _ h => h)).trans ho5 (fun j hj hx => by have h1 := HGn.out j hx; have := Hlw.out; omega)).trans hO6 (fun j hj hx => by have := Hlw.out; omega))
                  clear hr5 ho5 hA5 hbA hB5 hB6 hO6 hs5
                  refine hK.out _ _ ?_ (fun hHeld => ?_)
                  · try dsimp only
                    exact HK5
                  clear hK K
                  refine wpAnyH_take (i := 8) (v := ?_) (take_list rfl) (by kernel_rfl) (by kernel_rfl) (by kernel_rfl) (fun _ _ _ h => h) (Or.inl ⟨by rfl, ?_⟩) (by assumption) ?_
                  rotate_left
                  · intro w hSw
                    try dsimp only at hSw
                    first | (go_simp; done) | (go_simp; with_reducible rfl)
                  try simp only [Act.put, List.setIfInBounds_toArray, List.set_cons_zero, List.set_cons_succ]
                  refine wpAnyH_ready (rs := [9]) (by kernel_rfl) (by simp) ?_
                  refine AllReadyH.cons (take_list rfl) (fun K hK => ?_) ?_
                  · skip
                    go_simp
                    refine hK.out _ _ ?_ (fun hHeld => ?_)
                    · try dsimp only
                      exact HK6.out
                    clear hK K
                    refine wpAnyH_done (by kernel_rfl) ?_ _
                    go_wp2
                    go_roundw
                    case rel => exact ⟨k + 1, c5, A5, by omega, by go_num, HT6, HR6, HG6, HA6, HB6, HK6, Ho6⟩
                    case measure => simp [intOf]; omega
                  exact AllReadyH.nil
                exact AllReadyH.nil
              exact AllReadyH.nil
            exact AllReadyH.nil
          exact AllReadyH.nil
        · obtain rfl : k = m := by omega
          have HTd := Lib.hid (HTr.out.ext (w' := wr.drew) (ext_drew (Below.refl _ _)))
          have hgk : (GS k).1.length = k := HGl2.out k
          have hgr := dgrow_any HTd.out Hlv.out (⟨n, ka, kb, (GS k).1⟩ : Lf) Hkey.out (G := G) (e := cG) (by show RowO wr.drew _ 1 G (GS k).1.length cG _; rw [hgk]; exact HGw.out.ext (ext_drew (Below.refl _ _))) (fun j hj hx => by have h1 := HGn.out j hj; have h2 := H.out.lt j hx; have := Hlw.out; omega)
          unfold lfV natV at hgr
          dsimp only at hgr
          rw [HKA.out, HKB.out, hgk] at hgr
          have HGw2 := Lib.hid hgr
          have HCl : Hid (∀ W, Below wr.heap.size wr W → W.cell? ⟨lb, 0, none⟩ = some (.int .i64 (n : Int)) ∧ W.cell? ⟨lb, 1, none⟩ = some (.string KA) ∧ W.cell? ⟨lb, 2, none⟩ = some (.string KB) ∧ W.cell? ⟨lb, 3, none⟩ = some (.slice G k cG)) := Lib.hid (fun W hW => by
            have hX := HBr.out.ext hW
            have x0 := hX.cell 0
            have x1 := hX.cell 1
            have x2 := hX.cell 2
            have x3 := hX.cell 3
            simp only [List.getElem?_toArray, List.getElem?_cons_zero, List.getElem?_cons_succ] at x0 x1 x2 x3
            exact ⟨x0, x1, x2, x3⟩)
          have Hlr : Hid (lb < wr.heap.size) := Lib.hid HBr.out.lt
          clear hgr hgk
          go_wp2
          refine wp_region_held_drew (S := (fun W => W.cell? ⟨lb, 0, none⟩ = some (.int .i64 (n : Int)) ∧ W.cell? ⟨lb, 1, none⟩ = some (.string KA) ∧ W.cell? ⟨lb, 2, none⟩ = some (.string KB) ∧ W.cell? ⟨lb, 3, none⟩ = some (.slice G k cG))) (by kernel_rfl) ?_ (fun hHeld => ?_)
          · exact HCl.out _ (ext_drew (Below.refl _ _))
          refine wpAnyH_take (i := 0) (v := ?_) (take_list rfl) (by kernel_rfl) (by kernel_rfl) (by kernel_rfl) (fun _ _ _ h => h) (Or.inl ⟨by rfl, ?_⟩) (by assumption) ?_
          rotate_left
          · intro w hSw
            try dsimp only at hSw
            first | (go_simp; done) | (go_simp; with_reducible rfl)
          try simp only [Act.put, List.setIfInBounds_toArray, List.set_cons_zero, List.set_cons_succ]
          refine wpAnyH_take (i := 1) (v := ?_) (take_list rfl) (by kernel_rfl) (by kernel_rfl) (by kernel_rfl) (fun _ _ _ h => h) (Or.inl ⟨by rfl, ?_⟩) (by assumption) ?_
          rotate_left
          · intro w hSw
            try dsimp only at hSw
            first | (go_simp; done) | (go_simp; with_reducible rfl)
          try simp only [Act.put, List.setIfInBounds_toArray, List.set_cons_zero, List.set_cons_succ]
          refine wpAnyH_take (i := 2) (v := ?_) (take_list rfl) (by kernel_rfl) (by kernel_rfl) (by kernel_rfl) (fun _ _ _ h => h) (Or.inl ⟨by rfl, ?_⟩) (by assumption) ?_
          rotate_left
          · intro w hSw
            try dsimp only at hSw
            first | (go_simp; done) | (go_simp; with_reducible rfl)
          try simp only [Act.put, List.setIfInBounds_toArray, List.set_cons_zero, List.set_cons_succ]
          refine wpAnyH_take (i := 3) (v := ?_) (take_list rfl) (by kernel_rfl) (by kernel_rfl) (by kernel_rfl) (fun _ _ _ h => h) (Or.inl ⟨by rfl, ?_⟩) (by assumption) ?_
          rotate_left
          · intro w hSw
            try dsimp only at hSw
            first | (go_simp; done) | (go_simp; with_reducible rfl)
          try simp only [Act.put, List.setIfInBounds_toArray, List.set_cons_zero, List.set_cons_succ]
          refine wpAnyH_take (i := 4) (v := ?_) (take_list rfl) (by kernel_rfl) (by kernel_rfl) (by kernel_rfl) (fun _ _ _ h => h) (Or.inl ⟨by rfl, ?_⟩) (by assumption) ?_
          rotate_left
          · intro w hSw
            try dsimp only at hSw
            first | (go_simp; done) | (go_simp; with_reducible rfl)
          try simp only [Act.put, List.setIfInBounds_toArray, List.set_cons_zero, List.set_cons_succ]
          refine wpAnyH_ready (rs := [5]) (by kernel_rfl) (by simp) ?_
          refine AllReadyH.cons (take_list rfl) (fun K hK => ?_) ?_
          · skip
            go_simp
            refine HGw2.out.mono ?_
            rintro e12 w12 ⟨rfl, ⟨R6, d6, ys6, b6, h12⟩, ho12⟩
            dsimp only
            have H12 := Lib.hid h12
            have Ho12 := Lib.hid ho12
            have hns : ¬ S lb := fun hx => by have h1 := H.out.lt lb hx; have := Hlw.out; omega
            obtain ⟨z0, z1, z2, z3⟩ := HCl.out wr.drew (ext_drew (Below.refl _ _))
            have hs12 : w12.cell? ⟨lb, 0, none⟩ = some (.int .i64 (n : Int)) ∧ w12.cell? ⟨lb, 1, none⟩ = some (.string KA) ∧ w12.cell? ⟨lb, 2, none⟩ = some (.string KB) ∧ w12.cell? ⟨lb, 3, none⟩ = some (.slice G k cG) := ⟨cell_only z0 ho12 hns, cell_only z1 ho12 hns, cell_only z2 ho12 hns, cell_only z3 ho12 hns⟩
            clear h12 ho12 hns z0 z1 z2 z3
            refine hK.out _ _ ?_ (fun hHeld => ?_)
            · try dsimp only
              exact hs12
            clear hK K
            refine wpAnyH_done (by kernel_rfl) ?_ _
            go_wp2
            go_end0
            have hrd : Rdr w12 fp rg (GS k).2.2.1 (GS k).2.2.2 := (HRr.out.ext (w' := wr.drew) (ext_drew (Below.refl _ _))).only Ho12.out (fun j hj hx => Hap.out j hj hx)
            have hoA : Only (fun k => S k ∨ k = rg) w wr.drew := (Hor.out.mono (fun j _ hj => by rcases hj with rfl | rfl; exact .inr rfl; exact .inl H.out.sg)).trans (Only.of_ext (ext_drew (Below.refl _ _))) (fun _ _ h => h)
            have hsz : w.heap.size ≤ wr.heap.size := Hor.out.size
            rw [HLf2.out]
            exact ⟨rfl, _, Lib.hid ⟨_, _, _, _, _, _, _, H12.out⟩, Lib.hid hrd, Lib.hid (fun j hj => by
              rcases hj with (hj | hj) | hj
              · exact .inl hj
              · exact .inr (Nat.le_trans hsz hj.1)
              · exact .inr (by have := HGn.out j hj; have := Hlw.out; omega)), Lib.hid (hoA.trans Ho12.out (fun j _ hj => .inl hj))⟩
          exact AllReadyH.nil
  exact AllReadyH.nil
end
end Go.Proofs.Ytdghbdiapkelnaa
