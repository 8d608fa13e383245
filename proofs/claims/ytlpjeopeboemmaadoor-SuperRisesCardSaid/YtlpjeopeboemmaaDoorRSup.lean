/-
  The reference's Super in memory ('RSup'); the contract of the reference's Format. No statement of the seat is proved here.
-/
import Derived.Test.YtlpjeopeboemmaaDoorRFormat
namespace Go.Proofs.YtlpjeopeboemmaaDoor
open Go Go.RowKit

/-- The reference's Super in block 'g' over the disk 'gx'. -/
structure RSupP (w : World) (fp fI : Nat → Prop) (g gx : Nat) (s : SupS) (A : Option Addr) (c : Nat) : Prop where
  imp : Ref w fI gx s.S s.l
  sub : ∀ k, fI k → fp k
  fg : fp g
  ng : ¬ fI g
  blk : Blk w g 40 #[.pointer (some ⟨gx, 0, none⟩), .slice A s.img.length c, .int .i64 (s.N : Int), .int .i64 (s.slot : Int), .bool s.dead]
  bs : Bs w A s.img.length c s.img
  fA : ∀ ad, A = some ad → fp ad.block ∧ ¬ fI ad.block ∧ ad.block ≠ g ∧ ad.block < w.heap.size
  hN : s.N ≤ 1125899906842624
  hs : s.slot ≤ 1
  hi : s.img.length ≤ 814
def RSup (w : World) (fp : Nat → Prop) (g gx : Nat) (s : SupS) : Prop := ∃ fI A c, RSupP w fp fI g gx s A c

section
variable {T fp fp' : Nat → Prop} {w w' : World} {g gx : Nat} {s : SupS}
theorem RSup.ref (h : RSup w fp g gx s) : Ref w fp gx s.S s.l := by
  obtain ⟨fI, A, c, h⟩ := h
  exact h.imp.mono (fun k hk _ => h.sub k hk)
theorem RSup.mono (h : RSup w fp g gx s) (hs : ∀ k, fp k → k < w.heap.size → fp' k) : RSup w fp' g gx s := by
  obtain ⟨fI, A, c, h⟩ := h
  exact ⟨fun k => fI k ∧ k < w.heap.size, A, c, { h with
    imp := h.imp.mono (fun k hk hl => ⟨hk, hl⟩)
    sub := fun k hk => hs k (h.sub k hk.1) hk.2
    fg := hs _ h.fg h.blk.lt
    ng := fun hk => h.ng hk.1
    fA := fun ad e => ⟨hs _ (h.fA ad e).1 (h.fA ad e).2.2.2, fun hk => (h.fA ad e).2.1 hk.1, (h.fA ad e).2.2⟩ }⟩
theorem RSup.only (h : RSup w fp g gx s) (ho : Only T w w') (hn : ∀ k, fp k → ¬ T k) : RSup w' fp g gx s := by
  obtain ⟨fI, A, c, h⟩ := h
  refine ⟨fI, A, c, { h with
    imp := h.imp.only ho (fun k hk => hn k (h.sub k hk))
    blk := h.blk.only ho (hn _ h.fg)
    bs := ⟨rfl, h.bs.2.1, h.bs.2.2.only ho (fun ad e _ => hn _ (h.fA ad e).1)⟩
    fA := fun ad e => ⟨(h.fA ad e).1, (h.fA ad e).2.1, (h.fA ad e).2.2.1, Nat.lt_of_lt_of_le (h.fA ad e).2.2.2 ho.size⟩ }⟩
theorem RSup.ext (h : RSup w fp g gx s) (hb : Below w.heap.size w w') : RSup w' fp g gx s := h.only (Only.of_ext (S := fun _ => False) hb) (fun _ _ x => x)
end

theorem formatS_ok {S : Sec} {l : Int} {bs : List UInt8} (hbl : bs.length ≤ 814) (c2 : (formatS S l bs).1 = 0) :
    (layTo (layTo S l 16 nils).2.1 (layTo S l 16 nils).2.2 0 (packI 1 bs)).1 = 0 ∧ (formatS S l bs).2 = ⟨(layTo (layTo S l 16 nils).2.1 (layTo S l 16 nils).2.2 0 (packI 1 bs)).2.1, (layTo (layTo S l 16 nils).2.1 (layTo S l 16 nils).2.2 0 (packI 1 bs)).2.2, bs, 1, 0, false⟩ := by
  unfold formatS commitS at c2 ⊢
  generalize layTo S l 16 nils = L at c2 ⊢
  have e2 : ¬ (814 < bs.length ∨ (0 : Nat) = 1125899906842624) := by omega
  dsimp only at c2 ⊢
  rw [if_neg Bool.false_ne_true, if_neg e2] at c2 ⊢
  have e3 : (((1 - 1 : Nat) : Int) * 16) = 0 := rfl
  have e4 : (((0 : Nat) : Int) + 1) = 1 := rfl
  rw [e3, e4] at c2 ⊢
  by_cases hc : (layTo L.2.1 L.2.2 0 (packI 1 bs)).1 = 0
  · rw [if_pos hc]
    exact ⟨hc, rfl⟩
  · rw [if_neg hc] at c2
    exact absurd c2 hc
theorem pack1_length (bs : List UInt8) (hbl : bs.length ≤ 814) : (packI 1 bs).length = 16 := by
  have h : packI 1 bs = packOf 1 bs := by unfold packI; rw [if_pos ⟨by omega, by omega, by omega⟩]; rfl
  rw [h, packOf_length]

set_option maxRecDepth 100000 in
set_option maxHeartbeats 2000000 in
theorem rformat_any {w : World} {fp : Nat → Prop} {gx : Nat} {S : Sec} {l : Int} (h : Ref w fp gx S l) (hs : Small 800000 S) (h32 : 32 ≤ S.length) (B : Option Addr) (m d : Nat) (bs : List UInt8) (hB : Bs w B m d bs) (hBf : ∀ ad, B = some ad → bs ≠ [] → ¬ fp ad.block) (hbl : bs.length ≤ 814)
    (c1 : (layTo S l 16 nils).1 = 0) (c2 : (formatS S l bs).1 = 0) :
    Calls Tryd.prog 32 #[.pointer (some ⟨gx, 0, none⟩), .slice B m d] w fun e w' =>
      ∃ g, e = .returned (.tuple #[.pointer (some ⟨g, 0, none⟩), .int .i64 0]) ∧ w.heap.size ≤ g ∧ RSup w' (More fp w w') g gx (formatS S l bs).2 ∧ Only fp w w' := by
  have hm := hB.1
  subst hm
  obtain ⟨d1, d2⟩ := formatS_ok hbl c2
  rw [d2]
  have hli : (bs.length : Int) ≤ 814 := by omega
  have hp16 := pack1_length bs hbl
  have hsm1 : Small 800016 (layTo S l 16 nils).2.1 := small_lay nils S l 16 hs (by omega)
  have hsml := rsmall_any h
  rw [show decide ((S.length : Int) < 32) = false from decide_eq_false (by omega)] at hsml
  have hlay1 : Calls Tryd.prog 64 #[.pointer (some ⟨gx, 0, none⟩), .int .i64 1, .slice none 0 0] w fun e w' =>
      e = .returned (.int .i64 0) ∧ Ref w' (More fp w w') gx (layTo S l 16 nils).2.1 (layTo S l 16 nils).2.2 ∧ Only fp w w' := by
    refine (rlay_nil h (small_mono hs (by omega)) 1 (by omega)).mono ?_
    rintro e w' ⟨rfl, h2, h3⟩
    exact ⟨by rw [← c1]; rfl, h2, h3⟩
  have hB1 : ∀ w1, Only fp w w1 → Bs w1 B bs.length d bs := fun w1 ho => ⟨rfl, hB.2.1, hB.2.2.only ho (fun ad e hne hk => hBf ad e (by intro hn; exact hne (by rw [hn]; rfl)) hk)⟩
  have HB1 := Lib.hid hB1
  generalize hL : layTo S l 16 nils = L at *
  have Hsml := Lib.hid hsml
  have Hlay1 := Lib.hid hlay1
  have Hd1 := Lib.hid d1
  have Hp16 := Lib.hid hp16
  clear hsml hlay1 d1 d2 c1 c2 hL hp16 hB1
  go_enter Tryd.func32, Tryd.ntmps32
  go_wp2_with fail
  refine Hsml.out.mono ?_
  rintro e w0 ⟨rfl, rfl⟩
  go_wp2_with fail
  refine Hlay1.out.mono ?_
  rintro e w1 ⟨rfl, hI1, ho1⟩
  go_wp2_with fail
  have hpk := rpack_any 1 B bs.length d bs w1 (by unfold isInt; omega) (HB1.out w1 ho1) (by omega)
  refine hpk.mono ?_
  rintro e w2 ⟨A2, k2, rfl, hk2, hr2, hb2⟩
  have hI2 : Ref w2 (fun k => More fp w w1 k ∧ k < w1.heap.size) gx L.2.1 L.2.2 := (hI1.mono (fun k hk hl => ⟨hk, hl⟩)).ext hb2
  have hfull := rlay_full hI2 (small_mono hsm1 (by omega)) 0 (by omega) A2 k2 (packI 1 bs) Hp16.out (hr2.weak (fun k hk => hk.2))
  rw [show ((0 : Nat) : Int) = 0 from rfl, Int.zero_mul, Hd1.out] at hfull
  have hpl := Hp16.out
  rw [hpl]
  generalize hL2 : layTo L.2.1 L.2.2 0 (packI 1 bs) = L2 at *
  have Hfull := Lib.hid hfull
  have HL2 := Lib.hid hL2
  clear hfull hI2 hpk hpl hL2 hr2
  go_wp2_with fail
  refine Hfull.out.mono ?_
  rintro e w3 ⟨rfl, hI3, ho3⟩
  have ho13 : Only (More fp w w1) w1 w3 := (Only.of_ext (S := More fp w w1) hb2).trans ho3 (fun k _ hk => hk.1)
  have hO3 : Only fp w w3 := ho1.join ho13
  have hB3 := HB1.out w3 hO3
  have hz1 := ho1.size
  have hz2 := hb2.size
  have hz3 := ho3.size
  have hI3' : Ref w3 (fun k => More fp w w3 k ∧ k < w3.heap.size) gx L2.2.1 L2.2.2 := hI3.mono (fun k hk hl => by
    refine ⟨?_, hl⟩
    rcases hk with hk | hk
    · rcases hk.1 with hk | hk
      · exact .inl hk
      · exact .inr ⟨hk.1, by omega⟩
    · exact .inr ⟨by omega, hk.2⟩)
  have hnew : New w3 (w3.alloc (.cells #[] 5)) (some ⟨w3.heap.size, 0, none⟩) 0 [] := Own.lit w3 _ #[] 5 (by unfold maxLen; simp) ⟨Nat.le_refl _, by rw [World.size_alloc]; omega⟩
  have hba : Below w3.heap.size w3 (w3.alloc (.cells #[] 5)) := ext_alloc (Below.refl _ _) _
  have Hnew := Lib.hid hnew
  have Hba := Lib.hid hba
  have HB3 := Lib.hid (hB3.alloc (.cells #[] 5))
  clear hI3 ho3 ho13 Hfull hnew hba HB1 Hlay1 Hsml Hd1 Hp16 hB hB3 hsm1
  go_wp2_with (first
    | (at_builtin
       refine wpList_app _ rfl (.tmp 25) (.tmp 26) _ rfl _ _ 1 Tryd.underlying22 info_u8 rfl (some ⟨w3.heap.size, 0, none⟩) 0 0 (([] : List UInt8).map bv) rfl rfl Hnew.out B _ d (bs.map bv) rfl ?_ HB3.out.2.2 (bvs_one _) ?_ ?_ ?_
       · rw [List.length_map]
       · unfold maxLen; omega
       · omega
       intro A4 c4 w4 hown4 ho4
       obtain ⟨hn4, hb4⟩ := New.grow Hba.out hown4 ho4))
  have hfin : RSup (w4.alloc (.cells #[.pointer (some ⟨gx, 0, none⟩), .slice A4 bs.length c4, .int .i64 1, .int .i64 0, .bool false] 40)) (More fp w (w4.alloc (.cells #[.pointer (some ⟨gx, 0, none⟩), .slice A4 bs.length c4, .int .i64 1, .int .i64 0, .bool false] 40))) w4.heap.size gx ⟨L2.2.1, L2.2.2, bs, 1, 0, false⟩ ∧ Only fp w (w4.alloc (.cells #[.pointer (some ⟨gx, 0, none⟩), .slice A4 bs.length c4, .int .i64 1, .int .i64 0, .bool false] 40)) := by
    have hz4 := hb4.size
    have hbb : Below w3.heap.size w3 (w4.alloc (.cells #[.pointer (some ⟨gx, 0, none⟩), .slice A4 bs.length c4, .int .i64 1, .int .i64 0, .bool false] 40)) := ext_alloc hb4 _
    refine ⟨⟨_, A4, c4, { imp := hI3'.ext hbb, sub := ?_, fg := ?_, ng := ?_, blk := Blk.new w4 _ _, bs := ?_, fA := ?_, hN := ?_, hs := ?_, hi := hbl }⟩, hO3.trans (Only.of_ext (S := fp) hbb) (fun _ _ hk => hk)⟩
    · rintro k ⟨hk | hk, _⟩
      · exact .inl hk
      · exact .inr ⟨hk.1, by rw [World.size_alloc]; omega⟩
    · exact .inr ⟨by omega, by rw [World.size_alloc]; omega⟩
    · rintro ⟨_, hk⟩
      omega
    · exact (hn4.bs).alloc _
    · intro ad e
      have h1 := hn4.2 ad e
      exact ⟨.inr ⟨by omega, by rw [World.size_alloc]; omega⟩, fun hk => by have := hk.2; omega, by omega, by rw [World.size_alloc]; omega⟩
    · show (1 : Nat) ≤ _
      omega
    · exact Nat.zero_le _
  have hz4 := hb4.size
  obtain ⟨hf1, hf2⟩ := hfin
  have Hf1 := Lib.hid hf1
  have Hf2 := Lib.hid hf2
  have hz : w.heap.size ≤ w4.heap.size := by omega
  clear hf1 hf2 hI3' hown4 ho4 hn4 hb4 HB3 Hnew Hba hO3 ho1 hb2 h hBf hs
  go_ret2
  rw [HL2.out]
  exact ⟨_, rfl, hz, Hf1.out, Hf2.out⟩
end Go.Proofs.YtlpjeopeboemmaaDoor
