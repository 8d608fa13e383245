/-
  Texts of this claim, joined (part 5): contracts and lemmas that the last text goes by. No statement of the seat is proved here.
-/
import Derived.Test.YtlpjeopeboemmaaDoorAll4
import Derived.Test.YtlpjeopeboemmaaDoorAll3
import Derived.KernelRfl
import Derived.Lib.SlBytesConst
import Derived.Test.YtlpjeopeboemmaaDoorAll0
import Derived.Test.YtlpjeopeboemmaaDoorRows
import Derived.ProofKit
import Derived.OpenShut
import Derived.Deep.DeepHandedRow
import Derived.Deep.Matrix
import Derived.LaidLaws
import Derived.Test.YtlpjeopeboemmaaDoorAll1
import Derived.Test.YtlpjeopeboemmaaDoorAll2
import Derived.Deep.Slices
import Derived.Test.YtlpjeopeboemmaaDoorCards
import Derived.Test.YtlpjeopeboemmaaDoorTie
import Derived.Lib.LaidTab
/-
  The reference's Super in memory ('RSup'); the contract of the reference's Format. No statement of the seat is proved here.
-/
namespace Go.Proofs.YtlpjeopeboemmaaDoor
open Go Go.RowKit

/-- The reference's Super in block 'g' over the disk 'gx'. -/
structure RSupP (w : World) (fp fI : Nat → Prop) (g gx : Nat) (s : SupS) (A : Option Addr) (c : Nat) : Prop where
  imp : Ref w fI gx s.S s.l
  sub : ∀ k, fI k → fp k
  fg : fp g
  ng : ¬ fI g
  blk : Blk w g 40 #[.pointer (some ⟨gx, 0, none⟩), .slice A s.img.length c, .int .i64 (s.N : Int), .int .i64 (s.slot : Int), .bool s.dead]
  bs : Bs w A s.img.length c s.img
  fA : ∀ ad, A = some ad → fp ad.block ∧ ¬ fI ad.block ∧ ad.block ≠ g ∧ ad.block < w.heap.size
  hN : s.N ≤ 1125899906842624
  hs : s.slot ≤ 1
  hi : s.img.length ≤ 814
def RSup (w : World) (fp : Nat → Prop) (g gx : Nat) (s : SupS) : Prop := ∃ fI A c, RSupP w fp fI g gx s A c

section
variable {T fp fp' : Nat → Prop} {w w' : World} {g gx : Nat} {s : SupS}
theorem RSup.ref (h : RSup w fp g gx s) : Ref w fp gx s.S s.l := by
  obtain ⟨fI, A, c, h⟩ := h
  exact h.imp.mono (fun k hk _ => h.sub k hk)
theorem RSup.mono (h : RSup w fp g gx s) (hs : ∀ k, fp k → k < w.heap.size → fp' k) : RSup w fp' g gx s := by
  obtain ⟨fI, A, c, h⟩ := h
  exact ⟨fun k => fI k ∧ k < w.heap.size, A, c, { h with
    imp := h.imp.mono (fun k hk hl => ⟨hk, hl⟩)
    sub := fun k hk => hs k (h.sub k hk.1) hk.2
    fg := hs _ h.fg h.blk.lt
    ng := fun hk => h.ng hk.1
    fA := fun ad e => ⟨hs _ (h.fA ad e).1 (h.fA ad e).2.2.2, fun hk => (h.fA ad e).2.1 hk.1, (h.fA ad e).2.2⟩ }⟩
theorem RSup.only (h : RSup w fp g gx s) (ho : Only T w w') (hn : ∀ k, fp k → ¬ T k) : RSup w' fp g gx s := by
  obtain ⟨fI, A, c, h⟩ := h
  refine ⟨fI, A, c, { h with
    imp := h.imp.only ho (fun k hk => hn k (h.sub k hk))
    blk := h.blk.only ho (hn _ h.fg)
    bs := ⟨rfl, h.bs.2.1, h.bs.2.2.only ho (fun ad e _ => hn _ (h.fA ad e).1)⟩
    fA := fun ad e => ⟨(h.fA ad e).1, (h.fA ad e).2.1, (h.fA ad e).2.2.1, Nat.lt_of_lt_of_le (h.fA ad e).2.2.2 ho.size⟩ }⟩
theorem RSup.ext (h : RSup w fp g gx s) (hb : Below w.heap.size w w') : RSup w' fp g gx s := h.only (Only.of_ext (S := fun _ => False) hb) (fun _ _ x => x)
end

theorem formatS_ok {S : Sec} {l : Int} {bs : List UInt8} (hbl : bs.length ≤ 814) (c2 : (formatS S l bs).1 = 0) :
    (layTo (layTo S l 16 nils).2.1 (layTo S l 16 nils).2.2 0 (packI 1 bs)).1 = 0 ∧ (formatS S l bs).2 = ⟨(layTo (layTo S l 16 nils).2.1 (layTo S l 16 nils).2.2 0 (packI 1 bs)).2.1, (layTo (layTo S l 16 nils).2.1 (layTo S l 16 nils).2.2 0 (packI 1 bs)).2.2, bs, 1, 0, false⟩ := by
  unfold formatS commitS at c2 ⊢
  generalize layTo S l 16 nils = L at c2 ⊢
  have e2 : ¬ (814 < bs.length ∨ (0 : Nat) = 1125899906842624) := by omega
  dsimp only at c2 ⊢
  rw [if_neg Bool.false_ne_true, if_neg e2] at c2 ⊢
  have e3 : (((1 - 1 : Nat) : Int) * 16) = 0 := rfl
  have e4 : (((0 : Nat) : Int) + 1) = 1 := rfl
  rw [e3, e4] at c2 ⊢
  by_cases hc : (layTo L.2.1 L.2.2 0 (packI 1 bs)).1 = 0
  · rw [if_pos hc]
    exact ⟨hc, rfl⟩
  · rw [if_neg hc] at c2
    exact absurd c2 hc
theorem pack1_length (bs : List UInt8) (hbl : bs.length ≤ 814) : (packI 1 bs).length = 16 := by
  have h : packI 1 bs = packOf 1 bs := by unfold packI; rw [if_pos ⟨by omega, by omega, by omega⟩]; rfl
  rw [h, packOf_length]

set_option maxRecDepth 100000 in
set_option maxHeartbeats 2000000 in
theorem rformat_any {w : World} {fp : Nat → Prop} {gx : Nat} {S : Sec} {l : Int} (h : Ref w fp gx S l) (hs : Small 800000 S) (h32 : 32 ≤ S.length) (B : Option Addr) (m d : Nat) (bs : List UInt8) (hB : Bs w B m d bs) (hBf : ∀ ad, B = some ad → bs ≠ [] → ¬ fp ad.block) (hbl : bs.length ≤ 814)
    (c1 : (layTo S l 16 nils).1 = 0) (c2 : (formatS S l bs).1 = 0) :
    Calls Tryd.prog 32 #[.pointer (some ⟨gx, 0, none⟩), .slice B m d] w fun e w' =>
      ∃ g, e = .returned (.tuple #[.pointer (some ⟨g, 0, none⟩), .int .i64 0]) ∧ w.heap.size ≤ g ∧ RSup w' (More fp w w') g gx (formatS S l bs).2 ∧ Only fp w w' := by
  have hm := hB.1
  subst hm
  obtain ⟨d1, d2⟩ := formatS_ok hbl c2
  rw [d2]
  have hli : (bs.length : Int) ≤ 814 := by omega
  have hp16 := pack1_length bs hbl
  have hsm1 : Small 800016 (layTo S l 16 nils).2.1 := small_lay nils S l 16 hs (by omega)
  have hsml := rsmall_any h
  rw [show decide ((S.length : Int) < 32) = false from decide_eq_false (by omega)] at hsml
  have hlay1 : Calls Tryd.prog 64 #[.pointer (some ⟨gx, 0, none⟩), .int .i64 1, .slice none 0 0] w fun e w' =>
      e = .returned (.int .i64 0) ∧ Ref w' (More fp w w') gx (layTo S l 16 nils).2.1 (layTo S l 16 nils).2.2 ∧ Only fp w w' := by
    refine (rlay_nil h (small_mono hs (by omega)) 1 (by omega)).mono ?_
    rintro e w' ⟨rfl, h2, h3⟩
    exact ⟨by rw [← c1]; rfl, h2, h3⟩
  have hB1 : ∀ w1, Only fp w w1 → Bs w1 B bs.length d bs := fun w1 ho => ⟨rfl, hB.2.1, hB.2.2.only ho (fun ad e hne hk => hBf ad e (by intro hn; exact hne (by rw [hn]; rfl)) hk)⟩
  have HB1 := Lib.hid hB1
  generalize hL : layTo S l 16 nils = L at *
  have Hsml := Lib.hid hsml
  have Hlay1 := Lib.hid hlay1
  have Hd1 := Lib.hid d1
  have Hp16 := Lib.hid hp16
  clear hsml hlay1 d1 d2 c1 c2 hL hp16 hB1
  go_enter Tryd.func32, Tryd.ntmps32
  go_wp2_with fail
  refine Hsml.out.mono ?_
  rintro e w0 ⟨rfl, rfl⟩
  go_wp2_with fail
  refine Hlay1.out.mono ?_
  rintro e w1 ⟨rfl, hI1, ho1⟩
  go_wp2_with fail
  have hpk := rpack_any 1 B bs.length d bs w1 (by unfold isInt; omega) (HB1.out w1 ho1) (by omega)
  refine hpk.mono ?_
  rintro e w2 ⟨A2, k2, rfl, hk2, hr2, hb2⟩
  have hI2 : Ref w2 (fun k => More fp w w1 k ∧ k < w1.heap.size) gx L.2.1 L.2.2 := (hI1.mono (fun k hk hl => ⟨hk, hl⟩)).ext hb2
  have hfull := rlay_full hI2 (small_mono hsm1 (by omega)) 0 (by omega) A2 k2 (packI 1 bs) Hp16.out (hr2.weak (fun k hk => hk.2))
  rw [show ((0 : Nat) : Int) = 0 from rfl, Int.zero_mul, Hd1.out] at hfull
  have hpl := Hp16.out
  rw [hpl]
  generalize hL2 : layTo L.2.1 L.2.2 0 (packI 1 bs) = L2 at *
  have Hfull := Lib.hid hfull
  have HL2 := Lib.hid hL2
  clear hfull hI2 hpk hpl hL2 hr2
  go_wp2_with fail
  refine Hfull.out.mono ?_
  rintro e w3 ⟨rfl, hI3, ho3⟩
  have ho13 : Only (More fp w w1) w1 w3 := (Only.of_ext (S := More fp w w1) hb2).trans ho3 (fun k _ hk => hk.1)
  have hO3 : Only fp w w3 := ho1.join ho13
  have hB3 := HB1.out w3 hO3
  have hz1 := ho1.size
  have hz2 := hb2.size
  have hz3 := ho3.size
  have hI3' : Ref w3 (fun k => More fp w w3 k ∧ k < w3.heap.size) gx L2.2.1 L2.2.2 := hI3.mono (fun k hk hl => by
    refine ⟨?_, hl⟩
    rcases hk with hk | hk
    · rcases hk.1 with hk | hk
      · exact .inl hk
      · exact .inr ⟨hk.1, by omega⟩
    · exact .inr ⟨by omega, hk.2⟩)
  have hnew : New w3 (w3.alloc (.cells #[] 5)) (some ⟨w3.heap.size, 0, none⟩) 0 [] := Own.lit w3 _ #[] 5 (by unfold maxLen; simp) ⟨Nat.le_refl _, by rw [World.size_alloc]; omega⟩
  have hba : Below w3.heap.size w3 (w3.alloc (.cells #[] 5)) := ext_alloc (Below.refl _ _) _
  have Hnew := Lib.hid hnew
  have Hba := Lib.hid hba
  have HB3 := Lib.hid (hB3.alloc (.cells #[] 5))
  clear hI3 ho3 ho13 Hfull hnew hba HB1 Hlay1 Hsml Hd1 Hp16 hB hB3 hsm1
  go_wp2_with (first
    | (at_builtin
       refine wpList_app _ rfl (.tmp 25) (.tmp 26) _ rfl _ _ 1 Tryd.underlying22 info_u8 rfl (some ⟨w3.heap.size, 0, none⟩) 0 0 (([] : List UInt8).map bv) rfl rfl Hnew.out B _ d (bs.map bv) rfl ?_ HB3.out.2.2 (bvs_one _) ?_ ?_ ?_
       · rw [List.length_map]
       · unfold maxLen; omega
       · omega
       intro A4 c4 w4 hown4 ho4
       obtain ⟨hn4, hb4⟩ := New.grow Hba.out hown4 ho4))
  have hfin : RSup (w4.alloc (.cells #[.pointer (some ⟨gx, 0, none⟩), .slice A4 bs.length c4, .int .i64 1, .int .i64 0, .bool false] 40)) (More fp w (w4.alloc (.cells #[.pointer (some ⟨gx, 0, none⟩), .slice A4 bs.length c4, .int .i64 1, .int .i64 0, .bool false] 40))) w4.heap.size gx ⟨L2.2.1, L2.2.2, bs, 1, 0, false⟩ ∧ Only fp w (w4.alloc (.cells #[.pointer (some ⟨gx, 0, none⟩), .slice A4 bs.length c4, .int .i64 1, .int .i64 0, .bool false] 40)) := by
    have hz4 := hb4.size
    have hbb : Below w3.heap.size w3 (w4.alloc (.cells #[.pointer (some ⟨gx, 0, none⟩), .slice A4 bs.length c4, .int .i64 1, .int .i64 0, .bool false] 40)) := ext_alloc hb4 _
    refine ⟨⟨_, A4, c4, { imp := hI3'.ext hbb, sub := ?_, fg := ?_, ng := ?_, blk := Blk.new w4 _ _, bs := ?_, fA := ?_, hN := ?_, hs := ?_, hi := hbl }⟩, hO3.trans (Only.of_ext (S := fp) hbb) (fun _ _ hk => hk)⟩
    · rintro k ⟨hk | hk, _⟩
      · exact .inl hk
      · exact .inr ⟨hk.1, by rw [World.size_alloc]; omega⟩
    · exact .inr ⟨by omega, by rw [World.size_alloc]; omega⟩
    · rintro ⟨_, hk⟩
      omega
    · exact (hn4.bs).alloc _
    · intro ad e
      have h1 := hn4.2 ad e
      exact ⟨.inr ⟨by omega, by rw [World.size_alloc]; omega⟩, fun hk => by have := hk.2; omega, by omega, by rw [World.size_alloc]; omega⟩
    · show (1 : Nat) ≤ _
      omega
    · exact Nat.zero_le _
  have hz4 := hb4.size
  obtain ⟨hf1, hf2⟩ := hfin
  have Hf1 := Lib.hid hf1
  have Hf2 := Lib.hid hf2
  have hz : w.heap.size ≤ w4.heap.size := by omega
  clear hf1 hf2 hI3' hown4 ho4 hn4 hb4 HB3 Hnew Hba hO3 ho1 hb2 h hBf hs
  go_ret2
  rw [HL2.out]
  exact ⟨_, rfl, hz, Hf1.out, Hf2.out⟩
end Go.Proofs.YtlpjeopeboemmaaDoor

/-
  What disks tell behind commits and crashes: lists and numbers alone. No statement of the seat is proved here.
-/
namespace Go.Proofs.YtlpjeopeboemmaaDoor

/-! ### A slot's sectors -/
theorem numOf_row {n k : Nat} {img : List UInt8} (hn : n ≤ 1125899906842624) (hi : img.length ≤ 814) (hk : k < 16) : numOf (rowOf n k img) = n := by
  have hh := head_length (n := n) hi hk
  have e1 : (rowOf n k img).drop 60 = lowB 4 (sumOf (headOf n k img)) := by unfold rowOf; rw [List.drop_left' hh]
  have e2 : (rowOf n k img).take 60 = headOf n k img := by unfold rowOf; rw [List.take_left' hh]
  have e3 : (rowOf n k img).take 8 = lowB 8 n := by
    unfold rowOf headOf
    rw [List.append_assoc, List.append_assoc, List.take_left' (lowB_length 8 n)]
  unfold numOf
  rw [e1, e2, e3, ofLow_lowB, ofLow_lowB, Nat.mod_eq_of_lt (by have := sumOf_lt (headOf n k img); have e : (256 : Nat) ^ 4 = 4294967296 := rfl; omega), Nat.mod_eq_of_lt (by have e : (256 : Nat) ^ 8 = 18446744073709551616 := rfl; omega), if_pos ⟨rfl, hn⟩]
theorem chunks (b : List UInt8) : ∀ m, m * 51 ≤ b.length → ((List.range m).map fun k => (b.drop (k * 51)).take 51).flatten = b.take (m * 51)
  | 0, _ => by simp
  | m + 1, h => by
    rw [List.range_succ, List.map_append, List.flatten_append, chunks b m (by omega), Nat.add_mul, Nat.one_mul, List.take_add]
    simp
theorem borneR_pack {n : Nat} {img : List UInt8} (hi : img.length ≤ 814) : borneR (packOf n img) = borneOf img := by
  have hb := borne_length hi
  have e : (packOf n img).map (fun r => (r.drop 9).take 51) = (List.range 16).map fun k => ((borneOf img).drop (k * 51)).take 51 := by
    unfold packOf
    rw [List.map_map]
    apply List.map_congr_left
    intro k hk
    have hk' := List.mem_range.1 hk
    have hl : (lowB 8 n ++ [k.toUInt8]).length = 9 := by simp [lowB_length]
    have hc : (((borneOf img).drop (k * 51)).take 51).length = 51 := by rw [List.length_take, List.length_drop, hb]; omega
    show ((rowOf n k img).drop 9).take 51 = _
    unfold rowOf headOf
    rw [List.append_assoc, List.drop_left' hl, List.take_left' hc]
  unfold borneR
  rw [e, chunks (borneOf img) 16 (by omega), List.take_of_length_le (by omega)]
theorem imgR_pack {n : Nat} {img : List UInt8} (hi : img.length ≤ 814) : imgR (packOf n img) = img := by
  have hs : sizeR (packOf n img) = img.length := by
    unfold sizeR
    rw [borneR_pack hi]
    unfold borneOf
    rw [List.append_assoc, List.take_left' (lowB_length 2 _), ofLow_lowB, Nat.mod_eq_of_lt (by have e : (256 : Nat) ^ 2 = 65536 := rfl; omega)]
  unfold imgR
  rw [hs, if_pos hi, borneR_pack hi]
  unfold borneOf
  rw [List.append_assoc, List.drop_left' (lowB_length 2 _), List.take_left]
theorem packOf_get {n k : Nat} {img : List UInt8} (hk : k < 16) : (packOf n img)[k]? = some (rowOf n k img) := by unfold packOf; simp [hk]
theorem pack_head (n : Nat) (img : List UInt8) : (packOf n img).headD [] = rowOf n 0 img := rfl
theorem unpack_pack {n : Nat} {img : List UInt8} (h1 : 1 ≤ n) (h2 : n ≤ 1125899906842624) (hi : img.length ≤ 814) : unpackS (packOf n img) = (n, img) := by
  have hp : packI (n : Int) img = packOf n img := by unfold packI; rw [if_pos ⟨by omega, by omega, hi⟩]; rfl
  unfold unpackS
  rw [pack_head, numOf_row h2 hi (by omega), imgR_pack hi, hp, if_pos rfl]
/-- what is told is packed so -/
theorem unpack_some {rows : List (List UInt8)} (h : 0 < (unpackS rows).1) (hl : rows.length = 16) : rows = packOf (unpackS rows).1 (unpackS rows).2 ∧ (unpackS rows).1 ≤ 1125899906842624 ∧ (unpackS rows).2.length ≤ 814 := by
  have hle := unpackS_le rows
  refine ⟨?_, hle⟩
  unfold unpackS at h hle ⊢
  split at h
  · rename_i hq
    rw [if_pos hq] at hle ⊢
    have hp : packI (numOf (rows.headD []) : Int) (imgR rows) = packOf (numOf (rows.headD [])) (imgR rows) := by
      dsimp only at h hle
      unfold packI
      rw [if_pos ⟨by omega, by omega, hle.2⟩]; rfl
    rw [← hp]
    exact hq
  · simp at h
/-- rows of two numbers are no slot -/
theorem unpack_mixed {rows : List (List UInt8)} (hl : rows.length = 16) {i j : Nat} {r q : List UInt8} (hi : rows[i]? = some r) (hj : rows[j]? = some q) (hne : numOf r ≠ numOf q) : (unpackS rows).1 = 0 := by
  rcases Nat.eq_zero_or_pos (unpackS rows).1 with h | h
  · exact h
  · exfalso
    obtain ⟨h1, h2, h3⟩ := unpack_some h hl
    have hi16 := (List.getElem?_eq_some_iff.1 hi).1
    have hj16 := (List.getElem?_eq_some_iff.1 hj).1
    rw [h1, packOf_get (by omega)] at hi
    rw [h1, packOf_get (by omega)] at hj
    injection hi with hi
    injection hj with hj
    rw [← hi, ← hj, numOf_row h2 h3 (by omega), numOf_row h2 h3 (by omega)] at hne
    exact hne rfl
theorem unpack_zero_snd {rows : List (List UInt8)} (hl : rows.length = 16) (h : (unpackS rows).1 = 0) : unpackS rows = (0, []) := by
  unfold unpackS at h ⊢
  split
  · rename_i hq
    rw [if_pos hq] at h
    dsimp only at h
    rw [h] at hq
    have hp : packI ((0 : Nat) : Int) (imgR rows) = [] := by unfold packI; rw [if_neg (by unfold fits; omega)]
    rw [hp] at hq
    rw [hq] at hl
    simp at hl
  · rfl

/-! ### The greatest number -/
theorem mostR_ge (rows : List (List UInt8)) : ∀ m, m ≤ mostR m rows := by
  induction rows with
  | nil => intro m; exact Nat.le_refl _
  | cons r rs ih => intro m; exact Nat.le_trans (Nat.le_max_left _ _) (ih _)
theorem mostR_mem (rows : List (List UInt8)) : ∀ m r, r ∈ rows → numOf r ≤ mostR m rows := by
  induction rows with
  | nil => intro m r h; cases h
  | cons x rs ih =>
    intro m r h
    rcases List.mem_cons.1 h with h | h
    · subst h; exact Nat.le_trans (Nat.le_max_right _ _) (mostR_ge rs _)
    · exact ih _ r h
theorem mostR_lub (rows : List (List UInt8)) : ∀ m N, m ≤ N → (∀ r ∈ rows, numOf r ≤ N) → mostR m rows ≤ N := by
  induction rows with
  | nil => intro m N h _; exact h
  | cons x rs ih => intro m N h hr; exact ih _ N (Nat.max_le.2 ⟨h, hr x (by simp)⟩) (fun r h => hr r (by simp [h]))

/-! ### Flat disks -/
def lasts (S : Sec) : List (List UInt8) := S.map lastOf
def slotD (D : List (List UInt8)) (k : Nat) : List (List UInt8) := (List.range 16).map fun i => D.getD (k * 16 + i) []
theorem slotRows_lasts (S : Sec) (k : Nat) : slotRows S k = slotD (lasts S) k := by
  unfold slotRows slotD lasts
  apply List.map_congr_left
  intro i _
  rw [List.getD_eq_getElem?_getD, List.getD_eq_getElem?_getD, List.getElem?_map]
  cases S[k * 16 + i]? <;> rfl
theorem slotD_get (D : List (List UInt8)) (k i : Nat) (hi : i < 16) : (slotD D k)[i]? = some (D.getD (k * 16 + i) []) := by unfold slotD; simp [hi]
theorem slotD_length (D : List (List UInt8)) (k : Nat) : (slotD D k).length = 16 := by simp [slotD]
theorem slotD_congr {D E : List (List UInt8)} {k : Nat} (h : ∀ i, i < 16 → D.getD (k * 16 + i) [] = E.getD (k * 16 + i) []) : slotD D k = slotD E k := by
  unfold slotD
  exact List.map_congr_left fun i hi => h i (List.mem_range.1 hi)
/-- what an opened disk tells: number, image, slot; the greatest number -/
def tellD (D : List (List UInt8)) : Nat × List UInt8 × Nat :=
  if (unpackS (slotD D 0)).1 < (unpackS (slotD D 1)).1 then ((unpackS (slotD D 1)).1, (unpackS (slotD D 1)).2, 1) else ((unpackS (slotD D 0)).1, (unpackS (slotD D 0)).2, 0)
def mostD (D : List (List UInt8)) : Nat := mostR (mostR 0 (slotD D 0)) (slotD D 1)
theorem tell_lasts (S : Sec) : tellK S 2 = tellD (lasts S) := by
  unfold tellD
  have h0 : tellK S 1 = if 0 < (unpackS (slotD (lasts S) 0)).1 then ((unpackS (slotD (lasts S) 0)).1, (unpackS (slotD (lasts S) 0)).2, 0) else (0, [], 0) := by
    rw [← slotRows_lasts]; rfl
  have h1 : tellK S 1 = ((unpackS (slotD (lasts S) 0)).1, (unpackS (slotD (lasts S) 0)).2, 0) := by
    rw [h0]
    split
    · rfl
    · rename_i hz
      have hz0 : (unpackS (slotD (lasts S) 0)).1 = 0 := by omega
      rw [unpack_zero_snd (slotD_length _ _) hz0]
  have h2 : tellK S 2 = if (tellK S 1).1 < (unpackS (slotRows S 1)).1 then ((unpackS (slotRows S 1)).1, (unpackS (slotRows S 1)).2, 1) else tellK S 1 := rfl
  rw [h2, h1, slotRows_lasts]
theorem most_lasts (S : Sec) : mostK S 2 = mostD (lasts S) := by
  unfold mostD
  rw [← slotRows_lasts, ← slotRows_lasts]; rfl
/-- in either order -/
theorem mostD_le {D : List (List UInt8)} {N : Nat} : mostD D ≤ N ↔ ∀ k, k ≤ 1 → ∀ r ∈ slotD D k, numOf r ≤ N := by
  constructor
  · intro h k hk r hr
    rcases Nat.le_one_iff_eq_zero_or_eq_one.1 hk with rfl | rfl
    · exact Nat.le_trans (Nat.le_trans (mostR_mem _ 0 r hr) (mostR_ge _ _)) h
    · exact Nat.le_trans (mostR_mem _ _ r hr) h
  · intro h
    exact mostR_lub _ _ _ (mostR_lub _ _ _ (Nat.zero_le _) (h 0 (by omega))) (h 1 (by omega))

/-- An opened disk tells this. -/
def Tells (D : List (List UInt8)) (img : List UInt8) (N slot : Nat) : Prop := 0 < (tellD D).1 ∧ (tellD D).2 = (img, slot) ∧ mostD D = N
theorem Tells.slot_le {D : List (List UInt8)} {img : List UInt8} {N slot : Nat} (h : Tells D img N slot) : slot ≤ 1 := by
  have h2 := h.2.1
  unfold tellD at h2
  split at h2
  · injection h2 with _ h; try omega
  · injection h2 with _ h; try omega
/-- the slot that holds it; the other one tells less -/
theorem Tells.cur {D : List (List UInt8)} {img : List UInt8} {N slot : Nat} (h : Tells D img N slot) : ∃ n, 1 ≤ n ∧ n ≤ N ∧ unpackS (slotD D slot) = (n, img) := by
  obtain ⟨h0, h1, h2⟩ := h
  have key : ∀ k, k ≤ 1 → 0 < (unpackS (slotD D k)).1 → (unpackS (slotD D k)).1 ≤ N := fun k hk hp => by
    obtain ⟨e, l1, l2⟩ := unpack_some hp (slotD_length D k)
    have hm := mostD_le.1 (Nat.le_of_eq h2) k hk (rowOf (unpackS (slotD D k)).1 0 (unpackS (slotD D k)).2) (by
      have := packOf_get (n := (unpackS (slotD D k)).1) (img := (unpackS (slotD D k)).2) (k := 0) (by omega)
      rw [← e] at this
      exact List.mem_of_getElem? this)
    rw [numOf_row l1 l2 (by omega)] at hm
    exact hm
  unfold tellD at h0 h1
  split at h0
  · rename_i hlt
    rw [if_pos hlt] at h1
    injection h1 with h1 h3
    subst h3
    exact ⟨_, h0, key 1 (by omega) h0, by rw [← h1]⟩
  · rename_i hlt
    rw [if_neg hlt] at h1
    injection h1 with h1 h3
    subst h3
    exact ⟨_, h0, key 0 (by omega) h0, by rw [← h1]⟩
/-- told by the slot 'k', if the other one tells a smaller number -/
theorem tells_of {D : List (List UInt8)} {img : List UInt8} {n k : Nat} (hk : k ≤ 1) (hn : 0 < n) (h : unpackS (slotD D k) = (n, img)) (ho : (unpackS (slotD D (1 - k))).1 < n) : Tells D img (mostD D) k := by
  refine ⟨?_, ?_, rfl⟩
  all_goals
    unfold tellD
    rcases Nat.le_one_iff_eq_zero_or_eq_one.1 hk with rfl | rfl
    · rw [if_neg (by rw [h]; exact Nat.not_lt.2 (Nat.le_of_lt ho)), h]
      try exact hn
    · rw [if_pos (by rw [h]; exact ho), h]
      try exact hn
/-- the other slot is of nothing, or of sectors of two numbers: all is as it was, but for the number -/
theorem Tells.other {D E : List (List UInt8)} {img : List UInt8} {N slot : Nat} (h : Tells D img N slot) (hs : slotD E slot = slotD D slot) (ho : (unpackS (slotD E (1 - slot))).1 = 0) : Tells E img (mostD E) slot := by
  obtain ⟨n, h1, h2, h3⟩ := h.cur
  exact tells_of h.slot_le h1 (by rw [hs]; exact h3) (by omega)
/-- another image has been laid -/
theorem Tells.next {D E : List (List UInt8)} {img bs : List UInt8} {N slot : Nat} (h : Tells D img N slot) (hN : N < 1125899906842624) (hb : bs.length ≤ 814) (hs : slotD E slot = slotD D slot) (ho : slotD E (1 - slot) = packOf (N + 1) bs) : Tells E bs (N + 1) (1 - slot) := by
  obtain ⟨n, h1, h2, h3⟩ := h.cur
  have hsl := h.slot_le
  have hm : mostD E = N + 1 := by
    have h4 : mostD E ≤ N + 1 := mostD_le.2 fun k hk r hr => by
      by_cases hks : k = slot
      · subst hks
        rw [hs] at hr
        have := mostD_le.1 (Nat.le_of_eq h.2.2) k hk r hr
        omega
      · obtain rfl : k = 1 - slot := by omega
        rw [ho] at hr
        obtain ⟨i, hi, rfl⟩ := List.mem_map.1 hr
        rw [numOf_row (by omega) hb (List.mem_range.1 hi)]
        exact Nat.le_refl _
    have h5 := mostD_le.1 (Nat.le_refl (mostD E)) (1 - slot) (by omega) (rowOf (N + 1) 0 bs) (by rw [ho]; exact List.mem_of_getElem? (packOf_get (by omega)))
    rw [numOf_row (by omega) hb (by omega)] at h5
    omega
  have ht := tells_of (D := E) (k := 1 - slot) (by omega) (Nat.succ_pos N) (by rw [ho]; exact unpack_pack (by omega) (by omega) hb) (by
    rw [show 1 - (1 - slot) = slot by omega, hs, h3]
    show n < N + 1
    omega)
  rw [hm] at ht
  exact ht
/-- some of the sectors of another image have been laid -/
theorem Tells.torn {D E : List (List UInt8)} {img bs : List UInt8} {N slot : Nat} (h : Tells D img N slot) (hN : N < 1125899906842624) (hb : bs.length ≤ 814) (hs : slotD E slot = slotD D slot)
    (ho : ∀ i, i < 16 → E.getD ((1 - slot) * 16 + i) [] = D.getD ((1 - slot) * 16 + i) [] ∨ E.getD ((1 - slot) * 16 + i) [] = rowOf (N + 1) i bs) :
    ∃ M, N ≤ M ∧ (Tells E img M slot ∨ Tells E bs M (1 - slot)) := by
  have hsl := h.slot_le
  have hold : ∀ i, i < 16 → numOf (D.getD ((1 - slot) * 16 + i) []) ≤ N := fun i hi =>
    mostD_le.1 (Nat.le_of_eq h.2.2) (1 - slot) (by omega) _ (List.mem_of_getElem? (slotD_get D (1 - slot) i hi))
  by_cases hall : ∀ i, i < 16 → E.getD ((1 - slot) * 16 + i) [] = rowOf (N + 1) i bs
  · have e : slotD E (1 - slot) = packOf (N + 1) bs := by
      unfold slotD packOf
      exact List.map_congr_left fun i hi => hall i (List.mem_range.1 hi)
    exact ⟨N + 1, by omega, .inr (h.next hN hb hs e)⟩
  · obtain ⟨i, hi, hni⟩ : ∃ i, i < 16 ∧ E.getD ((1 - slot) * 16 + i) [] ≠ rowOf (N + 1) i bs := Classical.byContradiction fun hc => hall fun i hi => Classical.byContradiction fun hne => hc ⟨i, hi, hne⟩
    have hoi : E.getD ((1 - slot) * 16 + i) [] = D.getD ((1 - slot) * 16 + i) [] := by
      rcases ho i hi with h | h
      · exact h
      · exact absurd h hni
    by_cases hnone : ∀ j, j < 16 → E.getD ((1 - slot) * 16 + j) [] = D.getD ((1 - slot) * 16 + j) []
    · have e1 : slotD E (1 - slot) = slotD D (1 - slot) := slotD_congr hnone
      have e2 : ∀ k, k ≤ 1 → slotD E k = slotD D k := fun k hk => by
        by_cases hks : k = slot
        · rw [hks]; exact hs
        · obtain rfl : k = 1 - slot := by omega
          exact e1
      have et : tellD E = tellD D := by unfold tellD; rw [e2 0 (by omega), e2 1 (by omega)]
      have em : mostD E = mostD D := by unfold mostD; rw [e2 0 (by omega), e2 1 (by omega)]
      exact ⟨N, Nat.le_refl _, .inl ⟨by rw [et]; exact h.1, by rw [et]; exact h.2.1, by rw [em]; exact h.2.2⟩⟩
    · obtain ⟨j, hj, hnj⟩ : ∃ j, j < 16 ∧ E.getD ((1 - slot) * 16 + j) [] ≠ D.getD ((1 - slot) * 16 + j) [] := Classical.byContradiction fun hc => hnone fun i hi => Classical.byContradiction fun hne => hc ⟨i, hi, hne⟩
      have hoj : E.getD ((1 - slot) * 16 + j) [] = rowOf (N + 1) j bs := by
        rcases ho j hj with h | h
        · exact absurd h hnj
        · exact h
      have hnum : numOf (rowOf (N + 1) j bs) = N + 1 := numOf_row (by omega) hb hj
      have hz := unpack_mixed (slotD_length E (1 - slot)) (slotD_get E (1 - slot) i hi) (slotD_get E (1 - slot) j hj) (by
        rw [hoi, hoj, hnum]
        have := hold i hi
        omega)
      refine ⟨mostD E, ?_, .inl (h.other hs hz)⟩
      have hge := mostD_le.1 (Nat.le_refl (mostD E)) (1 - slot) (by omega) _ (List.mem_of_getElem? (slotD_get E (1 - slot) j hj))
      rw [hoj, hnum] at hge
      omega
end Go.Proofs.YtlpjeopeboemmaaDoor

/-
  What a Commit makes of sectors, with a fuse or without; what a crash leaves of it. No statement of the seat is proved here.
-/
namespace Go.Proofs.YtlpjeopeboemmaaDoor

/-- rows are written, not flushed -/
def wrote (S : Sec) (i : Nat) : List (List UInt8) → Sec
  | [] => S
  | r :: rs => wrote (S.set i (S.getD i [] ++ [pad r])) (i + 1) rs
/-- rows laid over a flat disk -/
def over (D : List (List UInt8)) (i : Nat) : List (List UInt8) → List (List UInt8)
  | [] => D
  | r :: rs => over (D.set i (pad r)) (i + 1) rs

theorem wrote_length : ∀ (rows : List (List UInt8)) (S : Sec) (i : Nat), (wrote S i rows).length = S.length
  | [], _, _ => rfl
  | r :: rs, S, i => by rw [wrote, wrote_length rs]; simp
theorem over_length : ∀ (rows : List (List UInt8)) (D : List (List UInt8)) (i : Nat), (over D i rows).length = D.length
  | [], _, _ => rfl
  | r :: rs, D, i => by rw [over, over_length rs]; simp
theorem over_getD : ∀ (rows : List (List UInt8)) (D : List (List UInt8)) (i x : Nat), i + rows.length ≤ D.length → (over D i rows).getD x [] = if i ≤ x ∧ x < i + rows.length then pad (rows.getD (x - i) []) else D.getD x []
  | [], D, i, x, _ => by rw [over, if_neg (by rw [List.length_nil]; omega)]
  | r :: rs, D, i, x, h => by
    rw [List.length_cons] at h ⊢
    rw [over, over_getD rs _ _ x (by simp; omega)]
    by_cases h1 : i + 1 ≤ x ∧ x < i + 1 + rs.length
    · rw [if_pos h1, if_pos (by omega)]
      rw [show x - i = (x - (i + 1)) + 1 by omega]
      simp
    · rw [if_neg h1]
      by_cases hx : x = i
      · subst hx
        rw [if_pos (by omega), Nat.sub_self]
        simp [List.getD_eq_getElem?_getD, show x < D.length by omega]
      · rw [if_neg (by omega), List.getD_eq_getElem?_getD, List.getD_eq_getElem?_getD, List.getElem?_set_ne (Ne.symm hx)]
theorem lastOf_snoc (vs : List (List UInt8)) (v : List UInt8) : lastOf (vs ++ [v]) = v := by unfold lastOf; simp
theorem lasts_wrote : ∀ (rows : List (List UInt8)) (S : Sec) (i : Nat), i + rows.length ≤ S.length → lasts (wrote S i rows) = over (lasts S) i rows
  | [], _, _, _ => rfl
  | r :: rs, S, i, h => by
    rw [List.length_cons] at h
    rw [wrote, over, lasts_wrote rs _ _ (by simp; omega)]
    congr 1
    unfold lasts
    rw [List.map_set, lastOf_snoc]
theorem lasts_flush (S : Sec) : lasts (flushS S) = lasts S := by
  unfold lasts flushS
  rw [List.map_map]
  apply List.map_congr_left
  intro vs _
  rfl
theorem lasts_length (S : Sec) : (lasts S).length = S.length := by simp [lasts]
theorem lasts_getD (S : Sec) (x : Nat) : (lasts S).getD x [] = lastOf (S.getD x []) := by
  unfold lasts
  rw [List.getD_eq_getElem?_getD, List.getD_eq_getElem?_getD, List.getElem?_map]
  cases S[x]? <;> rfl

/-- each sector has one version -/
def Single (S : Sec) : Prop := ∀ vs ∈ S, vs.length = 1
theorem single_flush (S : Sec) : Single (flushS S) := fun vs h => by
  obtain ⟨_, _, rfl⟩ := List.mem_map.1 h
  rfl
theorem single_small {S : Sec} (h : Single S) : Small 1 S := fun vs hv => Nat.le_of_eq (h vs hv)

/-- all is written and flushed, or the fuse burns behind so many -/
theorem lay_cases : ∀ (rows : List (List UInt8)) (S : Sec) (l : Int) (i : Nat), -1 ≤ l → i + rows.length ≤ S.length → (∀ r ∈ rows, r.length ≤ 64) →
    (∃ l', layTo S l (i : Int) rows = (0, flushS (wrote S i rows), l') ∧ (l = -1 → l' = -1) ∧ -1 ≤ l') ∨ (0 ≤ l ∧ ∃ j, j ≤ rows.length ∧ layTo S l (i : Int) rows = (6, wrote S i (rows.take j), 0))
  | [], S, l, i, hl, _, _ => by
    by_cases h0 : l = 0
    · subst h0
      exact .inr ⟨by omega, 0, by simp, by simp [layTo, flushCode, tick, wrote]⟩
    · refine .inl ⟨tick l, ?_, fun h => by subst h; rfl, by unfold tick; split <;> omega⟩
      simp [layTo, flushCode, h0, wrote]
  | r :: rs, S, l, i, hl, h, h64 => by
    rw [List.length_cons] at h
    by_cases h0 : l = 0
    · subst h0
      refine .inr ⟨by omega, 0, by simp, ?_⟩
      have hc : writeCode S.length 0 (i : Int) r = 6 := by unfold writeCode; rw [if_pos rfl]
      rw [layTo, hc, if_neg (by omega)]
      rfl
    · have hc : writeCode S.length l (i : Int) r = 0 := by
        unfold writeCode
        rw [if_neg h0, if_neg (by have := h64 r (by simp); omega)]
      have hw : writeS S l (i : Int) r = S.set i (S.getD i [] ++ [pad r]) := by
        unfold writeS
        rw [if_pos hc, Int.toNat_natCast]
      have htl : -1 ≤ tick l := by unfold tick; split <;> omega
      have ih := lay_cases rs (S.set i (S.getD i [] ++ [pad r])) (tick l) (i + 1) htl (by simp; omega) (fun q hq => h64 q (by simp [hq]))
      have e : layTo S l (i : Int) (r :: rs) = layTo (S.set i (S.getD i [] ++ [pad r])) (tick l) ((i + 1 : Nat) : Int) rs := by
        rw [layTo, if_pos hc, hw]
        rfl
      rw [e]
      rcases ih with ⟨l', h1, h2, h3⟩ | ⟨h1, j, h2, h3⟩
      · refine .inl ⟨l', by rw [h1]; rfl, fun hl1 => h2 (by rw [hl1]; rfl), h3⟩
      · refine .inr ⟨by unfold tick at h1; split at h1 <;> omega, j + 1, by simp; omega, by rw [h3]; rfl⟩

/-- of a crash: a sector is what it was, or what was written -/
theorem wrote_mem : ∀ (rows : List (List UInt8)) (S : Sec) (i x : Nat), i + rows.length ≤ S.length → ∀ v ∈ (wrote S i rows).getD x [], v ∈ S.getD x [] ∨ (i ≤ x ∧ x < i + rows.length ∧ v = pad (rows.getD (x - i) []))
  | [], _, _, _, _, v, h => .inl h
  | r :: rs, S, i, x, hl, v, h => by
    rw [List.length_cons] at hl ⊢
    rw [wrote] at h
    rcases wrote_mem rs _ _ x (by simp; omega) v h with h1 | ⟨h1, h2, h3⟩
    · by_cases hx : x = i
      · subst hx
        rw [List.getD_eq_getElem?_getD, List.getElem?_set_self (by omega)] at h1
        rcases List.mem_append.1 h1 with h1 | h1
        · exact .inl h1
        · simp at h1
          exact .inr ⟨by omega, by omega, by rw [Nat.sub_self]; simpa using h1⟩
      · rw [List.getD_eq_getElem?_getD, List.getElem?_set_ne (Ne.symm hx), ← List.getD_eq_getElem?_getD] at h1
        exact .inl h1
    · refine .inr ⟨by omega, by omega, ?_⟩
      rw [show x - i = (x - (i + 1)) + 1 by omega]
      simpa using h3
theorem crash_getD {S : Sec} (hne : ∀ vs ∈ S, vs ≠ []) (ps : List Int) (x : Nat) (hx : x < S.length) : (lasts (crashS S ps)).getD x [] ∈ S.getD x [] := by
  rw [lasts_getD]
  have e : (crashS S ps).getD x [] = if 1 < (S[x]).length then [crashAt S ps x] else S[x] := by
    unfold crashS
    rw [List.getD_eq_getElem?_getD, List.getElem?_mapIdx, List.getElem?_eq_getElem hx]
    rfl
  have eS : S.getD x [] = S[x] := by rw [List.getD_eq_getElem?_getD, List.getElem?_eq_getElem hx]; rfl
  rw [e, eS]
  have hn := hne S[x] (List.getElem_mem hx)
  split
  · show crashAt S ps x ∈ _
    unfold crashAt
    rw [eS]
    exact pickOf_mem hn _
  · exact lastOf_mem hn
theorem crash_single {S : Sec} (hne : ∀ vs ∈ S, vs ≠ []) (ps : List Int) : Single (crashS S ps) := fun vs h => by
  obtain ⟨x, hx, rfl⟩ := List.mem_iff_getElem.1 h
  have hx' : x < S.length := by simpa [crashS] using hx
  simp only [crashS, List.getElem_mapIdx]
  split
  · rfl
  · have := List.length_pos_iff.2 (hne _ (List.getElem_mem hx'))
    omega
theorem single_getD {S : Sec} (h : Single S) (x : Nat) (hx : x < S.length) : S.getD x [] = [(lasts S).getD x []] := by
  rw [lasts_getD]
  have eS : S.getD x [] = S[x] := by rw [List.getD_eq_getElem?_getD, List.getElem?_eq_getElem hx]; rfl
  rw [eS]
  match hs : S[x], h S[x] (List.getElem_mem hx) with
  | [v], _ => rfl
theorem crash_of_single {S : Sec} (h : Single S) (ps : List Int) : crashS S ps = S := by
  refine List.ext_getElem (by simp [crashS]) fun x h1 h2 => ?_
  simp only [crashS, List.getElem_mapIdx]
  rw [if_neg (by have := h _ (List.getElem_mem h2); omega)]

theorem pad_row {r : List UInt8} (h : r.length = 64) : pad r = r := by unfold pad; rw [h]; simp
theorem packOf_64 {n : Nat} {img : List UInt8} (hi : img.length ≤ 814) : ∀ r ∈ packOf n img, r.length = 64 := fun r hr => by
  obtain ⟨k, hk, rfl⟩ := List.mem_map.1 hr
  exact row_length hi (List.mem_range.1 hk)
theorem packOf_getD {n k : Nat} {img : List UInt8} (hk : k < 16) : (packOf n img).getD k [] = rowOf n k img := by
  rw [List.getD_eq_getElem?_getD, packOf_get hk]; rfl
/-- a slot that was laid over -/
theorem slot_over {D : List (List UInt8)} {k n : Nat} {bs : List UInt8} (hk : k ≤ 1) (h : 32 ≤ D.length) (hb : bs.length ≤ 814) : slotD (over D (k * 16) (packOf n bs)) k = packOf n bs := by
  unfold slotD
  have e : packOf n bs = (List.range 16).map fun i => rowOf n i bs := rfl
  rw [e]
  apply List.map_congr_left
  intro i hi
  have hi' := List.mem_range.1 hi
  rw [← e, over_getD _ _ _ _ (by rw [packOf_length]; omega), packOf_length, if_pos (by omega), show k * 16 + i - k * 16 = i by omega, packOf_getD hi', pad_row (row_length hb hi')]
theorem slot_over_other {D : List (List UInt8)} {k j : Nat} {rows : List (List UInt8)} (hk : k ≤ 1) (hj : j ≤ 1) (hne : j ≠ k) (h : 32 ≤ D.length) (hr : rows.length = 16) : slotD (over D (k * 16) rows) j = slotD D j :=
  slotD_congr fun i hi => by rw [over_getD _ _ _ _ (by omega), if_neg (by omega)]
end Go.Proofs.YtlpjeopeboemmaaDoor

/-
  A Super that lives, one that was cut short; what Format, Commit, a crash make of them. No statement of the seat is proved here.
-/
namespace Go.Proofs.YtlpjeopeboemmaaDoor

/-- A Super that lives: all of its disk is flushed, and an opened one tells the same. -/
structure Alive (s : SupS) : Prop where
  dead : s.dead = false
  one : Single s.S
  len : 32 ≤ s.S.length
  tells : Tells (lasts s.S) s.img s.N s.slot
  low : -1 ≤ s.l
/-- behind a commit of 'bs' that was cut short: whatever a crash leaves, this image or the one ahead is told -/
structure Cut (s : SupS) (bs : List UInt8) (N : Nat) : Prop where
  dead : s.dead = true
  ne : ∀ vs ∈ s.S, vs ≠ []
  len : 32 ≤ s.S.length
  low : -1 ≤ s.l
  small : Small 2 s.S
  tells : ∀ ps, ∃ M k, N ≤ M ∧ (Tells (lasts (crashS s.S ps)) s.img M k ∨ Tells (lasts (crashS s.S ps)) bs M k)

theorem single_ne {S : Sec} (h : Single S) : ∀ vs ∈ S, vs ≠ [] := fun vs hv e => by
  have := h vs hv
  rw [e] at this
  cases this
theorem flush_length (S : Sec) : (flushS S).length = S.length := by simp [flushS]
theorem small_wrote {N : Nat} : ∀ (rows : List (List UInt8)) (S : Sec) (i : Nat), Single S → (∀ x, i ≤ x → (S.getD x []).length ≤ 1) → (∀ vs ∈ S, vs.length ≤ 2) → ∀ vs ∈ wrote S i rows, vs.length ≤ 2 := fun rows S i h1 _ _ vs hv => by
  obtain ⟨x, hx, rfl⟩ := List.mem_iff_getElem.1 hv
  have key : ∀ (rows : List (List UInt8)) (S : Sec) (i x : Nat), (∀ y, i ≤ y → (S.getD y []).length ≤ 1) → (∀ y, (S.getD y []).length ≤ 2) → ((wrote S i rows).getD x []).length ≤ 2 := by
    intro rows
    induction rows with
    | nil => intro S i x _ h2; exact h2 x
    | cons r rs ih =>
      intro S i x ha hb
      rw [wrote]
      refine ih _ _ x (fun y hy => ?_) (fun y => ?_)
      · rw [List.getD_eq_getElem?_getD, List.getElem?_set_ne (by omega), ← List.getD_eq_getElem?_getD]
        exact ha y (by omega)
      · by_cases hy : y = i
        · subst hy
          by_cases hl : y < S.length
          · rw [List.getD_eq_getElem?_getD, List.getElem?_set_self hl]
            have := ha y (Nat.le_refl _)
            simp only [Option.getD_some, List.length_append, List.length_singleton]
            omega
          · rw [List.getD_eq_getElem?_getD, List.getElem?_eq_none (by simp; omega)]
            simp
        · rw [List.getD_eq_getElem?_getD, List.getElem?_set_ne (Ne.symm hy), ← List.getD_eq_getElem?_getD]
          exact hb y
  have h0 : ∀ y, (S.getD y []).length ≤ 1 := fun y => by
    by_cases hy : y < S.length
    · rw [List.getD_eq_getElem?_getD, List.getElem?_eq_getElem hy]
      exact Nat.le_of_eq (h1 _ (List.getElem_mem hy))
    · rw [List.getD_eq_getElem?_getD, List.getElem?_eq_none (by omega)]
      simp
  have := key rows S i x (fun y _ => h0 y) (fun y => by have := h0 y; omega)
  rw [List.getD_eq_getElem?_getD, List.getElem?_eq_getElem hx] at this
  exact this
theorem wrote_ne : ∀ (rows : List (List UInt8)) (S : Sec) (i : Nat), (∀ vs ∈ S, vs ≠ []) → ∀ vs ∈ wrote S i rows, vs ≠ []
  | [], _, _, h => h
  | r :: rs, S, i, h => wrote_ne rs _ _ fun vs hv => by
    rcases List.mem_or_eq_of_mem_set hv with hv | hv
    · exact h vs hv
    · rw [hv]; simp

/-- a slot's sectors are laid, or the fuse burns ahead of it -/
theorem lay_pack {S : Sec} (h1 : Single S) (h32 : 32 ≤ S.length) {l : Int} (hl : -1 ≤ l) {k : Nat} (hk : k ≤ 1) (n : Nat) {bs : List UInt8} (hb : bs.length ≤ 814) :
    (∃ S1 l', layTo S l ((k * 16 : Nat) : Int) (packOf n bs) = (0, S1, l') ∧ Single S1 ∧ S1.length = S.length ∧ slotD (lasts S1) (1 - k) = slotD (lasts S) (1 - k) ∧ slotD (lasts S1) k = packOf n bs ∧ (l = -1 → l' = -1) ∧ -1 ≤ l') ∨
    (0 ≤ l ∧ ∃ S1, layTo S l ((k * 16 : Nat) : Int) (packOf n bs) = (6, S1, 0) ∧ (∀ vs ∈ S1, vs ≠ []) ∧ S1.length = S.length ∧ Small 2 S1 ∧ ∀ ps, slotD (lasts (crashS S1 ps)) (1 - k) = slotD (lasts S) (1 - k) ∧ ∀ i, i < 16 → (lasts (crashS S1 ps)).getD (k * 16 + i) [] = (lasts S).getD (k * 16 + i) [] ∨ (lasts (crashS S1 ps)).getD (k * 16 + i) [] = rowOf n i bs) := by
  have hD : 32 ≤ (lasts S).length := by rw [lasts_length]; exact h32
  have hlen : (packOf n bs).length = 16 := packOf_length n bs
  have h64 : ∀ r ∈ packOf n bs, r.length ≤ 64 := fun r hr => by rw [packOf_64 hb r hr]; omega
  have hso : slotD (over (lasts S) (k * 16) (packOf n bs)) k = packOf n bs := slot_over hk hD hb
  have hso2 : slotD (over (lasts S) (k * 16) (packOf n bs)) (1 - k) = slotD (lasts S) (1 - k) := slot_over_other hk (by omega) (by omega) hD hlen
  have hrow : ∀ i, i < 16 → pad ((packOf n bs).getD i []) = rowOf n i bs := fun i hi => by rw [packOf_getD hi, pad_row (row_length hb hi)]
  generalize rowOf n = row at *
  generalize packOf n bs = rows at *
  have hfit : k * 16 + rows.length ≤ S.length := by omega
  rcases lay_cases rows S l (k * 16) hl hfit h64 with ⟨l', e, hl1, hl'⟩ | ⟨hl0, j, hj, e⟩
  · left
    have hla : lasts (flushS (wrote S (k * 16) rows)) = over (lasts S) (k * 16) rows := by rw [lasts_flush, lasts_wrote _ _ _ hfit]
    have hsi := single_flush (wrote S (k * 16) rows)
    have hfl : (flushS (wrote S (k * 16) rows)).length = S.length := by rw [flush_length, wrote_length]
    generalize flushS (wrote S (k * 16) rows) = S1 at *
    exact ⟨S1, l', e, hsi, hfl, by rw [hla]; exact hso2, by rw [hla]; exact hso, hl1, hl'⟩
  · right
    have hfj : k * 16 + (rows.take j).length ≤ S.length := by rw [List.length_take]; omega
    have hne := wrote_ne (rows.take j) S (k * 16) (single_ne h1)
    have hwl := wrote_length (rows.take j) S (k * 16)
    have hsm : Small 2 (wrote S (k * 16) (rows.take j)) := small_wrote (N := 0) _ _ _ h1 (fun x _ => by
      by_cases hx : x < S.length
      · rw [List.getD_eq_getElem?_getD, List.getElem?_eq_getElem hx]; exact Nat.le_of_eq (h1 _ (List.getElem_mem hx))
      · rw [List.getD_eq_getElem?_getD, List.getElem?_eq_none (by omega)]; simp) (fun vs hv => by rw [h1 vs hv]; omega)
    have hmem := wrote_mem (rows.take j) S (k * 16)
    generalize wrote S (k * 16) (rows.take j) = S1 at *
    have hget : ∀ ps x, x < S.length → (lasts (crashS S1 ps)).getD x [] = (lasts S).getD x [] ∨ (k * 16 ≤ x ∧ x < k * 16 + j ∧ (lasts (crashS S1 ps)).getD x [] = pad ((rows.take j).getD (x - k * 16) [])) := fun ps x hx => by
      have h2 := crash_getD hne ps x (by rw [hwl]; exact hx)
      rcases hmem x hfj _ h2 with h2 | ⟨h2, h3, h4⟩
      · rw [single_getD h1 x hx] at h2
        exact .inl (by simpa using h2)
      · rw [List.length_take] at h3
        exact .inr ⟨h2, by omega, h4⟩
    refine ⟨hl0, S1, e, hne, hwl, hsm, fun ps => ⟨slotD_congr fun i hi => ?_, fun i hi => ?_⟩⟩
    · rcases hget ps ((1 - k) * 16 + i) (by omega) with h | ⟨h, h2, _⟩
      · exact h
      · omega
    · rcases hget ps (k * 16 + i) (by omega) with h | ⟨h, h2, h3⟩
      · exact .inl h
      · right
        rw [h3, show k * 16 + i - k * 16 = i by omega, ← hrow i hi]
        congr 1
        rw [List.getD_eq_getElem?_getD, List.getD_eq_getElem?_getD, List.getElem?_take, if_pos (by omega)]

/-- what a Commit of a Super that lives may be -/
theorem commit_sem {s : SupS} (h : Alive s) (bs : List UInt8) (hb : bs.length ≤ 814) (hN : s.N < 1125899906842624) :
    (∃ s', commitS s bs = (0, s') ∧ Alive s' ∧ s'.img = bs ∧ s'.N = s.N + 1 ∧ s'.S.length = s.S.length ∧ (s.l = -1 → s'.l = -1) ∧ slotD (lasts s'.S) s.slot = slotD (lasts s.S) s.slot ∧ s'.slot = 1 - s.slot ∧ slotD (lasts s'.S) (1 - s.slot) = packOf (s.N + 1) bs) ∨
    (0 ≤ s.l ∧ ∃ s', commitS s bs = (6, s') ∧ Cut s' bs s.N ∧ s'.img = s.img ∧ s'.S.length = s.S.length ∧ s'.l = 0 ∧ s'.N = s.N) := by
  have hsl := h.tells.slot_le
  have hlen := h.len
  have hp : packI ((s.N : Int) + 1) bs = packOf (s.N + 1) bs := by
    unfold packI
    rw [if_pos ⟨by omega, by omega, hb⟩, show ((s.N : Int) + 1).toNat = s.N + 1 by omega]
  have hcast : (((1 - s.slot : Nat) : Int) * 16) = (((1 - s.slot) * 16 : Nat) : Int) := by rw [Int.natCast_mul]; rfl
  have hc : ∀ R, layTo s.S s.l (((1 - s.slot) * 16 : Nat) : Int) (packOf (s.N + 1) bs) = R → commitS s bs = if R.1 = 0 then (0, { S := R.2.1, l := R.2.2, img := bs, N := s.N + 1, slot := 1 - s.slot, dead := false }) else (R.1, { s with S := R.2.1, l := R.2.2, dead := true }) := by
    rintro R rfl
    unfold commitS
    rw [if_neg (by rw [h.dead]; simp), if_neg (by omega), hp, hcast]
  have hss : 1 - (1 - s.slot) = s.slot := by omega
  have hlp := lay_pack h.one hlen h.low (k := 1 - s.slot) (by omega) (s.N + 1) hb
  rw [hss] at hlp
  rcases hlp with ⟨S1, l', e, h1, h2, h3, h4, h5, h6⟩ | ⟨hl0, S1, e, h1, h2, h3, h4⟩
  · left
    have hc1 := hc _ e
    rw [if_pos rfl] at hc1
    exact ⟨_, hc1, { dead := rfl, one := h1, len := by rw [h2]; exact hlen, tells := h.tells.next hN hb h3 h4, low := h6 }, rfl, rfl, h2, h5, h3, rfl, h4⟩
  · right
    have hc1 := hc _ e
    rw [if_neg (show ¬ (6 : Int) = 0 by omega)] at hc1
    refine ⟨hl0, _, hc1, { dead := rfl, ne := h1, len := by rw [h2]; exact hlen, low := by show (-1 : Int) ≤ 0; omega, small := h3, tells := fun ps => ?_ }, rfl, h2, rfl, rfl⟩
    obtain ⟨M, hM, ht⟩ := h.tells.torn hN hb (h4 ps).1 (h4 ps).2
    rcases ht with ht | ht
    · exact ⟨M, _, hM, .inl ht⟩
    · exact ⟨M, _, hM, .inr ht⟩
theorem commit_refused {s : SupS} (h : s.dead = false) (bs : List UInt8) (hb : 814 < bs.length ∨ s.N = 1125899906842624) : commitS s bs = (3, s) := by
  unfold commitS
  rw [if_neg (by rw [h]; simp), if_pos hb]
theorem commit_dead {s : SupS} (h : s.dead = true) (bs : List UInt8) : commitS s bs = (6, s) := by
  unfold commitS
  rw [if_pos h]

/-! ### Format -/
theorem zeros_num0 : numOf (List.replicate 64 0) = 0 := by kernel_rfl
theorem zeros_num (r : List UInt8) (h : r = List.replicate 64 0) : numOf r = 0 := by
  subst h
  exact zeros_num0
theorem pad_nil : pad [] = List.replicate 64 0 := rfl
/-- Format of a disk without a fuse -/
theorem format_sem {S : Sec} (hl : 32 ≤ S.length) (hne : ∀ vs ∈ S, vs ≠ []) (bs : List UInt8) (hb : bs.length ≤ 814) :
    (layTo S (-1) 16 nils).1 = 0 ∧ ∃ s, formatS S (-1) bs = (0, s) ∧ Alive s ∧ s.img = bs ∧ s.N = 1 ∧ s.slot = 0 ∧ s.l = -1 ∧ s.S.length = S.length ∧ slotD (lasts s.S) 0 = packOf 1 bs ∧ unpackS (slotD (lasts s.S) 1) = (0, []) := by
  have hn64 : ∀ r ∈ nils, r.length ≤ 64 := fun r hr => by rw [List.eq_of_mem_replicate hr]; simp
  have hnl : nils.length = 16 := rfl
  have e1 : ∃ S1, layTo S (-1) 16 nils = (0, S1, -1) ∧ Single S1 ∧ S1.length = S.length ∧ lasts S1 = over (lasts S) 16 nils := by
    rcases lay_cases nils S (-1) 16 (by omega) (by rw [hnl]; omega) hn64 with ⟨l', e, h1, _⟩ | ⟨h0, _⟩
    · rw [h1 rfl] at e
      exact ⟨_, e, single_flush _, by rw [flush_length, wrote_length], by rw [lasts_flush, lasts_wrote _ _ _ (by rw [hnl]; omega)]⟩
    · omega
  obtain ⟨S1, e, hs1, hl1, hla⟩ := e1
  refine ⟨by rw [e], ?_⟩
  have hz : ∀ i, i < 16 → (lasts S1).getD (1 * 16 + i) [] = List.replicate 64 0 := fun i hi => by
    rw [hla, over_getD _ _ _ _ (by rw [hnl, lasts_length]; omega), if_pos (by rw [hnl]; omega)]
    have : nils.getD (1 * 16 + i - 16) [] = [] := by
      rw [List.getD_eq_getElem?_getD]
      unfold nils
      rw [List.getElem?_replicate, if_pos (by omega)]; rfl
    rw [this]; rfl
  have hu1 : ∀ D : List (List UInt8), (∀ i, i < 16 → D.getD (1 * 16 + i) [] = List.replicate 64 0) → unpackS (slotD D 1) = (0, []) := fun D hD => by
    refine unpack_zero_snd (slotD_length _ _) ?_
    rcases Nat.eq_zero_or_pos (unpackS (slotD D 1)).1 with h | h
    · exact h
    · exfalso
      obtain ⟨h1, h2, h3⟩ := unpack_some h (slotD_length _ _)
      have h4 := slotD_get D 1 0 (by omega)
      rw [h1, packOf_get (by omega)] at h4
      injection h4 with h4
      have h5 := numOf_row (n := (unpackS (slotD D 1)).1) (k := 0) h2 h3 (by omega)
      rw [h4, zeros_num _ (hD 0 (by omega))] at h5
      omega
  have hp : packI (((0 : Nat) : Int) + 1) bs = packOf 1 bs := by unfold packI; rw [if_pos ⟨by omega, by omega, hb⟩]; rfl
  have hc : formatS S (-1) bs = if (layTo S1 (-1) ((0 : Nat) : Int) (packOf 1 bs)).1 = 0 then (0, { S := (layTo S1 (-1) ((0 : Nat) : Int) (packOf 1 bs)).2.1, l := (layTo S1 (-1) ((0 : Nat) : Int) (packOf 1 bs)).2.2, img := bs, N := 1, slot := 0, dead := false })
      else ((layTo S1 (-1) ((0 : Nat) : Int) (packOf 1 bs)).1, { S := (layTo S1 (-1) ((0 : Nat) : Int) (packOf 1 bs)).2.1, l := (layTo S1 (-1) ((0 : Nat) : Int) (packOf 1 bs)).2.2, img := [], N := 0, slot := 1, dead := true }) := by
    unfold formatS
    rw [e]
    unfold commitS
    rw [if_neg (by simp), if_neg (by show ¬ (814 < bs.length ∨ (0 : Nat) = 1125899906842624); omega), hp]
    rfl
  have hc' : ∀ R, layTo S1 (-1) ((0 : Nat) : Int) (packOf 1 bs) = R → formatS S (-1) bs = if R.1 = 0 then (0, { S := R.2.1, l := R.2.2, img := bs, N := 1, slot := 0, dead := false }) else (R.1, { S := R.2.1, l := R.2.2, img := [], N := 0, slot := 1, dead := true }) := by
    rintro R rfl
    exact hc
  have hlp := lay_pack hs1 (by omega) (show (-1 : Int) ≤ -1 by omega) (k := 0) (by omega) 1 hb
  rcases hlp with ⟨S2, l', e2, g1, g2, g3, g4, g5, g6⟩ | ⟨h0, _⟩
  · have hc1 := hc' _ e2
    rw [if_pos rfl] at hc1
    have hu := hu1 _ hz
    rw [show 1 - 0 = 1 from rfl] at g3
    rw [← g3] at hu
    have ht := tells_of (D := lasts S2) (img := bs) (n := 1) (k := 0) (by omega) (by omega) (by rw [g4]; exact unpack_pack (by omega) (by omega) hb) (by rw [hu]; show (0 : Nat) < 1; omega)
    have hm : mostD (lasts S2) = 1 := by
      have h4 : mostD (lasts S2) ≤ 1 := mostD_le.2 fun k hk r hr => by
        rcases Nat.le_one_iff_eq_zero_or_eq_one.1 hk with rfl | rfl
        · rw [g4] at hr
          obtain ⟨i, hi, rfl⟩ := List.mem_map.1 hr
          rw [numOf_row (by omega) hb (List.mem_range.1 hi)]
          exact Nat.le_refl _
        · rw [g3] at hr
          obtain ⟨i, hi, rfl⟩ := List.mem_map.1 hr
          rw [zeros_num _ (hz i (List.mem_range.1 hi))]
          omega
      have h5 := mostD_le.1 (Nat.le_refl (mostD (lasts S2))) 0 (by omega) (rowOf 1 0 bs) (by rw [g4]; exact List.mem_of_getElem? (packOf_get (by omega)))
      rw [numOf_row (by omega) hb (by omega)] at h5
      omega
    rw [hm] at ht
    exact ⟨_, hc1, { dead := rfl, one := g1, len := by show 32 ≤ S2.length; omega, tells := ht, low := g6 }, rfl, rfl, rfl, g5 rfl, by show S2.length = _; omega, g4, hu⟩
  · omega
end Go.Proofs.YtlpjeopeboemmaaDoor

/-
  The methods of a Super in a law's own words; the contract of the laws' helper known. No statement of the seat is proved here.
-/
namespace Go.Proofs.YtlpjeopeboemmaaDoor
open Go Go.RowKit

theorem Tab.block_lt {W : World} (ht : Tab W) : 0 < W.heap.size := World.block_lt_of_cell? W _ (ht 0 (by omega))
theorem Tab.born {W w : World} (ht : Tab W) : ¬ Born W w 0 := fun h => by have := ht.block_lt; have := h.1; omega
/-- a Super of the law's own -/
structure Own3 (W w : World) (g gd : Nat) (s : SupS) : Prop where
  sup : Sup w (Born W w) g gd s
  bel : Below W.heap.size W w
  tab : Tab W
theorem Own3.tb {W w : World} {g gd : Nat} {s : SupS} (h : Own3 W w g gd s) : Tab w := h.tab.ext h.bel
theorem sup_born {W w w' : World} {g gd : Nat} {s : SupS} (hb : Below W.heap.size W w) (h : Sup w' (More (Born W w) w w') g gd s) (ho : w.heap.size ≤ w'.heap.size) : Sup w' (Born W w') g gd s :=
  SupAt.mono h fun k hk _ => by
    rcases hk with hk | hk
    · exact ⟨hk.1, by have := hk.2; omega⟩
    · exact ⟨by have := hb.size; omega, hk.2⟩
theorem Own3.ext {W w w' : World} {g gd : Nat} {s : SupS} (h : Own3 W w g gd s) (hb : Below w.heap.size w w') : Own3 W w' g gd s :=
  ⟨(SupAt.ext h.sup hb).mono (fun k hk _ => ⟨hk.1, by have := hk.2; have := hb.size; omega⟩), ext_trans h.bel hb, h.tab⟩
theorem Own3.drew {W w : World} {g gd : Nat} {s : SupS} (h : Own3 W w g gd s) : Own3 W w.drew g gd s := h.ext (ext_drew (Below.refl _ _))
theorem Own3.imp {W w : World} {g gd : Nat} {s : SupS} (h : Own3 W w g gd s) : Imp w (Born W w) gd s.S s.l := SupAt.impd h.sup

theorem step_commit {W w : World} {g gd : Nat} {s : SupS} (h : Own3 W w g gd s) (hs : Small 900000 s.S) (B : Option Addr) (m d : Nat) (bs : List UInt8) (hB : Bs w B m d bs) (hbl : bs.length ≤ maxLen) :
    Calls Tryd.prog 19 #[.pointer (some ⟨g, 0, none⟩), .slice B m d] w fun e w' => e = .returned (.int .i64 (commitS s bs).1) ∧ Own3 W w' g gd (commitS s bs).2 := by
  refine (commit_any h.tb h.sup hs B m d bs hB hbl).mono ?_
  rintro e w' ⟨rfl, h1, h2⟩
  exact ⟨rfl, sup_born h.bel h1 h2.size, h.bel.trans (Born.below h2 h.bel.size), h.tab⟩
theorem step_image {W w : World} {g gd : Nat} {s : SupS} (h : Own3 W w g gd s) :
    Calls Tryd.prog 15 #[.pointer (some ⟨g, 0, none⟩)] w fun e w' => ∃ A c, e = .returned (.slice A s.img.length c) ∧ Bs w' A s.img.length c s.img ∧ Own3 W w' g gd s ∧ Below w.heap.size w w' := by
  refine (image_any h.sup).mono ?_
  rintro e w' ⟨A, c, rfl, hn, hb⟩
  exact ⟨A, c, rfl, hn.bs, h.ext hb, hb⟩
theorem step_open {W w : World} {gd : Nat} {S : Sec} {l : Int} (hI : Imp w (Born W w) gd S l) (hb : Below W.heap.size W w) (ht : Tab W) (hs : Small 1000000 S) (h32 : 32 ≤ S.length) {img : List UInt8} {N slot : Nat} (hT : Tells (lasts S) img N slot) :
    Calls Tryd.prog 22 #[.pointer (some ⟨gd, 0, none⟩)] w fun e w' => ∃ g, e = .returned (.tuple #[.pointer (some ⟨g, 0, none⟩), .int .i64 0]) ∧ Own3 W w' g gd ⟨S, l, img, N, slot, false⟩ ∧ Below w.heap.size w w' := by
  refine (open_any (ht.ext hb) hI hs h32).mono ?_
  rintro e w' ⟨h1, h2⟩
  obtain ⟨t1, t2, t3⟩ := hT
  rw [tell_lasts, most_lasts] at h2
  rcases h2 with ⟨h2, _⟩ | ⟨_, g, rfl, _, h3⟩
  · omega
  · rw [t2, t3] at h3
    exact ⟨g, rfl, ⟨sup_born hb h3 h1.size, ext_trans hb h1, ht⟩, h1⟩
theorem step_open_none {W w : World} {gd : Nat} {S : Sec} {l : Int} (hI : Imp w (Born W w) gd S l) (hb : Below W.heap.size W w) (ht : Tab W) (hs : Small 1000000 S) (h32 : 32 ≤ S.length) (hT : (tellD (lasts S)).1 = 0) :
    Calls Tryd.prog 22 #[.pointer (some ⟨gd, 0, none⟩)] w fun e w' => e = .returned (.tuple #[.pointer none, .int .i64 2]) ∧ Below w.heap.size w w' := by
  refine (open_any (ht.ext hb) hI hs h32).mono ?_
  rintro e w' ⟨h1, h2⟩
  rw [tell_lasts] at h2
  rcases h2 with ⟨_, h2⟩ | ⟨h2, _⟩
  · exact ⟨h2, h1⟩
  · omega
/-- Format of a disk of the law's own, without a fuse -/
theorem step_format {W w : World} {gd : Nat} {S : Sec} (hI : Imp w (Born W w) gd S (-1)) (hb : Below W.heap.size W w) (ht : Tab W) (hs : Small 800000 S) (h32 : 32 ≤ S.length) {w1 : World} (h1 : Below w.heap.size w w1) (B : Option Addr) (m d : Nat) (bs : List UInt8) (hB : Bs w1 B m d bs) (hBf : ∀ ad, B = some ad → bs ≠ [] → ¬ Born W w ad.block) (hbl : bs.length ≤ 814) :
    Calls Tryd.prog 30 #[.pointer (some ⟨gd, 0, none⟩), .slice B m d] w1 fun e w' => ∃ g s, e = .returned (.tuple #[.pointer (some ⟨g, 0, none⟩), .int .i64 0]) ∧ Own3 W w' g gd s ∧ Alive s ∧ s.img = bs ∧ s.N = 1 ∧ s.slot = 0 ∧ s.l = -1 ∧ s.S.length = S.length ∧ slotD (lasts s.S) 0 = packOf 1 bs ∧ unpackS (slotD (lasts s.S) 1) = (0, []) := by
  obtain ⟨c1, s, c2, r⟩ := format_sem h32 (fun vs hv => (hI.wf vs hv).1) bs hbl
  have hf := format_any (fp := Born W w) (ht.ext (ext_trans hb h1)) ht.born (hI.ext h1) hs h32 B m d bs hB hBf hbl c1 (by rw [c2])
  rw [c2] at hf
  refine hf.mono ?_
  rintro e w' ⟨g, rfl, _, h3, h4⟩
  have hz := hb.size
  have hz1 := h1.size
  refine ⟨g, s, rfl, ⟨?_, (ext_trans hb h1).trans (h4.below (fun _ hk => hk.1) (by omega)), ht⟩, r⟩
  exact SupAt.mono h3 fun k hk _ => by
    have := h4.size
    rcases hk with hk | hk
    · exact ⟨hk.1, by have := hk.2; omega⟩
    · exact ⟨by omega, hk.2⟩

theorem Bs.lit1 {W : World} (v : UInt8) {fr : Nat × Nat} {g : Nat} (hg : g = W.heap.size) : Bs (W.alloc (.cells #[.int .u8 (v.toNat : Int)] 5 fr)) (some ⟨g, 0, none⟩) 1 1 [v] :=
  ⟨rfl, Nat.le_refl _, by
    have := Rd.lit_at W #[.int .u8 (v.toNat : Int)] 5 (fr := fr) hg
    exact this⟩
theorem Alive.small {s : SupS} (h : Alive s) (N : Nat) (hN : 1 ≤ N) : Small N s.S := small_mono (single_small h.one) hN

set_option maxRecDepth 100000 in
set_option maxHeartbeats 2000000 in
theorem known_any (w : World) (ht : Tab w) : Calls Tryd.prog 18 #[] w fun e w' => e = .returned (.bool true) ∧ Below w.heap.size w w' := by
  have kc := fun (w : World) (C : Array Value) (n c : Nat) => Lib.run_convert_bytes_const (P := Tryd.prog) w 22 5 C n c Tryd.underlying22 Tryd.underlying5
  have hnew := new_step 32 w w (Below.refl _ _) (by omega) (by omega)
  have Hnew := Lib.hid hnew
  clear hnew
  go_enter Tryd.func18, Tryd.ntmps18
  go_wp2_with fail
  refine Hnew.out.mono ?_
  rintro e w1 ⟨gd, rfl, hI1, hb1⟩
  go_wp2_with fail
  refine (step_format hI1 hb1 ht (small_mono (small_zero 32) (by omega)) (by simp [zeroS]) (ext_alloc (Below.refl _ _) (.cells #[.int .u8 97] 5 (1, 2))) (some ⟨w1.heap.size, 0, none⟩) 1 1 [97] (Bs.lit1 97 rfl) (fun ad e _ hk => by injection e with e; subst e; exact Nat.lt_irrefl _ hk.2) (by decide)).mono ?_
  rintro e w2 ⟨g, s, rfl, hO, hA, hi, hN, -, hl, hlen, -, -⟩
  rcases commit_sem hA [98] (by decide) (by omega) with ⟨s2, e2, hA2, hi2, hN2, hl2, -⟩ | ⟨h0, _⟩
  case inr => omega
  have hcm := step_commit (hO.ext (ext_alloc (Below.refl _ _) (.cells #[.int .u8 98] 5 (1, 2)))) (hA.small _ (by omega)) (some ⟨w2.heap.size, 0, none⟩) 1 1 [98] (Bs.lit1 98 rfl) (by decide)
  rw [e2] at hcm
  have Hcm := Lib.hid hcm
  clear hcm
  go_wp2_with fail
  refine Hcm.out.mono ?_
  rintro e w3 ⟨rfl, hO3⟩
  have hop := step_open hO3.imp hO3.bel ht (hA2.small _ (by omega)) hA2.len hA2.tells
  have Hop := Lib.hid hop
  clear hop
  go_wp2_with fail
  refine Hop.out.mono ?_
  rintro e w4 ⟨g4, rfl, hO4, hb4⟩
  rw [hi2, show s2.N = 2 by omega] at hO4
  go_wp2_with fail
  refine (step_image hO4).mono ?_
  rintro e w5 ⟨A5, c5, rfl, hB5, hO5, hb5⟩
  have hcv := conv_bytes w5 A5 1 c5 [98] rfl hB5.2.2
  have hone : ([98] : List UInt8).length = 1 := rfl
  go_wp2_with fail
  refine (number_of hO5.sup).mono ?_
  rintro e w6 ⟨rfl, rfl⟩
  go_wp2
  go_ret
  exact ⟨rfl, hO5.bel⟩
end Go.Proofs.YtlpjeopeboemmaaDoor

/-
  A Super of the law's own, apart from guarded blocks ('OwnG'); the methods in these words. No statement of the seat is proved here.
-/
namespace Go.Proofs.YtlpjeopeboemmaaDoor
open Go Go.RowKit

/-- what was born since the law began, apart from 'G' -/
def Far (W w : World) (G : Nat → Prop) : Nat → Prop := fun k => Born W w k ∧ ¬ G k
structure OwnG (W w : World) (G : Nat → Prop) (g gd : Nat) (s : SupS) : Prop where
  sup : Sup w (Far W w G) g gd s
  gb : ∀ k, G k → Born W w k
  bel : Below W.heap.size W w
  tab : Tab W
/-- a disk, likewise -/
structure OwnD (W w : World) (G : Nat → Prop) (gd : Nat) (S : Sec) (l : Int) : Prop where
  imp : Imp w (Far W w G) gd S l
  gb : ∀ k, G k → Born W w k
  bel : Below W.heap.size W w
  tab : Tab W

section
variable {W w w' : World} {G : Nat → Prop} {g gd : Nat} {s s' : SupS} {S S' : Sec} {l l' : Int}
theorem far_more (hb : Below W.heap.size W w) (hg : ∀ k, G k → Born W w k) (hz : w.heap.size ≤ w'.heap.size) (k : Nat) (hk : More (Far W w G) w w' k) : Far W w' G k := by
  have := hb.size
  rcases hk with ⟨⟨h1, h2⟩, h3⟩ | ⟨h1, h2⟩
  · exact ⟨⟨h1, by omega⟩, h3⟩
  · exact ⟨⟨by omega, h2⟩, fun hk => by have := (hg k hk).2; omega⟩
theorem far_below (hb : Below W.heap.size W w) (ho : Only (Far W w G) w w') : Below W.heap.size W w' := hb.trans (ho.below (fun _ hk => hk.1.1) hb.size)
theorem gb_more (hg : ∀ k, G k → Born W w k) (hz : w.heap.size ≤ w'.heap.size) (k : Nat) (hk : G k) : Born W w' k := ⟨(hg k hk).1, by have := (hg k hk).2; omega⟩
theorem OwnG.step (h : OwnG W w G g gd s) (h1 : Sup w' (More (Far W w G) w w') g gd s') (ho : Only (Far W w G) w w') : OwnG W w' G g gd s' ∧ Only (fun k => ¬ G k) w w' :=
  ⟨⟨SupAt.mono h1 (fun k hk _ => far_more h.bel h.gb ho.size k hk), gb_more h.gb ho.size, far_below h.bel ho, h.tab⟩, ho.mono (fun _ _ hk => hk.2)⟩
theorem OwnD.step (h : OwnD W w G gd S l) (h1 : Imp w' (More (Far W w G) w w') gd S' l') (ho : Only (Far W w G) w w') : OwnD W w' G gd S' l' ∧ Only (fun k => ¬ G k) w w' :=
  ⟨⟨h1.mono (fun k hk _ => far_more h.bel h.gb ho.size k hk), gb_more h.gb ho.size, far_below h.bel ho, h.tab⟩, ho.mono (fun _ _ hk => hk.2)⟩
theorem OwnG.ext (h : OwnG W w G g gd s) (hb : Below w.heap.size w w') : OwnG W w' G g gd s :=
  ⟨(SupAt.ext h.sup hb).mono (fun k hk _ => ⟨⟨hk.1.1, by have := hk.1.2; have := hb.size; omega⟩, hk.2⟩), gb_more h.gb hb.size, ext_trans h.bel hb, h.tab⟩
theorem OwnD.ext (h : OwnD W w G gd S l) (hb : Below w.heap.size w w') : OwnD W w' G gd S l :=
  ⟨(h.imp.ext hb).mono (fun k hk _ => ⟨⟨hk.1.1, by have := hk.1.2; have := hb.size; omega⟩, hk.2⟩), gb_more h.gb hb.size, ext_trans h.bel hb, h.tab⟩
theorem OwnG.disk (h : OwnG W w G g gd s) : OwnD W w G gd s.S s.l := ⟨SupAt.impd h.sup, h.gb, h.bel, h.tab⟩
theorem OwnG.tb (h : OwnG W w G g gd s) : Tab w := h.tab.ext h.bel
theorem OwnD.tb (h : OwnD W w G gd S l) : Tab w := h.tab.ext h.bel
/-- a store to a guarded block -/
theorem OwnG.put (h : OwnG W w G g gd s) {p : Addr} (hp : G p.block) (u : Value) : OwnG W (w.setCell p u) G g gd s := by
  have ho : Only (fun k => k = p.block) w (w.setCell p u) := (Only.refl (fun k => k = p.block) w).setCell (.inl rfl) u
  refine ⟨(SupAt.only h.sup ho (fun k hk e => hk.2 (e ▸ hp))).mono (fun k hk _ => ⟨⟨hk.1.1, by have := hk.1.2; have := ho.size; omega⟩, hk.2⟩), gb_more h.gb ho.size, h.bel.trans (ho.below (fun k e => by have := (h.gb _ hp).1; omega) h.bel.size), h.tab⟩

theorem g_commit (h : OwnG W w G g gd s) (hs : Small 900000 s.S) (B : Option Addr) (m d : Nat) (bs : List UInt8) (hB : Bs w B m d bs) (hbl : bs.length ≤ maxLen) :
    Calls Tryd.prog 19 #[.pointer (some ⟨g, 0, none⟩), .slice B m d] w fun e w' => e = .returned (.int .i64 (commitS s bs).1) ∧ OwnG W w' G g gd (commitS s bs).2 ∧ Only (fun k => ¬ G k) w w' := by
  refine (commit_any h.tb h.sup hs B m d bs hB hbl).mono ?_
  rintro e w' ⟨rfl, h1, h2⟩
  exact ⟨rfl, h.step h1 h2⟩
theorem g_image (h : OwnG W w G g gd s) :
    Calls Tryd.prog 15 #[.pointer (some ⟨g, 0, none⟩)] w fun e w' => ∃ A c, e = .returned (.slice A s.img.length c) ∧ Bs w' A s.img.length c s.img ∧ OwnG W w' G g gd s ∧ Below w.heap.size w w' := by
  refine (image_any h.sup).mono ?_
  rintro e w' ⟨A, c, rfl, hn, hb⟩
  exact ⟨A, c, rfl, hn.bs, h.ext hb, hb⟩
theorem g_open (h : OwnD W w G gd S l) (hs : Small 1000000 S) (h32 : 32 ≤ S.length) {img : List UInt8} {N slot : Nat} (hT : Tells (lasts S) img N slot) :
    Calls Tryd.prog 22 #[.pointer (some ⟨gd, 0, none⟩)] w fun e w' => ∃ g, e = .returned (.tuple #[.pointer (some ⟨g, 0, none⟩), .int .i64 0]) ∧ OwnG W w' G g gd ⟨S, l, img, N, slot, false⟩ ∧ Below w.heap.size w w' := by
  refine (open_any h.tb h.imp hs h32).mono ?_
  rintro e w' ⟨h1, h2⟩
  obtain ⟨t1, t2, t3⟩ := hT
  rw [tell_lasts, most_lasts] at h2
  rcases h2 with ⟨h2, _⟩ | ⟨_, g, rfl, _, h3⟩
  · omega
  · rw [t2, t3] at h3
    exact ⟨g, rfl, ⟨SupAt.mono h3 (fun k hk _ => far_more h.bel h.gb h1.size k hk), gb_more h.gb h1.size, ext_trans h.bel h1, h.tab⟩, h1⟩
theorem g_fuse (h : OwnG W w G g gd s) (n : Int) (hn : isInt n) :
    Calls Tryd.prog 20 #[.pointer (some ⟨gd, 0, none⟩), .int .i64 n] w fun e w' => e = .returned (.tuple #[]) ∧ OwnG W w' G g gd { s with l := max n (-1) } ∧ Only (fun k => ¬ G k) w w' := by
  obtain ⟨fI, A, c, hp⟩ := h.sup
  refine (fuse_all hp.imp n hn).mono ?_
  rintro e w' ⟨rfl, h1, h2⟩
  refine ⟨rfl, h.step (s' := { s with l := max n (-1) }) ?_ (h2.mono (fun k _ hk => hp.sub k hk))⟩
  have hz := h2.size
  exact ⟨More fI w w', A, c, {
    imp := h1
    sub := fun k hk => hk.imp (fun x => hp.sub k x) id
    fg := .inl hp.fg
    ng := fun hk => by
      rcases hk with hk | hk
      · exact hp.ng hk
      · have := hp.blk.lt; omega
    blk := hp.blk.only h2 hp.ng
    bs := ⟨rfl, hp.bs.2.1, hp.bs.2.2.only h2 (fun ad e _ => (hp.fA ad e).2.1)⟩
    fA := fun ad e => ⟨.inl (hp.fA ad e).1, fun hk => by
      rcases hk with hk | hk
      · exact (hp.fA ad e).2.1 hk
      · have := (hp.fA ad e).2.2.2; omega, (hp.fA ad e).2.2.1, by have := (hp.fA ad e).2.2.2; omega⟩
    hN := hp.hN
    hs := hp.hs
    hi := hp.hi }⟩
theorem g_crash (h : OwnD W w G gd S l) (hs : Small 1000000 S) (P : Option Addr) (n cp : Nat) (ps : List Int) (hn : n = ps.length) (hp : Rd W P (ps.map iv)) (hpi : ∀ x ∈ ps, isInt x) :
    Calls Tryd.prog 21 #[.pointer (some ⟨gd, 0, none⟩), .slice P n cp] w fun e w' => e = .returned (.tuple #[]) ∧ OwnD W w' G gd (crashS S ps) (-1) ∧ Only (fun k => ¬ G k) w w' := by
  refine (crash_all h.imp hs P n cp ps hn ((rdF_born (w1 := w) hp h.bel).weak (fun k hk => hk.1)) hpi).mono ?_
  rintro e w' ⟨rfl, h1, h2⟩
  exact ⟨rfl, h.step h1 h2⟩
end

/-! ### Alive or cut short -/
theorem Alive.fuse {s : SupS} (h : Alive s) (n : Int) : Alive { s with l := max n (-1) } := ⟨h.dead, h.one, h.len, h.tells, by show -1 ≤ max n (-1); omega⟩
theorem Cut.fuse {s : SupS} {bs : List UInt8} {N : Nat} (h : Cut s bs N) (n : Int) : Cut { s with l := max n (-1) } bs N := ⟨h.dead, h.ne, h.len, by show -1 ≤ max n (-1); omega, h.small, h.tells⟩
theorem Alive.crash {s : SupS} (h : Alive s) (ps : List Int) : Alive ⟨crashS s.S ps, -1, s.img, s.N, s.slot, false⟩ := by
  rw [crash_of_single h.one]
  exact ⟨rfl, h.one, h.len, h.tells, by show (-1 : Int) ≤ -1; omega⟩
theorem Cut.crash {s : SupS} {bs : List UInt8} {N : Nat} (h : Cut s bs N) (ps : List Int) : ∃ M k img, N ≤ M ∧ (img = s.img ∨ img = bs) ∧ Alive ⟨crashS s.S ps, -1, img, M, k, false⟩ := by
  obtain ⟨M, k, hM, ht⟩ := h.tells ps
  have hlen : 32 ≤ (crashS s.S ps).length := by rw [crashS_length]; exact h.len
  rcases ht with ht | ht
  · exact ⟨M, k, _, hM, .inl rfl, ⟨rfl, crash_single h.ne ps, hlen, ht, by show (-1 : Int) ≤ -1; omega⟩⟩
  · exact ⟨M, k, _, hM, .inr rfl, ⟨rfl, crash_single h.ne ps, hlen, ht, by show (-1 : Int) ≤ -1; omega⟩⟩
end Go.Proofs.YtlpjeopeboemmaaDoor

/-
  The contract of the laws' helper begin. No statement of the seat is proved here.
-/
namespace Go.Proofs.YtlpjeopeboemmaaDoor
open Go Go.RowKit

/-- what lies behind begin: both Supers over their disks, and the pair that holds them -/
def Begun (W w : World) (gp gd gx g gy : Nat) (s : SupS) : Prop :=
  Blk w gp 32 #[.pointer (some ⟨gd, 0, none⟩), .pointer (some ⟨gx, 0, none⟩), .pointer (some ⟨g, 0, none⟩), .pointer (some ⟨gy, 0, none⟩)] ∧ Born W w gp ∧
  ∃ fI fR, Sup w fI g gd s ∧ RSup w fR gy gx s ∧ (∀ k, fI k → fR k → False) ∧ (∀ k, fI k → Born W w k ∧ k ≠ gp) ∧ (∀ k, fR k → Born W w k ∧ k ≠ gp)

theorem Begun.own {W w : World} {gp gd gx g gy : Nat} {s : SupS} (h : Begun W w gp gd gx g gy s) (hb : Below W.heap.size W w) (ht : Tab W) : OwnG W w (fun k => k = gp) g gd s := by
  obtain ⟨-, h1, fI, fR, h2, -, -, h3, -⟩ := h
  exact ⟨SupAt.mono h2 (fun k hk _ => h3 k hk), fun k e => by subst e; exact h1, hb, ht⟩

theorem zero_ne (n : Nat) : ∀ vs ∈ zeroS n, vs ≠ [] := fun vs hv e => by
  rw [List.eq_of_mem_replicate hv] at e
  cases e

set_option maxRecDepth 100000 in
set_option maxHeartbeats 2000000 in
theorem begin_any (n : Nat) (h32 : 32 ≤ n) (hn : n ≤ 4096) (W wr : World) (ht : Tab W) (hb : Below W.heap.size W wr) (B : Option Addr) (m d : Nat) (bs : List UInt8) (hB : Bs W B m d bs) (hbl : bs.length ≤ 814) :
    Calls Tryd.prog 12 #[.int .i64 (n : Int), .slice B m d] wr fun e w' => ∃ gp gd gx g gy s, e = .returned (.pointer (some ⟨gp, 0, none⟩)) ∧ Begun W w' gp gd gx g gy s ∧ Below W.heap.size W w' ∧
      Alive s ∧ s.img = bs ∧ s.N = 1 ∧ s.slot = 0 ∧ s.l = -1 ∧ s.S.length = n ∧ slotD (lasts s.S) 0 = packOf 1 bs ∧ unpackS (slotD (lasts s.S) 1) = (0, []) := by
  have hm := hB.1
  subst hm
  have hzl : (zeroS n).length = n := by simp [zeroS]
  have hz32 : 32 ≤ (zeroS n).length := by rw [hzl]; exact h32
  obtain ⟨c1, s, c2, r1, r2, r3, r4, r5, r6, r7, r8⟩ := format_sem hz32 (zero_ne n) bs hbl
  rw [hzl] at r6
  have hsm : Small 800000 (zeroS n) := small_mono (small_zero n) (by omega)
  have hnew := new_step n wr wr (Below.refl _ _) (by omega) (by omega)
  have hz0 := hb.size
  have htl := ht.block_lt
  have hBn : ∀ ad, B = some ad → bs ≠ [] → ad.block < W.heap.size := fun ad e hne => by
    rcases Nat.lt_or_ge ad.block W.heap.size with hh | hh
    · exact hh
    · obtain ⟨b0, br, rfl⟩ : ∃ b0 br, bs = b0 :: br := by
        cases bs with
        | nil => exact absurd rfl hne
        | cons x y => exact ⟨x, y, rfl⟩
      obtain ⟨ad', e', hc⟩ := hB.2.2 0 _ rfl
      rw [e] at e'
      injection e' with e'
      subst e'
      have hb' := World.block_lt_of_cell? W _ hc
      rw [block_add] at hb'
      exact hb'
  have hfm : ∀ (w1 w2 : World) (gd : Nat), Below wr.heap.size wr w1 → Below w1.heap.size w1 w2 → Imp w1 (Born wr w1) gd (zeroS n) (-1) →
      Calls Tryd.prog 30 #[.pointer (some ⟨gd, 0, none⟩), .slice B bs.length d] w2 (Formatted w2 (Born wr w1) gd s) := fun w1 w2 gd hb1 hb2 hI => by
    have hbb : Below W.heap.size W w2 := ext_trans (ext_trans hb hb1) hb2
    have hf := format_any (ht.ext hbb) (fun hk => by have := hk.1; omega) (hI.ext hb2) hsm hz32 B _ d bs ⟨rfl, hB.2.1, hB.2.2.ext hbb⟩ (fun ad e hne hk => by have := hBn ad e hne; have := hk.1; omega) hbl c1 (by rw [c2])
    rw [c2] at hf
    exact hf
  have hrfm : ∀ (w1 w2 w3 : World) (gx : Nat), W.heap.size ≤ w1.heap.size → Below W.heap.size W w3 → Ref w3 (Born w1 w2) gx (zeroS n) (-1) →
      Calls Tryd.prog 32 #[.pointer (some ⟨gx, 0, none⟩), .slice B bs.length d] w3 fun e w' =>
      ∃ g, e = .returned (.tuple #[.pointer (some ⟨g, 0, none⟩), .int .i64 0]) ∧ w3.heap.size ≤ g ∧ RSup w' (More (Born w1 w2) w3 w') g gx s ∧ Only (Born w1 w2) w3 w' := fun w1 w2 w3 gx hz1 hb3 hR => by
    have hf := rformat_any hR hsm hz32 B _ d bs ⟨rfl, hB.2.1, hB.2.2.ext hb3⟩ (fun ad e hne hk => by have := hBn ad e hne; have := hk.1; omega) hbl c1 (by rw [c2])
    rw [c2] at hf
    exact hf
  have Hfm := Lib.hid hfm
  have Hrfm := Lib.hid hrfm
  have Hnew := Lib.hid hnew
  clear hfm hrfm hnew c1 c2 hBn hsm hz32 hzl
  generalize hZ : zeroS n = Z at *
  go_enter Tryd.func12, Tryd.ntmps12
  go_wp2_with fail
  refine Hnew.out.mono ?_
  rintro e w1 ⟨gd, rfl, hI1, hb1⟩
  go_wp2_with fail
  refine (rnew_ok n w1 w1 (Below.refl _ _) (by omega) (by omega)).mono ?_
  rintro e w2 ⟨gx, rfl, hb2, hR2, hgx⟩
  rw [hZ] at hR2
  go_wp2_with fail
  refine (Hfm.out w1 w2 gd hb1 hb2 hI1).mono ?_
  rintro e w3 ⟨g, rfl, hg3, hS3, ho3⟩
  have z1 := hb1.size
  have z2 := hb2.size
  have z3 := ho3.size
  have hbel3 : Below W.heap.size W w3 := (ext_trans (ext_trans hb hb1) hb2).trans (ho3.below (fun _ hk => by have := hk.1; omega) (by omega))
  have hR3 : Ref w3 (Born w1 w2) gx Z (-1) := hR2.only ho3 (fun k hk hk' => by have := hk.1; have := hk'.2; omega)
  go_wp2_with fail
  refine (Hrfm.out w1 w2 w3 gx (by omega) hbel3 hR3).mono ?_
  rintro e w4 ⟨gy, rfl, hg4, hS4, ho4⟩
  have z4 := ho4.size
  have hbel4 : Below W.heap.size W w4 := hbel3.trans (ho4.below (fun _ hk => by have := hk.1; omega) (by omega))
  have hS3' : Sup w4 (More (Born wr w1) w2 w3) g gd s := SupAt.only hS3 ho4 (fun k hk hk' => by
    have h1 := hk'.1
    have h2 := hk'.2
    rcases hk with hk | hk
    · have := hk.2; omega
    · have := hk.1; omega)
  have hfin : ∀ o, o = Obj.cells #[.pointer (some ⟨gd, 0, none⟩), .pointer (some ⟨gx, 0, none⟩), .pointer (some ⟨g, 0, none⟩), .pointer (some ⟨gy, 0, none⟩)] 32 → Begun W (w4.alloc o) w4.heap.size gd gx g gy s ∧ Below W.heap.size W (w4.alloc o) := by
    rintro o rfl
    have hba := ext_alloc (Below.refl w4.heap.size w4) (.cells #[.pointer (some ⟨gd, 0, none⟩), .pointer (some ⟨gx, 0, none⟩), .pointer (some ⟨g, 0, none⟩), .pointer (some ⟨gy, 0, none⟩)] 32)
    refine ⟨⟨Blk.new w4 _ _, ⟨by omega, by rw [World.size_alloc]; omega⟩, More (Born wr w1) w2 w3, More (Born w1 w2) w3 w4, SupAt.ext hS3' hba, hS4.ext hba, fun k h1 h2 => ?_, fun k hk => ?_, fun k hk => ?_⟩, ext_trans hbel4 hba⟩
    · rcases h1 with h1 | h1 <;> rcases h2 with h2 | h2 <;> have := h1.1 <;> have := h1.2 <;> have := h2.1 <;> have := h2.2 <;> omega
    · rcases hk with hk | hk <;> have := hk.1 <;> have := hk.2 <;> exact ⟨⟨by omega, by rw [World.size_alloc]; omega⟩, by omega⟩
    · rcases hk with hk | hk <;> have := hk.1 <;> have := hk.2 <;> exact ⟨⟨by omega, by rw [World.size_alloc]; omega⟩, by omega⟩
  obtain ⟨f1, f2⟩ := hfin _ rfl
  have Hf1 := Lib.hid f1
  have Hf2 := Lib.hid f2
  have HR := Lib.hid (show _ ∧ _ ∧ _ ∧ _ ∧ _ ∧ _ ∧ _ ∧ _ from ⟨r1, r2, r3, r4, r5, r6, r7, r8⟩)
  clear hfin f1 f2 hS3 hS3' hS4 hR2 hR3 hI1 ho3 ho4 hb1 hb2 Hfm Hrfm Hnew r1 r2 r3 r4 r5 r6 r7 r8
  go_wp2
  go_ret
  exact ⟨_, gd, gx, g, gy, s, rfl, Hf1.out, Hf2.out, HR.out⟩
end Go.Proofs.YtlpjeopeboemmaaDoor

/-
  What the arguments of the laws read as, in this seat's words for memory (numbers, bytes, rows of ints); how a law's contract closes its statement. No statement of the seat is proved here.
-/
namespace Go.Proofs.YtlpjeopeboemmaaDoor
open Go Go.ChangeShapes Go.WideShapes Go.ChangeAt Go.RowKit

theorem own : ownKnob Tryd.prog.godebug = none := by kernel_rfl
theorem laidOut : laidOutB Tryd.prog = true := by kernel_rfl
theorem cells_u8 : Tryd.prog.cellsOf 5 = 1 := by kernel_rfl
theorem cells_int : Tryd.prog.cellsOf 3 = 1 := by kernel_rfl

section
variable {H : Type} {enc : TypeId × Value → H} {W : World} {base : Nat}
theorem bv_of {z : Int} (h : (Lit.int .u8 z).wf = true) : Value.int .u8 z = bv z.toNat.toUInt8 := by
  have h1 : IntKind.u8.min = 0 := rfl
  have h2 : IntKind.u8.max = 255 := rfl
  simp only [Lit.wf, Bool.and_eq_true, decide_eq_true_eq] at h
  unfold bv
  rw [show (z.toNat.toUInt8.toNat : Int) = z by simp [Nat.toUInt8, UInt8.toNat_ofNat']; omega]

/-- the bytes that numbers are -/
def toBytes (zs : List Int) : List UInt8 := zs.map fun z => z.toNat.toUInt8

theorem rd_bytes {a : Addr} {len : Nat} {zs : List Int} (hl : len ≤ zs.length) (hc : ∀ i, i < zs.length → W.cell? (a.add i) = some (.int .u8 (zs.getD i 0))) (hw : ∀ n ∈ zs, (Lit.int .u8 n).wf = true) :
    Rd W (some a) ((toBytes (zs.take len)).map bv) := by
  intro j u hu
  have hj : j < len := by
    have := (List.getElem?_eq_some_iff.1 hu).1
    simp [toBytes] at this; omega
  refine ⟨a, rfl, ?_⟩
  rw [hc j (by omega), ← hu]
  have hz : zs.getD j 0 = zs[j]'(by omega) := by simp [List.getD, show j < zs.length by omega]
  rw [hz, bv_of (hw _ (List.getElem_mem _))]
  simp [toBytes, hj, show j < zs.length by omega]

set_option maxRecDepth 100000 in
theorem arg_bytes {v : Value} {d : DataW H} {p : List MemPlace} (hv : Value.okWide Tryd.prog W .any base 22 v) (h : DataW.Trod enc Tryd.prog W 0 (fun _ => true) true 22 v d p) :
    ∃ (A : Option Addr) (n c : Nat) (xs : List UInt8), v = .slice A n c ∧ n = xs.length ∧ xs.length ≤ c ∧ c ≤ maxLen ∧ Rd W A (xs.map bv) := by
  obtain ⟨a0, len, cap, rfl⟩ := okWide_slice Tryd.underlying22 hv
  obtain ⟨fuel, hf⟩ := h
  rcases open_ints Tryd.underlying22 Tryd.underlying5 cells_u8 hf with ⟨hcs, hx⟩ | ⟨a, len', cap', zs, hcs, _, hl, hm, hz, hx, hcell, hwz⟩
  · simp [Value.cells] at hcs
    obtain ⟨rfl, rfl, rfl⟩ := hcs
    exact ⟨none, 0, 0, [], rfl, rfl, Nat.le_refl _, Nat.zero_le _, Rd.nil _ _⟩
  · simp [Value.cells] at hcs
    obtain ⟨rfl, rfl, rfl⟩ := hcs
    simp only [if_true] at hz
    exact ⟨some a, len, cap, toBytes (zs.take len), rfl, by simp [toBytes]; omega, by simp [toBytes]; omega, hm, rd_bytes (by omega) hcell hwz⟩

set_option maxRecDepth 100000 in
theorem arg_ints {v : Value} {d : DataW H} {p : List MemPlace} (hv : Value.okWide Tryd.prog W .any base 34 v) (h : DataW.Trod enc Tryd.prog W 0 (fun _ => true) true 34 v d p) :
    ∃ (A : Option Addr) (n c : Nat) (vs : List Int), v = .slice A n c ∧ n = vs.length ∧ vs.length ≤ c ∧ c ≤ maxLen ∧ Rd W A (vs.map iv) ∧ ∀ x ∈ vs, isInt x := by
  obtain ⟨a0, len, cap, rfl⟩ := okWide_slice Tryd.underlying34 hv
  obtain ⟨fuel, hf⟩ := h
  rcases open_ints Tryd.underlying34 Tryd.underlying3 cells_int hf with ⟨hcs, hx⟩ | ⟨a, len', cap', zs, hcs, _, hl, hm, hz, hx, hcell, hwz⟩
  · simp [Value.cells] at hcs
    obtain ⟨rfl, rfl, rfl⟩ := hcs
    exact ⟨none, 0, 0, [], rfl, rfl, Nat.le_refl _, Nat.zero_le _, Rd.nil _ _, by simp⟩
  · simp [Value.cells] at hcs
    obtain ⟨rfl, rfl, rfl⟩ := hcs
    simp only [if_true] at hz
    refine ⟨some a, len, cap, zs.take len, rfl, by simp; omega, by simp; omega, hm, fun j u hu => ⟨a, rfl, ?_⟩, fun x hx => ?_⟩
    · have hj : j < len := by
        have := (List.getElem?_eq_some_iff.1 hu).1
        simp at this; omega
      rw [hcell j (by omega), ← hu]
      simp [List.getD, hj, show j < zs.length by omega, iv]
    · have hw := hwz x (List.mem_of_mem_take hx)
      have h1 : IntKind.i64.min = -9223372036854775808 := rfl
      have h2 : IntKind.i64.max = 9223372036854775807 := rfl
      simp only [Lit.wf, Bool.and_eq_true, decide_eq_true_eq] at hw
      unfold isInt
      omega
end

theorem int_of_wf {v : Int} (h : (Lit.int .i64 v).wf = true) : isInt v := by
  have h1 : IntKind.i64.min = -9223372036854775808 := rfl
  have h2 : IntKind.i64.max = 9223372036854775807 := rfl
  simp only [Lit.wf, Bool.and_eq_true, decide_eq_true_eq] at h
  unfold isInt
  omega
theorem u8_of_wf {v : Int} (h : (Lit.int .u8 v).wf = true) : 0 ≤ v ∧ v ≤ 255 := by
  have h1 : IntKind.u8.min = 0 := rfl
  have h2 : IntKind.u8.max = 255 := rfl
  simp only [Lit.wf, Bool.and_eq_true, decide_eq_true_eq] at h
  omega

/-! ### How a contract closes a statement -/
section
variable {H : Type} {enc : TypeId × Value → H}
theorem below_trodAll {P : Program} (hl : laidOutB P = true) {W W' : World} (hb : Below W.heap.size W W') : ∀ {ts : List TypeId} {vs : List Value} {ds : List (DataW H)} {ps : List MemPlace},
    (∀ t ∈ ts, P.readableRec t = true ∧ t < P.types.size) → DataW.TrodAll enc P W 0 (fun _ => true) true ts vs ds ps → (∀ x ∈ ps, x.block < W.heap.size) → DataW.TrodAll enc P W' 0 (fun b => decide (b < W.heap.size)) true ts vs ds ps
  | [], [], [], _, _, h, _ => h
  | t :: ts, v :: vs, d :: ds, _, hr, h, hlt => by
    obtain ⟨p, q, h1, h2, rfl⟩ := h
    exact ⟨p, q, Below.trod hl (hr t (by simp)).1 (hr t (by simp)).2 h1 hb (fun x hx => hlt x (by simp [hx])), below_trodAll hl hb (fun t' ht => hr t' (by simp [ht])) h2 (fun x hx => hlt x (by simp [hx])), rfl⟩
  | [], [], _ :: _, _, _, h, _ => h.elim
  | [], _ :: _, _, _, _, h, _ => h.elim
  | _ :: _, [], _, _, _, h, _ => h.elim
  | _ :: _, _ :: _, [], _, _, h, _ => h.elim

/-- a law that returned true, and left all that was there as it was -/
theorem law_post {f : Func} {s : ChangeSpec} {W W' : World} {args : Array Value} {ds gs : List (DataW H)} {before : List MemPlace} (hvars : s.vars = []) (hf : f.resultTypes = #[4])
    (hread : f.params.toList.all (fun t => Tryd.prog.readableRec t && decide (t < Tryd.prog.types.size)) = true)
    (hs : (s.fn H ds).results = [.lit (.bool true)] ∧ (s.fn H ds).args = ds ∧ (s.fn H ds).vars = []) (hW : DataW.Whole enc Tryd.prog f.params.toList s.vars false W args.toList ds gs before) (hb : Below W.heap.size W W') :
    s.post enc Tryd.prog f false true false false W args (.bool true) W' := by
  have hW' := hW
  have hlt : ∀ x ∈ before, x.block < W.heap.size := fun x hx => by simpa using hW'.lt x hx
  obtain ⟨p, q, hA, hV, he, _, _⟩ := hW
  rw [hvars] at hV
  obtain ⟨hg, hq⟩ := trodVars_none hV
  have hx : ds ++ gs = ds := by rw [hg, List.append_nil]
  refine ⟨ds, gs, before, [] ++ [], p, [], hW', ?_, ?_, ?_, hb.frame _, fun h => by cases h⟩
  · rw [hx, hs.1, hf]
    exact trodAll_cons_mk (shut_bool Tryd.underlying4 _) trodAll_mk0
  · rw [hx, hs.2.1]
    refine below_trodAll laidOut hb (fun t ht => ?_) hA (fun x hx => hlt x (by rw [he]; simp [hx]))
    have := List.all_eq_true.1 hread t ht
    simpa using this
  · rw [hx, hs.2.2, hvars]
    rfl
end

/-- a world for the witness: the settled one -/
noncomputable def plainWorld (os : Os) : World := World.holding Tryd.prog os ⟨#[], #[], []⟩
end Go.Proofs.YtlpjeopeboemmaaDoor

/-
  A list of acts acs an argument; what the laws' helper long says of it. No statement of the seat is proved here.
-/
namespace Go.Proofs.YtlpjeopeboemmaaDoor
open Go Go.ChangeShapes Go.WideShapes Go.ChangeAt Go.RowKit

/-- an act -/
structure ActD where
  kind : Int
  i : Int
  bs : List UInt8
  ps : List Int
structure ActD.ok (a : ActD) : Prop where
  kind : isInt a.kind
  i : isInt a.i
  ps : ∀ p ∈ a.ps, isInt p
  lb : a.bs.length ≤ maxLen
  lp : a.ps.length ≤ maxLen

def ActAt (w : World) (b o : Nat) (a : ActD) : Prop := ∃ B cB P cP, w.cell? ⟨b, o, none⟩ = some (.int .i64 a.kind) ∧ w.cell? ⟨b, o + 1, none⟩ = some (.int .i64 a.i) ∧ w.cell? ⟨b, o + 2, none⟩ = some (.slice B a.bs.length cB) ∧ w.cell? ⟨b, o + 3, none⟩ = some (.slice P a.ps.length cP) ∧ Bs w B a.bs.length cB a.bs ∧ Rd w P (a.ps.map iv)
def Acts (w : World) (A : Option Addr) (acs : List ActD) : Prop := ∀ k a, acs[k]? = some a → ∃ b o, A = some ⟨b, o, none⟩ ∧ ActAt w b (o + k * 4) a ∧ a.ok

theorem ActAt.ext {w w' : World} {b o : Nat} {a : ActD} (h : ActAt w b o a) (hb : Below w.heap.size w w') : ActAt w' b o a := by
  obtain ⟨B, cB, P, cP, h0, h1, h2, h3, h4, h5⟩ := h
  have hl : b < w.heap.size := World.block_lt_of_cell? w _ h0
  have hk : ∀ o', w'.cell? ⟨b, o', none⟩ = w.cell? ⟨b, o', none⟩ := fun o' => World.cell?_of_block (a := ⟨b, o', none⟩) (hb.block b hl)
  exact ⟨B, cB, P, cP, by rw [hk]; exact h0, by rw [hk]; exact h1, by rw [hk]; exact h2, by rw [hk]; exact h3, h4.ext hb, h5.ext hb⟩

section
variable {H : Type} {enc : TypeId × Value → H} {W : World} {base : Nat}
theorem cell_bytes {fuel : Nat} {cs : List Value} {x : DataW H × List MemPlace} (hf : DataW.trod enc Tryd.prog W 0 (fun _ => true) true fuel 22 cs = some x) :
    ∃ (A : Option Addr) (c : Nat) (xs : List UInt8), cs = [.slice A xs.length c] ∧ xs.length ≤ maxLen ∧ Bs W A xs.length c xs := by
  rcases open_ints Tryd.underlying22 Tryd.underlying5 cells_u8 hf with ⟨hcs, hx⟩ | ⟨a, len', cap', zs, hcs, _, hl, hm, hz, hx, hcell, hwz⟩
  · exact ⟨none, 0, [], hcs, Nat.zero_le _, rfl, Nat.le_refl _, Rd.nil _ _⟩
  · simp only [if_true] at hz
    have hlen : (toBytes (zs.take len')).length = len' := by simp [toBytes]; omega
    exact ⟨some a, cap', toBytes (zs.take len'), by rw [hlen]; exact hcs, by rw [hlen]; omega, rfl, by rw [hlen]; exact hl, rd_bytes (by omega) hcell hwz⟩
theorem cell_ints {fuel : Nat} {cs : List Value} {x : DataW H × List MemPlace} (hf : DataW.trod enc Tryd.prog W 0 (fun _ => true) true fuel 34 cs = some x) :
    ∃ (A : Option Addr) (c : Nat) (xs : List Int), cs = [.slice A xs.length c] ∧ xs.length ≤ maxLen ∧ Rd W A (xs.map iv) ∧ ∀ p ∈ xs, isInt p := by
  rcases open_ints Tryd.underlying34 Tryd.underlying3 cells_int hf with ⟨hcs, hx⟩ | ⟨a, len', cap', zs, hcs, _, hl, hm, hz, hx, hcell, hwz⟩
  · exact ⟨none, 0, [], hcs, Nat.zero_le _, Rd.nil _ _, by simp⟩
  · simp only [if_true] at hz
    have hlen : (zs.take len').length = len' := by simp; omega
    refine ⟨some a, cap', zs.take len', by rw [hlen]; exact hcs, by rw [hlen]; omega, fun j u hu => ⟨a, rfl, ?_⟩, fun x hx => int_of_wf (hwz x (List.mem_of_mem_take hx))⟩
    have hj : j < len' := by
      have := (List.getElem?_eq_some_iff.1 hu).1
      simp at this; omega
    rw [hcell j (by omega), ← hu]
    simp [List.getD, hj, show j < zs.length by omega, iv]

theorem cells_act : Tryd.prog.cellsOf 36 = 4 := by kernel_rfl
theorem cells_lb : Tryd.prog.cellsOf 22 = 1 := by kernel_rfl
theorem cells_li : Tryd.prog.cellsOf 34 = 1 := by kernel_rfl

set_option maxRecDepth 100000 in
theorem arg_acts {v : Value} {d : DataW H} {p : List MemPlace} (hv : Value.okWide Tryd.prog W .any base 23 v) (h : DataW.Trod enc Tryd.prog W 0 (fun _ => true) true 23 v d p) :
    ∃ (A : Option Addr) (n c : Nat) (acs : List ActD), v = .slice A n c ∧ n = acs.length ∧ acs.length ≤ c ∧ c ≤ maxLen ∧ Acts W A acs ∧ True := by
  obtain ⟨a0, len, cap, rfl⟩ := okWide_slice Tryd.underlying23 hv
  obtain ⟨fuel, hf⟩ := h
  rcases Deep.open_slice Tryd.underlying23 hf with ⟨hcs, hx⟩ | ⟨a, len', cap', m, n, D, Pl, hcs, _, hl, hm, hmm, hx, hi⟩
  · simp [Value.cells] at hcs
    obtain ⟨rfl, rfl, rfl⟩ := hcs
    exact ⟨none, 0, 0, [], rfl, rfl, Nat.le_refl _, Nat.zero_le _, fun k a h => by simp at h, trivial⟩
  · simp [Value.cells] at hcs
    obtain ⟨rfl, rfl, rfl⟩ := hcs
    simp only [if_true] at hmm
    rw [hmm, cells_act] at hi
    have each : ∀ k, k < cap → ∃ t : ActD, t.ok ∧ ∃ B cB P cP, W.cell? (a.add (k * 4)) = some (.int .i64 t.kind) ∧ W.cell? (a.add (k * 4 + 1)) = some (.int .i64 t.i) ∧ W.cell? (a.add (k * 4 + 2)) = some (.slice B t.bs.length cB) ∧ W.cell? (a.add (k * 4 + 3)) = some (.slice P t.ps.length cP) ∧ Bs W B t.bs.length cB t.bs ∧ Rd W P (t.ps.map iv) := by
      intro k hk
      obtain ⟨cs', hc, ht⟩ := hi k hk
      obtain ⟨_, hcl, hat⟩ := World.cells?_some hc
      obtain ⟨ys, n', hn', hy, hlen, hyl, hg⟩ := DataW.trod_struct Tryd.underlying36 ht
      match cs', hcl with
      | [e0, e1, e2, e3], _ =>
        match ys, hyl with
        | [y0, y1, y2, y3], _ =>
          have g0 := hg 0 _ rfl
          have g1 := hg 1 _ rfl
          have g2 := hg 2 _ rfl
          have g3 := hg 3 _ rfl
          simp only [cells_int, cells_lb, cells_li, List.drop_zero, List.drop_succ_cons, List.take_succ_cons, List.take_zero, List.getElem?_cons_zero, List.getElem?_cons_succ] at g0 g1 g2 g3
          obtain ⟨z0, q0, _, w0⟩ := DataW.trod_int Tryd.underlying3 g0
          obtain ⟨z1, q1, _, w1⟩ := DataW.trod_int Tryd.underlying3 g1
          obtain ⟨B, cB, bs, q2, l2, r2⟩ := cell_bytes g2
          obtain ⟨P, cP, ps, q3, l3, r3, i3⟩ := cell_ints g3
          injection q0 with q0
          injection q1 with q1
          injection q2 with q2
          injection q3 with q3
          have k0 := hat 0 (by omega)
          have k1 := hat 1 (by omega)
          have k2 := hat 2 (by omega)
          have k3 := hat 3 (by omega)
          rw [add_add_] at k0 k1 k2 k3
          refine ⟨⟨z0, z1, bs, ps⟩, ⟨int_of_wf w0, int_of_wf w1, i3, l2, l3⟩, B, cB, P, cP, ?_, ?_, ?_, ?_, r2, r3⟩
          · rw [Nat.add_zero] at k0; rw [k0, ← q0]; rfl
          · rw [k1, ← q1]; rfl
          · rw [k2, ← q2]; rfl
          · rw [k3, ← q3]; rfl
    obtain ⟨T, hT⟩ : ∃ T : Nat → ActD, ∀ k, k < cap → (T k).ok ∧ ∃ B cB P cP, W.cell? (a.add (k * 4)) = some (.int .i64 (T k).kind) ∧ W.cell? (a.add (k * 4 + 1)) = some (.int .i64 (T k).i) ∧ W.cell? (a.add (k * 4 + 2)) = some (.slice B (T k).bs.length cB) ∧ W.cell? (a.add (k * 4 + 3)) = some (.slice P (T k).ps.length cP) ∧ Bs W B (T k).bs.length cB (T k).bs ∧ Rd W P ((T k).ps.map iv) :=
      ⟨fun k => if h : k < cap then Classical.choose (each k h) else ⟨0, 0, [], []⟩, fun k hk => by simp only [dif_pos hk]; exact Classical.choose_spec (each k hk)⟩
    refine ⟨some a, len, cap, (List.range len).map T, rfl, by simp, by simpa using hl, hm, fun k t ht => ?_, trivial⟩
    have hk : k < len := by
      have := (List.getElem?_eq_some_iff.1 ht).1
      simpa using this
    have ht' : T k = t := by simpa [hk] using ht
    subst ht'
    obtain ⟨_, B0, cB0, P0, cP0, h00, _⟩ := hT 0 (by omega)
    obtain ⟨b, o, sp⟩ := a
    have hsp : sp = none := by
      rw [Nat.zero_mul] at h00
      rcases sp with _ | sp
      · rfl
      · exfalso
        unfold World.cell? Addr.add at h00
        simp at h00
        split at h00 <;> simp at h00
    subst hsp
    obtain ⟨hok, B, cB, P, cP, h0, h1, h2, h3, h4, h5⟩ := hT k (by omega)
    rw [Addr.add_mid] at h0 h1 h2 h3
    exact ⟨b, o, rfl, ⟨B, cB, P, cP, h0, by rw [Nat.add_assoc]; exact h1, by rw [Nat.add_assoc]; exact h2, by rw [Nat.add_assoc]; exact h3, h4, h5⟩, hok⟩
end

theorem Acts.block_lt {W : World} {b o : Nat} {acs : List ActD} (h : Acts W (some ⟨b, o, none⟩) acs) {k : Nat} (hk : k < acs.length) : b < W.heap.size := by
  obtain ⟨b', o', e, ⟨_, _, _, _, h0, _⟩, _⟩ := h k _ (List.getElem?_eq_getElem hk)
  injection e with e
  injection e with e1 _ _
  subst e1
  exact World.block_lt_of_cell? W _ h0

/-- what is read of an act, in a later world -/
theorem Acts.at_ {W w w1 : World} {A : Option Addr} {acs : List ActD} (h : Acts W A acs) (hb : Below W.heap.size W w) {k : Nat} (hk : k < acs.length) :
    ∃ b o B cB P cP, A = some ⟨b, o, none⟩ ∧ w.cell? ⟨b, o + k * 4, none⟩ = some (.int .i64 acs[k].kind) ∧ w.cell? ⟨b, o + k * 4 + 1, none⟩ = some (.int .i64 acs[k].i) ∧ w.cell? ⟨b, o + k * 4 + 2, none⟩ = some (.slice B acs[k].bs.length cB) ∧ w.cell? ⟨b, o + k * 4 + 3, none⟩ = some (.slice P acs[k].ps.length cP) ∧
      Bs w B acs[k].bs.length cB acs[k].bs ∧ RdF (Born W w1) w P (acs[k].ps.map iv) ∧ acs[k].ok := by
  obtain ⟨b, o, hA, ha, hok⟩ := h k _ (List.getElem?_eq_getElem hk)
  obtain ⟨B, cB, P, cP, h0, h1, h2, h3, h4, h5⟩ := ha
  have hl : b < W.heap.size := World.block_lt_of_cell? W _ h0
  have hkp : ∀ o', w.cell? ⟨b, o', none⟩ = W.cell? ⟨b, o', none⟩ := fun o' => World.cell?_of_block (a := ⟨b, o', none⟩) (hb.block b hl)
  exact ⟨b, o, B, cB, P, cP, hA, by rw [hkp]; exact h0, by rw [hkp]; exact h1, by rw [hkp]; exact h2, by rw [hkp]; exact h3, h4.ext hb, rdF_born h5 hb, hok⟩
/-- the same, the lists told where they came in -/
theorem Acts.at0 {W w : World} {A : Option Addr} {acs : List ActD} (h : Acts W A acs) (hb : Below W.heap.size W w) {k : Nat} (hk : k < acs.length) :
    ∃ b o B cB P cP, A = some ⟨b, o, none⟩ ∧ w.cell? ⟨b, o + k * 4, none⟩ = some (.int .i64 acs[k].kind) ∧ w.cell? ⟨b, o + k * 4 + 1, none⟩ = some (.int .i64 acs[k].i) ∧ w.cell? ⟨b, o + k * 4 + 2, none⟩ = some (.slice B acs[k].bs.length cB) ∧ w.cell? ⟨b, o + k * 4 + 3, none⟩ = some (.slice P acs[k].ps.length cP) ∧
      Bs W B acs[k].bs.length cB acs[k].bs ∧ Rd W P (acs[k].ps.map iv) ∧ acs[k].ok := by
  obtain ⟨b, o, hA, ha, hok⟩ := h k _ (List.getElem?_eq_getElem hk)
  obtain ⟨B, cB, P, cP, h0, h1, h2, h3, h4, h5⟩ := ha
  have hl : b < W.heap.size := World.block_lt_of_cell? W _ h0
  have hkp : ∀ o', w.cell? ⟨b, o', none⟩ = W.cell? ⟨b, o', none⟩ := fun o' => World.cell?_of_block (a := ⟨b, o', none⟩) (hb.block b hl)
  exact ⟨b, o, B, cB, P, cP, hA, by rw [hkp]; exact h0, by rw [hkp]; exact h1, by rw [hkp]; exact h2, by rw [hkp]; exact h3, h4, h5, hok⟩
end Go.Proofs.YtlpjeopeboemmaaDoor

/-
  The contract of the laws' helper long: it ends, and turns nothing. No statement of the seat is proved here.
-/
namespace Go.Proofs.YtlpjeopeboemmaaDoor
open Go Go.RowKit

set_option maxRecDepth 100000 in
set_option maxHeartbeats 1000000 in
theorem long_any (W : World) (A : Option Addr) (n c : Nat) (acs : List ActD) (hn : n = acs.length) (hl : acs.length ≤ maxLen) (h : Acts W A acs) :
    Calls Tryd.prog 11 #[.slice A n c] W fun e w' => ∃ b, e = .returned (.bool b) ∧ Below W.heap.size W w' := by
  subst hn
  unfold maxLen at hl
  go_enter Tryd.func11, Tryd.ntmps11
  go_wp2
  go_loopw [3, 4] (fun s i w1 => ∃ (k : Nat) (t : Int), k ≤ acs.length ∧ k ≤ 30 ∧ i = .int .i64 (k : Int) ∧ s = .int .i64 t ∧ Below W.heap.size W w1) (fun _ i _ => acs.length - (intOf i).toNat)
  case atStart => exact ⟨0, 0, Nat.zero_le _, Nat.zero_le _, rfl, rfl, Below.refl _ _⟩
  case round =>
    obtain ⟨k, t, hk, hk30, rfl, rfl, hb⟩ := hrel
    by_cases hlt : k < acs.length
    · by_cases hlt6 : k < 30
      · obtain ⟨b, o, B, cB, P, cP, rfl, h0, h1, h2, h3, r4, r5, hok⟩ := h.at_ (w1 := W) hb hlt
        have hki : (k : Int) < (acs.length : Int) := by omega
        have hki6 : (k : Int) < 30 := by omega
        go_wp2_with fail
        go_quiet (fail)
        go_wp2
        · go_ret
          exact ⟨true, rfl, ext_drewN hb _⟩
        · go_roundw
          case rel => exact ⟨k + 1, _, by omega, by omega, by go_num, rfl, ext_drewN hb _⟩
          case measure => simp [intOf]; omega
      · obtain rfl : k = 30 := by omega
        go_wp2
        go_ret
        exact ⟨false, rfl, hb⟩
    · obtain rfl : k = acs.length := by omega
      go_wp2
      go_ret
      exact ⟨false, rfl, hb⟩
end Go.Proofs.YtlpjeopeboemmaaDoor

/-
  Rows of bytes as arguments; the table of package octet. No statement of the seat is proved here.
-/
namespace Go.Proofs.YtlpjeopeboemmaaDoor
open Go Go.ChangeShapes Go.WideShapes Go.ChangeAt Go.RowKit

theorem cells_bytes : Tryd.prog.cellsOf 22 = 1 := by kernel_rfl
theorem cells_u32 : Tryd.prog.cellsOf 103 = 1 := by kernel_rfl
theorem cells_tab : Tryd.prog.cellsOf 126 = 16 := by kernel_rfl
theorem gTab : Tryd.prog.globalNamed "winnower/octet.crcSteps" = some 0 := by kernel_rfl
theorem gTabType : (Tryd.prog.globals[0]?).map (·.type) = some 126 := by kernel_rfl

/-- the list of every row of this seat -/
def theLaid : List (String × DataW Unit) := [("winnower/octet.crcSteps", Rows.laid_winnower_octet_crcSteps)]

theorem tab_of_laid {W : World} (h : laidMetH Tryd.prog theLaid W) : Tab W := by
  have h1 : Lib.TabIs Tryd.prog W "winnower/octet.crcSteps" .u32 [0, 498536548, 997073096, 651767980, 1994146192, 1802195444, 1303535960, 1342533948, 3988292384, 4027552580, 3604390888, 3412177804, 2607071920, 2262029012, 2685067896, 3183342108] :=
    Lib.tabIs_of_head (rest := []) gTab gTabType Tryd.underlying126 Tryd.underlying103 cells_u32 cells_tab h
  intro i hi
  have h2 := h1.cell gTab i (by simpa using hi)
  rw [h2]
  match i, hi with
  | 0, _ => rfl
  | 1, _ => rfl
  | 2, _ => rfl
  | 3, _ => rfl
  | 4, _ => rfl
  | 5, _ => rfl
  | 6, _ => rfl
  | 7, _ => rfl
  | 8, _ => rfl
  | 9, _ => rfl
  | 10, _ => rfl
  | 11, _ => rfl
  | 12, _ => rfl
  | 13, _ => rfl
  | 14, _ => rfl
  | 15, _ => rfl
  | n + 16, h => omega

section
variable {H : Type} {enc : TypeId × Value → H} {W : World} {base : Nat}
set_option maxRecDepth 100000 in
theorem arg_rows {v : Value} {d : DataW H} {p : List MemPlace} (hv : Value.okWide Tryd.prog W .any base 50 v) (h : DataW.Trod enc Tryd.prog W 0 (fun _ => true) true 50 v d p) :
    ∃ (A : Option Addr) (n c : Nat) (xss : List (List UInt8)), v = .slice A n c ∧ n = xss.length ∧ xss.length ≤ c ∧ c ≤ maxLen ∧ RowsF (fun _ => False) W A xss ∧ ∀ xs ∈ xss, xs.length ≤ maxLen := by
  obtain ⟨a0, len, cap, rfl⟩ := okWide_slice Tryd.underlying50 hv
  obtain ⟨fuel, hf⟩ := h
  rcases Deep.open_int_rows Tryd.underlying50 Tryd.underlying22 Tryd.underlying5 cells_bytes cells_u8 hf with ⟨hcs, hx⟩ | ⟨a, len', cap', A, L, C, Z, hcs, _, hl, hm, hx, hcell⟩
  · simp [Value.cells] at hcs
    obtain ⟨rfl, rfl, rfl⟩ := hcs
    exact ⟨none, 0, 0, [], rfl, rfl, Nat.le_refl _, Nat.zero_le _, ⟨[], RdF.of (Rd.nil _ _), rfl, fun j v xs h _ => by simp at h⟩, by simp⟩
  · simp [Value.cells] at hcs
    obtain ⟨rfl, rfl, rfl⟩ := hcs
    have hlen : ∀ r, r < cap → (toBytes ((Z r).take (L r))).length = L r := fun r hr => by
      obtain ⟨_, h2, _, h4, _⟩ := hcell r hr
      simp [toBytes]; omega
    refine ⟨some a, len, cap, (List.range len).map fun r => toBytes ((Z r).take (L r)), rfl, by simp, by simpa using hl, hm, ⟨(List.range len).map fun r => .slice (A r) (L r) (C r), RdF.of (fun j u hu => ⟨a, rfl, ?_⟩), by simp, fun j v xs hv hx => ?_⟩, fun xs hx => ?_⟩
    · have hj : j < len := by
        have := (List.getElem?_eq_some_iff.1 hu).1
        simpa using this
      rw [(hcell j (by omega)).1, ← hu]
      simp [hj]
    · have hj : j < len := by
        have := (List.getElem?_eq_some_iff.1 hx).1
        simpa using this
      simp [hj] at hv hx
      subst hv hx
      obtain ⟨h1, h2, h3, h4, h5, h6, h7⟩ := hcell j (by omega)
      refine ⟨A j, C j, by rw [hlen j (by omega)], by rw [hlen j (by omega)]; exact h2, RdF.of ?_⟩
      rcases hA : A j with _ | a'
      · have := h6 hA
        have hl0 : (toBytes ((Z j).take (L j))) = [] := List.eq_nil_of_length_eq_zero (by rw [hlen j (by omega)]; omega)
        rw [hl0]
        exact Rd.nil _ _
      · exact rd_bytes (by omega) (fun i hi => (h7 a' hA).2 i (by omega)) h5
    · obtain ⟨r, hr, rfl⟩ := List.mem_map.1 hx
      have hr' : r < len := by simpa using hr
      rw [hlen r (by omega)]
      obtain ⟨_, h2, h3, _⟩ := hcell r (by omega)
      omega
end

/-- A WORLD FOR THE WITNESS: the settled one, the table holding what its initialiser lays. -/
noncomputable def laidWorld (os : Os) : World :=
  { World.holding Tryd.prog os ⟨#[], #[], []⟩ with heap := (World.holding Tryd.prog os ⟨#[], #[], []⟩).heap.modify 0 fun
      | .cells _ t frozen => .cells #[.int .u32 0, .int .u32 498536548, .int .u32 997073096, .int .u32 651767980, .int .u32 1994146192, .int .u32 1802195444, .int .u32 1303535960, .int .u32 1342533948, .int .u32 3988292384, .int .u32 4027552580, .int .u32 3604390888, .int .u32 3412177804, .int .u32 2607071920, .int .u32 2262029012, .int .u32 2685067896, .int .u32 3183342108] t frozen
      | o => o }
end Go.Proofs.YtlpjeopeboemmaaDoor

/-
  What the reference's slot answers, in the law's mathematics. No statement of the seat is proved here.
-/
namespace Go.Proofs.YtlpjeopeboemmaaDoor
open Go Go.RowKit

theorem unpack_zero {rows : List (List UInt8)} (hl : rows.length = 16) (h : (unpackS rows).1 = 0) : unpackS rows = (0, []) := by
  unfold unpackS at h ⊢
  split at h
  · rename_i hq
    exfalso
    dsimp only at h
    rw [h] at hq
    have hp : packI ((0 : Nat) : Int) (imgR rows) = [] := by
      unfold packI
      rw [if_neg (fun hf => by have := hf.1; omega)]
    rw [hp] at hq
    rw [hq] at hl
    cases hl
  · rename_i hq
    rw [if_neg hq]
theorem sizeR_pack (n : Nat) {img : List UInt8} (hi : img.length ≤ 814) : sizeR (packOf n img) = img.length := by
  unfold sizeR
  rw [borneR_pack hi]
  unfold borneOf
  rw [List.append_assoc, List.take_left' (lowB_length 2 _), ofLow_lowB, Nat.mod_eq_of_lt (by have e : (256 : Nat) ^ 2 = 65536 := rfl; omega)]
theorem unpack_nums {rows : List (List UInt8)} (hl : rows.length = 16) (h0 : 0 < (unpackS rows).1) {r : List UInt8} (hr : r ∈ rows) : numOf r = (unpackS rows).1 := by
  obtain ⟨h1, h2, h3⟩ := unpack_some h0 hl
  generalize unpackS rows = U at *
  subst h1
  obtain ⟨i, hi, rfl⟩ := List.mem_iff_getElem.1 hr
  have hi16 : i < 16 := by rw [hl] at hi; exact hi
  have e := packOf_get (n := U.1) (img := U.2) hi16
  rw [List.getElem?_eq_getElem hi] at e
  injection e with e
  rw [e, numOf_row h2 h3 hi16]
/-- a sector of the slot bears no number, or another one -/
theorem unpack_bad {rows : List (List UInt8)} (hl : rows.length = 16) {r : List UInt8} (hr : r ∈ rows) (h : ¬ (0 < numOf r ∧ numOf r = numOf (rows.headD []))) : unpackS rows = (0, []) := by
  refine unpack_zero hl ?_
  rcases Nat.eq_zero_or_pos (unpackS rows).1 with h0 | h0
  · exact h0
  · exfalso
    have e1 := unpack_nums hl h0 hr
    have e2 : numOf (rows.headD []) = (unpackS rows).1 := by
      cases rows with
      | nil => cases hl
      | cons a b => exact unpack_nums hl h0 (by simp)
    exact h ⟨by omega, by omega⟩
/-- the size is too great -/
theorem unpack_big {rows : List (List UInt8)} (hl : rows.length = 16) (h : 814 < sizeR rows) : unpackS rows = (0, []) := by
  refine unpack_zero hl ?_
  rcases Nat.eq_zero_or_pos (unpackS rows).1 with h0 | h0
  · exact h0
  · exfalso
    obtain ⟨h1, h2, h3⟩ := unpack_some h0 hl
    rw [h1, sizeR_pack _ h3] at h
    omega
/-- it is a slot, or it is not what Pack makes of its own number and image -/
theorem unpack_want (rows : List (List UInt8)) : (rows = packI (numOf (rows.headD []) : Int) (imgR rows) → unpackS rows = (numOf (rows.headD []), imgR rows)) ∧ (rows ≠ packI (numOf (rows.headD []) : Int) (imgR rows) → unpackS rows = (0, [])) :=
  ⟨fun h => by unfold unpackS; rw [if_pos h], fun h => by unfold unpackS; rw [if_neg h]⟩
end Go.Proofs.YtlpjeopeboemmaaDoor

/-
  The contract of the reference's slot. No statement of the seat is proved here.
-/
namespace Go.Proofs.YtlpjeopeboemmaaDoor
open Go Go.RowKit

theorem own_lt {w : World} {fp : Nat → Prop} {e : TypeId} {A : Option Addr} {c : Nat} {xs : List Value} (h : Own w fp e A c xs) {k : Nat} (hk : inA A k) : k < w.heap.size := by
  rcases h.some_ with ⟨rfl, _⟩ | ⟨g, rfl, _, hl⟩
  · exact absurd hk (inA_none k)
  · rw [inA_some] at hk; omega
/-- bytes and texts that are appended side by side: two rows of the call's own, apart, from block 'B0' on -/
structure Pair2 (B0 : Nat) (w : World) (Aa : Option Addr) (ca : Nat) (xs : List UInt8) (Ar : Option Addr) (cr : Nat) (vs : List (List UInt8)) : Prop where
  all : Own w (fun k => inA Aa k) 5 Aa ca (xs.map bv)
  rws : Own w (fun k => inA Ar k) 9 Ar cr (vs.map strV)
  ap : ∀ k, inA Aa k → ¬ inA Ar k
  fa : ∀ k, inA Aa k → B0 ≤ k
  fr : ∀ k, inA Ar k → B0 ≤ k
section
variable {B0 : Nat} {w w2 : World} {Aa Ar A' : Option Addr} {ca cr c' : Nat} {xs ys : List UInt8} {vs : List (List UInt8)} {v : List UInt8}
theorem Pair2.ext (h : Pair2 B0 w Aa ca xs Ar cr vs) (hb : Below w.heap.size w w2) : Pair2 B0 w2 Aa ca xs Ar cr vs := { h with all := h.all.ext hb, rws := h.rws.ext hb }
theorem own_self {fp : Nat → Prop} {e : TypeId} {us : List Value} (h : Own w fp e A' c' us) : Own w (fun k => inA A' k) e A' c' us := ⟨h.1, fun ad e => by rw [e]; exact ⟨ad, rfl, rfl⟩⟩
theorem own_in {fp : Nat → Prop} {e : TypeId} {us : List Value} (h : Own w fp e A' c' us) {k : Nat} (hk : inA A' k) : fp k := by
  obtain ⟨ad, e', rfl⟩ := hk
  exact h.2 ad e'
theorem Pair2.pushA (h : Pair2 B0 w Aa ca xs Ar cr vs) (h0 : B0 ≤ w.heap.size) (hown : Own w2 (More (fun k => inA Aa k) w w2) 5 A' c' (xs.map bv ++ ys.map bv)) (ho : Only (fun k => inA Aa k) w w2) : Pair2 B0 w2 A' c' (xs ++ ys) Ar cr vs ∧ Below B0 w w2 := by
  refine ⟨⟨?_, h.rws.only ho (fun k hk hk' => h.ap k hk' hk), fun k hk hk' => ?_, fun k hk => ?_, h.fr⟩, ho.below h.fa h0⟩
  · rw [List.map_append]; exact own_self hown
  · rcases own_in hown hk with h1 | h1
    · exact h.ap k h1 hk'
    · have := own_lt h.rws hk'; omega
  · rcases own_in hown hk with h1 | h1
    · exact h.fa k h1
    · omega
theorem Pair2.pushR (h : Pair2 B0 w Aa ca xs Ar cr vs) (h0 : B0 ≤ w.heap.size) (hown : Own w2 (More (fun k => inA Ar k) w w2) 9 A' c' (vs.map strV ++ [strV v])) (ho : Only (fun k => inA Ar k) w w2) : Pair2 B0 w2 Aa ca xs A' c' (vs ++ [v]) ∧ Below B0 w w2 := by
  refine ⟨⟨h.all.only ho (fun k hk hk' => h.ap k hk hk'), ?_, fun k hk hk' => ?_, h.fa, fun k hk => ?_⟩, ho.below h.fr h0⟩
  · rw [List.map_append]; exact own_self hown
  · rcases own_in hown hk' with h1 | h1
    · exact h.ap k hk h1
    · have := own_lt h.all hk; omega
  · rcases own_in hown hk with h1 | h1
    · exact h.fr k h1
    · omega
end

theorem Bs.bs'' {W : World} {A : Option Addr} {n c : Nat} {xs : List UInt8} (h : Bs W A n c xs) (hn : xs.length = n) : Bs W A xs.length c xs := by subst hn; exact h
theorem packI_64' {n : Int} {img : List UInt8} : ∀ r ∈ packI n img, r.length = 64 := fun r hr => by
  unfold packI at hr
  split at hr
  · rename_i hf
    exact packOf_64 hf.2.2 r hr
  · cases hr
/-- what a Read answers -/
def RRead (w : World) (v : List UInt8) (e : Ending) (w' : World) : Prop := ∃ g' d, e = .returned (.tuple #[.slice (some ⟨g', 0, none⟩) 64 (d + 64), .int .i64 0]) ∧ Below w.heap.size w w' ∧ Rd w' (some ⟨g', 0, none⟩) (v.map bv) ∧ w.heap.size ≤ g' ∧ g' < w'.heap.size
set_option maxRecDepth 100000 in
theorem rread_cap {w : World} {fp : Nat → Prop} {g : Nat} {S : Sec} {l : Int} {A : Option Addr} {c : Nat} {B : Nat → Option Addr} {C : Nat → Nat} (h : RLay w fp g S l A c B C) (hs : Small 1000000 S) (i : Nat) (hi : i < S.length) :
    Calls Tryd.prog 40 #[.pointer (some ⟨g, 0, none⟩), .int .i64 (i : Int)] w (RRead w (lastOf S[i])) := by
  have h0 : w.cell? ⟨g, 0, none⟩ = some (.slice A S.length c) := h.dsk.cell 0
  obtain ⟨b, o, rfl, hcell, hfr⟩ := h.row.there1 hi
  have hck := hcell _ (rvals_get S B C hi)
  have hwf := h.wf S[i] (List.getElem_mem hi)
  have hpos := List.length_pos_iff.2 hwf.1
  have hsm := hs S[i] (List.getElem_mem hi)
  obtain ⟨b', o', hB, _, _⟩ := (h.cel i hi).there1 (i := 0) hpos
  have hlast : (S[i].map strV)[S[i].length - 1]? = some (strV (lastOf S[i])) := by
    have := getLast_lastOf hwf.1
    rw [List.getLast?_eq_getElem?] at this
    rw [List.getElem?_map, this]; rfl
  have hF64 := hwf.2 _ (lastOf_mem hwf.1)
  have hcel := h.cel i hi
  obtain ⟨b2, o2, hB2, hc2, _⟩ := hcel.there1 (i := S[i].length - 1) (by omega)
  rw [hB] at hB2 hck
  injection hB2 with hB2
  injection hB2 with e1 e2 _
  subst e1 e2
  have hstr := hc2 _ hlast
  unfold strV at hstr
  generalize lastOf S[i] = F at hF64 hstr
  generalize S[i].length = m at hpos hsm hck hstr
  obtain ⟨m1, rfl⟩ : ∃ m1, m = m1 + 1 := ⟨m - 1, by omega⟩
  have hii : (i : Int) < (S.length : Int) := by omega
  have hd : decide ((i : Int) < 0) = false := decide_eq_false (by omega)
  rw [show m1 + 1 - 1 = m1 by omega] at hstr
  have hsz : (⟨F.toArray⟩ : ByteArray).size = 64 := by rw [strV_size]; exact hF64
  have hpost : ∀ cap fr, 64 ≤ cap → RRead w F (.returned (.tuple #[.slice (some ⟨w.heap.size, 0, none⟩) 64 cap, .int .i64 0])) (w.alloc (.cells (bytesRow ⟨F.toArray⟩ cap) 5 fr)).drew := fun cap fr hcap => by
    have h1 := (Rd.lit_at w (bytesRow ⟨F.toArray⟩ cap) 5 (fr := fr) rfl).take 64
    have h2 : (bytesRow ⟨F.toArray⟩ cap).toList.take 64 = F.map bv := by
      unfold bytesRow
      rw [Array.toList_append, Array.toList_map]
      show (F.map bv ++ _).take 64 = F.map bv
      rw [List.take_append_of_le_length (by rw [List.length_map]; omega), List.take_of_length_le (by rw [List.length_map]; omega)]
    rw [h2] at h1
    refine ⟨w.heap.size, cap - 64, by rw [Nat.sub_add_cancel hcap], Below.drew' ((Below.refl _ _).alloc (Nat.le_refl _) _), h1, Nat.le_refl _, ?_⟩
    show w.heap.size < (w.alloc _).heap.size
    rw [World.size_alloc]; omega
  have Hpost := Lib.hid hpost
  have hcv := run_bytes_of_string (P := Tryd.prog) w 9 22 5 ⟨F.toArray⟩ Tryd.underlying9 Tryd.underlying22 Tryd.underlying5
  clear hpost
  go_enter Tryd.func40, Tryd.ntmps40
  go_wp2_with fail
  go_ret2
  exact Hpost.out _ _ (grownCap_ge _ _ _ _)

/-- all sectors bear one number, which is one -/
def okT (n : Nat) (rows : List (List UInt8)) : Bool := rows.all fun r => decide (0 < numOf r) && decide (numOf r = n)
theorem okT_take (n : Nat) (rows : List (List UInt8)) (k : Nat) (h : k < rows.length) : okT n (rows.take (k + 1)) = (okT n (rows.take k) && (decide (0 < numOf rows[k]) && decide (numOf rows[k] = n))) := by
  unfold okT
  rw [List.take_succ_eq_append_getElem h, List.all_append]; simp
def nAt (j n : Nat) : Nat := if j = 0 then 0 else n
/-- what the reference's slot answers -/
def RSlotted (w : World) (rows : List (List UInt8)) (e : Ending) (w' : World) : Prop :=
  ∃ A c, e = .returned (.tuple #[.int .i64 ((unpackS rows).1 : Int), .slice A (unpackS rows).2.length c, .int .i64 (mostR 0 rows : Int)]) ∧ Bs w' A (unpackS rows).2.length c (unpackS rows).2 ∧ (∀ ad, A = some ad → w.heap.size ≤ ad.block ∧ ad.block < w'.heap.size) ∧ Below w.heap.size w w'
theorem rslotted_none {w w' : World} {rows : List (List UInt8)} (h : unpackS rows = (0, [])) (hb : Below w.heap.size w w') : RSlotted w rows (.returned (.tuple #[.int .i64 0, .slice none 0 0, .int .i64 (mostR 0 rows : Int)])) w' := by
  refine ⟨none, 0, by rw [h]; rfl, ?_, fun ad e => (by cases e), hb⟩
  rw [h]
  exact ⟨rfl, Nat.le_refl _, Rd.nil _ _⟩
theorem RSlotted.ext {w w1 w' : World} {rows : List (List UInt8)} {e : Ending} (h : RSlotted w rows e w1) (hb : Below w1.heap.size w1 w') : RSlotted w rows e w' := by
  obtain ⟨A, c, h1, h2, h3, h4⟩ := h
  exact ⟨A, c, h1, h2.ext hb, fun ad ea => ⟨(h3 ad ea).1, Nat.lt_of_lt_of_le (h3 ad ea).2 hb.size⟩, ext_trans h4 hb⟩
theorem ne_list2 {xs ys : List UInt8} (h : xs ≠ ys) : ((⟨xs.toArray⟩ : ByteArray).toList == (⟨ys.toArray⟩ : ByteArray).toList) = false := by
  rw [ByteArray.toList_mk, ByteArray.toList_mk]
  simpa using h
theorem okT_bad {rows : List (List UInt8)} (hl : rows.length = 16) (h : okT (numOf (rows.headD [])) rows = false) : unpackS rows = (0, []) := by
  unfold okT at h
  rw [List.all_eq_false] at h
  obtain ⟨r, hr, h⟩ := h
  refine unpack_bad hl hr (fun hh => h ?_)
  rw [decide_eq_true hh.1, decide_eq_true hh.2]; rfl
theorem okT_head {rows : List (List UInt8)} (hl : rows.length = 16) (h : okT (numOf (rows.headD [])) rows = true) : 0 < numOf (rows.headD []) := by
  unfold okT at h
  rw [List.all_eq_true] at h
  cases rows with
  | nil => cases hl
  | cons a b =>
    have := h a (by simp)
    rw [Bool.and_eq_true] at this
    exact of_decide_eq_true this.1
end Go.Proofs.YtlpjeopeboemmaaDoor
