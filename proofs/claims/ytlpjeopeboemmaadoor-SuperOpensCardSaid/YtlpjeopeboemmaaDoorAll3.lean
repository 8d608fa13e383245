/-
  Texts of this claim, joined (part 3): contracts and lemmas that the last text goes by. No statement of the seat is proved here.
-/
import Derived.Test.YtlpjeopeboemmaaDoorAll2
import Derived.BigRegion
/-
  The contracts of super's Commit, Image, Number, Dead. No statement of the seat is proved here.
-/
namespace Go.Proofs.YtlpjeopeboemmaaDoor
open Go Go.RowKit

/-- a Super, without its place -/
structure SupS where
  S : Sec
  l : Int
  img : List UInt8
  N : Nat
  slot : Nat
  dead : Bool
/-- Commit: the answer, and what it leaves -/
def commitS (s : SupS) (bs : List UInt8) : Int × SupS :=
  if s.dead = true then (6, s)
  else if 814 < bs.length ∨ s.N = 1125899906842624 then (3, s)
  else if (layTo s.S s.l (((1 - s.slot : Nat) : Int) * 16) (packI ((s.N : Int) + 1) bs)).1 = 0 then
    (0, { S := (layTo s.S s.l (((1 - s.slot : Nat) : Int) * 16) (packI ((s.N : Int) + 1) bs)).2.1, l := (layTo s.S s.l (((1 - s.slot : Nat) : Int) * 16) (packI ((s.N : Int) + 1) bs)).2.2, img := bs, N := s.N + 1, slot := 1 - s.slot, dead := false })
  else ((layTo s.S s.l (((1 - s.slot : Nat) : Int) * 16) (packI ((s.N : Int) + 1) bs)).1, { s with S := (layTo s.S s.l (((1 - s.slot : Nat) : Int) * 16) (packI ((s.N : Int) + 1) bs)).2.1, l := (layTo s.S s.l (((1 - s.slot : Nat) : Int) * 16) (packI ((s.N : Int) + 1) bs)).2.2, dead := true })
def Sup (w : World) (fp : Nat → Prop) (g gd : Nat) (s : SupS) : Prop := SupAt w fp g gd s.S s.l s.img s.N s.slot s.dead
/-- what a Commit leaves -/
def Committed (w : World) (fp : Nat → Prop) (g gd : Nat) (s : SupS) (bs : List UInt8) (e : Ending) (w' : World) : Prop :=
  e = .returned (.int .i64 (commitS s bs).1) ∧ Sup w' (More fp w w') g gd (commitS s bs).2 ∧ Only fp w w'

theorem ToldAt.drew {w : World} {b N : Nat} {A : Option Addr} {n c : Nat} {img : List UInt8} (h : ToldAt w b N A n c img) : ToldAt w.drew b N A n c img := h
theorem SupP.told {w : World} {fp fI : Nat → Prop} {g gd : Nat} {S : Sec} {l : Int} {img : List UInt8} {N slot : Nat} {dead : Bool} {A : Option Addr} {c : Nat} (h : SupP w fp fI g gd S l img N slot dead A c) : ToldAt w g N A img.length c img := ⟨h.blk.cell 0, h.blk.cell 1, h.bs⟩

set_option maxHeartbeats 1000000 in
theorem commit_still {w : World} {fp : Nat → Prop} {g gd : Nat} {s : SupS} (h : Sup w fp g gd s) (B : Option Addr) (m d : Nat) (bs : List UInt8) (hm : m = bs.length) (hbl : bs.length ≤ maxLen) (hc : s.dead = true ∨ 814 < bs.length ∨ s.N = 1125899906842624) :
    Calls Tryd.prog 19 #[.pointer (some ⟨g, 0, none⟩), .slice B m d] w (Committed w fp g gd s bs) := by
  subst hm
  have hpost : ∀ c, c = (if s.dead = true then (6 : Int) else 3) → Committed w fp g gd s bs (.returned (.int .i64 c)) w := by
    rintro c rfl
    have e : commitS s bs = (if s.dead = true then (6 : Int) else 3, s) := by
      unfold commitS
      by_cases hd : s.dead = true
      · rw [if_pos hd, if_pos hd]
      · rw [if_neg hd, if_neg hd, if_pos (by rcases hc with hc | hc; exact absurd hc hd; exact hc)]
    refine ⟨by rw [e], ?_, Only.refl _ _⟩
    rw [e]
    exact SupAt.mono h (fun k hk _ => .inl hk)
  have Hpost := Lib.hid hpost
  obtain ⟨fI, A, c, h⟩ := h
  have q3 := h.blk.cell 4
  simp only [List.getElem?_toArray, List.getElem?_cons_zero, List.getElem?_cons_succ] at q3
  have hlast := last_any h.told
  have hN := h.hN
  clear hpost h
  obtain ⟨S, l, img, N, slot, dead⟩ := s
  dsimp only at *
  have hbi : (bs.length : Int) ≤ 9223372036854775807 := by unfold maxLen at hbl; omega
  clear hbl
  cases dead with
  | true =>
    have Hp := Lib.hid (Hpost.out 6 rfl)
    clear Hpost hlast hN hc
    go_enter Tryd.func19, Tryd.ntmps19
    go_wp2
    go_ret
    exact Hp.out
  | false =>
    have Hp := Lib.hid (Hpost.out 3 rfl)
    clear Hpost
    by_cases hl : 814 < bs.length
    · have hli : (814 : Int) < (bs.length : Int) := by omega
      clear hlast hN hc
      go_enter Tryd.func19, Tryd.ntmps19
      go_wp2
      go_ret
      exact Hp.out
    · have hli : (bs.length : Int) ≤ 814 := by omega
      have hNe : N = 1125899906842624 := by
        rcases hc with hc | hc | hc
        · cases hc
        · omega
        · exact hc
      have hb : ((N : Int) == 1125899906842624) = true := beq_iff_eq.2 (by omega)
      rw [hb] at hlast
      have Hlast := Lib.hid hlast
      have hdn : decide ((814 : Int) < (bs.length : Int)) = false := decide_eq_false (by omega)
      clear hlast hN hc hNe hb
      go_enter Tryd.func19, Tryd.ntmps19
      go_wp2_with fail
      refine Hlast.out.mono ?_
      rintro e w1 ⟨rfl, rfl⟩
      go_wp2
      go_ret
      exact Hp.out

set_option maxRecDepth 100000 in
set_option maxHeartbeats 2000000 in
theorem commit_go {w : World} {fp : Nat → Prop} {g gd : Nat} {s : SupS} (ht : Tab w) (h : Sup w fp g gd s) (hs : Small 900000 s.S) (B : Option Addr) (m d : Nat) (bs : List UInt8) (hB : Bs w B m d bs) (hd : s.dead = false) (hbl : bs.length ≤ 814) (hN : s.N ≠ 1125899906842624) :
    Calls Tryd.prog 19 #[.pointer (some ⟨g, 0, none⟩), .slice B m d] w (Committed w fp g gd s bs) := by
  have hm := hB.1
  subst hm
  obtain ⟨fI, A, c, h⟩ := h
  obtain ⟨S, l, img, N, slot, dead⟩ := s
  dsimp only at *
  subst hd
  have hlast := last_any h.told
  have hb : ((N : Int) == 1125899906842624) = false := beq_eq_false_iff_ne.2 (by omega)
  rw [hb] at hlast
  have Hlast := Lib.hid hlast
  have q3 := h.blk.cell 3
  have q4 := h.blk.cell 4
  have q2 := h.blk.cell 2
  simp only [List.getElem?_toArray, List.getElem?_cons_zero, List.getElem?_cons_succ] at q2 q3 q4
  have hli : (bs.length : Int) ≤ 814 := by omega
  have hdn : decide ((814 : Int) < (bs.length : Int)) = false := decide_eq_false (by omega)
  have hbeh : ∀ W, Below w.heap.size w W → Calls Tryd.prog 43 #[.pointer (some ⟨g, 0, none⟩), .slice B bs.length d] W fun e w' => ∃ A' c', e = .returned (.agg #[.int .i64 ((N : Int) + 1), .slice A' bs.length c']) ∧ New W w' A' c' bs ∧ Below W.heap.size W w' := fun W hW =>
    behind_any (h.told.ext hW) h.hN B _ d bs (hB.ext hW) hbl
  have Hbeh := Lib.hid hbeh
  have hsl := h.hs
  have hws : IntKind.i64.wrap (1 - (slot : Int)) = 1 - (slot : Int) := by rw [IntKind.wrap_i64]; omega
  have hne := World.new_ne w ⟨g, 3, none⟩ q3
  clear hlast hb hbeh
  go_enter Tryd.func19, Tryd.ntmps19
  go_wp2_with fail
  refine Hlast.out.mono ?_
  rintro e w1 ⟨rfl, rfl⟩
  go_wp2
  go_region_held3 (fun w' => w'.cell? ⟨g, 3, none⟩ = some (.int .i64 (slot : Int))) (first | exact q3 | exact hS1 | go_keep) (first
    | (go_at_call 43; ((with_reducible refine (Hbeh.out _ ?_).mono ?_)); exact ext_drew (Below.refl _ _); rintro e w1 ⟨A1, c1, rfl, hn1, hb1⟩; have hS1 : w1.cell? ⟨g, 3, none⟩ = some (.int .i64 (slot : Int)) := cell_ext (w := w.drew) q3 hb1; have hne1 := World.new_ne w1 ⟨g, 3, none⟩ hS1)
    | (go_at_call 43; ((with_reducible refine (Hbeh.out _ ?_).mono ?_)); exact ext_drew (ext_alloc (Below.refl _ _) _); rintro e w1 ⟨A1, c1, rfl, hn1, hb1⟩; have hS1 : w1.cell? ⟨g, 3, none⟩ = some (.int .i64 (slot : Int)) := cell_ext q3 (ext_trans (ext_drew (ext_alloc (Below.refl _ _) _)) hb1); have hne1 := World.new_ne w1 ⟨g, 3, none⟩ hS1;
        obtain ⟨p0, p1, p2, p3⟩ := ((Blk.drew (Blk.new w 78 #[.int .i64 0, .slice none 0 0])).ext hb1).two))
  · obtain ⟨wx, hwx⟩ : ∃ wx : World, wx = w1.alloc (.cells #[.int .i64 ((N : Int) + 1), .slice A1 bs.length c1] 78) := ⟨_, rfl⟩
    rw [← hwx]
    generalize hb5 : w1.heap.size = b5
    have hbw1 : Below w.heap.size w w1 := ext_trans (ext_drew (Below.refl _ _)) hb1
    have hbx : Below w.heap.size w wx := by rw [hwx]; exact ext_alloc hbw1 _
    have hT5 : ToldAt wx b5 (N + 1) A1 bs.length c1 bs := by
      rw [hwx, ← hb5]
      exact ⟨(Blk.new w1 78 #[.int .i64 ((N : Int) + 1), .slice A1 bs.length c1]).cell 0, (Blk.new w1 _ _).cell 1, hn1.bs.alloc _⟩
    have hlt5 : w.heap.size ≤ b5 ∧ b5 < wx.heap.size := by rw [hwx, ← hb5, World.size_alloc]; exact ⟨hbw1.size, Nat.lt_succ_self _⟩
    have hA1 : ∀ ad, A1 = some ad → w.heap.size ≤ ad.block ∧ ad.block < wx.heap.size := fun ad e => by
      have := hn1.2 ad e
      rw [hwx, World.size_alloc]
      exact ⟨this.1, by omega⟩
    clear hwx hb5 hn1 hb1 hbw1
    clear q3 q4 Hbeh Hlast hdn hli hws hne
    obtain ⟨fI', hfI⟩ : ∃ f : Nat → Prop, f = fun k => fI k ∧ k < w.heap.size := ⟨_, rfl⟩
    have hI' : Imp w fI' gd S l := by rw [hfI]; exact h.imp.mono (fun k hk hl => ⟨hk, hl⟩)
    have hfl : ∀ k, fI' k → fI k ∧ k < w.heap.size := by rw [hfI]; exact fun k hk => hk
    clear hfI
    have hgl := h.blk.lt
    have hsx := hbx.size
    have hrw := rows_any hT5.drew ((ht.ext hbx).drewN 1) (by have := h.hN; omega) (by omega)
    have q2x : wx.cell? ⟨g, 2, none⟩ = some (.pointer (some ⟨gd, 0, none⟩)) := cell_ext q2 hbx
    have Hrw := Lib.hid hrw
    have e1 : ((1 - slot : Nat) : Int) = 1 - (slot : Int) := by omega
    have hNN : ((N + 1 : Nat) : Int) = (N : Int) + 1 := by omega
    rw [hNN] at Hrw
    have hrsl : (packI ((N : Int) + 1) bs).length ≤ 16 := by
      unfold packI
      split
      · rw [packOf_length]; omega
      · simp
    have hcs : ∀ R, layTo S l (((1 - slot : Nat) : Int) * 16) (packI ((N : Int) + 1) bs) = R → commitS ⟨S, l, img, N, slot, false⟩ bs = if R.1 = 0 then (0, ⟨R.2.1, R.2.2, bs, N + 1, 1 - slot, false⟩) else (R.1, ⟨R.2.1, R.2.2, img, N, slot, true⟩) := by
      rintro R rfl
      unfold commitS
      rw [if_neg (by simp), if_neg (by intro h; rcases h with h | h; omega; exact hN h)]
    have hwrs : ∀ (w2 : World) (A2 : Option Addr) (c2 : Nat), Below w.heap.size w w2 → RowsF (fun k => k < wx.heap.size) w2 A2 (packI ((N : Int) + 1) bs) → Calls Tryd.prog 44 #[.pointer (some ⟨gd, 0, none⟩), .int .i64 (1 - (slot : Int)), .slice A2 (packI ((N : Int) + 1) bs).length c2] w2 fun e w3 =>
        ∃ R, layTo S l (((1 - slot : Nat) : Int) * 16) (packI ((N : Int) + 1) bs) = R ∧ e = .returned (.int .i64 R.1) ∧ Imp w3 (More fI' w2 w3) gd R.2.1 R.2.2 ∧ Only fI' w2 w3 := fun w2 A2 c2 hb2 hr2 => by
      have h1 := writeslot_any (hI'.ext hb2) hs (1 - slot) (by omega) A2 _ c2 _ rfl (hr2.weak (fun k hk => by have := (hfl k hk).2; omega)) hrsl
      rw [e1] at h1
      refine h1.mono ?_
      rintro e w3 ⟨rfl, h2, h3⟩
      rw [e1]
      exact ⟨_, rfl, rfl, h2, h3⟩
    have Hwrs := Lib.hid hwrs
    have Hcs := Lib.hid hcs
    clear hrw hwrs hcs hNN e1
    generalize packI ((N : Int) + 1) bs = rs at *
    go_wp2
    go_region_held3 (fun w' => w'.cell? ⟨g, 2, none⟩ = some (.pointer (some ⟨gd, 0, none⟩))) (first | exact q2x | exact hS2 | exact hS3) (first
      | (go_at_call 45; ((with_reducible refine Hrw.out.mono ?_)); rintro e w2 ⟨A2, c2, rfl, hl2, hr2, hb2⟩; have hS2 : w2.cell? ⟨g, 2, none⟩ = some (.pointer (some ⟨gd, 0, none⟩)) := cell_ext (w := wx.drew) q2x hb2)
      | (go_at_call 44; ((with_reducible refine (Hwrs.out _ _ _ ?_ ?_).mono ?_)); exact ext_trans (ext_drew hbx) hb2; exact hr2; rintro e w3 ⟨R, hR, rfl, hI3, ho3⟩; have hS3 : w3.cell? ⟨g, 2, none⟩ = some (.pointer (some ⟨gd, 0, none⟩)) := (World.cell?_of_block (ho3.block g (World.block_lt_of_cell? _ _ hS2) (fun hk => h.ng (hfl _ hk).1))).trans hS2))
    obtain ⟨r1, S2, l2⟩ := R
    have hs2 := hb2.size
    have hs3 := ho3.size
    have hng : ¬ fI' g := fun hk => h.ng (hfl _ hk).1
    have hblk3 : Blk w3 g 80 #[.int .i64 (N : Int), .slice A img.length c, .pointer (some ⟨gd, 0, none⟩), .int .i64 (slot : Int), .bool false] := ((h.blk.ext (ext_drew hbx)).ext hb2).only ho3 hng
    have hb2w : Below w.heap.size w w2 := ext_trans (ext_drew hbx) hb2
    have hT2 := hT5.drew.ext hb2
    have hn5 : ¬ fI' b5 := fun hk => by have := (hfl _ hk).2; omega
    have t0 : w3.cell? ⟨b5, 0, none⟩ = some (.int .i64 ((N : Int) + 1)) := (World.cell?_of_block (ho3.block b5 (by have : wx.drew.heap.size = wx.heap.size := rfl; omega) hn5)).trans hT2.1
    have t1 : w3.cell? ⟨b5, 1, none⟩ = some (.slice A1 bs.length c1) := (World.cell?_of_block (ho3.block b5 (by have : wx.drew.heap.size = wx.heap.size := rfl; omega) hn5)).trans hT2.2.1
    have hbs3 : Bs w3 A1 bs.length c1 bs := ⟨rfl, hT2.2.2.2.1, hT2.2.2.2.2.only ho3 (fun ad e _ hk => by have := (hfl _ hk).2; have := (hA1 ad e).1; omega)⟩
    have hng3 : ¬ More fI' w2 w3 g := fun hk => by
      rcases hk with hk | hk
      · exact hng hk
      · have := hk.1
        have : wx.drew.heap.size = wx.heap.size := rfl
        omega
    have hO3 : Only fp w w3 := (Only.of_ext (S := fp) hb2w).trans ho3 (fun k _ hk => h.sub k (hfl k hk).1)
    have hsub : ∀ (W : World), w3.heap.size ≤ W.heap.size → ∀ k, More fI' w2 w3 k → More fp w W k := fun W hW k hk => by
      rcases hk with hk | hk
      · exact .inl (h.sub k (hfl k hk).1)
      · exact .inr ⟨by have := hb2w.size; omega, by omega⟩
    have hgood : Committed w fp g gd ⟨S, l, img, N, slot, false⟩ bs (.returned (.int .i64 r1)) (if r1 = 0 then ((w3.setCell ⟨g, 0, none⟩ (.int .i64 ((N : Int) + 1))).setCell ⟨g, 1, none⟩ (.slice A1 bs.length c1)).setCell ⟨g, 3, none⟩ (.int .i64 (1 - (slot : Int))) else w3.setCell ⟨g, 4, none⟩ (.bool true)) := by
      have hc := Hcs.out _ hR
      dsimp only at hc
      have e1 : ((1 - slot : Nat) : Int) = 1 - (slot : Int) := by have := h.hs; omega
      by_cases h0 : r1 = 0
      · rw [if_pos h0] at hc ⊢
        have hsz : (((w3.setCell ⟨g, 0, none⟩ (.int .i64 ((N : Int) + 1))).setCell ⟨g, 1, none⟩ (.slice A1 bs.length c1)).setCell ⟨g, 3, none⟩ (.int .i64 (1 - (slot : Int)))).heap.size = w3.heap.size := by simp [World.setCell]
        have hog : Only (fun k => k = g) w3 (((w3.setCell ⟨g, 0, none⟩ (.int .i64 ((N : Int) + 1))).setCell ⟨g, 1, none⟩ (.slice A1 bs.length c1)).setCell ⟨g, 3, none⟩ (.int .i64 (1 - (slot : Int)))) :=
          (((Only.refl (fun k => k = g) w3).setCell (p := ⟨g, 0, none⟩) (.inl rfl) _).setCell (p := ⟨g, 1, none⟩) (.inl rfl) _).setCell (p := ⟨g, 3, none⟩) (.inl rfl) _
        have hput := ((hblk3.put 0 (.int .i64 ((N : Int) + 1))).put 1 (.slice A1 bs.length c1)).put 3 (.int .i64 (1 - (slot : Int)))
        refine ⟨by rw [hc, h0], ?_, hO3.trans hog (fun k _ hk => by rw [hk]; exact h.fg)⟩
        rw [hc]
        refine ⟨More fI' w2 w3, A1, c1, ?_⟩
        exact {
          imp := hI3.only hog (fun k hk e => hng3 (e ▸ hk))
          sub := hsub _ (by rw [hsz]; exact Nat.le_refl _)
          fg := .inl h.fg
          ng := hng3
          blk := by
            rw [e1]
            exact hput
          bs := ⟨rfl, hbs3.2.1, hbs3.2.2.only hog (fun ad e _ hk => by have := (hA1 ad e).1; omega)⟩
          fA := fun ad e => by
            have h1 := hA1 ad e
            have hdx : wx.drew.heap.size = wx.heap.size := rfl
            refine ⟨.inr ⟨h1.1, by rw [hsz]; omega⟩, fun hk => ?_, by omega, by rw [hsz]; omega⟩
            rcases hk with hk | hk
            · have := (hfl _ hk).2; omega
            · have := hk.1; omega
          hN := by have := h.hN; show N + 1 ≤ _; omega
          hs := by show 1 - slot ≤ 1; omega
          hi := hbl }
      · rw [if_neg h0] at hc ⊢
        have hsz : (w3.setCell ⟨g, 4, none⟩ (.bool true)).heap.size = w3.heap.size := by simp [World.setCell]
        have hog : Only (fun k => k = g) w3 (w3.setCell ⟨g, 4, none⟩ (.bool true)) := (Only.refl (fun k => k = g) w3).setCell (p := ⟨g, 4, none⟩) (.inl rfl) _
        have hput := hblk3.put 4 (.bool true)
        refine ⟨by rw [hc], ?_, hO3.trans hog (fun k _ hk => by rw [hk]; exact h.fg)⟩
        rw [hc]
        refine ⟨More fI' w2 w3, A, c, ?_⟩
        exact {
          imp := hI3.only hog (fun k hk e => hng3 (e ▸ hk))
          sub := hsub _ (by rw [hsz]; exact Nat.le_refl _)
          fg := .inl h.fg
          ng := hng3
          blk := hput
          bs := ⟨rfl, h.bs.2.1, (((h.bs.2.2.ext hb2w).only ho3 (fun ad e _ hk => (h.fA ad e).2.1 (hfl _ hk).1)).only hog (fun ad e _ hk => (h.fA ad e).2.2.1 hk))⟩
          fA := fun ad e => by
            have h1 := h.fA ad e
            have hdx : wx.drew.heap.size = wx.heap.size := rfl
            refine ⟨.inl h1.1, fun hk => ?_, h1.2.2.1, by rw [hsz]; omega⟩
            rcases hk with hk | hk
            · exact h1.2.1 (hfl _ hk).1
            · have := hk.1; omega
          hN := h.hN
          hs := h.hs
          hi := h.hi }
    have Hgood := Lib.hid hgood
    have k0 := hblk3.cell 0
    have k1 := hblk3.cell 1
    have k3 := hblk3.cell 3
    have k4 := hblk3.cell 4
    have f0 := hblk3.free 0
    have f1 := hblk3.free 1
    have f3 := hblk3.free 3
    have f4 := hblk3.free 4
    simp only [List.getElem?_toArray, List.getElem?_cons_zero, List.getElem?_cons_succ] at k0 k1 k3 k4
    have hw3 : w3.cell? ⟨g, 2, none⟩ = some (.pointer (some ⟨gd, 0, none⟩)) := hS3
    clear hgood hsub hO3 hng3 hbs3 hT2 hT5 hI3 ho3 hb2 hbx hR Hcs Hwrs Hrw hblk3 hA1 hfl hI' hs2 hs3 hsx hlt5 hgl hng hn5 hb2w hr2 hrsl hl2 hS2 q2x hB h hN hs
    by_cases h0 : r1 = 0
    · subst h0
      have Hg := Hgood.out
      rw [if_pos rfl] at Hg
      have HG := Lib.hid Hg
      clear Hgood Hg
      go_wp2
      go_ret
      exact HG.out
    · have hb0 : (r1 == 0) = false := beq_eq_false_iff_ne.2 h0
      have Hg := Hgood.out
      rw [if_neg h0] at Hg
      have HG := Lib.hid Hg
      clear Hgood Hg h0
      go_wp2
      go_ret
      exact HG.out
  · obtain ⟨wx, hwx⟩ : ∃ wx : World, wx = (w1.setCell ⟨w.heap.size, 0, none⟩ (.int .i64 ((N : Int) + 1))).setCell ⟨w.heap.size, 1, none⟩ (.slice A1 bs.length c1) := ⟨_, rfl⟩
    rw [← hwx]
    generalize hb5 : w.heap.size = b5
    have hbw1 : Below w.heap.size w w1 := ext_trans (ext_drew (ext_alloc (Below.refl _ _) _)) hb1
    have hbx : Below w.heap.size w wx := by rw [hwx]; exact (hbw1.setCell (p := ⟨w.heap.size, 0, none⟩) (Nat.le_refl _) _).setCell (p := ⟨w.heap.size, 1, none⟩) (Nat.le_refl _) _
    have hblk1 := (Blk.drew (Blk.new w 78 #[.int .i64 0, .slice none 0 0])).ext hb1
    have hdz : (w.alloc (.cells #[.int .i64 0, .slice none 0 0] 78)).drew.heap.size = w.heap.size + 1 := by
      show (w.alloc _).heap.size = _
      rw [World.size_alloc]
    have hA1' : ∀ ad, A1 = some ad → w.heap.size + 1 ≤ ad.block ∧ ad.block < w1.heap.size := fun ad e => by
      have := hn1.2 ad e
      exact ⟨by omega, this.2⟩
    have hT5 : ToldAt wx b5 (N + 1) A1 bs.length c1 bs := by
      rw [hwx, ← hb5]
      exact ⟨((hblk1.put 0 _).put 1 _).cell 0, ((hblk1.put 0 _).put 1 _).cell 1, (hn1.bs.far (p := ⟨w.heap.size, 0, none⟩) (fun ad e => by have := (hA1' ad e).1; show ad.block ≠ w.heap.size; omega) _).far (p := ⟨w.heap.size, 1, none⟩) (fun ad e => by have := (hA1' ad e).1; show ad.block ≠ w.heap.size; omega) _⟩
    have hzx : wx.heap.size = w1.heap.size := by rw [hwx]; simp [World.setCell]
    have hlt5 : w.heap.size ≤ b5 ∧ b5 < wx.heap.size := by rw [hzx, ← hb5]; exact ⟨Nat.le_refl _, hblk1.lt⟩
    have hA1 : ∀ ad, A1 = some ad → w.heap.size ≤ ad.block ∧ ad.block < wx.heap.size := fun ad e => by
      have := hA1' ad e
      rw [hzx]
      exact ⟨by omega, this.2⟩
    clear hwx hb5 hn1 hb1 hbw1 hblk1 hdz hA1' hzx p0 p1 p2 p3
    clear q3 q4 Hbeh Hlast hdn hli hws hne
    obtain ⟨fI', hfI⟩ : ∃ f : Nat → Prop, f = fun k => fI k ∧ k < w.heap.size := ⟨_, rfl⟩
    have hI' : Imp w fI' gd S l := by rw [hfI]; exact h.imp.mono (fun k hk hl => ⟨hk, hl⟩)
    have hfl : ∀ k, fI' k → fI k ∧ k < w.heap.size := by rw [hfI]; exact fun k hk => hk
    clear hfI
    have hgl := h.blk.lt
    have hsx := hbx.size
    have hrw := rows_any hT5.drew ((ht.ext hbx).drewN 1) (by have := h.hN; omega) (by omega)
    have q2x : wx.cell? ⟨g, 2, none⟩ = some (.pointer (some ⟨gd, 0, none⟩)) := cell_ext q2 hbx
    have Hrw := Lib.hid hrw
    have e1 : ((1 - slot : Nat) : Int) = 1 - (slot : Int) := by omega
    have hNN : ((N + 1 : Nat) : Int) = (N : Int) + 1 := by omega
    rw [hNN] at Hrw
    have hrsl : (packI ((N : Int) + 1) bs).length ≤ 16 := by
      unfold packI
      split
      · rw [packOf_length]; omega
      · simp
    have hcs : ∀ R, layTo S l (((1 - slot : Nat) : Int) * 16) (packI ((N : Int) + 1) bs) = R → commitS ⟨S, l, img, N, slot, false⟩ bs = if R.1 = 0 then (0, ⟨R.2.1, R.2.2, bs, N + 1, 1 - slot, false⟩) else (R.1, ⟨R.2.1, R.2.2, img, N, slot, true⟩) := by
      rintro R rfl
      unfold commitS
      rw [if_neg (by simp), if_neg (by intro h; rcases h with h | h; omega; exact hN h)]
    have hwrs : ∀ (w2 : World) (A2 : Option Addr) (c2 : Nat), Below w.heap.size w w2 → RowsF (fun k => k < wx.heap.size) w2 A2 (packI ((N : Int) + 1) bs) → Calls Tryd.prog 44 #[.pointer (some ⟨gd, 0, none⟩), .int .i64 (1 - (slot : Int)), .slice A2 (packI ((N : Int) + 1) bs).length c2] w2 fun e w3 =>
        ∃ R, layTo S l (((1 - slot : Nat) : Int) * 16) (packI ((N : Int) + 1) bs) = R ∧ e = .returned (.int .i64 R.1) ∧ Imp w3 (More fI' w2 w3) gd R.2.1 R.2.2 ∧ Only fI' w2 w3 := fun w2 A2 c2 hb2 hr2 => by
      have h1 := writeslot_any (hI'.ext hb2) hs (1 - slot) (by omega) A2 _ c2 _ rfl (hr2.weak (fun k hk => by have := (hfl k hk).2; omega)) hrsl
      rw [e1] at h1
      refine h1.mono ?_
      rintro e w3 ⟨rfl, h2, h3⟩
      rw [e1]
      exact ⟨_, rfl, rfl, h2, h3⟩
    have Hwrs := Lib.hid hwrs
    have Hcs := Lib.hid hcs
    clear hrw hwrs hcs hNN e1
    generalize packI ((N : Int) + 1) bs = rs at *
    go_wp2
    go_region_held3 (fun w' => w'.cell? ⟨g, 2, none⟩ = some (.pointer (some ⟨gd, 0, none⟩))) (first | exact q2x | exact hS2 | exact hS3) (first
      | (go_at_call 45; ((with_reducible refine Hrw.out.mono ?_)); rintro e w2 ⟨A2, c2, rfl, hl2, hr2, hb2⟩; have hS2 : w2.cell? ⟨g, 2, none⟩ = some (.pointer (some ⟨gd, 0, none⟩)) := cell_ext (w := wx.drew) q2x hb2)
      | (go_at_call 44; ((with_reducible refine (Hwrs.out _ _ _ ?_ ?_).mono ?_)); exact ext_trans (ext_drew hbx) hb2; exact hr2; rintro e w3 ⟨R, hR, rfl, hI3, ho3⟩; have hS3 : w3.cell? ⟨g, 2, none⟩ = some (.pointer (some ⟨gd, 0, none⟩)) := (World.cell?_of_block (ho3.block g (World.block_lt_of_cell? _ _ hS2) (fun hk => h.ng (hfl _ hk).1))).trans hS2))
    obtain ⟨r1, S2, l2⟩ := R
    have hs2 := hb2.size
    have hs3 := ho3.size
    have hng : ¬ fI' g := fun hk => h.ng (hfl _ hk).1
    have hblk3 : Blk w3 g 80 #[.int .i64 (N : Int), .slice A img.length c, .pointer (some ⟨gd, 0, none⟩), .int .i64 (slot : Int), .bool false] := ((h.blk.ext (ext_drew hbx)).ext hb2).only ho3 hng
    have hb2w : Below w.heap.size w w2 := ext_trans (ext_drew hbx) hb2
    have hT2 := hT5.drew.ext hb2
    have hn5 : ¬ fI' b5 := fun hk => by have := (hfl _ hk).2; omega
    have t0 : w3.cell? ⟨b5, 0, none⟩ = some (.int .i64 ((N : Int) + 1)) := (World.cell?_of_block (ho3.block b5 (by have : wx.drew.heap.size = wx.heap.size := rfl; omega) hn5)).trans hT2.1
    have t1 : w3.cell? ⟨b5, 1, none⟩ = some (.slice A1 bs.length c1) := (World.cell?_of_block (ho3.block b5 (by have : wx.drew.heap.size = wx.heap.size := rfl; omega) hn5)).trans hT2.2.1
    have hbs3 : Bs w3 A1 bs.length c1 bs := ⟨rfl, hT2.2.2.2.1, hT2.2.2.2.2.only ho3 (fun ad e _ hk => by have := (hfl _ hk).2; have := (hA1 ad e).1; omega)⟩
    have hng3 : ¬ More fI' w2 w3 g := fun hk => by
      rcases hk with hk | hk
      · exact hng hk
      · have := hk.1
        have : wx.drew.heap.size = wx.heap.size := rfl
        omega
    have hO3 : Only fp w w3 := (Only.of_ext (S := fp) hb2w).trans ho3 (fun k _ hk => h.sub k (hfl k hk).1)
    have hsub : ∀ (W : World), w3.heap.size ≤ W.heap.size → ∀ k, More fI' w2 w3 k → More fp w W k := fun W hW k hk => by
      rcases hk with hk | hk
      · exact .inl (h.sub k (hfl k hk).1)
      · exact .inr ⟨by have := hb2w.size; omega, by omega⟩
    have hgood : Committed w fp g gd ⟨S, l, img, N, slot, false⟩ bs (.returned (.int .i64 r1)) (if r1 = 0 then ((w3.setCell ⟨g, 0, none⟩ (.int .i64 ((N : Int) + 1))).setCell ⟨g, 1, none⟩ (.slice A1 bs.length c1)).setCell ⟨g, 3, none⟩ (.int .i64 (1 - (slot : Int))) else w3.setCell ⟨g, 4, none⟩ (.bool true)) := by
      have hc := Hcs.out _ hR
      dsimp only at hc
      have e1 : ((1 - slot : Nat) : Int) = 1 - (slot : Int) := by have := h.hs; omega
      by_cases h0 : r1 = 0
      · rw [if_pos h0] at hc ⊢
        have hsz : (((w3.setCell ⟨g, 0, none⟩ (.int .i64 ((N : Int) + 1))).setCell ⟨g, 1, none⟩ (.slice A1 bs.length c1)).setCell ⟨g, 3, none⟩ (.int .i64 (1 - (slot : Int)))).heap.size = w3.heap.size := by simp [World.setCell]
        have hog : Only (fun k => k = g) w3 (((w3.setCell ⟨g, 0, none⟩ (.int .i64 ((N : Int) + 1))).setCell ⟨g, 1, none⟩ (.slice A1 bs.length c1)).setCell ⟨g, 3, none⟩ (.int .i64 (1 - (slot : Int)))) :=
          (((Only.refl (fun k => k = g) w3).setCell (p := ⟨g, 0, none⟩) (.inl rfl) _).setCell (p := ⟨g, 1, none⟩) (.inl rfl) _).setCell (p := ⟨g, 3, none⟩) (.inl rfl) _
        have hput := ((hblk3.put 0 (.int .i64 ((N : Int) + 1))).put 1 (.slice A1 bs.length c1)).put 3 (.int .i64 (1 - (slot : Int)))
        refine ⟨by rw [hc, h0], ?_, hO3.trans hog (fun k _ hk => by rw [hk]; exact h.fg)⟩
        rw [hc]
        refine ⟨More fI' w2 w3, A1, c1, ?_⟩
        exact {
          imp := hI3.only hog (fun k hk e => hng3 (e ▸ hk))
          sub := hsub _ (by rw [hsz]; exact Nat.le_refl _)
          fg := .inl h.fg
          ng := hng3
          blk := by
            rw [e1]
            exact hput
          bs := ⟨rfl, hbs3.2.1, hbs3.2.2.only hog (fun ad e _ hk => by have := (hA1 ad e).1; omega)⟩
          fA := fun ad e => by
            have h1 := hA1 ad e
            have hdx : wx.drew.heap.size = wx.heap.size := rfl
            refine ⟨.inr ⟨h1.1, by rw [hsz]; omega⟩, fun hk => ?_, by omega, by rw [hsz]; omega⟩
            rcases hk with hk | hk
            · have := (hfl _ hk).2; omega
            · have := hk.1; omega
          hN := by have := h.hN; show N + 1 ≤ _; omega
          hs := by show 1 - slot ≤ 1; omega
          hi := hbl }
      · rw [if_neg h0] at hc ⊢
        have hsz : (w3.setCell ⟨g, 4, none⟩ (.bool true)).heap.size = w3.heap.size := by simp [World.setCell]
        have hog : Only (fun k => k = g) w3 (w3.setCell ⟨g, 4, none⟩ (.bool true)) := (Only.refl (fun k => k = g) w3).setCell (p := ⟨g, 4, none⟩) (.inl rfl) _
        have hput := hblk3.put 4 (.bool true)
        refine ⟨by rw [hc], ?_, hO3.trans hog (fun k _ hk => by rw [hk]; exact h.fg)⟩
        rw [hc]
        refine ⟨More fI' w2 w3, A, c, ?_⟩
        exact {
          imp := hI3.only hog (fun k hk e => hng3 (e ▸ hk))
          sub := hsub _ (by rw [hsz]; exact Nat.le_refl _)
          fg := .inl h.fg
          ng := hng3
          blk := hput
          bs := ⟨rfl, h.bs.2.1, (((h.bs.2.2.ext hb2w).only ho3 (fun ad e _ hk => (h.fA ad e).2.1 (hfl _ hk).1)).only hog (fun ad e _ hk => (h.fA ad e).2.2.1 hk))⟩
          fA := fun ad e => by
            have h1 := h.fA ad e
            have hdx : wx.drew.heap.size = wx.heap.size := rfl
            refine ⟨.inl h1.1, fun hk => ?_, h1.2.2.1, by rw [hsz]; omega⟩
            rcases hk with hk | hk
            · exact h1.2.1 (hfl _ hk).1
            · have := hk.1; omega
          hN := h.hN
          hs := h.hs
          hi := h.hi }
    have Hgood := Lib.hid hgood
    have k0 := hblk3.cell 0
    have k1 := hblk3.cell 1
    have k3 := hblk3.cell 3
    have k4 := hblk3.cell 4
    have f0 := hblk3.free 0
    have f1 := hblk3.free 1
    have f3 := hblk3.free 3
    have f4 := hblk3.free 4
    simp only [List.getElem?_toArray, List.getElem?_cons_zero, List.getElem?_cons_succ] at k0 k1 k3 k4
    have hw3 : w3.cell? ⟨g, 2, none⟩ = some (.pointer (some ⟨gd, 0, none⟩)) := hS3
    clear hgood hsub hO3 hng3 hbs3 hT2 hT5 hI3 ho3 hb2 hbx hR Hcs Hwrs Hrw hblk3 hA1 hfl hI' hs2 hs3 hsx hlt5 hgl hng hn5 hb2w hr2 hrsl hl2 hS2 q2x hB h hN hs
    by_cases h0 : r1 = 0
    · subst h0
      have Hg := Hgood.out
      rw [if_pos rfl] at Hg
      have HG := Lib.hid Hg
      clear Hgood Hg
      go_wp2
      go_ret
      exact HG.out
    · have hb0 : (r1 == 0) = false := beq_eq_false_iff_ne.2 h0
      have Hg := Hgood.out
      rw [if_neg h0] at Hg
      have HG := Lib.hid Hg
      clear Hgood Hg h0
      go_wp2
      go_ret
      exact HG.out
end Go.Proofs.YtlpjeopeboemmaaDoor

/-
  The contracts of super's Commit (whatever comes in), Format, Image, Number, Dead. No statement of the seat is proved here.
-/
namespace Go.Proofs.YtlpjeopeboemmaaDoor
open Go Go.RowKit

theorem commit_any {w : World} {fp : Nat → Prop} {g gd : Nat} {s : SupS} (ht : Tab w) (h : Sup w fp g gd s) (hs : Small 900000 s.S) (B : Option Addr) (m d : Nat) (bs : List UInt8) (hB : Bs w B m d bs) (hbl : bs.length ≤ maxLen) :
    Calls Tryd.prog 19 #[.pointer (some ⟨g, 0, none⟩), .slice B m d] w (Committed w fp g gd s bs) := by
  by_cases hc : s.dead = true ∨ 814 < bs.length ∨ s.N = 1125899906842624
  · exact commit_still h B m d bs hB.1 hbl hc
  · have hd : s.dead = false := by
      cases hh : s.dead
      · rfl
      · exact absurd (.inl hh) hc
    exact commit_go ht h hs B m d bs hB hd (by omega) (fun e => hc (.inr (.inr e)))

theorem commit_nil (w : World) (v : Value) : Calls Tryd.prog 19 #[.pointer none, v] w fun e w' => e = .returned (.int .i64 1) ∧ w = w' := by
  go_enter Tryd.func19, Tryd.ntmps19
  go_wp2
  go_ret
  exact ⟨rfl, rfl⟩
theorem image_nil (w : World) : Calls Tryd.prog 15 #[.pointer none] w fun e w' => e = .returned (.slice none 0 0) ∧ w = w' := by
  go_enter Tryd.func15, Tryd.ntmps15
  go_wp2
  go_ret
  exact ⟨rfl, rfl⟩
theorem number_nil (w : World) : Calls Tryd.prog 16 #[.pointer none] w fun e w' => e = .returned (.int .i64 0) ∧ w = w' := by
  go_enter Tryd.func16, Tryd.ntmps16
  go_wp2
  go_ret
  exact ⟨rfl, rfl⟩
theorem dead_nil (w : World) : Calls Tryd.prog 17 #[.pointer none] w fun e w' => e = .returned (.bool true) ∧ w = w' := by
  go_enter Tryd.func17, Tryd.ntmps17
  go_wp2
  go_ret
  exact ⟨rfl, rfl⟩
theorem image_any {w : World} {fp : Nat → Prop} {g gd : Nat} {s : SupS} (h : Sup w fp g gd s) : Calls Tryd.prog 15 #[.pointer (some ⟨g, 0, none⟩)] w fun e w' => ∃ A c, e = .returned (.slice A s.img.length c) ∧ New w w' A c s.img ∧ Below w.heap.size w w' := by
  obtain ⟨fI, A, c, h⟩ := h
  have hc := copied_any h.told h.hi
  go_enter Tryd.func15, Tryd.ntmps15
  go_wp2_with fail
  refine hc.mono ?_
  rintro e w1 ⟨A1, c1, rfl, hn1, hb1⟩
  go_wp2
  go_ret
  exact ⟨A1, c1, rfl, hn1, hb1⟩
theorem number_of {w : World} {fp : Nat → Prop} {g gd : Nat} {s : SupS} (h : Sup w fp g gd s) : Calls Tryd.prog 16 #[.pointer (some ⟨g, 0, none⟩)] w fun e w' => e = .returned (.int .i64 (s.N : Int)) ∧ w = w' := by
  obtain ⟨fI, A, c, h⟩ := h
  have q := h.blk.cell 0
  simp only [List.getElem?_toArray, List.getElem?_cons_zero] at q
  clear h
  go_enter Tryd.func16, Tryd.ntmps16
  go_wp2
  go_ret
  exact ⟨rfl, rfl⟩
theorem dead_of {w : World} {fp : Nat → Prop} {g gd : Nat} {s : SupS} (h : Sup w fp g gd s) : Calls Tryd.prog 17 #[.pointer (some ⟨g, 0, none⟩)] w fun e w' => e = .returned (.bool s.dead) ∧ w = w' := by
  obtain ⟨fI, A, c, h⟩ := h
  have q := h.blk.cell 4
  simp only [List.getElem?_toArray, List.getElem?_cons_zero, List.getElem?_cons_succ] at q
  clear h
  go_enter Tryd.func17, Tryd.ntmps17
  go_wp2
  go_ret
  exact ⟨rfl, rfl⟩

theorem Tab.only {T : Nat → Prop} {w w' : World} (h : Tab w) (ho : Only T w w') (hn : ¬ T 0) : Tab w' := fun i hi =>
  (World.cell?_of_block (ho.block _ (World.block_lt_of_cell? w _ (h i hi)) hn)).trans (h i hi)
/-- sixteen rows of nothing -/
def nils : List (List UInt8) := List.replicate 16 []
theorem rows_nils (fp : Nat → Prop) (W : World) (hf : ¬ fp W.heap.size) : RowsF fp (W.alloc (.cells (madeCells #[.slice none 0 0] 16) 22)) (some ⟨W.heap.size, 0, none⟩) nils := by
  refine ⟨(madeCells #[Value.slice none 0 0] 16).toList, ⟨Rd.lit W _ _, fun ad e _ => by injection e with e; subst e; exact hf⟩, by simp [madeCells, nils], fun j v xs hv hx => ?_⟩
  have hx' : xs = [] := List.eq_of_mem_replicate (List.mem_of_getElem? hx)
  subst hx'
  have hv' : v = .slice none 0 0 := by
    rw [Array.getElem?_toList] at hv
    simp [madeCells, Nat.mod_one] at hv
    exact hv.2.symm
  subst hv'
  exact ⟨none, 0, rfl, Nat.le_refl _, Rd.nil _ _, fun ad e => by cases e⟩

/-- what Format leaves, if no error is met -/
def formatS (S : Sec) (l : Int) (img : List UInt8) : Int × SupS := commitS ⟨(layTo S l 16 nils).2.1, (layTo S l 16 nils).2.2, [], 0, 1, false⟩ img
/-- what a call of Format answers, if no error is met -/
def Formatted (w : World) (fp : Nat → Prop) (gd : Nat) (s : SupS) (e : Ending) (w' : World) : Prop :=
  ∃ g, e = .returned (.tuple #[.pointer (some ⟨g, 0, none⟩), .int .i64 0]) ∧ w.heap.size ≤ g ∧ Sup w' (More fp w w') g gd s ∧ Only fp w w'

theorem small_lay {N : Nat} : ∀ (rows : List (List UInt8)) (S : Sec) (l i : Int), Small N S → 1 ≤ N → Small (N + rows.length) (layTo S l i rows).2.1
  | [], S, l, i, h, h1 => by
    unfold layTo
    show Small (N + 0) (if l = 0 then S else flushS S)
    split
    · exact h
    · exact small_flush S (by omega)
  | r :: rs, S, l, i, h, h1 => by
    unfold layTo
    split
    · exact small_mono (small_lay rs _ _ _ (small_write h l i r) (by omega)) (by simp; omega)
    · exact small_mono h (by simp)

set_option maxRecDepth 100000 in
set_option maxHeartbeats 2000000 in
theorem format_any {w : World} {fp : Nat → Prop} {gd : Nat} {S : Sec} {l : Int} (ht : Tab w) (htf : ¬ fp 0) (h : Imp w fp gd S l) (hs : Small 800000 S) (h32 : 32 ≤ S.length) (B : Option Addr) (m d : Nat) (bs : List UInt8) (hB : Bs w B m d bs) (hBf : ∀ ad, B = some ad → bs ≠ [] → ¬ fp ad.block) (hbl : bs.length ≤ 814)
    (c1 : (layTo S l 16 nils).1 = 0) (c2 : (formatS S l bs).1 = 0) :
    Calls Tryd.prog 30 #[.pointer (some ⟨gd, 0, none⟩), .slice B m d] w (Formatted w fp gd (formatS S l bs).2) := by
  have hm := hB.1
  subst hm
  have hhas : decide ((32 : Int) ≤ (S.length : Int)) = true := decide_eq_true (by omega)
  have hh := hasslots_any h
  rw [hhas] at hh
  have Hh := Lib.hid hh
  have hmr := make_rows
  have hli : (bs.length : Int) ≤ 814 := by omega
  have hsm : Small 800016 (layTo S l 16 nils).2.1 := small_lay nils S l 16 hs (by omega)
  obtain ⟨fI, hfI⟩ : ∃ f : Nat → Prop, f = fun k => fp k ∧ k < w.heap.size := ⟨_, rfl⟩
  have hI : Imp w fI gd S l := by rw [hfI]; exact h.mono (fun k hk hl => ⟨hk, hl⟩)
  have hfl : ∀ k, fI k → fp k ∧ k < w.heap.size := by rw [hfI]; exact fun k hk => hk
  obtain ⟨O, hO⟩ : ∃ O, O = Obj.cells #[.int .i64 0, .slice none 0 0, .pointer (some ⟨gd, 0, none⟩), .int .i64 1, .bool false] 80 := ⟨_, rfl⟩
  have hblk0 : Blk (w.alloc O) w.heap.size 80 #[.int .i64 0, .slice none 0 0, .pointer (some ⟨gd, 0, none⟩), .int .i64 1, .bool false] := by rw [hO]; exact Blk.new w _ _
  have hb0 : Below w.heap.size w (w.alloc O) := ext_alloc (Below.refl _ _) _
  have hz0 : (w.alloc O).heap.size = w.heap.size + 1 := World.size_alloc _ _
  have q3 : (w.alloc O).cell? ⟨w.heap.size, 3, none⟩ = some (.int .i64 1) := hblk0.cell 3
  have hws : ∀ (X : World) (g' : Nat), Below w.heap.size w X → g' = X.heap.size → Calls Tryd.prog 44 #[.pointer (some ⟨gd, 0, none⟩), .int .i64 1, .slice (some ⟨g', 0, none⟩) 16 16] (X.alloc (.cells (madeCells #[.slice none 0 0] 16) 22)).drew fun e w' =>
      e = .returned (.int .i64 0) ∧ Imp w' (More fI (X.alloc (.cells (madeCells #[.slice none 0 0] 16) 22)) w') gd (layTo S l 16 nils).2.1 (layTo S l 16 nils).2.2 ∧ Only fI (X.alloc (.cells (madeCells #[.slice none 0 0] 16) 22)).drew w' := fun X g' hX hg' => by
    subst hg'
    have hn : ¬ fI X.heap.size := fun hk => by have := (hfl _ hk).2; have := hX.size; omega
    have h1 := writeslot_any (w := (X.alloc (.cells (madeCells #[.slice none 0 0] 16) 22)).drew) (hI.ext (ext_drew (ext_alloc hX _))) (small_mono hs (by omega)) 1 (by omega) (some ⟨X.heap.size, 0, none⟩) 16 16 nils rfl (rows_nils fI X hn) (by decide)
    refine h1.mono ?_
    rintro e w' ⟨rfl, h2, h3⟩
    exact ⟨by rw [← c1]; rfl, h2, h3⟩
  have Hws := Lib.hid hws
  have Hc2 := Lib.hid c2
  have hq := Lib.hid (show (layTo S l 16 nils) = (layTo S l 16 nils) from rfl)
  clear hws hfI hhas hh c1 c2 hq
  rw [hO] at hblk0 hb0 hz0 q3
  clear hO
  go_enter Tryd.func30, Tryd.ntmps30
  go_wp2_with fail
  refine Hh.out.mono ?_
  rintro e w1 ⟨rfl, rfl⟩
  go_wp2
  go_region_held3 (fun w' => w'.cell? ⟨w.heap.size, 3, none⟩ = some (.int .i64 1)) (first | exact q3 | exact cell_ext q3 (ext_drew (ext_alloc (Below.refl _ _) _)) | exact hS1) (first
    | (go_at_call 44; ((with_reducible refine (Hws.out _ _ ?_ ?_).mono ?_)); exact hb0; (simp); rintro e w2 ⟨rfl, hI2, ho2⟩;
        have hS1 : w2.cell? ⟨w.heap.size, 3, none⟩ = some (.int .i64 1) := (World.cell?_of_block (ho2.block w.heap.size (by show w.heap.size < (World.alloc _ _).heap.size; rw [World.size_alloc]; omega) (fun hk => by have := (hfl _ hk).2; omega))).trans (cell_ext q3 (ext_alloc (Below.refl _ _) _))))
  have hX : Below w.heap.size w ((w.alloc (.cells #[.int .i64 0, .slice none 0 0, .pointer (some ⟨gd, 0, none⟩), .int .i64 1, .bool false] 80)).alloc (.cells (madeCells #[.slice none 0 0] 16) 22)).drew := ext_drew (ext_alloc hb0 _)
  have hXz : ((w.alloc (.cells #[.int .i64 0, .slice none 0 0, .pointer (some ⟨gd, 0, none⟩), .int .i64 1, .bool false] 80)).alloc (.cells (madeCells #[.slice none 0 0] 16) 22)).drew.heap.size = w.heap.size + 2 := by
    show (World.alloc (World.alloc _ _) _).heap.size = _
    rw [World.size_alloc, World.size_alloc]
  have hXz' : ((w.alloc (.cells #[.int .i64 0, .slice none 0 0, .pointer (some ⟨gd, 0, none⟩), .int .i64 1, .bool false] 80)).alloc (.cells (madeCells #[.slice none 0 0] 16) 22)).heap.size = w.heap.size + 2 := hXz
  have hz2 := ho2.size
  have hng : ¬ fI w.heap.size := fun hk => by have := (hfl _ hk).2; omega
  have hblk2 : Blk w2 w.heap.size 80 #[.int .i64 0, .slice none 0 0, .pointer (some ⟨gd, 0, none⟩), .int .i64 1, .bool false] := (Blk.drew (hblk0.alloc (.cells (madeCells #[.slice none 0 0] 16) 22))).only ho2 hng
  have hOw : Only fp w w2 := (Only.of_ext (S := fp) hX).trans ho2 (fun k _ hk => (hfl k hk).1)
  have hB2 : Bs w2 B bs.length d bs := ⟨rfl, hB.2.1, hB.2.2.only hOw (fun ad e hne hk => hBf ad e (by intro hn; exact hne (by rw [hn]; rfl)) hk)⟩
  have ht2 : Tab w2 := ht.only hOw htf
  have hS0 : Sup w2 (More fp w w2) w.heap.size gd ⟨(layTo S l 16 nils).2.1, (layTo S l 16 nils).2.2, [], 0, 1, false⟩ := by
    refine ⟨More fI ((w.alloc (.cells #[.int .i64 0, .slice none 0 0, .pointer (some ⟨gd, 0, none⟩), .int .i64 1, .bool false] 80)).alloc (.cells (madeCells #[.slice none 0 0] 16) 22)) w2, none, 0, ?_⟩
    exact {
      imp := hI2
      sub := fun k hk => by
        rcases hk with hk | hk
        · exact .inl (hfl k hk).1
        · exact .inr ⟨by have := hk.1; omega, hk.2⟩
      fg := .inr ⟨Nat.le_refl _, hblk2.lt⟩
      ng := fun hk => by
        rcases hk with hk | hk
        · exact hng hk
        · have := hk.1; omega
      blk := hblk2
      bs := ⟨rfl, Nat.le_refl _, Rd.nil _ _⟩
      fA := fun ad e => by cases e
      hN := Nat.zero_le _
      hs := Nat.le_refl _
      hi := Nat.zero_le _ }
  have hcm := commit_any ht2 hS0 (small_mono hsm (by omega)) B _ d bs hB2 (by unfold maxLen; omega)
  have Hcm := Lib.hid hcm
  clear hcm hS0 hblk2 hB2 hX hI2 ho2 hng hXz hXz' q3 hblk0 hb0 hz0 hfl hI hB hBf Hws hS1
  go_wp2_with fail
  refine Hcm.out.mono ?_
  rintro e w3 ⟨rfl, hS3, ho3⟩
  have hc2 : (commitS ⟨(layTo S l 16 nils).2.1, (layTo S l 16 nils).2.2, [], 0, 1, false⟩ bs).1 = 0 := Hc2.out
  rw [hc2]
  have hfin : Formatted w fp gd (formatS S l bs).2 (.returned (.tuple #[.pointer (some ⟨w.heap.size, 0, none⟩), .int .i64 0])) w3 := by
    have hz3 := ho3.size
    have hz4 := hOw.size
    refine ⟨w.heap.size, rfl, Nat.le_refl _, SupAt.mono hS3 (fun k hk _ => More.join hOw.size (Nat.le_refl _) ho3.size hk), hOw.join ho3⟩
  have Hfin := Lib.hid hfin
  clear hfin hS3 ho3 hOw hc2 Hc2 Hcm
  go_wp2
  go_ret2
  exact Hfin.out
end Go.Proofs.YtlpjeopeboemmaaDoor

/-
  The reference's Disk in memory ('RLay', 'Ref'), and what stores make of it. No statement of the seat is proved here.
-/
namespace Go.Proofs.YtlpjeopeboemmaaDoor
open Go Go.RowKit

theorem RowO.ne_row {w : World} {e e' : TypeId} {sz sz' : Nat} {A A' : Option Addr} {m m' c c' : Nat} {xs xs' : List Value} (h : RowO w e sz A m c xs) (h' : RowO w e' sz' A' m' c' xs') (ht : e ≠ e') {k : Nat} (hk : inA A k) : ¬ inA A' k := by
  rcases h'.2 with ⟨rfl, _⟩ | ⟨g, off, cs, rfl, _, _, hb, _⟩
  · exact inA_none k
  · rw [inA_some]
    rintro rfl
    exact h.ne_blk hb ht hk

/-- one element of a row anew -/
theorem RowO.put {w : World} {e : TypeId} {A : Option Addr} {m c : Nat} {xs : List Value} (h : RowO w e 1 A m c xs) {b o : Nat} (hA : A = some ⟨b, o, none⟩) {i : Nat} (hi : i < m) (v : Value) : RowO (w.setCell ⟨b, o + i, none⟩ v) e 1 A m c (xs.set i v) := by
  have hl := h.1
  refine ⟨by rw [List.length_set]; exact hl, ?_⟩
  rcases h.2 with ⟨h1, _⟩ | ⟨g, off, cs, h1, h2, h3, hb, h5, h6⟩
  · rw [hA] at h1; cases h1
  · rw [hA] at h1
    injection h1 with h1
    injection h1 with e1 e2 _
    subst e1 e2
    refine .inr ⟨b, o, _, hA, h2, h3, hb.put (o + i) v, by simpa using h5, fun j u hu => ?_⟩
    rw [List.getElem?_set] at hu
    rw [Array.getElem?_setIfInBounds]
    by_cases e : i = j
    · subst e
      rw [if_pos rfl] at hu ⊢
      have hb1 : o + i < cs.size := by omega
      rw [if_pos (by omega)] at hu
      rw [if_pos hb1]
      exact hu
    · rw [if_neg e] at hu
      rw [if_neg (by omega)]
      exact h6 j u hu
theorem RowO.there1 {w : World} {e : TypeId} {A : Option Addr} {m c : Nat} {xs : List Value} (h : RowO w e 1 A m c xs) {i : Nat} (hi : i < m) : ∃ b o, A = some ⟨b, o, none⟩ ∧ (∀ u, xs[i]? = some u → w.cell? ⟨b, o + i, none⟩ = some u) ∧ w.frozen? ⟨b, o + i, none⟩ = false := by
  rcases h.2 with ⟨_, h1, _⟩ | ⟨g, off, cs, h1, h2, h3, hb, h5, h6⟩
  · omega
  · exact ⟨g, off, h1, fun u hu => by rw [hb.cell]; exact h6 i u hu, hb.free _⟩

/-- the slices that the sectors are -/
def rvals (S : Sec) (B : Nat → Option Addr) (C : Nat → Nat) : List Value := S.mapIdx fun i vs => .slice (B i) vs.length (C i)
theorem rvals_length (S : Sec) (B : Nat → Option Addr) (C : Nat → Nat) : (rvals S B C).length = S.length := by simp [rvals]
theorem rvals_get (S : Sec) (B : Nat → Option Addr) (C : Nat → Nat) {i : Nat} (hi : i < S.length) : (rvals S B C)[i]? = some (.slice (B i) S[i].length (C i)) := by
  simp [rvals, hi]
theorem rvals_set (S : Sec) (B : Nat → Option Addr) (C : Nat → Nat) (i : Nat) (vs : List (List UInt8)) (A' : Option Addr) (c' : Nat) :
    (rvals S B C).set i (.slice A' vs.length c') = rvals (S.set i vs) (fun j => if j = i then A' else B j) (fun j => if j = i then c' else C j) := by
  refine List.ext_getElem? fun j => ?_
  rw [List.getElem?_set]
  unfold rvals
  rw [List.getElem?_mapIdx, List.getElem?_mapIdx, List.length_mapIdx, List.getElem?_set]
  by_cases e : i = j
  · subst e
    rw [if_pos rfl, if_pos rfl]
    by_cases h : i < S.length
    · rw [if_pos h, if_pos h]; simp
    · rw [if_neg h, if_neg h]; rfl
  · have e' : ¬ j = i := fun h => e h.symm
    rw [if_neg e, if_neg e]
    simp only [if_neg e']

structure RLay (w : World) (fp : Nat → Prop) (g : Nat) (S : Sec) (l : Int) (A : Option Addr) (c : Nat) (B : Nat → Option Addr) (C : Nat → Nat) : Prop where
  fg : fp g
  lo : -1 ≤ l
  hi : l ≤ 9223372036854775807
  n : S.length ≤ 4096
  dsk : Blk w g 74 #[.slice A S.length c, .int .i64 l]
  row : RowO w 108 1 A S.length c (rvals S B C)
  fA : ∀ k, inA A k → fp k
  wf : Wf S
  cel : ∀ i (hi : i < S.length), RowO w 9 1 (B i) S[i].length (C i) (S[i].map strV)
  fB : ∀ i k, i < S.length → inA (B i) k → fp k
  apart : ∀ i j k, i < S.length → j < S.length → inA (B i) k → inA (B j) k → i = j

def Ref (w : World) (fp : Nat → Prop) (g : Nat) (S : Sec) (l : Int) : Prop := ∃ A c B C, RLay w fp g S l A c B C

section
variable {T fp fp' : Nat → Prop} {w w' : World} {g : Nat} {S : Sec} {l : Int} {A : Option Addr} {c : Nat} {B : Nat → Option Addr} {C : Nat → Nat}
theorem RLay.mono (h : RLay w fp g S l A c B C) (hs : ∀ k, fp k → k < w.heap.size → fp' k) : RLay w fp' g S l A c B C :=
  { h with fg := hs _ h.fg h.dsk.lt, fA := fun k hk => hs k (h.fA k hk) (h.row.lt hk), fB := fun i k hi hk => hs k (h.fB i k hi hk) ((h.cel i hi).lt hk) }
theorem RLay.only (h : RLay w fp g S l A c B C) (ho : Only T w w') (hn : ∀ k, fp k → ¬ T k) : RLay w' fp g S l A c B C :=
  { h with
    dsk := h.dsk.only ho (hn _ h.fg)
    row := h.row.only ho (fun k hk => hn k (h.fA k hk))
    cel := fun i hi => (h.cel i hi).only ho fun k hk => hn k (h.fB i k hi hk) }
theorem RLay.ext (h : RLay w fp g S l A c B C) (hb : Below w.heap.size w w') : RLay w' fp g S l A c B C := h.only (Only.of_ext (S := fun _ => False) hb) (fun _ _ x => x)
theorem RLay.drewN (h : RLay w fp g S l A c B C) (n : Nat) : RLay (w.drewN n) fp g S l A c B C := h.only ((Only.refl (fun _ => False) w).drewN n) (fun _ _ x => x)
theorem RLay.drew (h : RLay w fp g S l A c B C) : RLay w.drew fp g S l A c B C := h.only ((Only.refl (fun _ => False) w).drew) (fun _ _ x => x)
theorem RLay.far (h : RLay w fp g S l A c B C) : ¬ inA A g ∧ ∀ i k, i < S.length → inA (B i) k → k ≠ g ∧ ¬ inA A k :=
  ⟨h.row.ne_blk h.dsk (by decide), fun i k hi hk => ⟨fun e => (h.cel i hi).ne_blk h.dsk (by decide) (e ▸ hk), (h.cel i hi).ne_row h.row (by decide) hk⟩⟩
/-- another count -/
theorem RLay.left (h : RLay w fp g S l A c B C) (l' : Int) (lo : -1 ≤ l') (hi : l' ≤ 9223372036854775807) (ho : Only (fun k => k = g) w w') (hb : Blk w' g 74 #[.slice A S.length c, .int .i64 l']) : RLay w' fp g S l' A c B C :=
  { h with
    lo := lo
    hi := hi
    dsk := hb
    row := h.row.only ho (fun k hk e => h.far.1 (e ▸ hk))
    cel := fun i hi => (h.cel i hi).only ho (fun k hk e => (h.far.2 i k hi hk).1 e) }
/-- a sector anew: a row of strings, in memory of its own or in the sector's -/
theorem RLay.put (h : RLay w fp g S l A c B C) {i : Nat} (hi : i < S.length) {w1 : World} (vs : List (List UInt8)) (hvs : vs ≠ [] ∧ ∀ v ∈ vs, v.length = 64) (A' : Option Addr) (c' : Nat)
    (ho : Only (inA (B i)) w w1) (hr : RowO w1 9 1 A' vs.length c' (vs.map strV)) (hA : ∀ k, inA A' k → inA (B i) k ∨ (w.heap.size ≤ k ∧ k < w1.heap.size)) {b o : Nat} (hAb : A = some ⟨b, o, none⟩) :
    RLay (w1.setCell ⟨b, o + i, none⟩ (.slice A' vs.length c')) (More fp w w1) g (S.set i vs) l A c (fun j => if j = i then A' else B j) (fun j => if j = i then c' else C j) := by
  have hlen : (S.set i vs).length = S.length := by simp
  have hfar := h.far
  have hrow1 : RowO w1 108 1 A S.length c (rvals S B C) := h.row.only ho (fun k hk hk' => (hfar.2 i k hi hk').2 hk)
  have hdsk1 : Blk w1 g 74 #[.slice A S.length c, .int .i64 l] := h.dsk.only ho (fun hk => (hfar.2 i g hi hk).1 rfl)
  have hbA : inA A b := ⟨_, hAb, rfl⟩
  have hother : ∀ j (hj : j < S.length), j ≠ i → RowO w1 9 1 (B j) S[j].length (C j) (S[j].map strV) := fun j hj e => (h.cel j hj).only ho (fun k hk hk' => e (h.apart j i k hj hi hk hk'))
  have ho2 : Only (fun k => k = b) w1 (w1.setCell ⟨b, o + i, none⟩ (.slice A' vs.length c')) := (Only.refl (fun k => k = b) w1).setCell (p := ⟨b, o + i, none⟩) (.inl rfl) _
  have keepS : ∀ {A0 : Option Addr} {m c0 : Nat} {xs : List Value}, RowO w1 9 1 A0 m c0 xs → RowO (w1.setCell ⟨b, o + i, none⟩ (.slice A' vs.length c')) 9 1 A0 m c0 xs := fun hr0 => hr0.only ho2 (fun k hk e => hr0.ne_row hrow1 (by decide) hk (e ▸ hbA))
  have hlt : ∀ j k, j < S.length → inA (B j) k → k < w.heap.size := fun j k hj hk => (h.cel j hj).lt hk
  refine ⟨.inl h.fg, h.lo, h.hi, by rw [hlen]; exact h.n, by rw [hlen]; exact hdsk1.far (fun e => hfar.1 (e ▸ hbA)) _, ?_, fun k hk => .inl (h.fA k hk), fun us hus => ?_, fun j hj => ?_, fun j k hj hk => ?_, fun j j' k hj hj' hk hk' => ?_⟩
  · rw [hlen, ← rvals_set]
    exact hrow1.put hAb hi _
  · rcases List.mem_or_eq_of_mem_set hus with hus | hus
    · exact h.wf us hus
    · subst hus; exact hvs
  · have hj' : j < S.length := by simpa using hj
    by_cases e : j = i
    · subst e
      simp only [List.getElem_set_self, if_true]
      exact keepS hr
    · simp only [List.getElem_set_ne (Ne.symm e), if_neg e]
      exact keepS (hother j hj' e)
  · have hj' : j < S.length := by simpa using hj
    by_cases e : j = i
    · simp only [if_pos e] at hk
      rcases hA k hk with hk | hk
      · exact .inl (h.fB i k hi hk)
      · exact .inr hk
    · simp only [if_neg e] at hk; exact .inl (h.fB j k hj' hk)
  · have hj1 : j < S.length := by simpa using hj
    have hj2 : j' < S.length := by simpa using hj'
    by_cases e : j = i
    · by_cases e' : j' = i
      · omega
      · simp only [if_pos e] at hk; simp only [if_neg e'] at hk'
        rcases hA k hk with hk | hk
        · exact absurd (h.apart i j' k hi hj2 hk hk') (Ne.symm e')
        · have := hlt j' k hj2 hk'; omega
    · by_cases e' : j' = i
      · simp only [if_neg e] at hk; simp only [if_pos e'] at hk'
        rcases hA k hk' with hk' | hk'
        · exact absurd (h.apart j i k hj1 hi hk hk') e
        · have := hlt j k hj1 hk; omega
      · simp only [if_neg e] at hk; simp only [if_neg e'] at hk'
        exact h.apart j j' k hj1 hj2 hk hk'
theorem Ref.mono (h : Ref w fp g S l) (hs : ∀ k, fp k → k < w.heap.size → fp' k) : Ref w fp' g S l := by
  obtain ⟨A, c, B, C, h⟩ := h
  exact ⟨A, c, B, C, h.mono hs⟩
theorem Ref.only (h : Ref w fp g S l) (ho : Only T w w') (hn : ∀ k, fp k → ¬ T k) : Ref w' fp g S l := by
  obtain ⟨A, c, B, C, h⟩ := h
  exact ⟨A, c, B, C, h.only ho hn⟩
theorem Ref.ext (h : Ref w fp g S l) (hb : Below w.heap.size w w') : Ref w' fp g S l := by
  obtain ⟨A, c, B, C, h⟩ := h
  exact ⟨A, c, B, C, h.ext hb⟩
theorem Ref.wf (h : Ref w fp g S l) : Wf S := by
  obtain ⟨A, c, B, C, h⟩ := h
  exact h.wf
end
end Go.Proofs.YtlpjeopeboemmaaDoor

/-
  The contracts of the reference's Fuse, Flush, Crash. No statement of the seat is proved here.
-/
namespace Go.Proofs.YtlpjeopeboemmaaDoor
open Go Go.RowKit

section
variable {w : World} {fp : Nat → Prop} {g : Nat} {S : Sec} {l : Int} {A : Option Addr} {c : Nat} {B : Nat → Option Addr} {C : Nat → Nat}
theorem rfuse_any (h : RLay w fp g S l A c B C) (n : Int) (hn : isInt n) :
    Calls Tryd.prog 34 #[.pointer (some ⟨g, 0, none⟩), .int .i64 n] w fun e w' => e = .returned (.tuple #[]) ∧ Only (fun k => k = g) w w' ∧ RLay w' fp g S (max n (-1)) A c B C := by
  have c1 : w.cell? ⟨g, 1, none⟩ = some (.int .i64 l) := h.dsk.cell 1
  have f1 : w.frozen? ⟨g, 1, none⟩ = false := h.dsk.free 1
  unfold isInt at hn
  by_cases h0 : -1 ≤ n
  · have e1 : max n (-1) = n := by omega
    rw [e1]
    go_enter Tryd.func34, Tryd.ntmps34
    go_wp2
    go_end0
    have ho : Only (fun k => k = g) w (w.setCell ⟨g, 1, none⟩ (.int .i64 n)) := (Only.refl (fun k => k = g) w).setCell (p := ⟨g, 1, none⟩) (.inl rfl) _
    exact ⟨rfl, ho, h.left n h0 (by omega) ho (h.dsk.put 1 (.int .i64 n))⟩
  · have e1 : max n (-1) = -1 := by omega
    rw [e1]
    go_enter Tryd.func34, Tryd.ntmps34
    go_wp2
    go_end0
    have ho : Only (fun k => k = g) w (w.setCell ⟨g, 1, none⟩ (.int .i64 (-1))) := (Only.refl (fun k => k = g) w).setCell (p := ⟨g, 1, none⟩) (.inl rfl) _
    exact ⟨rfl, ho, h.left (-1) (by omega) (by omega) ho (h.dsk.put 1 (.int .i64 (-1)))⟩
end

/-! ### Sector by sector -/
def rst (S : Sec) (G : Nat → List (List UInt8) → List (List UInt8)) (k : Nat) : Sec := S.mapIdx fun i vs => if i < k then G i vs else vs
section
variable (S : Sec) (G : Nat → List (List UInt8) → List (List UInt8))
theorem rst_length (k : Nat) : (rst S G k).length = S.length := by simp [rst]
theorem rst_zero : rst S G 0 = S := by
  refine List.ext_getElem (rst_length S G 0) fun i h1 h2 => ?_
  simp [rst]
theorem rst_at (k : Nat) (h : k < S.length) (h' : k < (rst S G k).length) : (rst S G k)[k] = S[k] := by simp [rst]
theorem rst_succ (k : Nat) (h : k < S.length) : rst S G (k + 1) = (rst S G k).set k (G k S[k]) := by
  refine List.ext_getElem (by simp [rst]) fun j h4 h5 => ?_
  rw [List.getElem_set]
  simp only [rst, List.getElem_mapIdx]
  by_cases e : k = j
  · subst e
    rw [if_pos rfl, if_pos (by omega)]
  · rw [if_neg e]
    by_cases h6 : j < k
    · rw [if_pos (by omega), if_pos h6]
    · rw [if_neg (by omega), if_neg h6]
theorem rst_all : rst S G S.length = S.mapIdx fun i vs => G i vs := by
  refine List.ext_getElem (by simp [rst]) fun j h4 h5 => ?_
  have : j < S.length := by simpa [rst] using h4
  simp [rst, this]
theorem rst_same (k : Nat) (h : k < S.length) (he : G k S[k] = S[k]) : rst S G (k + 1) = rst S G k := by
  rw [rst_succ S G k h, he]
  have := rst_at S G k h (by rw [rst_length]; exact h)
  rw [← this]
  exact List.set_getElem_self _
end

theorem RowO.last {w : World} {e : TypeId} {b o m c : Nat} {xs : List Value} (h : RowO w e 1 (some ⟨b, o, none⟩) m c xs) (hm : 0 < m) (v : Value) (hv : xs[m - 1]? = some v) : RowO w e 1 (some ⟨b, o + (m - 1), none⟩) 1 (c - (m - 1)) [v] := by
  refine ⟨rfl, ?_⟩
  rcases h.2 with ⟨h1, _⟩ | ⟨g, off, cs, h1, h2, h3, hb, h5, h6⟩
  · cases h1
  · injection h1 with h1
    injection h1 with e1 e2 _
    subst e1 e2
    refine .inr ⟨b, o + (m - 1), cs, rfl, by omega, by omega, hb, by omega, fun j u hu => ?_⟩
    match j, hu with
    | 0, hu =>
      simp at hu
      subst hu
      have := h6 (m - 1) v hv
      simpa using this

set_option maxRecDepth 100000 in
set_option maxHeartbeats 2000000 in
theorem rflush_any {w : World} {fp : Nat → Prop} {g : Nat} {S : Sec} {l : Int} {A : Option Addr} {c : Nat} {B : Nat → Option Addr} {C : Nat → Nat} (h : RLay w fp g S l A c B C) (hs : Small 1000000 S) (h0 : l ≠ 0) :
    Calls Tryd.prog 75 #[.pointer (some ⟨g, 0, none⟩)] w fun e w' => e = .returned (.int .i64 0) ∧ Ref w' (More fp w w') g (flushS S) (tick l) ∧ Only fp w w' := by
  obtain ⟨G, hG⟩ : ∃ G : Nat → List (List UInt8) → List (List UInt8), G = fun _ vs => [lastOf vs] := ⟨_, rfl⟩
  have hall : rst S G S.length = flushS S := by
    rw [rst_all, hG]
    refine List.ext_getElem (by simp [flushS]) fun j h4 h5 => ?_
    simp [flushS]
  replace hall := Lib.hid hall
  have c1 : w.cell? ⟨g, 1, none⟩ = some (.int .i64 l) := h.dsk.cell 1
  have f1 : w.frozen? ⟨g, 1, none⟩ = false := h.dsk.free 1
  have hlo := h.lo
  have hhi := h.hi
  have hn := h.n
  obtain ⟨t, ht⟩ : ∃ t, t = tick l := ⟨_, rfl⟩
  rw [← ht]
  by_cases hp : 0 < l
  · have hl0 : (l == 0) = false := by simpa using h0
    have hL1 : ∃ w1, w1 = w.setCell ⟨g, 1, none⟩ (.int .i64 (l - 1)) ∧ RLay w1 fp g S t A c B C ∧ Only (fun k => k = g) w w1 := by
      have ho : Only (fun k => k = g) w (w.setCell ⟨g, 1, none⟩ (.int .i64 (l - 1))) := (Only.refl (fun k => k = g) w).setCell (p := ⟨g, 1, none⟩) (.inl rfl) _
      have e1 : t = l - 1 := by rw [ht]; unfold tick; rw [if_pos hp]
      rw [e1]
      exact ⟨_, rfl, h.left (l - 1) (by omega) (by omega) ho (h.dsk.put 1 (.int .i64 (l - 1))), ho⟩
    obtain ⟨w1, hw1, hL1, ho1⟩ := hL1
    replace hw1 := Lib.hid hw1.symm
    go_enter Tryd.func75, Tryd.ntmps75
    go_wp2_with fail
    rw [hw1.out]
    clear c1 f1
    go_loopw [3] (fun i wr => ∃ (k : Nat) (B1 : Nat → Option Addr) (C1 : Nat → Nat), k ≤ S.length ∧ i = .int .i64 (k : Int) ∧ RLay wr (More fp w wr) g (rst S G k) t A c B1 C1 ∧ Only fp w wr) (fun i _ => S.length - (intOf i).toNat)
    case atStart => exact ⟨0, B, C, Nat.zero_le _, rfl, by rw [rst_zero]; exact hL1.mono (fun k hk _ => .inl hk), ho1.mono (fun k _ hk => by subst hk; exact h.fg)⟩
    case round =>
      obtain ⟨k, B1, C1, hk, rfl, hL, honly⟩ := hrel
      clear hL1 ho1
      have hlenT : (rst S G k).length = S.length := rst_length S G k
      have hdsk0 : wr.cell? ⟨g, 0, none⟩ = some (.slice A S.length c) := by
        have := hL.dsk.cell 0
        rw [hlenT] at this
        exact this
      by_cases hlt : k < S.length
      · have hiT : k < (rst S G k).length := by rw [hlenT]; exact hlt
        have hat := rst_at S G k hlt hiT
        have hrow := hL.row
        rw [hlenT] at hrow
        obtain ⟨b, o, rfl, hcell, hfr⟩ := hrow.there1 hlt
        have hck := hcell _ (rvals_get (rst S G k) B1 C1 hiT)
        rw [hat] at hck
        have hcel := hL.cel k hiT
        rw [hat] at hcel
        have hwf := h.wf S[k] (List.getElem_mem hlt)
        have hpos := List.length_pos_iff.2 hwf.1
        have hsm := hs S[k] (List.getElem_mem hlt)
        obtain ⟨b', o', hB, _, _⟩ := hcel.there1 (i := 0) hpos
        have hlast : (S[k].map strV)[S[k].length - 1]? = some (strV (lastOf S[k])) := by
          have := getLast_lastOf hwf.1
          rw [List.getLast?_eq_getElem?] at this
          rw [List.getElem?_map, this]; rfl
        rw [hB] at hcel hck
        have hcl := hcel.last hpos _ hlast
        have hcap := hcel.le
        have hput := hL.put hiT [lastOf S[k]] ⟨by simp, fun v hv => by simp at hv; subst hv; exact hwf.2 _ (lastOf_mem hwf.1)⟩ (some ⟨b', o' + (S[k].length - 1), none⟩) (C1 k - (S[k].length - 1)) (w1 := wr) (Only.refl _ _) hcl (fun k' hk' => .inl (by rw [hB]; rw [inA_some] at hk' ⊢; exact hk')) rfl
        have hsuc := rst_succ S G k hlt
        have hGk : G k S[k] = [lastOf S[k]] := by rw [hG]
        rw [hGk] at hsuc
        rw [← hsuc] at hput
        replace hput := Lib.hid hput
        have hbA : More fp w wr b := hL.fA b ((inA_some _ _ _ _).2 rfl)
        clear hsuc hGk hat hlast hcl
        generalize S[k].length = m at hpos hsm hck hcel hcap hput
        obtain ⟨m1, rfl⟩ : ∃ m1, m = m1 + 1 := ⟨m - 1, by omega⟩
        have fin : ∃ (k' : Nat) (B2 : Nat → Option Addr) (C2 : Nat → Nat), k' ≤ S.length ∧ Value.int .i64 ((k : Int) + 1) = .int .i64 (k' : Int) ∧ RLay (wr.setCell ⟨b, o + k, none⟩ (.slice (some ⟨b', o' + m1, none⟩) 1 (C1 k - m1))).drew (More fp w (wr.setCell ⟨b, o + k, none⟩ (.slice (some ⟨b', o' + m1, none⟩) 1 (C1 k - m1))).drew) g (rst S G k') t (some ⟨b, o, none⟩) c B2 C2 ∧ Only fp w (wr.setCell ⟨b, o + k, none⟩ (.slice (some ⟨b', o' + m1, none⟩) 1 (C1 k - m1))).drew := by
          have h9 := hput.out
          rw [show m1 + 1 - 1 = m1 by omega] at h9
          have ho9 : Only fp w (wr.setCell ⟨b, o + k, none⟩ (.slice (some ⟨b', o' + m1, none⟩) 1 (C1 k - m1))) := honly.setCell (p := ⟨b, o + k, none⟩) (by
            rcases hbA with h1 | h1
            · exact .inl h1
            · exact .inr h1.1) _
          refine ⟨k + 1, _, _, by omega, by go_num, h9.drew.mono (fun k' hk' _ => ?_), ho9.drew⟩
          have z9 := ho9.size
          have zw : (wr.setCell ⟨b, o + k, none⟩ (.slice (some ⟨b', o' + m1, none⟩) 1 (C1 k - m1))).drew.heap.size = wr.heap.size := by
            show (wr.setCell _ _).heap.size = _
            simp [World.setCell]
          rcases hk' with (hk' | hk') | hk'
          · exact .inl hk'
          · exact .inr (by rw [zw]; exact hk')
          · omega
        replace fin := Lib.hid fin
        clear hput hbA
        have hki : (k : Int) < (S.length : Int) := by omega
        have hcap2 : ¬ C1 k = m1 := by omega
        have hcap3 : (m1 : Int) + 1 ≤ (C1 k : Int) := by omega
        clear hlenT
        go_wp2_with fail
        go_region
        go_wp2
        go_roundw
        case rel => exact fin.out
        case measure => simp [intOf]; omega
      · obtain rfl : k = S.length := by omega
        go_wp2
        go_ret
        rw [hall.out] at hL
        exact ⟨rfl, ⟨A, c, B1, C1, hL⟩, honly⟩
  · have hl0 : (l == 0) = false := by simpa using h0
    have hL1 : RLay w fp g S t A c B C := by
      have e1 : t = l := by rw [ht]; unfold tick; rw [if_neg hp]
      rw [e1]; exact h
    go_enter Tryd.func75, Tryd.ntmps75
    go_wp2_with fail
    have ho1 : Only (fun k => k = g) w w := Only.refl _ _
    clear c1 f1
    go_loopw [3] (fun i wr => ∃ (k : Nat) (B1 : Nat → Option Addr) (C1 : Nat → Nat), k ≤ S.length ∧ i = .int .i64 (k : Int) ∧ RLay wr (More fp w wr) g (rst S G k) t A c B1 C1 ∧ Only fp w wr) (fun i _ => S.length - (intOf i).toNat)
    case atStart => exact ⟨0, B, C, Nat.zero_le _, rfl, by rw [rst_zero]; exact hL1.mono (fun k hk _ => .inl hk), ho1.mono (fun k _ hk => by subst hk; exact h.fg)⟩
    case round =>
      obtain ⟨k, B1, C1, hk, rfl, hL, honly⟩ := hrel
      clear hL1 ho1
      have hlenT : (rst S G k).length = S.length := rst_length S G k
      have hdsk0 : wr.cell? ⟨g, 0, none⟩ = some (.slice A S.length c) := by
        have := hL.dsk.cell 0
        rw [hlenT] at this
        exact this
      by_cases hlt : k < S.length
      · have hiT : k < (rst S G k).length := by rw [hlenT]; exact hlt
        have hat := rst_at S G k hlt hiT
        have hrow := hL.row
        rw [hlenT] at hrow
        obtain ⟨b, o, rfl, hcell, hfr⟩ := hrow.there1 hlt
        have hck := hcell _ (rvals_get (rst S G k) B1 C1 hiT)
        rw [hat] at hck
        have hcel := hL.cel k hiT
        rw [hat] at hcel
        have hwf := h.wf S[k] (List.getElem_mem hlt)
        have hpos := List.length_pos_iff.2 hwf.1
        have hsm := hs S[k] (List.getElem_mem hlt)
        obtain ⟨b', o', hB, _, _⟩ := hcel.there1 (i := 0) hpos
        have hlast : (S[k].map strV)[S[k].length - 1]? = some (strV (lastOf S[k])) := by
          have := getLast_lastOf hwf.1
          rw [List.getLast?_eq_getElem?] at this
          rw [List.getElem?_map, this]; rfl
        rw [hB] at hcel hck
        have hcl := hcel.last hpos _ hlast
        have hcap := hcel.le
        have hput := hL.put hiT [lastOf S[k]] ⟨by simp, fun v hv => by simp at hv; subst hv; exact hwf.2 _ (lastOf_mem hwf.1)⟩ (some ⟨b', o' + (S[k].length - 1), none⟩) (C1 k - (S[k].length - 1)) (w1 := wr) (Only.refl _ _) hcl (fun k' hk' => .inl (by rw [hB]; rw [inA_some] at hk' ⊢; exact hk')) rfl
        have hsuc := rst_succ S G k hlt
        have hGk : G k S[k] = [lastOf S[k]] := by rw [hG]
        rw [hGk] at hsuc
        rw [← hsuc] at hput
        replace hput := Lib.hid hput
        have hbA : More fp w wr b := hL.fA b ((inA_some _ _ _ _).2 rfl)
        clear hsuc hGk hat hlast hcl
        generalize S[k].length = m at hpos hsm hck hcel hcap hput
        obtain ⟨m1, rfl⟩ : ∃ m1, m = m1 + 1 := ⟨m - 1, by omega⟩
        have fin : ∃ (k' : Nat) (B2 : Nat → Option Addr) (C2 : Nat → Nat), k' ≤ S.length ∧ Value.int .i64 ((k : Int) + 1) = .int .i64 (k' : Int) ∧ RLay (wr.setCell ⟨b, o + k, none⟩ (.slice (some ⟨b', o' + m1, none⟩) 1 (C1 k - m1))).drew (More fp w (wr.setCell ⟨b, o + k, none⟩ (.slice (some ⟨b', o' + m1, none⟩) 1 (C1 k - m1))).drew) g (rst S G k') t (some ⟨b, o, none⟩) c B2 C2 ∧ Only fp w (wr.setCell ⟨b, o + k, none⟩ (.slice (some ⟨b', o' + m1, none⟩) 1 (C1 k - m1))).drew := by
          have h9 := hput.out
          rw [show m1 + 1 - 1 = m1 by omega] at h9
          have ho9 : Only fp w (wr.setCell ⟨b, o + k, none⟩ (.slice (some ⟨b', o' + m1, none⟩) 1 (C1 k - m1))) := honly.setCell (p := ⟨b, o + k, none⟩) (by
            rcases hbA with h1 | h1
            · exact .inl h1
            · exact .inr h1.1) _
          refine ⟨k + 1, _, _, by omega, by go_num, h9.drew.mono (fun k' hk' _ => ?_), ho9.drew⟩
          have z9 := ho9.size
          have zw : (wr.setCell ⟨b, o + k, none⟩ (.slice (some ⟨b', o' + m1, none⟩) 1 (C1 k - m1))).drew.heap.size = wr.heap.size := by
            show (wr.setCell _ _).heap.size = _
            simp [World.setCell]
          rcases hk' with (hk' | hk') | hk'
          · exact .inl hk'
          · exact .inr (by rw [zw]; exact hk')
          · omega
        replace fin := Lib.hid fin
        clear hput hbA
        have hki : (k : Int) < (S.length : Int) := by omega
        have hcap2 : ¬ C1 k = m1 := by omega
        have hcap3 : (m1 : Int) + 1 ≤ (C1 k : Int) := by omega
        clear hlenT
        go_wp2_with fail
        go_region
        go_wp2
        go_roundw
        case rel => exact fin.out
        case measure => simp [intOf]; omega
      · obtain rfl : k = S.length := by omega
        go_wp2
        go_ret
        rw [hall.out] at hL
        exact ⟨rfl, ⟨A, c, B1, C1, hL⟩, honly⟩
end Go.Proofs.YtlpjeopeboemmaaDoor

/-
  The contract of the reference's Crash. No statement of the seat is proved here.
-/
namespace Go.Proofs.YtlpjeopeboemmaaDoor
open Go Go.RowKit

theorem rflush_dead {w : World} {fp : Nat → Prop} {g : Nat} {S : Sec} {l : Int} {A : Option Addr} {c : Nat} {B : Nat → Option Addr} {C : Nat → Nat} (h : RLay w fp g S l A c B C) (h0 : l = 0) :
    Calls Tryd.prog 75 #[.pointer (some ⟨g, 0, none⟩)] w fun e w' => e = .returned (.int .i64 6) ∧ w = w' := by
  have c1 : w.cell? ⟨g, 1, none⟩ = some (.int .i64 l) := h.dsk.cell 1
  subst h0
  go_enter Tryd.func75, Tryd.ntmps75
  go_wp2
  go_ret
  exact ⟨rfl, rfl⟩

set_option maxRecDepth 100000 in
set_option maxHeartbeats 4000000 in
theorem rcrash_any {w : World} {fp : Nat → Prop} {g : Nat} {S : Sec} {l : Int} {A : Option Addr} {c : Nat} {B : Nat → Option Addr} {C : Nat → Nat} (h : RLay w fp g S l A c B C) (hs : Small 1000000 S) (P : Option Addr) (n cp : Nat) (ps : List Int) (hn : n = ps.length) (hp : RdF fp w P (ps.map iv)) (hpi : ∀ x ∈ ps, isInt x) :
    Calls Tryd.prog 35 #[.pointer (some ⟨g, 0, none⟩), .slice P n cp] w fun e w' => e = .returned (.tuple #[]) ∧ Ref w' (More fp w w') g (crashS S ps) (-1) ∧ Only fp w w' := by
  subst hn
  obtain ⟨G, hG⟩ : ∃ G : Nat → List (List UInt8) → List (List UInt8), G = fun i vs => if 1 < vs.length then [crashAt S ps i] else vs := ⟨_, rfl⟩
  have hall : rst S G S.length = crashS S ps := by rw [rst_all, hG]; rfl
  replace hall := Lib.hid hall
  replace hG := Lib.hid hG
  have hpi := Lib.hid hpi
  have hnn := h.n
  go_enter Tryd.func35, Tryd.ntmps35
  go_wp2
  go_loopw [4, 5, 6] (fun kk ii _ wr => ∃ (i : Nat) (B1 : Nat → Option Addr) (C1 : Nat → Nat), i ≤ S.length ∧ ii = .int .i64 (i : Int) ∧ kk = .int .i64 (rk (pw S) i : Int) ∧ RLay wr (More fp w wr) g (rst S G i) l A c B1 C1 ∧ Only fp w wr) (fun _ ii _ _ => S.length - (intOf ii).toNat)
  case atStart => exact ⟨0, B, C, Nat.zero_le _, rfl, rfl, by rw [rst_zero]; exact h.mono (fun k hk _ => .inl hk), Only.refl _ _⟩
  case round =>
    obtain ⟨i, B1, C1, hi, rfl, rfl, hL, honly⟩ := hrel
    have hlenT : (rst S G i).length = S.length := rst_length S G i
    have hdsk0 : wr.cell? ⟨g, 0, none⟩ = some (.slice A S.length c) := by
      have := hL.dsk.cell 0
      rw [hlenT] at this
      exact this
    by_cases hlt : i < S.length
    · have hiT : i < (rst S G i).length := by rw [hlenT]; exact hlt
      have hat := rst_at S G i hlt hiT
      have hrow := hL.row
      rw [hlenT] at hrow
      obtain ⟨b, o, rfl, hcell, hfr⟩ := hrow.there1 hlt
      have hck := hcell _ (rvals_get (rst S G i) B1 C1 hiT)
      rw [hat] at hck
      have hcel := hL.cel i hiT
      rw [hat] at hcel
      have hwf := h.wf S[i] (List.getElem_mem hlt)
      have hpos := List.length_pos_iff.2 hwf.1
      have hsm := hs S[i] (List.getElem_mem hlt)
      have hii : (i : Int) < (S.length : Int) := by omega
      have hrk := Lib.hid (rk_succ (pw S) i)
      have hrkle := rk_le (pw S) i
      have hrkb : rk (pw S) i ≤ 4096 := by omega
      clear hlenT
      by_cases h1 : S[i].length = 1
      · have hpw : pw S i = false := by rw [pw_eq hlt]; simp [h1]
        have hsame : rst S G (i + 1) = rst S G i := rst_same S G i hlt (by rw [hG.out]; simp [h1])
        rw [← hsame] at hL
        rw [h1] at hck
        clear hat hsame
        go_wp2
        go_roundw
        case rel => exact ⟨i + 1, B1, C1, by omega, by go_num, by rw [hrk.out, hpw]; rfl, hL, honly⟩
        case measure => simp [intOf]; omega
      · have hpw : pw S i = true := by rw [pw_eq hlt]; simp; omega
        obtain ⟨b', o', hB, _, _⟩ := hcel.there1 (i := 0) hpos
        obtain ⟨q, hqe⟩ : ∃ q, q = pickNat ps (rk (pw S) i) := ⟨_, rfl⟩
        have hq : q % S[i].length < S[i].length := Nat.mod_lt _ hpos
        obtain ⟨F, hFe⟩ : ∃ F, F = S[i][q % S[i].length] := ⟨_, rfl⟩
        have hFc : crashAt S ps i = F := by
          unfold crashAt pickOf
          have hSd : S.getD i [] = S[i] := by rw [List.getD_eq_getElem?_getD, List.getElem?_eq_getElem hlt]; rfl
          rw [hSd]
          show S[i].getD (pickNat ps (rk (pw S) i) % S[i].length) [] = F
          rw [← hqe, List.getD_eq_getElem?_getD, List.getElem?_eq_getElem hq, hFe]; rfl
        have hFl : F.length = 64 := by rw [hFe]; exact hwf.2 _ (List.getElem_mem _)
        have hstr : wr.cell? ⟨b', o' + q % S[i].length, none⟩ = some (.string ⟨F.toArray⟩) := by
          obtain ⟨b2, o2, hB2, hc2, _⟩ := hcel.there1 hq
          rw [hB] at hB2
          injection hB2 with hB2
          injection hB2 with e1 e2 _
          subst e1 e2
          exact hc2 _ (by rw [List.getElem?_map, List.getElem?_eq_getElem hq, hFe]; rfl)
        rw [hB] at hck
        have hput : RLay ((wr.alloc (Obj.cells #[.string ⟨F.toArray⟩] 9)).setCell ⟨b, o + i, none⟩ (.slice (some ⟨wr.heap.size, 0, none⟩) 1 1)) (More (More fp w wr) wr (wr.alloc (Obj.cells #[.string ⟨F.toArray⟩] 9))) g ((rst S G i).set i [F]) l (some ⟨b, o, none⟩) c _ _ := hL.put hiT [F] ⟨by simp, fun v hv => by simp at hv; subst hv; exact hFl⟩ (some ⟨wr.heap.size, 0, none⟩) 1 (w1 := wr.alloc (Obj.cells #[.string ⟨F.toArray⟩] 9)) ((Only.refl _ wr).alloc _) (RowO.lit wr 9 1 1 #[.string ⟨F.toArray⟩] rfl (by unfold maxLen; omega) rfl) (fun k hk => .inr (by rw [inA_some] at hk; subst hk; rw [World.size_alloc]; omega)) rfl
        have hsuc := rst_succ S G i hlt
        have hGi : G i S[i] = [F] := by rw [hG.out]; show (if 1 < S[i].length then [crashAt S ps i] else S[i]) = [F]; rw [if_pos (by omega), hFc]
        rw [hGi] at hsuc
        rw [← hsuc] at hput
        have hbA : More fp w wr b := hL.fA b ((inA_some _ _ _ _).2 rfl)
        have fin : ∀ q, ∃ (i' : Nat) (B2 : Nat → Option Addr) (C2 : Nat → Nat), i' ≤ S.length ∧ Value.int .i64 ((i : Int) + 1) = .int .i64 (i' : Int) ∧ Value.int .i64 ((rk (pw S) i : Int) + 1) = .int .i64 (rk (pw S) i' : Int) ∧ RLay (World.drewN ((wr.alloc (Obj.cells #[.string ⟨F.toArray⟩] 9)).setCell ⟨b, o + i, none⟩ (.slice (some ⟨wr.heap.size, 0, none⟩) 1 1)) q) (More fp w (World.drewN ((wr.alloc (Obj.cells #[.string ⟨F.toArray⟩] 9)).setCell ⟨b, o + i, none⟩ (.slice (some ⟨wr.heap.size, 0, none⟩) 1 1)) q)) g (rst S G i') l (some ⟨b, o, none⟩) c B2 C2 ∧ Only fp w (World.drewN ((wr.alloc (Obj.cells #[.string ⟨F.toArray⟩] 9)).setCell ⟨b, o + i, none⟩ (.slice (some ⟨wr.heap.size, 0, none⟩) 1 1)) q) := fun q => by
          have ho9 : Only fp w ((wr.alloc (Obj.cells #[.string ⟨F.toArray⟩] 9)).setCell ⟨b, o + i, none⟩ (.slice (some ⟨wr.heap.size, 0, none⟩) 1 1)) := (honly.alloc _).setCell (p := ⟨b, o + i, none⟩) (by
            rcases hbA with h1 | h1
            · exact .inl h1
            · exact .inr h1.1) _
          have zw : (World.drewN ((wr.alloc (Obj.cells #[.string ⟨F.toArray⟩] 9)).setCell ⟨b, o + i, none⟩ (.slice (some ⟨wr.heap.size, 0, none⟩) 1 1)) q).heap.size = wr.heap.size + 1 := by
            show (World.setCell _ _ _).heap.size = _
            simp [World.setCell]
          refine ⟨i + 1, _, _, by omega, by go_num, ?_, (hput.drewN q).mono (fun k' hk' _ => ?_), ho9.drewN q⟩
          · rw [hrk.out, hpw, if_pos rfl]; go_num
          · unfold More at hk' ⊢
            rw [World.size_alloc] at hk'
            rcases hk' with (hk' | hk') | hk'
            · exact .inl hk'
            · exact .inr (by rw [zw]; omega)
            · exact .inr (by rw [zw]; have := honly.size; omega)
        have hYeq : ((wr.alloc (Obj.cells #[.string ⟨F.toArray⟩] 9)).setCell ⟨b, o + i, none⟩ (.slice (some ⟨wr.heap.size, 0, none⟩) 1 1)) = ((wr.setCell ⟨b, o + i, none⟩ (.slice (some ⟨wr.heap.size, 0, none⟩) 1 1)).alloc (Obj.cells #[.string ⟨F.toArray⟩] 9)) := World.setCell_alloc_past _ _ _ _ (World.block_lt_of_cell? wr _ hck)
        rw [hYeq] at fin
        clear hYeq
        replace fin := Lib.hid fin
        have hlp := hp.only honly
        have hlb : b < wr.heap.size := World.block_lt_of_cell? wr _ hck
        have hlg : g < wr.heap.size := World.block_lt_of_cell? wr _ hdsk0
        have d1 : (wr.alloc (Obj.cells #[.string ⟨F.toArray⟩] 9)).cell? ⟨g, 0, none⟩ = some (.slice (some ⟨b, o, none⟩) S.length c) := (World.cell?_alloc_lt _ _ _ hlg).trans hdsk0
        have d2 : (wr.alloc (Obj.cells #[.string ⟨F.toArray⟩] 9)).cell? ⟨b, o + i, none⟩ = some (.slice (some ⟨b', o', none⟩) S[i].length (C1 i)) := (World.cell?_alloc_lt _ _ _ hlb).trans hck
        have d3 : (wr.alloc (Obj.cells #[.string ⟨F.toArray⟩] 9)).frozen? ⟨b, o + i, none⟩ = false := (World.frozen?_alloc_past _ _ _ hlb).trans hfr
        clear hput hsuc hGi hat hFc hFe hcel
        have hql : q % S[i].length ≤ 1000000 := by omega
        have hqb : q ≤ 9223372036854775807 := by
          rw [hqe]
          unfold pickNat
          by_cases hkp : rk (pw S) i < ps.length
          · rw [List.getD_eq_getElem?_getD, List.getElem?_eq_getElem hkp]
            have := hpi.out ps[rk (pw S) i] (List.getElem_mem _)
            unfold isInt at this
            simp only [Option.getD_some]
            omega
          · rw [List.getD_eq_getElem?_getD, List.getElem?_eq_none (by omega)]; simp
        generalize hm : S[i].length = m at hck hpos hsm h1 hq hstr hql d2
        have hm1 : (m == 1) = false := by simpa using h1
        have hm1i : ((m : Int) == 1) = false := by
          have : ¬ (m : Int) = 1 := by omega
          simpa using this
        have hmi : (0 : Int) < (m : Int) := by omega
        have hm0 : ¬ (m : Int) = 0 := by omega
        by_cases hkp : rk (pw S) i < ps.length
        · obtain ⟨ap, rfl, hcp⟩ := hlp.1.at_ (k := rk (pw S) i) (by simpa using hkp)
          simp only [List.getElem_map, iv] at hcp
          have hkpi : (rk (pw S) i : Int) < (ps.length : Int) := by omega
          have hqp : q = (max ps[rk (pw S) i] 0).toNat := by rw [hqe]; unfold pickNat; rw [List.getD_eq_getElem?_getD, List.getElem?_eq_getElem hkp]; rfl
          have hpb := hpi.out ps[rk (pw S) i] (List.getElem_mem _)
          unfold isInt at hpb
          clear hqe
          generalize ps[rk (pw S) i] = p at hcp hqp hpb
          by_cases h0 : 0 ≤ p
          · obtain rfl : p = (q : Int) := by omega
            obtain ⟨qm, hqm⟩ : ∃ qm, qm = q % m := ⟨_, rfl⟩
            have hrem : ((q : Nat) : Int) % (m : Int) = (qm : Int) := by rw [hqm]; rfl
            rw [← hqm] at hstr hql hq
            clear hqp hqm
            have hqi : (qm : Int) < (m : Int) := by omega
            generalize rk (pw S) i = kk at hcp hkpi fin hrkb hrkle hkp hrk
            go_wp2_with fail
            go_region
            go_wp2_with fail
            go_region
            go_wp2
            go_roundw
            case rel => exact fin.out 2
            case measure => simp [intOf]; omega
          · obtain rfl : q = 0 := by omega
            rw [Nat.zero_mod, Nat.add_zero] at hstr
            clear hqp
            generalize rk (pw S) i = kk at hcp hkpi fin hrkb hrkle hkp hrk
            go_wp2_with fail
            go_region
            go_wp2_with fail
            go_region
            go_wp2
            go_roundw
            case rel => exact fin.out 2
            case measure => simp [intOf]; omega
        · have hq0 : q = 0 := by
            rw [hqe]; unfold pickNat
            rw [List.getD_eq_getElem?_getD, List.getElem?_eq_none (by omega)]; simp
          subst hq0
          rw [Nat.zero_mod, Nat.add_zero] at hstr
          clear hqe
          have hkpi : ¬ (rk (pw S) i : Int) < (ps.length : Int) := by omega
          generalize rk (pw S) i = kk at fin hrkb hrkle hkp hrk hkpi
          go_wp2_with fail
          go_region
          go_wp2
          go_roundw
          case rel => exact fin.out 1
          case measure => simp [intOf]; omega
    · obtain rfl : i = S.length := by omega
      have c1 : wr.cell? ⟨g, 1, none⟩ = some (.int .i64 l) := hL.dsk.cell 1
      have f1 : wr.frozen? ⟨g, 1, none⟩ = false := hL.dsk.free 1
      go_wp2
      go_end0
      have ho : Only (fun k => k = g) wr (wr.setCell ⟨g, 1, none⟩ (.int .i64 (-1))) := (Only.refl (fun k => k = g) wr).setCell (p := ⟨g, 1, none⟩) (.inl rfl) _
      have hf := hL.left (-1) (by omega) (by omega) ho (hL.dsk.put 1 (.int .i64 (-1)))
      rw [hall.out] at hf
      have zw : (wr.setCell ⟨g, 1, none⟩ (.int .i64 (-1))).heap.size = wr.heap.size := by simp [World.setCell]
      refine ⟨rfl, ⟨A, c, B1, C1, hf.mono (fun k hk _ => ?_)⟩, honly.trans ho (fun k _ hk => by subst hk; exact h.fg)⟩
      rcases hk with hk | hk
      · exact .inl hk
      · exact .inr (by rw [zw]; exact hk)
end Go.Proofs.YtlpjeopeboemmaaDoor

/-
  The contracts of the reference's Read, Waiting, Fuse, Flush, Crash, whatever comes in. No statement of the seat is proved here.
-/
namespace Go.Proofs.YtlpjeopeboemmaaDoor
open Go Go.RowKit

set_option maxHeartbeats 1000000 in
theorem rwaiting_any {w : World} {fp : Nat → Prop} {g : Nat} {S : Sec} {l : Int} {A : Option Addr} {c : Nat} {B : Nat → Option Addr} {C : Nat → Nat} (h : RLay w fp g S l A c B C) :
    Calls Tryd.prog 38 #[.pointer (some ⟨g, 0, none⟩)] w fun e w' => ∃ A c, e = .returned (.slice A (waiting S).length c) ∧ RowO w' 3 1 A (waiting S).length c ((waiting S).map iv') ∧ Below w.heap.size w w' ∧ ∀ k, inA A k → w.heap.size ≤ k := by
  have hn := h.n
  go_enter Tryd.func38, Tryd.ntmps38
  go_wp2
  go_loopw [3, 4] (fun s i w1 => ∃ (k : Nat) (A : Option Addr) (c : Nat), k ≤ S.length ∧ i = .int .i64 (k : Int) ∧ s = .slice A (rk (pw S) k) c ∧ RowO w1 3 1 A (rk (pw S) k) c ((wl (pw S) k).map iv') ∧ Below w.heap.size w w1 ∧ ∀ k, inA A k → w.heap.size ≤ k) (fun _ i _ => S.length - (intOf i).toNat)
  case atStart => exact ⟨0, none, 0, Nat.zero_le _, rfl, rfl, RowO.none_ _ _ _, Below.refl _ _, fun k hk => absurd hk (inA_none k)⟩
  case round =>
    obtain ⟨k, A1, c1, hk, rfl, rfl, hrow, hbel, hnew⟩ := hrel
    have hl := h.ext hbel
    have h0 : wr.cell? ⟨g, 0, none⟩ = some (.slice A S.length c) := hl.dsk.cell 0
    by_cases hlt : k < S.length
    · obtain ⟨b, o, rfl, hcell, hfr⟩ := hl.row.there1 hlt
      have hck := hcell _ (rvals_get S B C hlt)
      have hsucc := Lib.hid (rk_succ (pw S) k)
      have wsucc := Lib.hid (wl_succ (pw S) k)
      have hle := rk_le (pw S) k
      have hpk := pw_eq hlt
      have hki : (k : Int) < (S.length : Int) := by omega
      by_cases hp : 1 < S[k].length
      · have hpk' : pw S k = true := by rw [hpk]; simp [hp]
        rw [hpk'] at hsucc wsucc
        have hm1 : rk (pw S) k + 1 ≤ maxLen := by unfold maxLen; omega
        have hm2 : (rk (pw S) k + 1) * 8 ≤ 140737488355328 := by omega
        have hpi : (1 : Int) < (S[k].length : Int) := by omega
        clear hpk
        go_wp2_with (at_builtin
                     refine wpList_appO _ rfl (.tmp 23) (.tmp 25) _ rfl _ _ 1 8 Tryd.underlying34 info_int rfl A1 _ c1 _ rfl (hrow.alloc _) (some ⟨wr.heap.size, 0, none⟩) 1 1 [.int .i64 (k : Int)] rfl rfl (Rd.lit _ #[.int .i64 (k : Int)] _) ?_ ?_ hm1 hm2 ?_
                     · simp; rfl
                     · intro h; cases h
                     intro A2 c2 w3 hrow3 honly3 hA3)
        go_roundw
        case rel =>
          refine ⟨k + 1, A2, c2, by omega, by go_num, ?_, ?_, ?_, ?_⟩
          · rw [hsucc.out]; rfl
          · rw [hsucc.out, wsucc.out]
            simpa [iv'] using hrow3
          · refine (hbel.alloc hbel.size _).trans (honly3.below (fun i hi => hnew i hi) ?_)
            rw [World.size_alloc]; have := hbel.size; omega
          · intro k' hk'
            rcases hA3 k' hk' with h1 | h1
            · exact hnew k' h1
            · have := hbel.size
              rw [World.size_alloc] at h1; omega
        case measure => simp [intOf]; omega
      · have hpk' : pw S k = false := by rw [hpk]; simp [hp]
        rw [hpk'] at hsucc wsucc
        have hpi : ¬ (1 : Int) < (S[k].length : Int) := by omega
        clear hpk
        go_wp2
        go_roundw
        case rel =>
          refine ⟨k + 1, A1, c1, by omega, by go_num, ?_, ?_, hbel, hnew⟩
          · rw [hsucc.out]; rfl
          · rw [hsucc.out, wsucc.out]
            simpa using hrow
        case measure => simp [intOf]; omega
    · obtain rfl : k = S.length := by omega
      go_wp2
      go_ret
      exact ⟨A1, c1, rfl, hrow, hbel, hnew⟩

theorem strV_size (bs : List UInt8) : (⟨bs.toArray⟩ : ByteArray).size = bs.length := by
  show bs.toArray.size = bs.length
  simp

set_option maxRecDepth 100000 in
theorem rread_ok {w : World} {fp : Nat → Prop} {g : Nat} {S : Sec} {l : Int} {A : Option Addr} {c : Nat} {B : Nat → Option Addr} {C : Nat → Nat} (h : RLay w fp g S l A c B C) (hs : Small 1000000 S) (i : Nat) (hi : i < S.length) :
    Calls Tryd.prog 40 #[.pointer (some ⟨g, 0, none⟩), .int .i64 (i : Int)] w fun e w' => ∃ g' c', e = .returned (.tuple #[.slice (some ⟨g', 0, none⟩) 64 c', .int .i64 0]) ∧ Below w.heap.size w w' ∧ Rd w' (some ⟨g', 0, none⟩) ((lastOf S[i]).map bv) ∧ w.heap.size ≤ g' := by
  have h0 : w.cell? ⟨g, 0, none⟩ = some (.slice A S.length c) := h.dsk.cell 0
  obtain ⟨b, o, rfl, hcell, hfr⟩ := h.row.there1 hi
  have hck := hcell _ (rvals_get S B C hi)
  have hwf := h.wf S[i] (List.getElem_mem hi)
  have hpos := List.length_pos_iff.2 hwf.1
  have hsm := hs S[i] (List.getElem_mem hi)
  obtain ⟨b', o', hB, _, _⟩ := (h.cel i hi).there1 (i := 0) hpos
  have hlast : (S[i].map strV)[S[i].length - 1]? = some (strV (lastOf S[i])) := by
    have := getLast_lastOf hwf.1
    rw [List.getLast?_eq_getElem?] at this
    rw [List.getElem?_map, this]; rfl
  have hF64 := hwf.2 _ (lastOf_mem hwf.1)
  have hcel := h.cel i hi
  obtain ⟨b2, o2, hB2, hc2, _⟩ := hcel.there1 (i := S[i].length - 1) (by omega)
  rw [hB] at hB2 hck
  injection hB2 with hB2
  injection hB2 with e1 e2 _
  subst e1 e2
  have hstr := hc2 _ hlast
  unfold strV at hstr
  generalize lastOf S[i] = F at hF64 hstr
  generalize S[i].length = m at hpos hsm hck hstr
  obtain ⟨m1, rfl⟩ : ∃ m1, m = m1 + 1 := ⟨m - 1, by omega⟩
  have hii : (i : Int) < (S.length : Int) := by omega
  have hd : decide ((i : Int) < 0) = false := decide_eq_false (by omega)
  rw [show m1 + 1 - 1 = m1 by omega] at hstr
  have hsz : (⟨F.toArray⟩ : ByteArray).size = 64 := by rw [strV_size]; exact hF64
  have hcv := run_bytes_of_string (P := Tryd.prog) w 9 22 5 ⟨F.toArray⟩ Tryd.underlying9 Tryd.underlying22 Tryd.underlying5
  have hcell9 : ∀ (cap : Nat) (fr : Nat × Nat), Rd (w.alloc (.cells (bytesRow ⟨F.toArray⟩ cap) 5 fr)) (some ⟨w.heap.size, 0, none⟩) (F.map bv) := fun cap fr => by
    have h1 := (Rd.lit_at w (bytesRow ⟨F.toArray⟩ cap) 5 (fr := fr) rfl).take 64
    have h2 : (bytesRow ⟨F.toArray⟩ cap).toList.take 64 = F.map bv := by
      unfold bytesRow
      rw [Array.toList_append, Array.toList_map]
      show (F.map bv ++ _).take 64 = F.map bv
      rw [List.take_append_of_le_length (by rw [List.length_map]; omega), List.take_of_length_le (by rw [List.length_map]; omega)]
    rw [h2] at h1
    exact h1
  go_enter Tryd.func40, Tryd.ntmps40
  go_wp2_with fail
  go_ret2
  exact ⟨w.heap.size, ⟨_, rfl⟩, Below.drew' ((Below.refl _ _).alloc (Nat.le_refl _) _), hcell9 _ _, Nat.le_refl _⟩
theorem rread_bad {w : World} {fp : Nat → Prop} {g : Nat} {S : Sec} {l : Int} {A : Option Addr} {c : Nat} {B : Nat → Option Addr} {C : Nat → Nat} (h : RLay w fp g S l A c B C) (i : Int) (hi : ¬ (0 ≤ i ∧ i < (S.length : Int))) :
    Calls Tryd.prog 40 #[.pointer (some ⟨g, 0, none⟩), .int .i64 i] w fun e w' => e = .returned (.tuple #[.slice none 0 0, .int .i64 1]) ∧ w = w' := by
  have h0 : w.cell? ⟨g, 0, none⟩ = some (.slice A S.length c) := h.dsk.cell 0
  by_cases hn : i < 0
  · go_enter Tryd.func40, Tryd.ntmps40
    go_wp2
    go_ret2
    exact ⟨rfl, rfl⟩
  · have hd : decide (i < 0) = false := decide_eq_false hn
    have hge : (S.length : Int) ≤ i := by omega
    go_enter Tryd.func40, Tryd.ntmps40
    go_wp2
    go_ret2
    exact ⟨rfl, rfl⟩
theorem rread_all {w : World} {fp : Nat → Prop} {g : Nat} {S : Sec} {l : Int} (h : Ref w fp g S l) (hs : Small 1000000 S) (i : Int) :
    Calls Tryd.prog 40 #[.pointer (some ⟨g, 0, none⟩), .int .i64 i] w fun e w' => Below w.heap.size w w' ∧ ((∃ (k : Nat) (hk : k < S.length), i = (k : Int) ∧ ∃ g' c', e = .returned (.tuple #[.slice (some ⟨g', 0, none⟩) 64 c', .int .i64 0]) ∧ Rd w' (some ⟨g', 0, none⟩) ((lastOf S[k]).map bv) ∧ w.heap.size ≤ g') ∨
      (¬ (0 ≤ i ∧ i < (S.length : Int)) ∧ e = .returned (.tuple #[.slice none 0 0, .int .i64 1]))) := by
  obtain ⟨A, c, B, C, h⟩ := h
  by_cases hi : 0 ≤ i ∧ i < (S.length : Int)
  · obtain ⟨k, rfl⟩ : ∃ k : Nat, i = (k : Int) := ⟨i.toNat, by omega⟩
    refine (rread_ok h hs k (by omega)).mono ?_
    rintro e w' ⟨g', c', h1, h2, h3, h4⟩
    exact ⟨h2, .inl ⟨k, by omega, rfl, g', c', h1, h3, h4⟩⟩
  · refine (rread_bad h i hi).mono ?_
    rintro e w' ⟨h1, rfl⟩
    exact ⟨Below.refl _ _, .inr ⟨hi, h1⟩⟩
theorem Ref.more {w w' : World} {fp : Nat → Prop} {g : Nat} {S : Sec} {l : Int} (h : Ref w' fp g S l) : Ref w' (More fp w w') g S l := h.mono fun _ hk _ => .inl hk
theorem rflush_all {w : World} {fp : Nat → Prop} {g : Nat} {S : Sec} {l : Int} (h : Ref w fp g S l) (hs : Small 1000000 S) :
    Calls Tryd.prog 75 #[.pointer (some ⟨g, 0, none⟩)] w fun e w' => e = .returned (.int .i64 (flushCode l)) ∧ Ref w' (More fp w w') g (if l = 0 then S else flushS S) (tick l) ∧ Only fp w w' := by
  obtain ⟨A, c, B, C, h⟩ := h
  by_cases h0 : l = 0
  · refine (rflush_dead h h0).mono ?_
    rintro e w' ⟨rfl, rfl⟩
    have e1 : tick l = l := by unfold tick; rw [if_neg (by omega)]
    unfold flushCode
    rw [if_pos h0, if_pos h0, e1]
    exact ⟨rfl, Ref.more ⟨A, c, B, C, h⟩, Only.refl _ _⟩
  · refine (rflush_any h hs h0).mono ?_
    unfold flushCode
    rw [if_neg h0, if_neg h0]
    exact fun e w' h => h
theorem rcrash_all {w : World} {fp : Nat → Prop} {g : Nat} {S : Sec} {l : Int} (h : Ref w fp g S l) (hs : Small 1000000 S) (P : Option Addr) (n cp : Nat) (ps : List Int) (hn : n = ps.length) (hp : RdF fp w P (ps.map iv)) (hpi : ∀ x ∈ ps, isInt x) :
    Calls Tryd.prog 35 #[.pointer (some ⟨g, 0, none⟩), .slice P n cp] w fun e w' => e = .returned (.tuple #[]) ∧ Ref w' (More fp w w') g (crashS S ps) (-1) ∧ Only fp w w' := by
  obtain ⟨A, c, B, C, h⟩ := h
  exact rcrash_any h hs P n cp ps hn hp hpi
theorem rfuse_all {w : World} {fp : Nat → Prop} {g : Nat} {S : Sec} {l : Int} (h : Ref w fp g S l) (n : Int) (hn : isInt n) :
    Calls Tryd.prog 34 #[.pointer (some ⟨g, 0, none⟩), .int .i64 n] w fun e w' => e = .returned (.tuple #[]) ∧ Ref w' (More fp w w') g S (max n (-1)) ∧ Only fp w w' := by
  obtain ⟨A, c, B, C, h⟩ := h
  refine (rfuse_any h n hn).mono ?_
  rintro e w' ⟨rfl, h1, h2⟩
  exact ⟨rfl, Ref.more ⟨A, c, B, C, h2⟩, h1.mono (fun k _ hk => by subst hk; exact h.fg)⟩
end Go.Proofs.YtlpjeopeboemmaaDoor
