/-
  The contracts of super's Commit, Image, Number, Dead. No statement of the seat is proved here.
-/
import Derived.Test.YtlpjeopeboemmaaDoorOpen
namespace Go.Proofs.YtlpjeopeboemmaaDoor
open Go Go.RowKit

/-- a Super, without its place -/
structure SupS where
  S : Sec
  l : Int
  img : List UInt8
  N : Nat
  slot : Nat
  dead : Bool
/-- Commit: the answer, and what it leaves -/
def commitS (s : SupS) (bs : List UInt8) : Int × SupS :=
  if s.dead = true then (6, s)
  else if 814 < bs.length ∨ s.N = 1125899906842624 then (3, s)
  else if (layTo s.S s.l (((1 - s.slot : Nat) : Int) * 16) (packI ((s.N : Int) + 1) bs)).1 = 0 then
    (0, { S := (layTo s.S s.l (((1 - s.slot : Nat) : Int) * 16) (packI ((s.N : Int) + 1) bs)).2.1, l := (layTo s.S s.l (((1 - s.slot : Nat) : Int) * 16) (packI ((s.N : Int) + 1) bs)).2.2, img := bs, N := s.N + 1, slot := 1 - s.slot, dead := false })
  else ((layTo s.S s.l (((1 - s.slot : Nat) : Int) * 16) (packI ((s.N : Int) + 1) bs)).1, { s with S := (layTo s.S s.l (((1 - s.slot : Nat) : Int) * 16) (packI ((s.N : Int) + 1) bs)).2.1, l := (layTo s.S s.l (((1 - s.slot : Nat) : Int) * 16) (packI ((s.N : Int) + 1) bs)).2.2, dead := true })
def Sup (w : World) (fp : Nat → Prop) (g gd : Nat) (s : SupS) : Prop := SupAt w fp g gd s.S s.l s.img s.N s.slot s.dead
/-- what a Commit leaves -/
def Committed (w : World) (fp : Nat → Prop) (g gd : Nat) (s : SupS) (bs : List UInt8) (e : Ending) (w' : World) : Prop :=
  e = .returned (.int .i64 (commitS s bs).1) ∧ Sup w' (More fp w w') g gd (commitS s bs).2 ∧ Only fp w w'

theorem ToldAt.drew {w : World} {b N : Nat} {A : Option Addr} {n c : Nat} {img : List UInt8} (h : ToldAt w b N A n c img) : ToldAt w.drew b N A n c img := h
theorem SupP.told {w : World} {fp fI : Nat → Prop} {g gd : Nat} {S : Sec} {l : Int} {img : List UInt8} {N slot : Nat} {dead : Bool} {A : Option Addr} {c : Nat} (h : SupP w fp fI g gd S l img N slot dead A c) : ToldAt w g N A img.length c img := ⟨h.blk.cell 0, h.blk.cell 1, h.bs⟩

set_option maxHeartbeats 1000000 in
theorem commit_still {w : World} {fp : Nat → Prop} {g gd : Nat} {s : SupS} (h : Sup w fp g gd s) (B : Option Addr) (m d : Nat) (bs : List UInt8) (hm : m = bs.length) (hbl : bs.length ≤ maxLen) (hc : s.dead = true ∨ 814 < bs.length ∨ s.N = 1125899906842624) :
    Calls Tryd.prog 19 #[.pointer (some ⟨g, 0, none⟩), .slice B m d] w (Committed w fp g gd s bs) := by
  subst hm
  have hpost : ∀ c, c = (if s.dead = true then (6 : Int) else 3) → Committed w fp g gd s bs (.returned (.int .i64 c)) w := by
    rintro c rfl
    have e : commitS s bs = (if s.dead = true then (6 : Int) else 3, s) := by
      unfold commitS
      by_cases hd : s.dead = true
      · rw [if_pos hd, if_pos hd]
      · rw [if_neg hd, if_neg hd, if_pos (by rcases hc with hc | hc; exact absurd hc hd; exact hc)]
    refine ⟨by rw [e], ?_, Only.refl _ _⟩
    rw [e]
    exact SupAt.mono h (fun k hk _ => .inl hk)
  have Hpost := Lib.hid hpost
  obtain ⟨fI, A, c, h⟩ := h
  have q3 := h.blk.cell 4
  simp only [List.getElem?_toArray, List.getElem?_cons_zero, List.getElem?_cons_succ] at q3
  have hlast := last_any h.told
  have hN := h.hN
  clear hpost h
  obtain ⟨S, l, img, N, slot, dead⟩ := s
  dsimp only at *
  have hbi : (bs.length : Int) ≤ 9223372036854775807 := by unfold maxLen at hbl; omega
  clear hbl
  cases dead with
  | true =>
    have Hp := Lib.hid (Hpost.out 6 rfl)
    clear Hpost hlast hN hc
    go_enter Tryd.func19, Tryd.ntmps19
    go_wp2
    go_ret
    exact Hp.out
  | false =>
    have Hp := Lib.hid (Hpost.out 3 rfl)
    clear Hpost
    by_cases hl : 814 < bs.length
    · have hli : (814 : Int) < (bs.length : Int) := by omega
      clear hlast hN hc
      go_enter Tryd.func19, Tryd.ntmps19
      go_wp2
      go_ret
      exact Hp.out
    · have hli : (bs.length : Int) ≤ 814 := by omega
      have hNe : N = 1125899906842624 := by
        rcases hc with hc | hc | hc
        · cases hc
        · omega
        · exact hc
      have hb : ((N : Int) == 1125899906842624) = true := beq_iff_eq.2 (by omega)
      rw [hb] at hlast
      have Hlast := Lib.hid hlast
      have hdn : decide ((814 : Int) < (bs.length : Int)) = false := decide_eq_false (by omega)
      clear hlast hN hc hNe hb
      go_enter Tryd.func19, Tryd.ntmps19
      go_wp2_with fail
      refine Hlast.out.mono ?_
      rintro e w1 ⟨rfl, rfl⟩
      go_wp2
      go_ret
      exact Hp.out

set_option maxRecDepth 100000 in
set_option maxHeartbeats 2000000 in
theorem commit_go {w : World} {fp : Nat → Prop} {g gd : Nat} {s : SupS} (ht : Tab w) (h : Sup w fp g gd s) (hs : Small 900000 s.S) (B : Option Addr) (m d : Nat) (bs : List UInt8) (hB : Bs w B m d bs) (hd : s.dead = false) (hbl : bs.length ≤ 814) (hN : s.N ≠ 1125899906842624) :
    Calls Tryd.prog 19 #[.pointer (some ⟨g, 0, none⟩), .slice B m d] w (Committed w fp g gd s bs) := by
  have hm := hB.1
  subst hm
  obtain ⟨fI, A, c, h⟩ := h
  obtain ⟨S, l, img, N, slot, dead⟩ := s
  dsimp only at *
  subst hd
  have hlast := last_any h.told
  have hb : ((N : Int) == 1125899906842624) = false := beq_eq_false_iff_ne.2 (by omega)
  rw [hb] at hlast
  have Hlast := Lib.hid hlast
  have q3 := h.blk.cell 3
  have q4 := h.blk.cell 4
  have q2 := h.blk.cell 2
  simp only [List.getElem?_toArray, List.getElem?_cons_zero, List.getElem?_cons_succ] at q2 q3 q4
  have hli : (bs.length : Int) ≤ 814 := by omega
  have hdn : decide ((814 : Int) < (bs.length : Int)) = false := decide_eq_false (by omega)
  have hbeh : ∀ W, Below w.heap.size w W → Calls Tryd.prog 43 #[.pointer (some ⟨g, 0, none⟩), .slice B bs.length d] W fun e w' => ∃ A' c', e = .returned (.agg #[.int .i64 ((N : Int) + 1), .slice A' bs.length c']) ∧ New W w' A' c' bs ∧ Below W.heap.size W w' := fun W hW =>
    behind_any (h.told.ext hW) h.hN B _ d bs (hB.ext hW) hbl
  have Hbeh := Lib.hid hbeh
  have hsl := h.hs
  have hws : IntKind.i64.wrap (1 - (slot : Int)) = 1 - (slot : Int) := by rw [IntKind.wrap_i64]; omega
  have hne := World.new_ne w ⟨g, 3, none⟩ q3
  clear hlast hb hbeh
  go_enter Tryd.func19, Tryd.ntmps19
  go_wp2_with fail
  refine Hlast.out.mono ?_
  rintro e w1 ⟨rfl, rfl⟩
  go_wp2
  go_region_held3 (fun w' => w'.cell? ⟨g, 3, none⟩ = some (.int .i64 (slot : Int))) (first | exact q3 | exact hS1 | go_keep) (first
    | (go_at_call 43; ((with_reducible refine (Hbeh.out _ ?_).mono ?_)); exact ext_drew (Below.refl _ _); rintro e w1 ⟨A1, c1, rfl, hn1, hb1⟩; have hS1 : w1.cell? ⟨g, 3, none⟩ = some (.int .i64 (slot : Int)) := cell_ext (w := w.drew) q3 hb1; have hne1 := World.new_ne w1 ⟨g, 3, none⟩ hS1)
    | (go_at_call 43; ((with_reducible refine (Hbeh.out _ ?_).mono ?_)); exact ext_drew (ext_alloc (Below.refl _ _) _); rintro e w1 ⟨A1, c1, rfl, hn1, hb1⟩; have hS1 : w1.cell? ⟨g, 3, none⟩ = some (.int .i64 (slot : Int)) := cell_ext q3 (ext_trans (ext_drew (ext_alloc (Below.refl _ _) _)) hb1); have hne1 := World.new_ne w1 ⟨g, 3, none⟩ hS1;
        obtain ⟨p0, p1, p2, p3⟩ := ((Blk.drew (Blk.new w 78 #[.int .i64 0, .slice none 0 0])).ext hb1).two))
  · obtain ⟨wx, hwx⟩ : ∃ wx : World, wx = w1.alloc (.cells #[.int .i64 ((N : Int) + 1), .slice A1 bs.length c1] 78) := ⟨_, rfl⟩
    rw [← hwx]
    generalize hb5 : w1.heap.size = b5
    have hbw1 : Below w.heap.size w w1 := ext_trans (ext_drew (Below.refl _ _)) hb1
    have hbx : Below w.heap.size w wx := by rw [hwx]; exact ext_alloc hbw1 _
    have hT5 : ToldAt wx b5 (N + 1) A1 bs.length c1 bs := by
      rw [hwx, ← hb5]
      exact ⟨(Blk.new w1 78 #[.int .i64 ((N : Int) + 1), .slice A1 bs.length c1]).cell 0, (Blk.new w1 _ _).cell 1, hn1.bs.alloc _⟩
    have hlt5 : w.heap.size ≤ b5 ∧ b5 < wx.heap.size := by rw [hwx, ← hb5, World.size_alloc]; exact ⟨hbw1.size, Nat.lt_succ_self _⟩
    have hA1 : ∀ ad, A1 = some ad → w.heap.size ≤ ad.block ∧ ad.block < wx.heap.size := fun ad e => by
      have := hn1.2 ad e
      rw [hwx, World.size_alloc]
      exact ⟨this.1, by omega⟩
    clear hwx hb5 hn1 hb1 hbw1
    clear q3 q4 Hbeh Hlast hdn hli hws hne
    obtain ⟨fI', hfI⟩ : ∃ f : Nat → Prop, f = fun k => fI k ∧ k < w.heap.size := ⟨_, rfl⟩
    have hI' : Imp w fI' gd S l := by rw [hfI]; exact h.imp.mono (fun k hk hl => ⟨hk, hl⟩)
    have hfl : ∀ k, fI' k → fI k ∧ k < w.heap.size := by rw [hfI]; exact fun k hk => hk
    clear hfI
    have hgl := h.blk.lt
    have hsx := hbx.size
    have hrw := rows_any hT5.drew ((ht.ext hbx).drewN 1) (by have := h.hN; omega) (by omega)
    have q2x : wx.cell? ⟨g, 2, none⟩ = some (.pointer (some ⟨gd, 0, none⟩)) := cell_ext q2 hbx
    have Hrw := Lib.hid hrw
    have e1 : ((1 - slot : Nat) : Int) = 1 - (slot : Int) := by omega
    have hNN : ((N + 1 : Nat) : Int) = (N : Int) + 1 := by omega
    rw [hNN] at Hrw
    have hrsl : (packI ((N : Int) + 1) bs).length ≤ 16 := by
      unfold packI
      split
      · rw [packOf_length]; omega
      · simp
    have hcs : ∀ R, layTo S l (((1 - slot : Nat) : Int) * 16) (packI ((N : Int) + 1) bs) = R → commitS ⟨S, l, img, N, slot, false⟩ bs = if R.1 = 0 then (0, ⟨R.2.1, R.2.2, bs, N + 1, 1 - slot, false⟩) else (R.1, ⟨R.2.1, R.2.2, img, N, slot, true⟩) := by
      rintro R rfl
      unfold commitS
      rw [if_neg (by simp), if_neg (by intro h; rcases h with h | h; omega; exact hN h)]
    have hwrs : ∀ (w2 : World) (A2 : Option Addr) (c2 : Nat), Below w.heap.size w w2 → RowsF (fun k => k < wx.heap.size) w2 A2 (packI ((N : Int) + 1) bs) → Calls Tryd.prog 44 #[.pointer (some ⟨gd, 0, none⟩), .int .i64 (1 - (slot : Int)), .slice A2 (packI ((N : Int) + 1) bs).length c2] w2 fun e w3 =>
        ∃ R, layTo S l (((1 - slot : Nat) : Int) * 16) (packI ((N : Int) + 1) bs) = R ∧ e = .returned (.int .i64 R.1) ∧ Imp w3 (More fI' w2 w3) gd R.2.1 R.2.2 ∧ Only fI' w2 w3 := fun w2 A2 c2 hb2 hr2 => by
      have h1 := writeslot_any (hI'.ext hb2) hs (1 - slot) (by omega) A2 _ c2 _ rfl (hr2.weak (fun k hk => by have := (hfl k hk).2; omega)) hrsl
      rw [e1] at h1
      refine h1.mono ?_
      rintro e w3 ⟨rfl, h2, h3⟩
      rw [e1]
      exact ⟨_, rfl, rfl, h2, h3⟩
    have Hwrs := Lib.hid hwrs
    have Hcs := Lib.hid hcs
    clear hrw hwrs hcs hNN e1
    generalize packI ((N : Int) + 1) bs = rs at *
    go_wp2
    go_region_held3 (fun w' => w'.cell? ⟨g, 2, none⟩ = some (.pointer (some ⟨gd, 0, none⟩))) (first | exact q2x | exact hS2 | exact hS3) (first
      | (go_at_call 45; ((with_reducible refine Hrw.out.mono ?_)); rintro e w2 ⟨A2, c2, rfl, hl2, hr2, hb2⟩; have hS2 : w2.cell? ⟨g, 2, none⟩ = some (.pointer (some ⟨gd, 0, none⟩)) := cell_ext (w := wx.drew) q2x hb2)
      | (go_at_call 44; ((with_reducible refine (Hwrs.out _ _ _ ?_ ?_).mono ?_)); exact ext_trans (ext_drew hbx) hb2; exact hr2; rintro e w3 ⟨R, hR, rfl, hI3, ho3⟩; have hS3 : w3.cell? ⟨g, 2, none⟩ = some (.pointer (some ⟨gd, 0, none⟩)) := (World.cell?_of_block (ho3.block g (World.block_lt_of_cell? _ _ hS2) (fun hk => h.ng (hfl _ hk).1))).trans hS2))
    obtain ⟨r1, S2, l2⟩ := R
    have hs2 := hb2.size
    have hs3 := ho3.size
    have hng : ¬ fI' g := fun hk => h.ng (hfl _ hk).1
    have hblk3 : Blk w3 g 80 #[.int .i64 (N : Int), .slice A img.length c, .pointer (some ⟨gd, 0, none⟩), .int .i64 (slot : Int), .bool false] := ((h.blk.ext (ext_drew hbx)).ext hb2).only ho3 hng
    have hb2w : Below w.heap.size w w2 := ext_trans (ext_drew hbx) hb2
    have hT2 := hT5.drew.ext hb2
    have hn5 : ¬ fI' b5 := fun hk => by have := (hfl _ hk).2; omega
    have t0 : w3.cell? ⟨b5, 0, none⟩ = some (.int .i64 ((N : Int) + 1)) := (World.cell?_of_block (ho3.block b5 (by have : wx.drew.heap.size = wx.heap.size := rfl; omega) hn5)).trans hT2.1
    have t1 : w3.cell? ⟨b5, 1, none⟩ = some (.slice A1 bs.length c1) := (World.cell?_of_block (ho3.block b5 (by have : wx.drew.heap.size = wx.heap.size := rfl; omega) hn5)).trans hT2.2.1
    have hbs3 : Bs w3 A1 bs.length c1 bs := ⟨rfl, hT2.2.2.2.1, hT2.2.2.2.2.only ho3 (fun ad e _ hk => by have := (hfl _ hk).2; have := (hA1 ad e).1; omega)⟩
    have hng3 : ¬ More fI' w2 w3 g := fun hk => by
      rcases hk with hk | hk
      · exact hng hk
      · have := hk.1
        have : wx.drew.heap.size = wx.heap.size := rfl
        omega
    have hO3 : Only fp w w3 := (Only.of_ext (S := fp) hb2w).trans ho3 (fun k _ hk => h.sub k (hfl k hk).1)
    have hsub : ∀ (W : World), w3.heap.size ≤ W.heap.size → ∀ k, More fI' w2 w3 k → More fp w W k := fun W hW k hk => by
      rcases hk with hk | hk
      · exact .inl (h.sub k (hfl k hk).1)
      · exact .inr ⟨by have := hb2w.size; omega, by omega⟩
    have hgood : Committed w fp g gd ⟨S, l, img, N, slot, false⟩ bs (.returned (.int .i64 r1)) (if r1 = 0 then ((w3.setCell ⟨g, 0, none⟩ (.int .i64 ((N : Int) + 1))).setCell ⟨g, 1, none⟩ (.slice A1 bs.length c1)).setCell ⟨g, 3, none⟩ (.int .i64 (1 - (slot : Int))) else w3.setCell ⟨g, 4, none⟩ (.bool true)) := by
      have hc := Hcs.out _ hR
      dsimp only at hc
      have e1 : ((1 - slot : Nat) : Int) = 1 - (slot : Int) := by have := h.hs; omega
      by_cases h0 : r1 = 0
      · rw [if_pos h0] at hc ⊢
        have hsz : (((w3.setCell ⟨g, 0, none⟩ (.int .i64 ((N : Int) + 1))).setCell ⟨g, 1, none⟩ (.slice A1 bs.length c1)).setCell ⟨g, 3, none⟩ (.int .i64 (1 - (slot : Int)))).heap.size = w3.heap.size := by simp [World.setCell]
        have hog : Only (fun k => k = g) w3 (((w3.setCell ⟨g, 0, none⟩ (.int .i64 ((N : Int) + 1))).setCell ⟨g, 1, none⟩ (.slice A1 bs.length c1)).setCell ⟨g, 3, none⟩ (.int .i64 (1 - (slot : Int)))) :=
          (((Only.refl (fun k => k = g) w3).setCell (p := ⟨g, 0, none⟩) (.inl rfl) _).setCell (p := ⟨g, 1, none⟩) (.inl rfl) _).setCell (p := ⟨g, 3, none⟩) (.inl rfl) _
        have hput := ((hblk3.put 0 (.int .i64 ((N : Int) + 1))).put 1 (.slice A1 bs.length c1)).put 3 (.int .i64 (1 - (slot : Int)))
        refine ⟨by rw [hc, h0], ?_, hO3.trans hog (fun k _ hk => by rw [hk]; exact h.fg)⟩
        rw [hc]
        refine ⟨More fI' w2 w3, A1, c1, ?_⟩
        exact {
          imp := hI3.only hog (fun k hk e => hng3 (e ▸ hk))
          sub := hsub _ (by rw [hsz]; exact Nat.le_refl _)
          fg := .inl h.fg
          ng := hng3
          blk := by
            rw [e1]
            exact hput
          bs := ⟨rfl, hbs3.2.1, hbs3.2.2.only hog (fun ad e _ hk => by have := (hA1 ad e).1; omega)⟩
          fA := fun ad e => by
            have h1 := hA1 ad e
            have hdx : wx.drew.heap.size = wx.heap.size := rfl
            refine ⟨.inr ⟨h1.1, by rw [hsz]; omega⟩, fun hk => ?_, by omega, by rw [hsz]; omega⟩
            rcases hk with hk | hk
            · have := (hfl _ hk).2; omega
            · have := hk.1; omega
          hN := by have := h.hN; show N + 1 ≤ _; omega
          hs := by show 1 - slot ≤ 1; omega
          hi := hbl }
      · rw [if_neg h0] at hc ⊢
        have hsz : (w3.setCell ⟨g, 4, none⟩ (.bool true)).heap.size = w3.heap.size := by simp [World.setCell]
        have hog : Only (fun k => k = g) w3 (w3.setCell ⟨g, 4, none⟩ (.bool true)) := (Only.refl (fun k => k = g) w3).setCell (p := ⟨g, 4, none⟩) (.inl rfl) _
        have hput := hblk3.put 4 (.bool true)
        refine ⟨by rw [hc], ?_, hO3.trans hog (fun k _ hk => by rw [hk]; exact h.fg)⟩
        rw [hc]
        refine ⟨More fI' w2 w3, A, c, ?_⟩
        exact {
          imp := hI3.only hog (fun k hk e => hng3 (e ▸ hk))
          sub := hsub _ (by rw [hsz]; exact Nat.le_refl _)
          fg := .inl h.fg
          ng := hng3
          blk := hput
          bs := ⟨rfl, h.bs.2.1, (((h.bs.2.2.ext hb2w).only ho3 (fun ad e _ hk => (h.fA ad e).2.1 (hfl _ hk).1)).only hog (fun ad e _ hk => (h.fA ad e).2.2.1 hk))⟩
          fA := fun ad e => by
            have h1 := h.fA ad e
            have hdx : wx.drew.heap.size = wx.heap.size := rfl
            refine ⟨.inl h1.1, fun hk => ?_, h1.2.2.1, by rw [hsz]; omega⟩
            rcases hk with hk | hk
            · exact h1.2.1 (hfl _ hk).1
            · have := hk.1; omega
          hN := h.hN
          hs := h.hs
          hi := h.hi }
    have Hgood := Lib.hid hgood
    have k0 := hblk3.cell 0
    have k1 := hblk3.cell 1
    have k3 := hblk3.cell 3
    have k4 := hblk3.cell 4
    have f0 := hblk3.free 0
    have f1 := hblk3.free 1
    have f3 := hblk3.free 3
    have f4 := hblk3.free 4
    simp only [List.getElem?_toArray, List.getElem?_cons_zero, List.getElem?_cons_succ] at k0 k1 k3 k4
    have hw3 : w3.cell? ⟨g, 2, none⟩ = some (.pointer (some ⟨gd, 0, none⟩)) := hS3
    clear hgood hsub hO3 hng3 hbs3 hT2 hT5 hI3 ho3 hb2 hbx hR Hcs Hwrs Hrw hblk3 hA1 hfl hI' hs2 hs3 hsx hlt5 hgl hng hn5 hb2w hr2 hrsl hl2 hS2 q2x hB h hN hs
    by_cases h0 : r1 = 0
    · subst h0
      have Hg := Hgood.out
      rw [if_pos rfl] at Hg
      have HG := Lib.hid Hg
      clear Hgood Hg
      go_wp2
      go_ret
      exact HG.out
    · have hb0 : (r1 == 0) = false := beq_eq_false_iff_ne.2 h0
      have Hg := Hgood.out
      rw [if_neg h0] at Hg
      have HG := Lib.hid Hg
      clear Hgood Hg h0
      go_wp2
      go_ret
      exact HG.out
  · obtain ⟨wx, hwx⟩ : ∃ wx : World, wx = (w1.setCell ⟨w.heap.size, 0, none⟩ (.int .i64 ((N : Int) + 1))).setCell ⟨w.heap.size, 1, none⟩ (.slice A1 bs.length c1) := ⟨_, rfl⟩
    rw [← hwx]
    generalize hb5 : w.heap.size = b5
    have hbw1 : Below w.heap.size w w1 := ext_trans (ext_drew (ext_alloc (Below.refl _ _) _)) hb1
    have hbx : Below w.heap.size w wx := by rw [hwx]; exact (hbw1.setCell (p := ⟨w.heap.size, 0, none⟩) (Nat.le_refl _) _).setCell (p := ⟨w.heap.size, 1, none⟩) (Nat.le_refl _) _
    have hblk1 := (Blk.drew (Blk.new w 78 #[.int .i64 0, .slice none 0 0])).ext hb1
    have hdz : (w.alloc (.cells #[.int .i64 0, .slice none 0 0] 78)).drew.heap.size = w.heap.size + 1 := by
      show (w.alloc _).heap.size = _
      rw [World.size_alloc]
    have hA1' : ∀ ad, A1 = some ad → w.heap.size + 1 ≤ ad.block ∧ ad.block < w1.heap.size := fun ad e => by
      have := hn1.2 ad e
      exact ⟨by omega, this.2⟩
    have hT5 : ToldAt wx b5 (N + 1) A1 bs.length c1 bs := by
      rw [hwx, ← hb5]
      exact ⟨((hblk1.put 0 _).put 1 _).cell 0, ((hblk1.put 0 _).put 1 _).cell 1, (hn1.bs.far (p := ⟨w.heap.size, 0, none⟩) (fun ad e => by have := (hA1' ad e).1; show ad.block ≠ w.heap.size; omega) _).far (p := ⟨w.heap.size, 1, none⟩) (fun ad e => by have := (hA1' ad e).1; show ad.block ≠ w.heap.size; omega) _⟩
    have hzx : wx.heap.size = w1.heap.size := by rw [hwx]; simp [World.setCell]
    have hlt5 : w.heap.size ≤ b5 ∧ b5 < wx.heap.size := by rw [hzx, ← hb5]; exact ⟨Nat.le_refl _, hblk1.lt⟩
    have hA1 : ∀ ad, A1 = some ad → w.heap.size ≤ ad.block ∧ ad.block < wx.heap.size := fun ad e => by
      have := hA1' ad e
      rw [hzx]
      exact ⟨by omega, this.2⟩
    clear hwx hb5 hn1 hb1 hbw1 hblk1 hdz hA1' hzx p0 p1 p2 p3
    clear q3 q4 Hbeh Hlast hdn hli hws hne
    obtain ⟨fI', hfI⟩ : ∃ f : Nat → Prop, f = fun k => fI k ∧ k < w.heap.size := ⟨_, rfl⟩
    have hI' : Imp w fI' gd S l := by rw [hfI]; exact h.imp.mono (fun k hk hl => ⟨hk, hl⟩)
    have hfl : ∀ k, fI' k → fI k ∧ k < w.heap.size := by rw [hfI]; exact fun k hk => hk
    clear hfI
    have hgl := h.blk.lt
    have hsx := hbx.size
    have hrw := rows_any hT5.drew ((ht.ext hbx).drewN 1) (by have := h.hN; omega) (by omega)
    have q2x : wx.cell? ⟨g, 2, none⟩ = some (.pointer (some ⟨gd, 0, none⟩)) := cell_ext q2 hbx
    have Hrw := Lib.hid hrw
    have e1 : ((1 - slot : Nat) : Int) = 1 - (slot : Int) := by omega
    have hNN : ((N + 1 : Nat) : Int) = (N : Int) + 1 := by omega
    rw [hNN] at Hrw
    have hrsl : (packI ((N : Int) + 1) bs).length ≤ 16 := by
      unfold packI
      split
      · rw [packOf_length]; omega
      · simp
    have hcs : ∀ R, layTo S l (((1 - slot : Nat) : Int) * 16) (packI ((N : Int) + 1) bs) = R → commitS ⟨S, l, img, N, slot, false⟩ bs = if R.1 = 0 then (0, ⟨R.2.1, R.2.2, bs, N + 1, 1 - slot, false⟩) else (R.1, ⟨R.2.1, R.2.2, img, N, slot, true⟩) := by
      rintro R rfl
      unfold commitS
      rw [if_neg (by simp), if_neg (by intro h; rcases h with h | h; omega; exact hN h)]
    have hwrs : ∀ (w2 : World) (A2 : Option Addr) (c2 : Nat), Below w.heap.size w w2 → RowsF (fun k => k < wx.heap.size) w2 A2 (packI ((N : Int) + 1) bs) → Calls Tryd.prog 44 #[.pointer (some ⟨gd, 0, none⟩), .int .i64 (1 - (slot : Int)), .slice A2 (packI ((N : Int) + 1) bs).length c2] w2 fun e w3 =>
        ∃ R, layTo S l (((1 - slot : Nat) : Int) * 16) (packI ((N : Int) + 1) bs) = R ∧ e = .returned (.int .i64 R.1) ∧ Imp w3 (More fI' w2 w3) gd R.2.1 R.2.2 ∧ Only fI' w2 w3 := fun w2 A2 c2 hb2 hr2 => by
      have h1 := writeslot_any (hI'.ext hb2) hs (1 - slot) (by omega) A2 _ c2 _ rfl (hr2.weak (fun k hk => by have := (hfl k hk).2; omega)) hrsl
      rw [e1] at h1
      refine h1.mono ?_
      rintro e w3 ⟨rfl, h2, h3⟩
      rw [e1]
      exact ⟨_, rfl, rfl, h2, h3⟩
    have Hwrs := Lib.hid hwrs
    have Hcs := Lib.hid hcs
    clear hrw hwrs hcs hNN e1
    generalize packI ((N : Int) + 1) bs = rs at *
    go_wp2
    go_region_held3 (fun w' => w'.cell? ⟨g, 2, none⟩ = some (.pointer (some ⟨gd, 0, none⟩))) (first | exact q2x | exact hS2 | exact hS3) (first
      | (go_at_call 45; ((with_reducible refine Hrw.out.mono ?_)); rintro e w2 ⟨A2, c2, rfl, hl2, hr2, hb2⟩; have hS2 : w2.cell? ⟨g, 2, none⟩ = some (.pointer (some ⟨gd, 0, none⟩)) := cell_ext (w := wx.drew) q2x hb2)
      | (go_at_call 44; ((with_reducible refine (Hwrs.out _ _ _ ?_ ?_).mono ?_)); exact ext_trans (ext_drew hbx) hb2; exact hr2; rintro e w3 ⟨R, hR, rfl, hI3, ho3⟩; have hS3 : w3.cell? ⟨g, 2, none⟩ = some (.pointer (some ⟨gd, 0, none⟩)) := (World.cell?_of_block (ho3.block g (World.block_lt_of_cell? _ _ hS2) (fun hk => h.ng (hfl _ hk).1))).trans hS2))
    obtain ⟨r1, S2, l2⟩ := R
    have hs2 := hb2.size
    have hs3 := ho3.size
    have hng : ¬ fI' g := fun hk => h.ng (hfl _ hk).1
    have hblk3 : Blk w3 g 80 #[.int .i64 (N : Int), .slice A img.length c, .pointer (some ⟨gd, 0, none⟩), .int .i64 (slot : Int), .bool false] := ((h.blk.ext (ext_drew hbx)).ext hb2).only ho3 hng
    have hb2w : Below w.heap.size w w2 := ext_trans (ext_drew hbx) hb2
    have hT2 := hT5.drew.ext hb2
    have hn5 : ¬ fI' b5 := fun hk => by have := (hfl _ hk).2; omega
    have t0 : w3.cell? ⟨b5, 0, none⟩ = some (.int .i64 ((N : Int) + 1)) := (World.cell?_of_block (ho3.block b5 (by have : wx.drew.heap.size = wx.heap.size := rfl; omega) hn5)).trans hT2.1
    have t1 : w3.cell? ⟨b5, 1, none⟩ = some (.slice A1 bs.length c1) := (World.cell?_of_block (ho3.block b5 (by have : wx.drew.heap.size = wx.heap.size := rfl; omega) hn5)).trans hT2.2.1
    have hbs3 : Bs w3 A1 bs.length c1 bs := ⟨rfl, hT2.2.2.2.1, hT2.2.2.2.2.only ho3 (fun ad e _ hk => by have := (hfl _ hk).2; have := (hA1 ad e).1; omega)⟩
    have hng3 : ¬ More fI' w2 w3 g := fun hk => by
      rcases hk with hk | hk
      · exact hng hk
      · have := hk.1
        have : wx.drew.heap.size = wx.heap.size := rfl
        omega
    have hO3 : Only fp w w3 := (Only.of_ext (S := fp) hb2w).trans ho3 (fun k _ hk => h.sub k (hfl k hk).1)
    have hsub : ∀ (W : World), w3.heap.size ≤ W.heap.size → ∀ k, More fI' w2 w3 k → More fp w W k := fun W hW k hk => by
      rcases hk with hk | hk
      · exact .inl (h.sub k (hfl k hk).1)
      · exact .inr ⟨by have := hb2w.size; omega, by omega⟩
    have hgood : Committed w fp g gd ⟨S, l, img, N, slot, false⟩ bs (.returned (.int .i64 r1)) (if r1 = 0 then ((w3.setCell ⟨g, 0, none⟩ (.int .i64 ((N : Int) + 1))).setCell ⟨g, 1, none⟩ (.slice A1 bs.length c1)).setCell ⟨g, 3, none⟩ (.int .i64 (1 - (slot : Int))) else w3.setCell ⟨g, 4, none⟩ (.bool true)) := by
      have hc := Hcs.out _ hR
      dsimp only at hc
      have e1 : ((1 - slot : Nat) : Int) = 1 - (slot : Int) := by have := h.hs; omega
      by_cases h0 : r1 = 0
      · rw [if_pos h0] at hc ⊢
        have hsz : (((w3.setCell ⟨g, 0, none⟩ (.int .i64 ((N : Int) + 1))).setCell ⟨g, 1, none⟩ (.slice A1 bs.length c1)).setCell ⟨g, 3, none⟩ (.int .i64 (1 - (slot : Int)))).heap.size = w3.heap.size := by simp [World.setCell]
        have hog : Only (fun k => k = g) w3 (((w3.setCell ⟨g, 0, none⟩ (.int .i64 ((N : Int) + 1))).setCell ⟨g, 1, none⟩ (.slice A1 bs.length c1)).setCell ⟨g, 3, none⟩ (.int .i64 (1 - (slot : Int)))) :=
          (((Only.refl (fun k => k = g) w3).setCell (p := ⟨g, 0, none⟩) (.inl rfl) _).setCell (p := ⟨g, 1, none⟩) (.inl rfl) _).setCell (p := ⟨g, 3, none⟩) (.inl rfl) _
        have hput := ((hblk3.put 0 (.int .i64 ((N : Int) + 1))).put 1 (.slice A1 bs.length c1)).put 3 (.int .i64 (1 - (slot : Int)))
        refine ⟨by rw [hc, h0], ?_, hO3.trans hog (fun k _ hk => by rw [hk]; exact h.fg)⟩
        rw [hc]
        refine ⟨More fI' w2 w3, A1, c1, ?_⟩
        exact {
          imp := hI3.only hog (fun k hk e => hng3 (e ▸ hk))
          sub := hsub _ (by rw [hsz]; exact Nat.le_refl _)
          fg := .inl h.fg
          ng := hng3
          blk := by
            rw [e1]
            exact hput
          bs := ⟨rfl, hbs3.2.1, hbs3.2.2.only hog (fun ad e _ hk => by have := (hA1 ad e).1; omega)⟩
          fA := fun ad e => by
            have h1 := hA1 ad e
            have hdx : wx.drew.heap.size = wx.heap.size := rfl
            refine ⟨.inr ⟨h1.1, by rw [hsz]; omega⟩, fun hk => ?_, by omega, by rw [hsz]; omega⟩
            rcases hk with hk | hk
            · have := (hfl _ hk).2; omega
            · have := hk.1; omega
          hN := by have := h.hN; show N + 1 ≤ _; omega
          hs := by show 1 - slot ≤ 1; omega
          hi := hbl }
      · rw [if_neg h0] at hc ⊢
        have hsz : (w3.setCell ⟨g, 4, none⟩ (.bool true)).heap.size = w3.heap.size := by simp [World.setCell]
        have hog : Only (fun k => k = g) w3 (w3.setCell ⟨g, 4, none⟩ (.bool true)) := (Only.refl (fun k => k = g) w3).setCell (p := ⟨g, 4, none⟩) (.inl rfl) _
        have hput := hblk3.put 4 (.bool true)
        refine ⟨by rw [hc], ?_, hO3.trans hog (fun k _ hk => by rw [hk]; exact h.fg)⟩
        rw [hc]
        refine ⟨More fI' w2 w3, A, c, ?_⟩
        exact {
          imp := hI3.only hog (fun k hk e => hng3 (e ▸ hk))
          sub := hsub _ (by rw [hsz]; exact Nat.le_refl _)
          fg := .inl h.fg
          ng := hng3
          blk := hput
          bs := ⟨rfl, h.bs.2.1, (((h.bs.2.2.ext hb2w).only ho3 (fun ad e _ hk => (h.fA ad e).2.1 (hfl _ hk).1)).only hog (fun ad e _ hk => (h.fA ad e).2.2.1 hk))⟩
          fA := fun ad e => by
            have h1 := h.fA ad e
            have hdx : wx.drew.heap.size = wx.heap.size := rfl
            refine ⟨.inl h1.1, fun hk => ?_, h1.2.2.1, by rw [hsz]; omega⟩
            rcases hk with hk | hk
            · exact h1.2.1 (hfl _ hk).1
            · have := hk.1; omega
          hN := h.hN
          hs := h.hs
          hi := h.hi }
    have Hgood := Lib.hid hgood
    have k0 := hblk3.cell 0
    have k1 := hblk3.cell 1
    have k3 := hblk3.cell 3
    have k4 := hblk3.cell 4
    have f0 := hblk3.free 0
    have f1 := hblk3.free 1
    have f3 := hblk3.free 3
    have f4 := hblk3.free 4
    simp only [List.getElem?_toArray, List.getElem?_cons_zero, List.getElem?_cons_succ] at k0 k1 k3 k4
    have hw3 : w3.cell? ⟨g, 2, none⟩ = some (.pointer (some ⟨gd, 0, none⟩)) := hS3
    clear hgood hsub hO3 hng3 hbs3 hT2 hT5 hI3 ho3 hb2 hbx hR Hcs Hwrs Hrw hblk3 hA1 hfl hI' hs2 hs3 hsx hlt5 hgl hng hn5 hb2w hr2 hrsl hl2 hS2 q2x hB h hN hs
    by_cases h0 : r1 = 0
    · subst h0
      have Hg := Hgood.out
      rw [if_pos rfl] at Hg
      have HG := Lib.hid Hg
      clear Hgood Hg
      go_wp2
      go_ret
      exact HG.out
    · have hb0 : (r1 == 0) = false := beq_eq_false_iff_ne.2 h0
      have Hg := Hgood.out
      rw [if_neg h0] at Hg
      have HG := Lib.hid Hg
      clear Hgood Hg h0
      go_wp2
      go_ret
      exact HG.out
end Go.Proofs.YtlpjeopeboemmaaDoor
