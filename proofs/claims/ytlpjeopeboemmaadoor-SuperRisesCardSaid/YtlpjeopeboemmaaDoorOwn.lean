/-
  A Super of the law's own, apart from guarded blocks ('OwnG'); the methods in these words. No statement of the seat is proved here.
-/
import Derived.Test.YtlpjeopeboemmaaDoorStep
namespace Go.Proofs.YtlpjeopeboemmaaDoor
open Go Go.RowKit

/-- what was born since the law began, apart from 'G' -/
def Far (W w : World) (G : Nat → Prop) : Nat → Prop := fun k => Born W w k ∧ ¬ G k
structure OwnG (W w : World) (G : Nat → Prop) (g gd : Nat) (s : SupS) : Prop where
  sup : Sup w (Far W w G) g gd s
  gb : ∀ k, G k → Born W w k
  bel : Below W.heap.size W w
  tab : Tab W
/-- a disk, likewise -/
structure OwnD (W w : World) (G : Nat → Prop) (gd : Nat) (S : Sec) (l : Int) : Prop where
  imp : Imp w (Far W w G) gd S l
  gb : ∀ k, G k → Born W w k
  bel : Below W.heap.size W w
  tab : Tab W

section
variable {W w w' : World} {G : Nat → Prop} {g gd : Nat} {s s' : SupS} {S S' : Sec} {l l' : Int}
theorem far_more (hb : Below W.heap.size W w) (hg : ∀ k, G k → Born W w k) (hz : w.heap.size ≤ w'.heap.size) (k : Nat) (hk : More (Far W w G) w w' k) : Far W w' G k := by
  have := hb.size
  rcases hk with ⟨⟨h1, h2⟩, h3⟩ | ⟨h1, h2⟩
  · exact ⟨⟨h1, by omega⟩, h3⟩
  · exact ⟨⟨by omega, h2⟩, fun hk => by have := (hg k hk).2; omega⟩
theorem far_below (hb : Below W.heap.size W w) (ho : Only (Far W w G) w w') : Below W.heap.size W w' := hb.trans (ho.below (fun _ hk => hk.1.1) hb.size)
theorem gb_more (hg : ∀ k, G k → Born W w k) (hz : w.heap.size ≤ w'.heap.size) (k : Nat) (hk : G k) : Born W w' k := ⟨(hg k hk).1, by have := (hg k hk).2; omega⟩
theorem OwnG.step (h : OwnG W w G g gd s) (h1 : Sup w' (More (Far W w G) w w') g gd s') (ho : Only (Far W w G) w w') : OwnG W w' G g gd s' ∧ Only (fun k => ¬ G k) w w' :=
  ⟨⟨SupAt.mono h1 (fun k hk _ => far_more h.bel h.gb ho.size k hk), gb_more h.gb ho.size, far_below h.bel ho, h.tab⟩, ho.mono (fun _ _ hk => hk.2)⟩
theorem OwnD.step (h : OwnD W w G gd S l) (h1 : Imp w' (More (Far W w G) w w') gd S' l') (ho : Only (Far W w G) w w') : OwnD W w' G gd S' l' ∧ Only (fun k => ¬ G k) w w' :=
  ⟨⟨h1.mono (fun k hk _ => far_more h.bel h.gb ho.size k hk), gb_more h.gb ho.size, far_below h.bel ho, h.tab⟩, ho.mono (fun _ _ hk => hk.2)⟩
theorem OwnG.ext (h : OwnG W w G g gd s) (hb : Below w.heap.size w w') : OwnG W w' G g gd s :=
  ⟨(SupAt.ext h.sup hb).mono (fun k hk _ => ⟨⟨hk.1.1, by have := hk.1.2; have := hb.size; omega⟩, hk.2⟩), gb_more h.gb hb.size, ext_trans h.bel hb, h.tab⟩
theorem OwnD.ext (h : OwnD W w G gd S l) (hb : Below w.heap.size w w') : OwnD W w' G gd S l :=
  ⟨(h.imp.ext hb).mono (fun k hk _ => ⟨⟨hk.1.1, by have := hk.1.2; have := hb.size; omega⟩, hk.2⟩), gb_more h.gb hb.size, ext_trans h.bel hb, h.tab⟩
theorem OwnG.disk (h : OwnG W w G g gd s) : OwnD W w G gd s.S s.l := ⟨SupAt.impd h.sup, h.gb, h.bel, h.tab⟩
theorem OwnG.tb (h : OwnG W w G g gd s) : Tab w := h.tab.ext h.bel
theorem OwnD.tb (h : OwnD W w G gd S l) : Tab w := h.tab.ext h.bel
/-- a store to a guarded block -/
theorem OwnG.put (h : OwnG W w G g gd s) {p : Addr} (hp : G p.block) (u : Value) : OwnG W (w.setCell p u) G g gd s := by
  have ho : Only (fun k => k = p.block) w (w.setCell p u) := (Only.refl (fun k => k = p.block) w).setCell (.inl rfl) u
  refine ⟨(SupAt.only h.sup ho (fun k hk e => hk.2 (e ▸ hp))).mono (fun k hk _ => ⟨⟨hk.1.1, by have := hk.1.2; have := ho.size; omega⟩, hk.2⟩), gb_more h.gb ho.size, h.bel.trans (ho.below (fun k e => by have := (h.gb _ hp).1; omega) h.bel.size), h.tab⟩

theorem g_commit (h : OwnG W w G g gd s) (hs : Small 900000 s.S) (B : Option Addr) (m d : Nat) (bs : List UInt8) (hB : Bs w B m d bs) (hbl : bs.length ≤ maxLen) :
    Calls Tryd.prog 19 #[.pointer (some ⟨g, 0, none⟩), .slice B m d] w fun e w' => e = .returned (.int .i64 (commitS s bs).1) ∧ OwnG W w' G g gd (commitS s bs).2 ∧ Only (fun k => ¬ G k) w w' := by
  refine (commit_any h.tb h.sup hs B m d bs hB hbl).mono ?_
  rintro e w' ⟨rfl, h1, h2⟩
  exact ⟨rfl, h.step h1 h2⟩
theorem g_image (h : OwnG W w G g gd s) :
    Calls Tryd.prog 15 #[.pointer (some ⟨g, 0, none⟩)] w fun e w' => ∃ A c, e = .returned (.slice A s.img.length c) ∧ Bs w' A s.img.length c s.img ∧ OwnG W w' G g gd s ∧ Below w.heap.size w w' := by
  refine (image_any h.sup).mono ?_
  rintro e w' ⟨A, c, rfl, hn, hb⟩
  exact ⟨A, c, rfl, hn.bs, h.ext hb, hb⟩
theorem g_open (h : OwnD W w G gd S l) (hs : Small 1000000 S) (h32 : 32 ≤ S.length) {img : List UInt8} {N slot : Nat} (hT : Tells (lasts S) img N slot) :
    Calls Tryd.prog 22 #[.pointer (some ⟨gd, 0, none⟩)] w fun e w' => ∃ g, e = .returned (.tuple #[.pointer (some ⟨g, 0, none⟩), .int .i64 0]) ∧ OwnG W w' G g gd ⟨S, l, img, N, slot, false⟩ ∧ Below w.heap.size w w' := by
  refine (open_any h.tb h.imp hs h32).mono ?_
  rintro e w' ⟨h1, h2⟩
  obtain ⟨t1, t2, t3⟩ := hT
  rw [tell_lasts, most_lasts] at h2
  rcases h2 with ⟨h2, _⟩ | ⟨_, g, rfl, _, h3⟩
  · omega
  · rw [t2, t3] at h3
    exact ⟨g, rfl, ⟨SupAt.mono h3 (fun k hk _ => far_more h.bel h.gb h1.size k hk), gb_more h.gb h1.size, ext_trans h.bel h1, h.tab⟩, h1⟩
theorem g_fuse (h : OwnG W w G g gd s) (n : Int) (hn : isInt n) :
    Calls Tryd.prog 20 #[.pointer (some ⟨gd, 0, none⟩), .int .i64 n] w fun e w' => e = .returned (.tuple #[]) ∧ OwnG W w' G g gd { s with l := max n (-1) } ∧ Only (fun k => ¬ G k) w w' := by
  obtain ⟨fI, A, c, hp⟩ := h.sup
  refine (fuse_all hp.imp n hn).mono ?_
  rintro e w' ⟨rfl, h1, h2⟩
  refine ⟨rfl, h.step (s' := { s with l := max n (-1) }) ?_ (h2.mono (fun k _ hk => hp.sub k hk))⟩
  have hz := h2.size
  exact ⟨More fI w w', A, c, {
    imp := h1
    sub := fun k hk => hk.imp (fun x => hp.sub k x) id
    fg := .inl hp.fg
    ng := fun hk => by
      rcases hk with hk | hk
      · exact hp.ng hk
      · have := hp.blk.lt; omega
    blk := hp.blk.only h2 hp.ng
    bs := ⟨rfl, hp.bs.2.1, hp.bs.2.2.only h2 (fun ad e _ => (hp.fA ad e).2.1)⟩
    fA := fun ad e => ⟨.inl (hp.fA ad e).1, fun hk => by
      rcases hk with hk | hk
      · exact (hp.fA ad e).2.1 hk
      · have := (hp.fA ad e).2.2.2; omega, (hp.fA ad e).2.2.1, by have := (hp.fA ad e).2.2.2; omega⟩
    hN := hp.hN
    hs := hp.hs
    hi := hp.hi }⟩
theorem g_crash (h : OwnD W w G gd S l) (hs : Small 1000000 S) (P : Option Addr) (n cp : Nat) (ps : List Int) (hn : n = ps.length) (hp : Rd W P (ps.map iv)) (hpi : ∀ x ∈ ps, isInt x) :
    Calls Tryd.prog 21 #[.pointer (some ⟨gd, 0, none⟩), .slice P n cp] w fun e w' => e = .returned (.tuple #[]) ∧ OwnD W w' G gd (crashS S ps) (-1) ∧ Only (fun k => ¬ G k) w w' := by
  refine (crash_all h.imp hs P n cp ps hn ((rdF_born (w1 := w) hp h.bel).weak (fun k hk => hk.1)) hpi).mono ?_
  rintro e w' ⟨rfl, h1, h2⟩
  exact ⟨rfl, h.step h1 h2⟩
end

/-! ### Alive or cut short -/
theorem Alive.fuse {s : SupS} (h : Alive s) (n : Int) : Alive { s with l := max n (-1) } := ⟨h.dead, h.one, h.len, h.tells, by show -1 ≤ max n (-1); omega⟩
theorem Cut.fuse {s : SupS} {bs : List UInt8} {N : Nat} (h : Cut s bs N) (n : Int) : Cut { s with l := max n (-1) } bs N := ⟨h.dead, h.ne, h.len, by show -1 ≤ max n (-1); omega, h.small, h.tells⟩
theorem Alive.crash {s : SupS} (h : Alive s) (ps : List Int) : Alive ⟨crashS s.S ps, -1, s.img, s.N, s.slot, false⟩ := by
  rw [crash_of_single h.one]
  exact ⟨rfl, h.one, h.len, h.tells, by show (-1 : Int) ≤ -1; omega⟩
theorem Cut.crash {s : SupS} {bs : List UInt8} {N : Nat} (h : Cut s bs N) (ps : List Int) : ∃ M k img, N ≤ M ∧ (img = s.img ∨ img = bs) ∧ Alive ⟨crashS s.S ps, -1, img, M, k, false⟩ := by
  obtain ⟨M, k, hM, ht⟩ := h.tells ps
  have hlen : 32 ≤ (crashS s.S ps).length := by rw [crashS_length]; exact h.len
  rcases ht with ht | ht
  · exact ⟨M, k, _, hM, .inl rfl, ⟨rfl, crash_single h.ne ps, hlen, ht, by show (-1 : Int) ≤ -1; omega⟩⟩
  · exact ⟨M, k, _, hM, .inr rfl, ⟨rfl, crash_single h.ne ps, hlen, ht, by show (-1 : Int) ≤ -1; omega⟩⟩
end Go.Proofs.YtlpjeopeboemmaaDoor
