/-
  The contracts of what a slot tells: rows, behind; of writeSlot. No statement of the seat is proved here.
-/
import Derived.Test.YtlpjeopeboemmaaDoorSlot
namespace Go.Proofs.YtlpjeopeboemmaaDoor
open Go Go.RowKit

theorem cell_ext {w w' : World} {a : Addr} {v : Value} (h : w.cell? a = some v) (hb : Below w.heap.size w w') : w'.cell? a = some v :=
  (World.cell?_of_block (hb.block _ (World.block_lt_of_cell? w _ h))).trans h
theorem ToldAt.ext {w w' : World} {b N : Nat} {A : Option Addr} {n c : Nat} {img : List UInt8} (h : ToldAt w b N A n c img) (hb : Below w.heap.size w w') : ToldAt w' b N A n c img := ⟨cell_ext h.1 hb, cell_ext h.2.1 hb, h.2.2.ext hb⟩

set_option maxHeartbeats 2000000 in
theorem rows_any {w : World} {b N : Nat} {A : Option Addr} {n c : Nat} {img : List UInt8} (h : ToldAt w b N A n c img) (ht : Tab w) (hN : N ≤ 1125899906842625) (hi : img.length ≤ 1099511627776) :
    Calls Tryd.prog 45 #[.pointer (some ⟨b, 0, none⟩)] w fun e w' => ∃ A' c', e = .returned (.slice A' (packI (N : Int) img).length c') ∧ (packI (N : Int) img).length ≤ c' ∧ RowsF (fun k => k < w.heap.size) w' A' (packI (N : Int) img) ∧ Below w.heap.size w w' := by
  obtain ⟨h0, h1, h2⟩ := h
  have hp := pack_any (N : Int) A n c img w.drew (ht.drewN 1) (by unfold isInt; omega) h2.drew hi
  have Hp := Lib.hid hp
  clear hp
  generalize packI (N : Int) img = rs at *
  go_enter Tryd.func45, Tryd.ntmps45
  go_wp2
  go_region_held3 (fun w' => w'.cell? ⟨b, 0, none⟩ = some (.int .i64 (N : Int)) ∧ w'.cell? ⟨b, 1, none⟩ = some (.slice A n c)) (first | exact ⟨h0, h1⟩ | exact hS1) (first
    | (go_at_call 23; ((with_reducible refine Hp.out.mono ?_)); rintro e w1 ⟨A1, c1, rfl, hl1, hr1, hb1⟩; have hS1 : w1.cell? ⟨b, 0, none⟩ = some (.int .i64 (N : Int)) ∧ w1.cell? ⟨b, 1, none⟩ = some (.slice A n c) := ⟨cell_ext (w := w.drew) h0 hb1, cell_ext (w := w.drew) h1 hb1⟩))
  all_goals
    go_wp2
    go_ret
    exact ⟨A1, c1, rfl, hl1, hr1, Below.undrew hb1⟩


/-- the cells of a block of two -/
def Two2 (w : World) (g : Nat) (u v : Value) : Prop := w.cell? ⟨g, 0, none⟩ = some u ∧ w.cell? ⟨g, 1, none⟩ = some v ∧ w.frozen? ⟨g, 0, none⟩ = false ∧ w.frozen? ⟨g, 1, none⟩ = false
theorem Blk.two {w : World} {g : Nat} {t : TypeId} {u v : Value} (h : Blk w g t #[u, v]) : w.cell? ⟨g, 0, none⟩ = some u ∧ w.cell? ⟨g, 1, none⟩ = some v ∧ w.frozen? ⟨g, 0, none⟩ = false ∧ w.frozen? ⟨g, 1, none⟩ = false := ⟨h.cell 0, h.cell 1, h.free 0, h.free 1⟩

theorem results_told {fn : Func} {t : Tmp} (h : fn.results = #[.cell t 78]) (tmps : Array Value) (w : World) (g : Nat) (u v : Value)
    (ht : tmps.getD t undef = .pointer (some ⟨g, 0, none⟩)) (h0 : w.cell? ⟨g, 0, none⟩ = some u) (h1 : w.cell? ⟨g, 1, none⟩ = some v) : (results fn tmps).run Tryd.prog w = .ok (.agg #[u, v]) w := by
  rw [Array.getD_eq_getD_getElem?] at ht
  simp [results, h, ht, asAddr, go_sem, h0, h1]

set_option maxHeartbeats 2000000 in
/-- behind: the next number, another image -/
theorem behind_any {w : World} {b N : Nat} {A : Option Addr} {n c : Nat} {img : List UInt8} (h : ToldAt w b N A n c img) (hN : N ≤ 1125899906842624) (B : Option Addr) (m d : Nat) (bs : List UInt8) (hB : Bs w B m d bs) (hl : bs.length ≤ 814) :
    Calls Tryd.prog 43 #[.pointer (some ⟨b, 0, none⟩), .slice B m d] w fun e w' => ∃ A' c', e = .returned (.agg #[.int .i64 ((N : Int) + 1), .slice A' bs.length c']) ∧ New w w' A' c' bs ∧ Below w.heap.size w w' := by
  obtain ⟨h0, h1, h2⟩ := h
  have hw : IntKind.i64.wrap ((N : Int) + 1) = (N : Int) + 1 := by rw [IntKind.wrap_i64]; omega
  have hblk0 := Blk.new w 78 #[.int .i64 0, .slice none 0 0]
  obtain ⟨k0, k1, k2, k3⟩ := hblk0.two
  have hne := World.new_ne w ⟨b, 0, none⟩ h0
  have h0' : (w.alloc (.cells #[.int .i64 0, .slice none 0 0] 78)).cell? ⟨b, 0, none⟩ = some (.int .i64 (N : Int)) := cell_ext h0 (ext_alloc (Below.refl _ _) _)
  go_enter Tryd.func43, Tryd.ntmps43
  go_wp2
  go_region_held3 (fun w' => w'.cell? ⟨b, 0, none⟩ = some (.int .i64 (N : Int)))
    (first | exact h0' | exact cell_ext h0' (ext_drew (ext_alloc (Below.refl _ _) _)) | exact hS1 | go_keep) (first
    | (go_at_call 52; ((with_reducible refine (join1 bs (Blk.drew (Blk.new_at _ _ _ ?_)) ?_ ?_).mono ?_)); (simp); exact ((hB.alloc _).alloc _).drew; omega; rintro e w1 ⟨A1, c1, rfl, hn1, hb1⟩;
        have hblk1 := (Blk.drew (hblk0.alloc (Obj.cells #[.slice B m d] 22))).ext hb1;
        have hS1 : w1.cell? ⟨b, 0, none⟩ = some (.int .i64 (N : Int)) := cell_ext h0' (ext_trans (ext_drew (ext_alloc (Below.refl _ _) _)) hb1);
        obtain ⟨q1, q2, q3, q4⟩ := hblk1.two))
  have hs1 := hb1.size
  have hz1 : w.heap.size + 2 ≤ w1.heap.size := by
    have e : ((w.alloc (Obj.cells #[Value.int IntKind.i64 0, Value.slice none 0 0] 78)).alloc (Obj.cells #[Value.slice B m d] 22)).drew.heap.size = w.heap.size + 2 := by
      show ((w.alloc _).alloc _).heap.size = _
      rw [World.size_alloc, World.size_alloc]
    omega
  have hbel : Below w.heap.size w w1 := ext_trans (ext_drew (ext_alloc (ext_alloc (Below.refl _ _) _) _)) hb1
  have hfin : ∀ u v, New w ((w1.setCell ⟨w.heap.size, 0, none⟩ u).setCell ⟨w.heap.size, 1, none⟩ v) A1 c1 bs := fun u v => by
    have hne : ∀ ad, A1 = some ad → ad.block ≠ w.heap.size := fun ad e => by
      have := (hn1.2 ad e).1
      have e2 : ((w.alloc (Obj.cells #[Value.int IntKind.i64 0, Value.slice none 0 0] 78)).alloc (Obj.cells #[Value.slice B m d] 22)).drew.heap.size = w.heap.size + 2 := by
        show ((w.alloc _).alloc _).heap.size = _
        rw [World.size_alloc, World.size_alloc]
      omega
    have h1 := Own.setCell (Own.setCell hn1 (p := ⟨w.heap.size, 0, none⟩) hne u) (p := ⟨w.heap.size, 1, none⟩) hne v
    refine h1.mono (fun j hj _ => ⟨?_, by simpa [World.setCell] using hj.2⟩)
    have e2 : ((w.alloc (Obj.cells #[Value.int IntKind.i64 0, Value.slice none 0 0] 78)).alloc (Obj.cells #[Value.slice B m d] 22)).drew.heap.size = w.heap.size + 2 := by
      show ((w.alloc _).alloc _).heap.size = _
      rw [World.size_alloc, World.size_alloc]
    have := hj.1
    omega
  have hput := (hblk1.put 0 (.int .i64 ((N : Int) + 1))).put 1 (.slice A1 bs.length c1)
  go_wp2
  exact bodyPost_ret (results_told rfl _ _ w.heap.size _ _ rfl (hput.cell 0) (hput.cell 1)) rfl ⟨A1, c1, rfl, hfin _ _, (hbel.setCell (p := ⟨w.heap.size, 0, none⟩) (Nat.le_refl _) _).setCell (p := ⟨w.heap.size, 1, none⟩) (Nat.le_refl _) _⟩
end Go.Proofs.YtlpjeopeboemmaaDoor
