/-
  The contracts of package octet's Writer: Raw, num, Nums, Bytes, Out. No statement of the seat is proved here.
-/
import Derived.Test.YtlpjeopeboemmaaDoorBase
import Derived.Test.YtlpjeopeboemmaaDoorRows
import Derived.Test.YtlpjeopeboemmaaDoorMath
namespace Go.Proofs.YtlpjeopeboemmaaDoor
open Go Go.RowKit

theorem info_u8 : (Tryd.prog.info? 5).map (fun i => (i.zero, i.size, i.bytes)) = some (some (.int .u8 0), 1, 1) := by kernel_rfl

/-- A Writer in block 'g', which has laid the cells 'xs'; what it owns lies in 'fp'. -/
def Wr (w : World) (fp : Nat → Prop) (g : Nat) (xs : List Value) : Prop :=
  fp g ∧ ∃ A c, Blk w g 118 #[.slice A xs.length c] ∧ Own w fp 5 A c xs

section
variable {S fp fp' : Nat → Prop} {w w' : World} {g : Nat} {xs : List Value}
theorem Wr.mono (h : Wr w fp g xs) (hs : ∀ k, fp k → k < w.heap.size → fp' k) : Wr w fp' g xs := by
  obtain ⟨h1, A, c, hb, ho⟩ := h
  exact ⟨hs _ h1 hb.lt, A, c, hb, ho.mono hs⟩
theorem Wr.only (h : Wr w fp g xs) (ho : Only S w w') (hn : ∀ k, fp k → ¬ S k) : Wr w' fp g xs := by
  obtain ⟨h1, A, c, hb, hown⟩ := h
  exact ⟨h1, A, c, hb.only ho (hn _ h1), hown.only ho hn⟩
theorem Wr.ext (h : Wr w fp g xs) (hb : Below w.heap.size w w') : Wr w' fp g xs := by
  obtain ⟨h1, A, c, hb1, hown⟩ := h
  exact ⟨h1, A, c, hb1.ext hb, hown.ext hb⟩
theorem Wr.drewN (h : Wr w fp g xs) (n : Nat) : Wr (w.drewN n) fp g xs := h
theorem Wr.alloc (h : Wr w fp g xs) (o : Obj) : Wr (w.alloc o) fp g xs := h.ext ((Below.refl _ _).alloc (Nat.le_refl _) o)
theorem Wr.lt (h : Wr w fp g xs) : g < w.heap.size := by
  obtain ⟨_, _, _, hb, _⟩ := h
  exact hb.lt
theorem Wr.new (w : World) (fp : Nat → Prop) (hf : fp w.heap.size) : Wr (w.alloc (.cells #[.slice none 0 0] 118)) fp w.heap.size [] :=
  ⟨hf, none, 0, Blk.new w _ _, Own.none_ _ _ _⟩
end

theorem raw_nil (v : Value) (w : World) : Calls Tryd.prog 67 #[.pointer none, v] w fun e w' => e = .returned (.tuple #[]) ∧ w = w' := by
  go_enter Tryd.func67, Tryd.ntmps67
  go_wp2
  go_end0
  exact ⟨rfl, rfl⟩

/-- what a Writer is behind an append to its row and the store of it -/
theorem Wr.step {fp : Nat → Prop} {g : Nat} {A A' : Option Addr} {c c' : Nat} {xs ys : List Value} {w w1 : World} (hg : fp g) (hblk : Blk w g 118 #[.slice A xs.length c])
    (ho : Only (fun k => fp k ∧ k ≠ g) w w1) (hown : Own w1 (More (fun k => fp k ∧ k ≠ g) w w1) 5 A' c' ys) :
    Wr (w1.setCell ⟨g, 0, none⟩ (.slice A' ys.length c')) (More fp w (w1.setCell ⟨g, 0, none⟩ (.slice A' ys.length c'))) g ys ∧ Only fp w (w1.setCell ⟨g, 0, none⟩ (.slice A' ys.length c')) := by
  have hb1 : Blk w1 g 118 #[.slice A xs.length c] := hblk.only ho (fun h => h.2 rfl)
  refine ⟨⟨.inl hg, A', c', hb1.put 0 _, ?_⟩, (ho.mono (fun _ _ h => h.1)).setCell (.inl hg) _⟩
  refine (hown.setCell (hown.ne_blk hb1 (by decide)) _).mono (fun k hk _ => ?_)
  rcases hk with hk | hk
  · exact .inl hk.1
  · exact .inr (by simpa [World.setCell] using hk)

set_option maxHeartbeats 400000 in
theorem raw_any (fp : Nat → Prop) (g : Nat) (A2 : Option Addr) (m c2 : Nat) (xs news : List Value) (w : World) (hw : Wr w fp g xs) (hm : m = news.length) (hr : Rd w A2 news) (h1 : ∀ u ∈ news, u.oneCell' = true)
    (hb : xs.length + news.length ≤ 1099511627776) :
    Calls Tryd.prog 67 #[.pointer (some ⟨g, 0, none⟩), .slice A2 m c2] w fun e w' => e = .returned (.tuple #[]) ∧ Wr w' (More fp w w') g (xs ++ news) ∧ Only fp w w' := by
  obtain ⟨hg, A, c, hblk, hown⟩ := hw
  have h0 := hblk.cell 0
  simp only [List.getElem?_toArray, List.getElem?_cons_zero] at h0
  have f0 := hblk.free 0
  have hk1 : xs.length + m ≤ maxLen := by unfold maxLen; omega
  have hk2 : (xs.length + m) * 1 ≤ 140737488355328 := by omega
  have hown' : Own w (fun k => fp k ∧ k ≠ g) 5 A c xs := ⟨hown.1, fun ad e => ⟨hown.2 ad e, hown.ne_blk hblk (by decide) ad e⟩⟩
  have hm' := Lib.hid hm
  clear hm
  go_enter Tryd.func67, Tryd.ntmps67
  go_wp2_with (at_builtin
               refine wpList_app _ rfl (.tmp 10) (.tmp 11) _ rfl _ _ 1 Tryd.underlying22 info_u8 rfl A _ c xs rfl rfl hown' A2 m c2 news rfl hm'.out hr h1 hk1 hk2 ?_
               intro A' c' w1 hown1 honly1
               have hb1 := hblk.only honly1 (fun h => h.2 rfl)
               have g0 : w1.cell? ⟨g, 0, none⟩ = some (.slice A xs.length c) := hb1.cell 0
               have g1 : w1.frozen? ⟨g, 0, none⟩ = false := hb1.free 0)
  go_end0
  refine ⟨rfl, ?_⟩
  have key := Wr.step hg hblk honly1 hown1
  rw [List.length_append, ← hm'.out] at key
  exact key

theorem Wr.join {fp : Nat → Prop} {a b b' c : World} {g : Nat} {xs : List Value} (h1 : a.heap.size ≤ b.heap.size) (h2 : b.heap.size ≤ b'.heap.size) (h3 : b'.heap.size ≤ c.heap.size) (h : Wr c (More (More fp a b) b' c) g xs) : Wr c (More fp a c) g xs :=
  h.mono fun _ hk _ => More.join h1 h2 h3 hk
end Go.Proofs.YtlpjeopeboemmaaDoor
