/-
  The contract of winnowerlaw1's known. No statement of the seat is proved here.
-/
import Derived.Test.YtdnaabiijihooaaDoorNums
import Derived.Test.YtdnaabiijihooaaDoorSame
import Derived.Test.YtdnaabiijihooaaDoorSum
import Derived.Lib.SlBytesConst
namespace Go.Proofs.YtdnaabiijihooaaDoor
open Go Go.RowKit

theorem dig_1 : dig 1 = [1] := by rw [dig]; rfl
theorem dig_300 : dig 300 = [172, 2] := by
  rw [dig, if_neg (by decide), dig, if_pos (by decide)]; rfl
theorem nums_known : numsB [1, 300] = [1, 172, 2] := by
  unfold numsB
  rw [show ([1, 300] : List Int) = [((1 : Nat) : Int), ((300 : Nat) : Int)] from rfl]
  simp only [List.flatMap_cons, List.flatMap_nil, clamp_of_nat (n := 1) (by omega), clamp_of_nat (n := 300) (by omega), dig_1, dig_300]
  rfl
theorem rows_known : rowsB [[97]] = [1, 97] := by
  unfold rowsB
  simp only [List.flatMap_cons, List.flatMap_nil, List.length_cons, List.length_nil, Nat.zero_add, dig_1]
  rfl

set_option maxHeartbeats 1000000 in
theorem known_any (w : World) (ht : Tab w) :
    Calls Tryd.prog 20 #[] w fun e w' => e = .returned (.bool true) ∧ Below w.heap.size w w' := by
  have kc := fun (w : World) (C : Array Value) (n c : Nat) => Lib.run_convert_bytes_const (P := Tryd.prog) w 23 5 C n c Tryd.underlying23 Tryd.underlying5
  have kc2 : ∀ (w : World) (o : Obj) (C : Array Value) (n c : Nat), (convert 23 23 (.slice (some ⟨w.heap.size + 1, 0, none⟩) n c)).run Tryd.prog ((w.alloc o).alloc (.cells C 5)) =
      .ok (.slice (some ⟨w.heap.size + 1, 0, none⟩) n c) ((w.alloc o).alloc (.cells C 5 (C.size, C.size + 1))) := fun w o C n c => by
    have h := kc (w.alloc o) C n c
    rw [World.size_alloc] at h
    exact h
  go_enter Tryd.func20, Tryd.ntmps20
  go_wp2_with fail
  have hw0 := (Wr.new w (fun k => k = w.heap.size) rfl).alloc (.cells #[.int .i64 1, .int .i64 300] 3)
  refine (nums_any _ _ _ 2 2 [1, 300] [] _ hw0 rfl (RdF.lit _ #[.int .i64 1, .int .i64 300] _ (by simp) (by simp)) (by simp [isInt]) (by simp)).mono ?_
  rintro e w1 ⟨rfl, hw1, ho1⟩
  rw [List.nil_append, nums_known] at hw1
  have hs1 := ho1.size
  simp only [World.size_alloc] at hs1
  have hb1 : Below w.heap.size w w1 := (((Below.refl _ _).alloc (Nat.le_refl _) _).alloc (by simp) _).trans (ho1.below (by intro i hi; omega) (by simp; omega))
  have hw1' : Wr w1 (fun k => w.heap.size ≤ k ∧ k < w1.heap.size) w.heap.size ([1, 172, 2].map bv) := hw1.mono (fun k hk hl => by
    rcases hk with hk | hk
    · omega
    · have := hk.1; simp only [World.size_alloc] at this; omega)
  clear hw0 ho1 hw1
  go_wp2_with fail
  have hrow1 : RowsF (fun k => w.heap.size ≤ k ∧ k < w1.heap.size) ((w1.alloc (.cells #[.int .u8 97] 5 (1, 2))).alloc (.cells #[.slice (some ⟨w1.heap.size, 0, none⟩) 1 1] 23)) (some ⟨w1.heap.size + 1, 0, none⟩) [[97]] :=
    RowsF.one (xs := [97]) (RdF.lit w1 #[.int .u8 97] _ rfl (by omega)) (by simp) _ (by simp) (by omega)
  refine (bytes_any _ _ _ 1 1 [[97]] _ _ ((hw1'.alloc _).alloc _) rfl hrow1 (by rw [rows_known]; simp) (by simp)).mono ?_
  rintro e w2 ⟨rfl, hw2, ho2⟩
  rw [rows_known, ← List.map_append] at hw2
  have hs2 := ho2.size
  simp only [World.size_alloc] at hs2
  have hb2 : Below w.heap.size w w2 := ((hb1.alloc hb1.size _).alloc (by simp; omega) _).trans (ho2.below (by intro i hi; omega) (by simp; omega))
  clear hrow1 ho2 hw1'
  go_wp2_with fail
  refine (out_any _ _ _ _ hw2 (by simp)).mono ?_
  rintro e w3 ⟨A3, c3, rfl, hn3, hb3⟩
  have hs3 := hb3.size
  have hb3' : Below w.heap.size w w3 := hb2.trans (hb3.mono (by omega))
  go_wp2_with fail
  refine (same_yes _ _ _ 5 _ 5 _ _ rfl (by simp) (hn3.rd.alloc _) (Rd.lit_at w3 #[.int .u8 1, .int .u8 172, .int .u8 2, .int .u8 1, .int .u8 97] _ rfl) (by simp)).mono ?_
  rintro e w4 ⟨rfl, q, hq⟩
  have hb4 : Below w.heap.size w w4 := by rw [hq]; exact ext_drewN (hb3'.alloc hb3'.size _) q
  have ht4 := ht.ext hb4
  clear hq
  go_wp2_with fail
  have hs4 := hb4.size
  refine (sum_any _ 2 2 [[49, 50, 51, 52], [53, 54, 55, 56, 57]] [49, 50, 51, 52, 53, 54, 55, 56, 57] _ (((ht4.alloc _).alloc _).alloc _) rfl rfl ?_ (by simp) (by simp)).mono ?_
  · exact RowsF.two (xs := [49, 50, 51, 52]) (ys := [53, 54, 55, 56, 57]) ((RdF.lit w4 #[.int .u8 49, .int .u8 50, .int .u8 51, .int .u8 52] _ rfl id).alloc _) (by simp)
      (RdF.lit _ #[.int .u8 53, .int .u8 54, .int .u8 55, .int .u8 56, .int .u8 57] _ (by simp) id) (by simp) _ (by simp) id
  rw [sumOf_known]
  rintro e w5 ⟨rfl, rfl⟩
  go_wp2
  go_ret
  exact ⟨rfl, ((hb4.alloc hs4 _).alloc (by simp; omega) _).alloc (by simp; omega) _⟩
end Go.Proofs.YtdnaabiijihooaaDoor
