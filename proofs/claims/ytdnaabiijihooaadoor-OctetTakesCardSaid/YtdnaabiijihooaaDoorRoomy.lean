/-
  The contracts of winnowerlaw1's roomy and stands. No statement of the seat is proved here.
-/
import Derived.Test.YtdnaabiijihooaaDoorJoin
import Derived.Test.YtdnaabiijihooaaDoorSame
namespace Go.Proofs.YtdnaabiijihooaaDoor
open Go Go.RowKit

/-- of a row that is owned the beginning is owned -/
theorem Own.front {w : World} {fp : Nat → Prop} {e : TypeId} {A : Option Addr} {c : Nat} {xs ys : List Value} (h : Own w fp e A c (xs ++ ys)) : Own w fp e A c xs := by
  obtain ⟨⟨_, h1⟩, h2⟩ := h
  refine ⟨⟨by simp, ?_⟩, h2⟩
  rcases h1 with ⟨h1, h3⟩ | ⟨g, cap, cur, h1, hb, hg, hn, hc, hcs, ht⟩
  · have hl : xs.length = 0 := by rw [List.length_append] at h3; omega
    rw [List.length_append] at h3
    injection h1 with a1 a2 a3
    exact .inl ⟨by rw [a1, a3, hl], hl⟩
  · injection h1 with a1 a2 a3
    refine .inr ⟨g, cap, cur, by rw [a1, a3], hb, hg, by rw [List.length_append] at hn; omega, hc, hcs, ?_⟩
    have h4 := congrArg (List.take xs.length) ht
    rw [List.take_take, List.length_append, Nat.mul_one, Nat.min_eq_left (by omega), List.take_left' rfl] at h4
    rw [Nat.mul_one]
    exact h4

set_option maxRecDepth 100000 in
set_option maxHeartbeats 2000000 in
theorem roomy_any (A : Option Addr) (n c : Nat) (xs : List UInt8) (w : World) (hn : n = xs.length) (hr : Rd w A (xs.map bv)) (hb : xs.length ≤ 1099511627775) :
    Calls Tryd.prog 22 #[.slice A n c] w fun e w' => ∃ A' c', e = .returned (.slice A' (xs.length + 1) c') ∧ New w w' A' c' (xs ++ [171]) ∧ Below w.heap.size w w' := by
  subst hn
  have hk1 : 0 + xs.length ≤ maxLen := by unfold maxLen; omega
  have hk2 : (0 + xs.length) * 1 ≤ 140737488355328 := by omega
  have hk3 : xs.length + 1 ≤ maxLen := by unfold maxLen; omega
  have hk4 : (xs.length + 1) * 1 ≤ 140737488355328 := by omega
  have hk5 : xs.length + 1 + 1 ≤ maxLen := by unfold maxLen; omega
  have hk6 : (xs.length + 1 + 1) * 1 ≤ 140737488355328 := by omega
  have h0 := Lib.hid (show xs.length = (xs.map bv).length by rw [List.length_map])
  have h1 := Lib.hid (show xs.length = (([] : List UInt8).map bv ++ xs.map bv).length by simp)
  have h2 := Lib.hid (show xs.length + 1 = ((xs.map bv) ++ ([171] : List UInt8).map bv).length by simp)
  have hstart : New w (w.alloc (.cells #[] 5)) (some ⟨w.heap.size, 0, none⟩) 0 [] := Own.lit w _ #[] _ (by unfold maxLen; simp) (by simp)
  have hbstart : Below w.heap.size w (w.alloc (.cells #[] 5)) := (Below.refl _ _).alloc (Nat.le_refl _) _
  go_enter Tryd.func22, Tryd.ntmps22
  go_wp2_with (first
    | (at_builtin
       refine wpList_app _ rfl (.tmp 3) (.tmp 4) _ rfl _ _ 1 Tryd.underlying23 info_u8 rfl (some ⟨w.heap.size, 0, none⟩) 0 0 (([] : List UInt8).map bv) rfl rfl hstart A xs.length c (xs.map bv) rfl h0.out (hr.alloc _) (bvs_one _) hk1 hk2 ?_
       intro A1 c1 w1 hown1 honly1
       obtain ⟨hn1, hb1⟩ := New.grow hbstart hown1 honly1
       rw [List.nil_append] at hn1)
    | (at_builtin
       refine wpList_app _ rfl (.tmp 5) (.tmp 6) _ rfl _ _ 1 Tryd.underlying23 info_u8 rfl A1 _ c1 (xs.map bv) rfl h0.out (hn1.alloc _) (some ⟨w1.heap.size, 0, none⟩) 1 1 (([171] : List UInt8).map bv) rfl rfl (Rd.lit w1 #[.int .u8 171] _) (bvs_one _) hk3 hk4 ?_
       intro A2 c2 w2 hown2 honly2
       obtain ⟨hn2, hb2⟩ := New.grow1 hb1 hown2 honly2)
    | (at_builtin
       refine wpList_app _ rfl (.tmp 7) (.tmp 8) _ rfl _ _ 1 Tryd.underlying23 info_u8 rfl A2 _ c2 ((xs ++ [171]).map bv) rfl (by simp) (hn2.alloc _) (some ⟨w2.heap.size, 0, none⟩) 1 1 (([171] : List UInt8).map bv) rfl rfl (Rd.lit w2 #[.int .u8 171] _) (bvs_one _) hk5 hk6 ?_
       intro A3 c3 w3 hown3 honly3
       obtain ⟨hn3, hb3⟩ := New.grow1 hb2 hown3 honly3
       have hcap := Own.cap hn3
       rw [List.length_map, List.length_append, List.length_append] at hcap
       have hcap' : xs.length + 1 + 1 ≤ c3 := hcap))
  go_ret
  refine ⟨A3, c3, rfl, ?_, hb3⟩
  unfold New at hn3 ⊢
  rw [List.map_append] at hn3
  exact hn3.front

set_option maxHeartbeats 1000000 in
theorem stands_yes (A B : Option Addr) (n m c d : Nat) (xs : List UInt8) (w : World) (hn : n = xs.length + 1) (hm : m = xs.length) (hc : xs.length + 1 ≤ c) (h1 : Rd w A ((xs ++ [171]).map bv)) (h2 : Rd w B (xs.map bv)) (hb : xs.length ≤ 1099511627775) :
    Calls Tryd.prog 24 #[.slice A n c, .slice B m d] w fun e w' => e = .returned (.bool true) ∧ ∃ q, w' = w.drewN q := by
  subst hn hm
  have h3 : Rd w A (xs.map bv) := by
    have := h1.take xs.length
    rwa [← List.map_take, List.take_left' rfl] at this
  obtain ⟨ad, rfl, hcell⟩ := h1.at_ (k := xs.length) (by simp)
  have hlast : w.cell? (ad.add xs.length) = some (.int .u8 171) := by
    rw [hcell]; simp; rfl
  clear hcell
  go_enter Tryd.func24, Tryd.ntmps24
  go_wp2_with fail
  refine (same_yes _ B _ _ _ d xs _ rfl rfl h3 h2 (by omega)).mono ?_
  rintro e w1 ⟨rfl, q, rfl⟩
  go_wp2
  go_ret
  exact ⟨rfl, q, rfl⟩
end Go.Proofs.YtdnaabiijihooaaDoor
