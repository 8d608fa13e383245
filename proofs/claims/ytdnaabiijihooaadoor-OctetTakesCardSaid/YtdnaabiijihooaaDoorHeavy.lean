/-
  The contracts of winnowerlaw1's heavyRows and spoil. No statement of the seat is proved here.
-/
import Derived.Test.YtdnaabiijihooaaDoorJoin
namespace Go.Proofs.YtdnaabiijihooaaDoor
open Go Go.RowKit

set_option maxHeartbeats 1000000 in
theorem heavy_no (A : Option Addr) (n c : Nat) (xss : List (List UInt8)) (w : World) (hn : n = xss.length) (hr : RowsF (fun _ => False) w A xss) (hb : 3 * xss.length + xss.flatten.length ≤ 4000) :
    Calls Tryd.prog 21 #[.slice A n c] w fun e w' => e = .returned (.bool false) ∧ w = w' := by
  subst hn
  have Hle := Lib.hid (lenTo_le xss)
  have hlen : xss.length ≤ 4000 := by omega
  go_enter Tryd.func21, Tryd.ntmps21
  go_wp2
  go_loop [3, 4] (fun s i => ∃ k q : Nat, k ≤ xss.length ∧ i = .int .i64 (k : Int) ∧ s = .int .i64 (q : Int) ∧ q ≤ 3 * k + lenTo xss k) (fun _ i => xss.length - (intOf i).toNat)
  case atStart => exact ⟨0, 0, Nat.zero_le _, rfl, rfl, Nat.zero_le _⟩
  case round =>
    obtain ⟨k, q, hk, rfl, rfl, hq⟩ := hrel
    by_cases hlt : k < xss.length
    · obtain ⟨ad, B, cb, rfl, hcell, hl, hrd⟩ := hr.at_ hlt
      have hsucc := lenTo_succ xss k hlt
      have hle' := Hle.out (k + 1)
      have Hq := Lib.hid (show q + 3 + xss[k].length ≤ 3 * (k + 1) + lenTo xss (k + 1) by omega)
      have b1 : (xss[k].length : Int) ≤ 4000 := by omega
      have b2 : (q : Int) + 3 + (xss[k].length : Int) ≤ 4000 := by omega
      clear hsucc hle'
      go_wp2
      go_round
      case rel => exact ⟨k + 1, q + 3 + xss[k].length, by omega, by go_num, by go_num, Hq.out⟩
      case measure => simp [intOf]; omega
    · go_wp2
      go_ret
      exact ⟨rfl, rfl⟩

set_option maxHeartbeats 1000000 in
theorem heavy_yes (A : Option Addr) (n c : Nat) (xss : List (List UInt8)) (w : World) (hn : n = xss.length) (hr : RowsF (fun _ => False) w A xss) (hm : ∀ xs ∈ xss, xs.length ≤ maxLen) (hm2 : xss.length ≤ maxLen) (hb : 4000 < 3 * xss.length + xss.flatten.length) :
    Calls Tryd.prog 21 #[.slice A n c] w fun e w' => e = .returned (.bool true) ∧ w = w' := by
  subst hn
  unfold maxLen at hm hm2
  have Hall := Lib.hid (lenTo_all xss)
  go_enter Tryd.func21, Tryd.ntmps21
  go_wp2
  go_loop [3, 4] (fun s i => ∃ k q : Nat, k ≤ xss.length ∧ i = .int .i64 (k : Int) ∧ s = .int .i64 (q : Int) ∧ q = 3 * k + lenTo xss k ∧ q ≤ 4000) (fun _ i => xss.length - (intOf i).toNat)
  case atStart => exact ⟨0, 0, Nat.zero_le _, rfl, rfl, rfl, Nat.zero_le _⟩
  case round =>
    obtain ⟨k, q, hk, rfl, rfl, hq, hq4⟩ := hrel
    by_cases hlt : k < xss.length
    · obtain ⟨ad, B, cb, rfl, hcell, hl, hrd⟩ := hr.at_ hlt
      have hsucc := lenTo_succ xss k hlt
      have b0 := hm xss[k] (List.getElem_mem hlt)
      have Hq := Lib.hid (show q + 3 + xss[k].length = 3 * (k + 1) + lenTo xss (k + 1) by omega)
      clear hsucc hq
      by_cases b1 : (4000 : Int) < (xss[k].length : Int)
      · go_wp2
        go_ret
        exact ⟨rfl, rfl⟩
      · have b1' : (xss[k].length : Int) ≤ 4000 := by omega
        by_cases b2 : (4000 : Int) < (q : Int) + 3 + (xss[k].length : Int)
        · go_wp2
          go_ret
          exact ⟨rfl, rfl⟩
        · go_wp2
          go_round
          case rel => exact ⟨k + 1, q + 3 + xss[k].length, by omega, by go_num, by go_num, Hq.out, by omega⟩
          case measure => simp [intOf]; omega
    · obtain rfl : k = xss.length := by omega
      have := Hall.out
      omega

/-- a row that is owned, one cell written -/
theorem Own.stored {w : World} {fp : Nat → Prop} {e : TypeId} {g c : Nat} {xs : List Value} (h : Own w fp e (some ⟨g, 0, none⟩) c xs) (j : Nat) (u : Value) :
    ∃ ys, ys.length = xs.length ∧ Own (w.setCell ⟨g, j, none⟩ u) fp e (some ⟨g, 0, none⟩) c ys :=
  ⟨xs.set j u, by simp, ⟨by have h1 := (h.1.stored j u).1; rwa [show (xs.set j u).length = xs.length by simp], h.2⟩⟩

set_option maxHeartbeats 1000000 in
theorem spoil_any (fp : Nat → Prop) (A : Option Addr) (n c : Nat) (xs : List Value) (w : World) (hn : n = xs.length) (hown : Own w fp 5 A c xs) (hb : xs.length ≤ 1099511627776) :
    Calls Tryd.prog 16 #[.slice A n c] w fun e w' => e = .returned (.tuple #[]) ∧ Only fp w w' := by
  subst hn
  have hk1 : xs.length + 1 ≤ maxLen := by unfold maxLen; omega
  have hk2 : (xs.length + 1) * 1 ≤ 140737488355328 := by omega
  go_enter Tryd.func16, Tryd.ntmps16
  go_wp2_with (at_builtin
               refine wpList_app _ rfl (.tmp 4) (.tmp 5) _ rfl _ _ 1 Tryd.underlying23 info_u8 rfl A _ c xs rfl rfl (hown.alloc _) (some ⟨w.heap.size, 0, none⟩) 1 1 [.int .u8 99] rfl rfl (Rd.lit _ #[.int .u8 99] _) (by simp; rfl) hk1 hk2 ?_
               intro A' c' w1 hown1 honly1)
  have ho1 : Only fp w w1 := ((Only.refl fp w).alloc _).trans honly1 (fun _ _ h => h)
  have hs1 := honly1.size
  simp only [World.size_alloc] at hs1
  obtain ⟨g, rfl, hg, hgl⟩ : ∃ g, A' = some ⟨g, 0, none⟩ ∧ More fp (w.alloc (.cells #[.int .u8 99] 5)) w1 g ∧ g < w1.heap.size := by
    rcases hown1.some_ with ⟨_, _, h⟩ | h
    · simp at h
    · exact h
  have hgf : fp g ∨ w.heap.size ≤ g := by
    rcases hg with h | h
    · exact .inl h
    · exact .inr (by have := h.1; simp only [World.size_alloc] at this; omega)
  clear honly1
  go_loopw [3] (fun i wr => ∃ (k : Nat) (ys : List Value), k ≤ xs.length + 1 ∧ i = .int .i64 (k : Int) ∧ ys.length = xs.length + 1 ∧ Own wr (fun _ => True) 5 (some ⟨g, 0, none⟩) c' ys ∧ Only fp w wr) (fun i _ => xs.length + 1 - (intOf i).toNat)
  case atStart => exact ⟨0, _, Nat.zero_le _, rfl, by simp, hown1.mono (fun _ _ _ => trivial), ho1⟩
  case round =>
    obtain ⟨k, ys, hk, rfl, hyl, hown2, ho2⟩ := hrel
    by_cases hlt : k < xs.length + 1
    · obtain ⟨zs, hzl, hown3⟩ := hown2.stored k (.int .u8 98)
      obtain ⟨ad, e1, hck⟩ := hown2.rd.at_ (k := k) (by omega)
      injection e1 with e1
      have hadd : ad.add k = ⟨g, k, none⟩ := by rw [← e1]; unfold Addr.add; split <;> simp_all
      rw [hadd] at hck
      have hfr : wr.frozen? ⟨g, k, none⟩ = false := by
        have h1 := hown2.1
        exact h1.frozenAt k
      obtain ⟨u0, hcu⟩ : ∃ u, wr.cell? ⟨g, k, none⟩ = some u := ⟨_, hck⟩
      have Hzl := Lib.hid (hzl.trans hyl)
      clear hck hzl hyl hadd e1
      have hgo : fp g ∨ w.heap.size ≤ g := hgf
      have ho3 : Only fp w (wr.setCell ⟨g, k, none⟩ (.int .u8 98)) := ho2.setCell hgf _
      clear hown2
      go_wp2
      go_roundw
      case rel => exact ⟨k + 1, zs, by omega, by go_num, Hzl.out, hown3, ho3⟩
      case measure => simp [intOf]; omega
    · go_wp2
      go_end0
      exact ⟨rfl, ho2⟩
end Go.Proofs.YtdnaabiijihooaaDoor
