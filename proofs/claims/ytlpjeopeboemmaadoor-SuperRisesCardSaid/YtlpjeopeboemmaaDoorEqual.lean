/-
  The contracts of bytes.Equal and slices.EqualFunc, as super calls them. No statement of the seat is proved here.
-/
import Derived.Test.YtlpjeopeboemmaaDoorPack
import Derived.Test.YtlpjeopeboemmaaDoorConv
namespace Go.Proofs.YtlpjeopeboemmaaDoor
open Go Go.RowKit

theorem equal_any (A B : Option Addr) (n c m d : Nat) (xs ys : List UInt8) (w : World) (hx : Bs w A n c xs) (hy : Bs w B m d ys) :
    Calls Tryd.prog 73 #[.slice A n c, .slice B m d] w fun e w' => e = .returned (.bool (decide (xs = ys))) ∧ w = w' := by
  have h1 := conv_bytes w A n c xs hx.1 hx.2.2
  have h2 := conv_bytes w B m d ys hy.1 hy.2.2
  by_cases hxy : xs = ys
  · subst hxy
    generalize (⟨xs.toArray⟩ : ByteArray) = Z at h1 h2
    go_enter Tryd.func73, Tryd.ntmps73
    go_wp2
    go_ret
    exact ⟨by simp, rfl⟩
  · have hne : ((⟨xs.toArray⟩ : ByteArray).toList == (⟨ys.toArray⟩ : ByteArray).toList) = false := by
      rw [ByteArray.toList_mk, ByteArray.toList_mk]
      simpa using hxy
    have hfin : decide (xs = ys) = false := by simp [hxy]
    have Hfin := Lib.hid hfin
    clear hfin hxy
    generalize (⟨xs.toArray⟩ : ByteArray) = Z at *
    generalize (⟨ys.toArray⟩ : ByteArray) = Y at *
    go_enter Tryd.func73, Tryd.ntmps73
    go_wp2
    go_ret
    exact ⟨by rw [Hfin.out]; rfl, rfl⟩

set_option maxHeartbeats 1000000 in
theorem equalfunc_any (A B : Option Addr) (n c m d : Nat) (xss yss : List (List UInt8)) (w : World) (hn : n = xss.length) (hm : m = yss.length) (hx : RowsF (fun _ => False) w A xss) (hy : RowsF (fun _ => False) w B yss) (h1 : xss.length ≤ 1000) (h2 : yss.length ≤ 1000) :
    Calls Tryd.prog 72 #[.slice A n c, .slice B m d, .func (.func 73) #[] #[]] w fun e w' => e = .returned (.bool (decide (xss = yss))) ∧ w = w' := by
  subst hn hm
  by_cases hl : xss.length = yss.length
  · have hli : (xss.length : Int) = (yss.length : Int) := by omega
    have Hl := Lib.hid hl
    rw [← hl]
    clear hl hli
    go_enter Tryd.func72, Tryd.ntmps72
    go_wp2
    go_loop [7, 8, 9, 17] (fun _ _ _ i => ∃ k : Nat, k ≤ xss.length ∧ i = .int .i64 (k : Int) ∧ xss.take k = yss.take k) (fun _ _ _ i => xss.length - (intOf i).toNat)
    case atStart => exact ⟨0, Nat.zero_le _, rfl, rfl⟩
    case round =>
      obtain ⟨k, hk, rfl, hpre⟩ := hrel
      have Hpre := Lib.hid hpre
      clear hpre
      by_cases hlt : k < xss.length
      · have hlt2 : k < yss.length := by have := Hl.out; omega
        obtain ⟨ad, X, cx, rfl, hcx, hlx, hrx⟩ := hx.at_ hlt
        obtain ⟨ad2, Y, cy, rfl, hcy, hly, hry⟩ := hy.at_ hlt2
        have hs1 := List.take_succ_eq_append_getElem hlt
        have hs2 := List.take_succ_eq_append_getElem hlt2
        have hcall := equal_any X Y _ cx _ cy xss[k] yss[k] w ⟨rfl, hlx, hrx.1⟩ ⟨rfl, hly, hry.1⟩
        have hki : (k : Int) < (xss.length : Int) := by omega
        by_cases he : xss[k] = yss[k]
        · have hd : decide (xss[k] = yss[k]) = true := by simp [he]
          rw [hd] at hcall
          have hnext : xss.take (k + 1) = yss.take (k + 1) := by rw [hs1, hs2, Hpre.out, he]
          have Hnext := Lib.hid hnext
          have Hcall := Lib.hid hcall
          clear hcall hnext hs1 hs2 hd he
          go_wp2_with fail
          refine Hcall.out.mono ?_
          rintro e w2 ⟨rfl, rfl⟩
          go_wp2
          go_round
          case rel => exact ⟨k + 1, by omega, by go_num, Hnext.out⟩
          case measure => simp [intOf]; omega
        · have hd : decide (xss[k] = yss[k]) = false := by simp [he]
          rw [hd] at hcall
          have hne : decide (xss = yss) = false := by
            simp only [decide_eq_false_iff_not]
            rintro rfl
            exact he rfl
          have Hne := Lib.hid hne
          have Hcall := Lib.hid hcall
          clear hcall hs1 hs2 hd he hne
          go_wp2_with fail
          refine Hcall.out.mono ?_
          rintro e w2 ⟨rfl, rfl⟩
          go_wp2
          go_ret
          exact ⟨by rw [Hne.out]; rfl, rfl⟩
      · obtain rfl : k = xss.length := by omega
        have heq : decide (xss = yss) = true := by
          have h := Hpre.out
          rw [List.take_length, List.take_of_length_le (by have := Hl.out; omega)] at h
          simpa using h
        have Heq := Lib.hid heq
        clear heq
        go_wp2
        go_ret
        exact ⟨by rw [Heq.out]; rfl, rfl⟩
  · have hd : decide (xss = yss) = false := by
      simp only [decide_eq_false_iff_not]
      rintro rfl
      exact hl rfl
    have Hd := Lib.hid hd
    have hb : ((xss.length : Int) == (yss.length : Int)) = false := beq_eq_false_iff_ne.2 (by omega)
    clear hd
    go_enter Tryd.func72, Tryd.ntmps72
    go_wp2
    go_ret
    exact ⟨by rw [Hd.out]; rfl, rfl⟩
end Go.Proofs.YtlpjeopeboemmaaDoor
