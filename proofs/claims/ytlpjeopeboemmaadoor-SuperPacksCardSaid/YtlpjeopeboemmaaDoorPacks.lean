/-
  The walk of the law SuperPacks. No statement of the seat is proved here.
-/
import Derived.Test.YtlpjeopeboemmaaDoorRPack
import Derived.Test.YtlpjeopeboemmaaDoorStep
namespace Go.Proofs.YtlpjeopeboemmaaDoor
open Go Go.RowKit

theorem packI_64 {n : Int} {img : List UInt8} : ∀ r ∈ packI n img, r.length = 64 := fun r hr => by
  unfold packI at hr
  split at hr
  · rename_i hf
    exact packOf_64 hf.2.2 r hr
  · cases hr

set_option maxRecDepth 100000 in
set_option maxHeartbeats 1000000 in
theorem packs_in (v : Int) (A : Option Addr) (m c : Nat) (img : List UInt8) (W : World) (ht : Tab W) (hv : isInt v) (hA : Bs W A m c img) (hl : img.length ≤ 2000) :
    Calls Tryd.prog 5 #[.int .i64 v, .slice A m c] W fun e w' => e = .returned (.bool true) ∧ Below W.heap.size W w' := by
  have hm := hA.1
  subst hm
  have hil : (img.length : Int) ≤ 2000 := by omega
  have hp := pack_any v A _ c img W ht hv hA (by omega)
  have hr64 := Lib.hid (packI_64 (n := v) (img := img))
  have hlen : (packI v img).length ≤ 16 := by
    unfold packI
    split
    · rw [packOf_length]; omega
    · simp
  have Hp := Lib.hid hp
  have hrp := fun w' hb => rpack_any v A _ c img w' hv (hA.ext hb) (by omega)
  have Hrp := Lib.hid hrp
  clear hp hrp
  generalize packI v img = rs at *
  go_enter Tryd.func5, Tryd.ntmps5
  go_wp2_with fail
  refine Hp.out.mono ?_
  rintro e w1 ⟨A1, c1, rfl, hc1, hr1, hb1⟩
  go_wp2_with fail
  refine (Hrp.out w1 hb1).mono ?_
  rintro e w2 ⟨A2, c2, rfl, hc2, hr2, hb2⟩
  have hR1 := (hr1.weak (fp' := fun _ => False) (fun _ h => h.elim)).ext hb2
  have hR2 := hr2.weak (fp' := fun _ => False) (fun _ h => h.elim)
  have hbw := ext_trans hb1 hb2
  clear hr1 hr2 Hp Hrp
  go_wp2
  go_loopw [7] (fun i wr => ∃ k : Nat, k ≤ rs.length ∧ i = .int .i64 (k : Int) ∧ Below w2.heap.size w2 wr) (fun i _ => rs.length - (intOf i).toNat)
  case atStart => exact ⟨0, Nat.zero_le _, rfl, Below.refl _ _⟩
  case round =>
    obtain ⟨k, hk, rfl, hbr⟩ := hrel
    by_cases hlt : k < rs.length
    · have hki : (k : Int) < (rs.length : Int) := by omega
      obtain ⟨ad1, B1, d1, rfl, k1, l1, r1⟩ := (hR1.ext hbr).at_ hlt
      obtain ⟨ad2, B2, d2, rfl, k2, l2, r2⟩ := (hR2.ext hbr).at_ hlt
      have h64 := hr64.out _ (List.getElem_mem hlt)
      rw [h64] at k1 k2
      have cv1 := conv_bytes wr.drew B1 64 d1 rs[k] h64.symm r1.1.drew
      have cv2 := conv_bytes wr.drew B2 64 d2 rs[k] h64.symm r2.1.drew
      clear r1 r2 l1 l2 h64
      generalize (⟨rs[k].toArray⟩ : ByteArray) = Z at *
      go_wp2
      go_region
      go_wp2
      go_roundw
      case rel => exact ⟨k + 1, by omega, by go_num, ext_drew hbr⟩
      case measure => simp [intOf]; omega
    · obtain rfl : k = rs.length := by omega
      go_wp2_with fail
      refine (known_any wr (ht.ext (ext_trans hbw hbr))).mono ?_
      rintro e w3 ⟨rfl, hb3⟩
      go_wp2
      go_ret
      exact ⟨rfl, ext_trans (ext_trans hbw hbr) hb3⟩
theorem packs_out (v : Int) (A : Option Addr) (m c : Nat) (img : List UInt8) (W : World) (hm : m = img.length) (hl : 2000 < img.length) (hx : img.length ≤ maxLen) :
    Calls Tryd.prog 5 #[.int .i64 v, .slice A m c] W fun e w' => e = .returned (.bool true) ∧ Below W.heap.size W w' := by
  subst hm
  unfold maxLen at hx
  have hil : (2000 : Int) < (img.length : Int) := by omega
  go_enter Tryd.func5, Tryd.ntmps5
  go_wp2
  go_ret
  exact ⟨rfl, Below.refl _ _⟩
end Go.Proofs.YtlpjeopeboemmaaDoor
