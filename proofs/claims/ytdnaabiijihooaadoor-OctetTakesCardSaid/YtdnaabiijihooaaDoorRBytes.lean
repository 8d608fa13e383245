/-
  The contract of octet's (*Reader).Bytes. No statement of the seat is proved here.
-/
import Derived.Test.YtdnaabiijihooaaDoorRdr
namespace Go.Proofs.YtdnaabiijihooaaDoor
open Go Go.RowKit

set_option maxHeartbeats 1000000 in
/-- a row stands there whole -/
theorem rbytes_ok (fp : Nat → Prop) (g : Nat) (bs : List UInt8) (n k : Nat) (w : World) (h : Rdr w fp g bs false) (hs : num? bs = some (n, k)) (hk0 : 0 < k) (hk : k ≤ bs.length) (hn : n ≤ (bs.drop k).length) (hb : bs.length ≤ 1099511627776) :
    Calls Tryd.prog 27 #[.pointer (some ⟨g, 0, none⟩)] w fun e w' => ∃ A' c', e = .returned (.slice A' n c') ∧ New w w' A' c' ((bs.drop k).take n) ∧ Rdr w' fp g ((bs.drop k).drop n) false ∧ Only (fun k => k = g) w w' := by
  have Hs := Lib.hid hs
  clear hs

  go_enter Tryd.func27, Tryd.ntmps27
  go_wp2_with fail
  refine (rnum_ok fp g bs n k _ h Hs.out hk0 hk hb).mono ?_
  rintro e w1 ⟨rfl, h1, o1⟩
  go_wp2_with fail
  refine (rraw_ok fp g (bs.drop k) n _ h1 hn (by simp; omega)).mono ?_
  rintro e w2 ⟨A', c', rfl, hnew, h2, o2⟩
  go_wp2
  go_ret
  exact ⟨A', c', rfl, hnew.back o1.size, h2, o1.trans o2 (fun _ _ h => h)⟩
set_option maxHeartbeats 1000000 in
/-- the number is there, the row is not -/
theorem rbytes_short (fp : Nat → Prop) (g : Nat) (bs : List UInt8) (n k : Nat) (w : World) (h : Rdr w fp g bs false) (hs : num? bs = some (n, k)) (hk0 : 0 < k) (hk : k ≤ bs.length) (hn : (bs.drop k).length < n) (hi : isInt n) (hb : bs.length ≤ 1099511627776) :
    Calls Tryd.prog 27 #[.pointer (some ⟨g, 0, none⟩)] w fun e w' => e = .returned (.slice none 0 0) ∧ Rdr w' fp g [] true ∧ Only (fun k => k = g) w w' := by
  have Hs := Lib.hid hs
  clear hs
  go_enter Tryd.func27, Tryd.ntmps27
  go_wp2_with fail
  refine (rnum_ok fp g bs n k _ h Hs.out hk0 hk hb).mono ?_
  rintro e w1 ⟨rfl, h1, o1⟩
  go_wp2_with fail
  refine (rraw_none fp g (bs.drop k) n _ h1 hi (.inr (by omega)) (by simp; omega)).mono ?_
  rintro e w2 ⟨rfl, h2, o2⟩
  go_wp2
  go_ret
  exact ⟨rfl, h2, o1.trans o2 (fun _ _ h => h)⟩
set_option maxHeartbeats 1000000 in
/-- no number is there -/
theorem rbytes_none (fp : Nat → Prop) (g : Nat) (bs : List UInt8) (w : World) (h : Rdr w fp g bs false) (hs : num? bs = none) (hb : bs.length ≤ 1099511627776) :
    Calls Tryd.prog 27 #[.pointer (some ⟨g, 0, none⟩)] w fun e w' => e = .returned (.slice none 0 0) ∧ Rdr w' fp g [] true ∧ Only (fun k => k = g) w w' := by
  have Hs := Lib.hid hs
  clear hs
  go_enter Tryd.func27, Tryd.ntmps27
  go_wp2_with fail
  refine (rnum_none fp g bs _ h Hs.out hb).mono ?_
  rintro e w1 ⟨rfl, h1, o1⟩
  go_wp2_with fail
  refine (rraw_dead fp g [] 0 _ h1).mono ?_
  rintro e w2 ⟨rfl, rfl⟩
  go_wp2
  go_ret
  exact ⟨rfl, h1, o1⟩
theorem rbytes_dead (fp : Nat → Prop) (g : Nat) (bs : List UInt8) (w : World) (h : Rdr w fp g bs true) :
    Calls Tryd.prog 27 #[.pointer (some ⟨g, 0, none⟩)] w fun e w' => e = .returned (.slice none 0 0) ∧ w = w' := by
  go_enter Tryd.func27, Tryd.ntmps27
  go_wp2_with fail
  refine (rnum_dead fp g bs _ h).mono ?_
  rintro e w1 ⟨rfl, rfl⟩
  go_wp2_with fail
  refine (rraw_dead fp g bs 0 _ h).mono ?_
  rintro e w2 ⟨rfl, rfl⟩
  go_wp2
  go_ret
  exact ⟨rfl, rfl⟩
end Go.Proofs.YtdnaabiijihooaaDoor
