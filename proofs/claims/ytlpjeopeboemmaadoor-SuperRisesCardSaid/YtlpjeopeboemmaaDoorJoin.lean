/-
  The contract of octet's Join. No statement of the seat is proved here.
-/
import Derived.Test.YtlpjeopeboemmaaDoorWriter
namespace Go.Proofs.YtlpjeopeboemmaaDoor
open Go Go.RowKit

/-- bytes in a list of the call's own, which was made between two worlds -/
def New (w w' : World) (A : Option Addr) (c : Nat) (bs : List UInt8) : Prop := Own w' (fun k => w.heap.size ≤ k ∧ k < w'.heap.size) 5 A c (bs.map bv)

theorem make_bytes (W : World) (t : Nat) (h : t ≤ 1099511627776) : (Instr.makeSlice 22 (.int .i64 0) (.int .i64 (t : Int))).run Tryd.prog W =
    .ok (.slice (some ⟨W.heap.size, 0, none⟩) 0 t) (W.alloc (.cells (madeCells #[.int .u8 0] (t * 1)) 5)) := by
  obtain ⟨i, hi, hz, hsz, hby⟩ := info_parts info_u8
  have hr := run_make (P := Tryd.prog) W 22 5 i _ Tryd.underlying22 hi hz .i64 .i64 ((0 : Nat) : Int) t (by omega) (by omega) (by rw [hby]; omega) (by omega)
  simp only [Int.toNat_natCast, hsz] at hr
  exact hr

theorem flat_take_succ (xss : List (List UInt8)) (k : Nat) (h : k < xss.length) : (xss.take (k + 1)).flatten = (xss.take k).flatten ++ xss[k] := by
  rw [List.take_succ_eq_append_getElem h, List.flatten_append]; simp
theorem flat_take_le (xss : List (List UInt8)) (k : Nat) : (xss.take k).flatten.length ≤ xss.flatten.length := by
  have h : xss.flatten = (xss.take k).flatten ++ (xss.drop k).flatten := by rw [← List.flatten_append, List.take_append_drop]
  rw [h, List.length_append]; omega
/-- the bytes of the first k rows; how many they are: under a name, so that the walk leaves them alone -/
def upTo (xss : List (List UInt8)) (k : Nat) : List UInt8 := (xss.take k).flatten
def lenTo (xss : List (List UInt8)) (k : Nat) : Nat := (upTo xss k).length
theorem lenTo_zero (xss : List (List UInt8)) : lenTo xss 0 = 0 := rfl
theorem upTo_succ (xss : List (List UInt8)) (k : Nat) (h : k < xss.length) : upTo xss (k + 1) = upTo xss k ++ xss[k] := flat_take_succ xss k h
theorem lenTo_succ (xss : List (List UInt8)) (k : Nat) (h : k < xss.length) : lenTo xss (k + 1) = lenTo xss k + xss[k].length := by unfold lenTo; rw [upTo_succ xss k h, List.length_append]
theorem lenTo_le (xss : List (List UInt8)) (k : Nat) : lenTo xss k ≤ xss.flatten.length := flat_take_le xss k
theorem upTo_all (xss : List (List UInt8)) : upTo xss xss.length = xss.flatten := by unfold upTo; rw [List.take_length]
theorem lenTo_all (xss : List (List UInt8)) : lenTo xss xss.length = xss.flatten.length := by unfold lenTo; rw [upTo_all]

theorem New.start (w : World) (n : Nat) (h : n ≤ 1099511627776) : New w (w.alloc (.cells (madeCells #[.int .u8 0] n) 5)) (some ⟨w.heap.size, 0, none⟩) n [] := by
  refine ⟨?_, fun ad h => by injection h with h; subst h; simp⟩
  exact World.ownsRow_made w _ n (Nat.zero_le _) (by unfold maxLen; omega) (by simp [madeCells])
theorem New.grow {w w1 w2 : World} {A : Option Addr} {c : Nat} {bs cs : List UInt8} (hb : Below w.heap.size w w1) (h : Own w2 (More (fun k => w.heap.size ≤ k ∧ k < w1.heap.size) w1 w2) 5 A c (bs.map bv ++ cs.map bv)) (ho : Only (fun k => w.heap.size ≤ k ∧ k < w1.heap.size) w1 w2) :
    New w w2 A c (bs ++ cs) ∧ Below w.heap.size w w2 := by
  have h1 := hb.size
  have h2 := ho.size
  refine ⟨?_, hb.trans (ho.below (fun _ h => h.1) hb.size)⟩
  unfold New
  rw [List.map_append]
  refine h.mono (fun _ hk _ => ?_)
  rcases hk with hk | hk <;> omega
/-- .. a literal laid in between -/
theorem New.grow1 {w w1 w2 : World} {A : Option Addr} {c : Nat} {bs cs : List UInt8} {o : Obj} (hb : Below w.heap.size w w1) (h : Own w2 (More (fun k => w.heap.size ≤ k ∧ k < w1.heap.size) (w1.alloc o) w2) 5 A c (bs.map bv ++ cs.map bv)) (ho : Only (fun k => w.heap.size ≤ k ∧ k < w1.heap.size) (w1.alloc o) w2) :
    New w w2 A c (bs ++ cs) ∧ Below w.heap.size w w2 := by
  have h1 := hb.size
  have h2 := ho.size
  rw [World.size_alloc] at h2
  refine ⟨?_, (hb.alloc h1 o).trans (ho.below (fun _ h => h.1) (by rw [World.size_alloc]; omega))⟩
  unfold New
  rw [List.map_append]
  refine h.mono (fun _ hk _ => ?_)
  rcases hk with hk | hk
  · omega
  · rw [World.size_alloc] at hk; omega
theorem New.ext {w w1 w2 : World} {A : Option Addr} {c : Nat} {bs : List UInt8} (h : New w w1 A c bs) (hb : Below w1.heap.size w1 w2) : New w w2 A c bs :=
  (Own.ext h hb).mono (fun _ hk _ => ⟨hk.1, Nat.lt_of_lt_of_le hk.2 hb.size⟩)

theorem New.rd {w w1 : World} {A : Option Addr} {c : Nat} {bs : List UInt8} (h : New w w1 A c bs) : Rd w1 A (bs.map bv) := Own.rd h
theorem New.back {w w0 w1 : World} {A : Option Addr} {c : Nat} {bs : List UInt8} (h : New w w1 A c bs) (hs : w0.heap.size ≤ w.heap.size) : New w0 w1 A c bs :=
  Own.mono h (fun _ hk _ => ⟨Nat.le_trans hs hk.1, hk.2⟩)

set_option maxHeartbeats 1000000 in
theorem join_any (A : Option Addr) (n c : Nat) (xss : List (List UInt8)) (bs : List UInt8) (w : World) (hn : n = xss.length) (hbs : xss.flatten = bs) (hr : RowsF (fun _ => False) w A xss) (hb : bs.length ≤ 1099511627776) (hb2 : xss.length ≤ 1099511627776) :
    Calls Tryd.prog 52 #[.slice A n c] w fun e w' => ∃ A' c', e = .returned (.slice A' bs.length c') ∧ New w w' A' c' bs ∧ Below w.heap.size w w' := by
  subst hn
  have hmk := fun W => make_bytes W bs.length hb
  have hall := lenTo_all xss
  have hle := lenTo_le xss
  rw [hbs] at hall hle
  have Hbs := Lib.hid hbs
  have Hall := Lib.hid hall
  have Hle := Lib.hid hle
  clear hall hbs hle
  go_enter Tryd.func52, Tryd.ntmps52
  go_wp2
  go_loop [3, 11] (fun s i => ∃ k : Nat, k ≤ xss.length ∧ i = .int .i64 (k : Int) ∧ s = .int .i64 (lenTo xss k : Int)) (fun _ i => xss.length - (intOf i).toNat)
  case atStart => exact ⟨0, Nat.zero_le _, rfl, by rw [lenTo_zero]; rfl⟩
  case round =>
    obtain ⟨k, hk, rfl, rfl⟩ := hrel
    have hle := Hle.out k
    by_cases hlt : k < xss.length
    · obtain ⟨ad, B, cb, rfl, hcell, hl, hrd⟩ := hr.at_ hlt
      have hsucc := Lib.hid (lenTo_succ xss k hlt)
      have hle' := Hle.out (k + 1)
      rw [lenTo_succ xss k hlt] at hle'
      go_wp2
      go_round
      case rel => exact ⟨k + 1, by omega, by go_num, by rw [hsucc.out]; go_num⟩
      case measure => simp [intOf]; omega
    · obtain rfl : k = xss.length := by omega
      rw [Hall.out]
      clear hle
      go_wp2
      go_loopw [6, 24] (fun s i w1 => ∃ (k : Nat) (A' : Option Addr) (c' : Nat), k ≤ xss.length ∧ i = .int .i64 (k : Int) ∧ s = .slice A' (lenTo xss k) c' ∧ New w w1 A' c' (upTo xss k) ∧ Below w.heap.size w w1) (fun _ i _ => xss.length - (intOf i).toNat)
      case atStart => exact ⟨0, _, _, Nat.zero_le _, rfl, rfl, by first | exact New.start w bs.length hb | (rw [Nat.mul_one]; exact New.start w bs.length hb), (Below.refl _ _).alloc (Nat.le_refl _) _⟩
      case round =>
        obtain ⟨k, A', c', hk, rfl, rfl, hnew, hbel⟩ := hrel
        by_cases hlt : k < xss.length
        · obtain ⟨ad, B, cb, rfl, hcell, hl, hrd⟩ := (hr.ext hbel).at_ hlt
          have hsucc := Lib.hid (lenTo_succ xss k hlt)
          have usucc := Lib.hid (upTo_succ xss k hlt)
          have hle' := Hle.out (k + 1)
          rw [lenTo_succ xss k hlt] at hle'
          have hk1 : lenTo xss k + xss[k].length ≤ maxLen := by unfold maxLen; omega
          have hk2 : (lenTo xss k + xss[k].length) * 1 ≤ 140737488355328 := by omega
          have hl0 := Lib.hid (show lenTo xss k = ((upTo xss k).map bv).length by rw [List.length_map]; rfl)
          have hl1 := Lib.hid (show xss[k].length = (xss[k].map bv).length by rw [List.length_map])
          go_wp2_with (at_builtin
                       refine wpList_app _ rfl (.tmp 28) (.tmp 29) _ rfl _ _ 1 Tryd.underlying22 info_u8 rfl A' (lenTo xss k) c' _ rfl ?_ hnew B _ cb (xss[k].map bv) rfl ?_ hrd.1 (bvs_one _) hk1 hk2 ?_
                       · rw [List.length_map]; rfl
                       · rw [List.length_map]
                       intro A2 c2 w2 hown2 honly2)
          go_roundw
          case rel =>
            obtain ⟨g1, g2⟩ := New.grow hbel hown2 honly2
            exact ⟨k + 1, A2, c2, by omega, by go_num, by rw [hsucc.out], by rw [usucc.out]; exact g1, g2⟩
          case measure => simp [intOf]; omega
        · obtain rfl : k = xss.length := by omega
          rw [Hall.out]
          go_wp2
          go_ret
          refine ⟨A', c', rfl, ?_, hbel⟩
          rw [upTo_all, Hbs.out] at hnew
          exact hnew
end Go.Proofs.YtlpjeopeboemmaaDoor
