/-
  The contracts of sector's Len, has, Waiting, Read, New, Fuse, Write. No statement of the seat is proved here.
-/
import Derived.Test.YtlpjeopeboemmaaDoorLay
namespace Go.Proofs.YtlpjeopeboemmaaDoor
open Go Go.RowKit

/-! ### Len, has -/
section
variable {w : World} {fp : Nat → Prop} {g gc : Nat} {S : Sec} {l : Int} {B : Nat → Option Addr} {C : Nat → Nat}
theorem len_any (h : Lay w fp g gc S l B C) : Calls Tryd.prog 39 #[.pointer (some ⟨g, 0, none⟩)] w fun e w' => e = .returned (.int .i64 (S.length : Int)) ∧ w = w' := by
  have h0 : w.cell? ⟨g, 0, none⟩ = some (.slice (some ⟨gc, 0, none⟩) S.length S.length) := h.dsk.cell 0
  go_enter Tryd.func39, Tryd.ntmps39
  go_wp2
  go_ret
  exact ⟨rfl, rfl⟩
theorem has_any (h : Lay w fp g gc S l B C) (i : Int) : Calls Tryd.prog 59 #[.pointer (some ⟨g, 0, none⟩), .int .i64 i] w fun e w' => e = .returned (.bool (decide (0 ≤ i ∧ i < (S.length : Int)))) ∧ w = w' := by
  by_cases h0 : 0 ≤ i
  · have e1 : decide (0 ≤ i ∧ i < (S.length : Int)) = decide (i < (S.length : Int)) := by simp [h0]
    rw [e1]
    go_enter Tryd.func59, Tryd.ntmps59
    go_wp2_with fail
    refine (len_any h).mono ?_
    rintro e w2 ⟨rfl, rfl⟩
    go_wp2
    go_ret
    exact ⟨rfl, rfl⟩
  · have e1 : decide (0 ≤ i ∧ i < (S.length : Int)) = false := by simp [h0]
    rw [e1]
    go_enter Tryd.func59, Tryd.ntmps59
    go_wp2
    go_ret
    exact ⟨rfl, rfl⟩
end

theorem info_int : (Tryd.prog.info? 3).map (fun i => (i.zero, i.size, i.bytes)) = some (some (.int .i64 0), 1, 8) := by kernel_rfl
def iv' (i : Nat) : Value := .int .i64 (i : Int)

set_option maxHeartbeats 1000000 in
theorem waiting_any {w : World} {fp : Nat → Prop} {g gc : Nat} {S : Sec} {l : Int} {B : Nat → Option Addr} {C : Nat → Nat} (h : Lay w fp g gc S l B C) (hs : Small 1000000 S) :
    Calls Tryd.prog 37 #[.pointer (some ⟨g, 0, none⟩)] w fun e w' => ∃ A c, e = .returned (.slice A (waiting S).length c) ∧ RowO w' 3 1 A (waiting S).length c ((waiting S).map iv') ∧ Below w.heap.size w w' ∧ ∀ k, inA A k → w.heap.size ≤ k := by
  have hn := h.n
  go_enter Tryd.func37, Tryd.ntmps37
  go_wp2_with fail
  refine (len_any h).mono ?_
  rintro e w2 ⟨rfl, rfl⟩
  go_wp2
  go_loopw [3, 4, 7] (fun s _ i w1 => ∃ (k : Nat) (A : Option Addr) (c : Nat), k ≤ S.length ∧ i = .int .i64 (k : Int) ∧ s = .slice A (rk (pw S) k) c ∧ RowO w1 3 1 A (rk (pw S) k) c ((wl (pw S) k).map iv') ∧ Below w.heap.size w w1 ∧ ∀ k, inA A k → w.heap.size ≤ k) (fun _ _ i _ => S.length - (intOf i).toNat)
  case atStart => exact ⟨0, none, 0, Nat.zero_le _, rfl, rfl, RowO.none_ _ _ _, Below.refl _ _, fun k hk => absurd hk (inA_none k)⟩
  case round =>
    obtain ⟨k, A, c, hk, rfl, rfl, hrow, hbel, hnew⟩ := hrel
    by_cases hlt : k < S.length
    · have hl := h.ext hbel
      have h0 : wr.cell? ⟨g, 0, none⟩ = some (.slice (some ⟨gc, 0, none⟩) S.length S.length) := hl.dsk.cell 0
      have hsm := hs S[k] (List.getElem_mem hlt)
      have hsucc := Lib.hid (rk_succ (pw S) k)
      have wsucc := Lib.hid (wl_succ (pw S) k)
      have hle := rk_le (pw S) k
      have hpk := pw_eq hlt
      go_wp2_with fail
      refine (waits_any gc (k * 65) S[k] _ _ _ (hl.cel k hlt) hsm).mono ?_
      rintro e w2 ⟨rfl, rfl⟩
      by_cases hp : 1 < S[k].length
      · have hpk' : pw S k = true := by rw [hpk]; simp [hp]
        rw [hpk'] at hsucc wsucc
        have hm1 : rk (pw S) k + 1 ≤ maxLen := by unfold maxLen; omega
        have hm2 : (rk (pw S) k + 1) * 8 ≤ 140737488355328 := by omega
        go_wp2_with (at_builtin
                     refine wpList_appO _ rfl (.tmp 17) (.tmp 19) _ rfl _ _ 1 8 Tryd.underlying34 info_int rfl A _ c _ rfl (hrow.alloc _) (some ⟨wr.heap.size, 0, none⟩) 1 1 [.int .i64 (k : Int)] rfl rfl (Rd.lit _ #[.int .i64 (k : Int)] _) ?_ ?_ hm1 hm2 ?_
                     · simp; rfl
                     · intro h; cases h
                     intro A2 c2 w3 hrow3 honly3 hA3)
        go_roundw
        case rel =>
          refine ⟨k + 1, A2, c2, by omega, by go_num, ?_, ?_, ?_, ?_⟩
          · rw [hsucc.out]; rfl
          · rw [hsucc.out, wsucc.out]
            simpa [iv'] using hrow3
          · refine (hbel.alloc hbel.size _).trans (honly3.below (fun i hi => hnew i hi) ?_)
            rw [World.size_alloc]; have := hbel.size; omega
          · intro k' hk'
            rcases hA3 k' hk' with h1 | h1
            · exact hnew k' h1
            · have := hbel.size
              rw [World.size_alloc] at h1; omega
        case measure => simp [intOf]; omega
      · have hpk' : pw S k = false := by rw [hpk]; simp [hp]
        rw [hpk'] at hsucc wsucc
        have hdec : decide (1 < S[k].length) = false := by simp [hp]
        rw [hdec]
        go_wp2
        go_roundw
        case rel =>
          refine ⟨k + 1, A, c, by omega, by go_num, ?_, ?_, hbel, hnew⟩
          · rw [hsucc.out]; rfl
          · rw [hsucc.out, wsucc.out]
            simpa using hrow
        case measure => simp [intOf]; omega
    · obtain rfl : k = S.length := by omega
      go_wp2
      go_ret
      exact ⟨A, c, rfl, hrow, hbel, hnew⟩

/-! ### New -/
def zerosV : List UInt8 := List.replicate 64 0
def zeroS (n : Nat) : Sec := List.replicate n [zerosV]
theorem zerosV_length : zerosV.length = 64 := rfl
theorem info_cell : (Tryd.prog.info? 94).map (fun i => (i.zero, i.size, i.bytes)) = some (some (.agg (oneCells zerosV).toArray), 65, 88) := by kernel_rfl
theorem make_cells (W : World) (n : Nat) (h : n ≤ 4096) : (Instr.makeSlice 86 (.int .i64 (n : Int)) (.int .i64 (n : Int))).run Tryd.prog W =
    .ok (.slice (some ⟨W.heap.size, 0, none⟩) n n) (W.alloc (.cells (madeCells (oneCells zerosV).toArray (n * 65)) 94)) := by
  obtain ⟨i, hi, hz, hsz, hby⟩ := info_parts info_cell
  have hr := run_make (P := Tryd.prog) W 86 94 i _ Tryd.underlying86 hi hz .i64 .i64 (n : Int) (n : Int) (by omega) (by omega) (by rw [hby]; omega) (by omega)
  simp only [Int.toNat_natCast, hsz] at hr
  exact hr
theorem made_at (z : Array Value) (n i j : Nat) (hi : i < n) (hj : j < z.size) : (madeCells z (n * z.size))[i * z.size + j]? = z[j]? := by
  have h1 : i * z.size + j < n * z.size := by
    have : (i + 1) * z.size ≤ n * z.size := Nat.mul_le_mul_right _ hi
    rw [Nat.add_mul] at this; omega
  have h2 : (i * z.size + j) % z.size = j := by rw [Nat.add_comm, Nat.add_mul_mod_self_right]; exact Nat.mod_eq_of_lt hj
  simp [madeCells, h1, h2, hj]

/-- a disk of noughts -/
theorem lay_new (w : World) (n : Nat) (hn : n ≤ 4096) (fp : Nat → Prop) (h1 : fp w.heap.size) (h2 : fp (w.heap.size + 1)) :
    Lay ((w.alloc (.cells (madeCells (oneCells zerosV).toArray (n * 65)) 94)).alloc (.cells #[.slice (some ⟨w.heap.size, 0, none⟩) n n, .bool false, .int .i64 0] 88)) fp (w.heap.size + 1) w.heap.size (zeroS n) (-1) (fun _ => none) (fun _ => 0) := by
  have hb : Blk ((w.alloc (.cells (madeCells (oneCells zerosV).toArray (n * 65)) 94)).alloc (.cells #[.slice (some ⟨w.heap.size, 0, none⟩) n n, .bool false, .int .i64 0] 88)) w.heap.size 94 (madeCells (oneCells zerosV).toArray (n * 65)) := (Blk.new _ _ _).alloc _
  have hl : (zeroS n).length = n := by simp [zeroS]
  refine ⟨h2, h1, by omega, by omega, by omega, ?_, ⟨_, hb, by rw [hl]; simp [madeCells]⟩, fun i hi => ?_, fun i k _ hk => absurd hk (inA_none k), fun i j k _ _ hk => absurd hk (inA_none k)⟩
  · rw [hl]
    have := Blk.new (w.alloc (.cells (madeCells (oneCells zerosV).toArray (n * 65)) 94)) 88 #[.slice (some ⟨w.heap.size, 0, none⟩) n n, .bool false, .int .i64 0]
    rw [World.size_alloc] at this
    exact this
  · have e : (zeroS n)[i] = [zerosV] := by simp [zeroS]
    rw [e]
    refine CelAt.one zerosV rfl fun j v hv => ?_
    have hj : j < 65 := (List.getElem?_eq_some_iff.1 hv).1
    rw [hb.cell]
    have := made_at (oneCells zerosV).toArray n i j (by omega) hj
    rw [show (oneCells zerosV).toArray.size = 65 from rfl] at this
    rw [this]
    simpa using hv

theorem new_ok (n : Nat) (w : World) (h1 : 1 ≤ n) (h2 : n ≤ 4096) :
    Calls Tryd.prog 25 #[.int .i64 (n : Int)] w fun e w' => ∃ g, e = .returned (.tuple #[.pointer (some ⟨g, 0, none⟩), .int .i64 0]) ∧ Below w.heap.size w w' ∧ Imp w' (fun k => w.heap.size ≤ k ∧ k < w'.heap.size) g (zeroS n) (-1) := by
  have hmk := fun W => make_cells W n h2
  go_enter Tryd.func25, Tryd.ntmps25
  go_wp2
  go_ret2
  refine ⟨w.heap.size + 1, rfl, ((Below.refl _ _).alloc (Nat.le_refl _) _).alloc (by simp) _, w.heap.size, fun _ => none, fun _ => 0, ?_⟩
  exact lay_new w n h2 _ (by simp only [World.size_alloc]; omega) (by simp only [World.size_alloc]; omega)
theorem new_bad (n : Int) (w : World) (h : n < 1 ∨ 4096 < n) :
    Calls Tryd.prog 25 #[.int .i64 n] w fun e w' => e = .returned (.tuple #[.pointer none, .int .i64 1]) ∧ w = w' := by
  rcases h with h | h
  all_goals
    go_enter Tryd.func25, Tryd.ntmps25
    go_wp2
    go_ret2
    exact ⟨rfl, rfl⟩

/-! ### Read -/
set_option maxRecDepth 100000 in
theorem read_ok {w : World} {fp : Nat → Prop} {g gc : Nat} {S : Sec} {l : Int} {B : Nat → Option Addr} {C : Nat → Nat} (h : Lay w fp g gc S l B C) (hs : Small 1000000 S) (i : Nat) (hi : i < S.length) :
    Calls Tryd.prog 31 #[.pointer (some ⟨g, 0, none⟩), .int .i64 (i : Int)] w fun e w' => ∃ g', e = .returned (.tuple #[.slice (some ⟨g', 0, none⟩) 64 64, .int .i64 0]) ∧ Below w.heap.size w w' ∧ Blk w' g' 91 ((lastOf S[i]).map bv).toArray ∧ w.heap.size ≤ g' := by
  have hz := zeros_ver
  have h0 : w.cell? ⟨g, 0, none⟩ = some (.slice (some ⟨gc, 0, none⟩) S.length S.length) := h.dsk.cell 0
  have hc := h.cel i hi
  have hm := lastOf_mem hc.ne
  have hv64 := hc.len _ hm
  have hsm := hs S[i] (List.getElem_mem hi)
  have hlast : S[i].getLast? = some (lastOf S[i]) := by
    unfold lastOf
    rw [List.getLastD_eq_getLast?]
    have := List.length_pos_iff.2 hc.ne
    rw [List.getLast?_eq_getElem?, List.getElem?_eq_getElem (by omega)]; rfl
  have hii : (i : Int) < (S.length : Int) := by omega
  have hhas : decide (0 ≤ (i : Int) ∧ (i : Int) < (S.length : Int)) = true := by simp; omega
  have hisz : (Tryd.prog.info? 91).map (·.size) = some ((lastOf S[i]).map bv).toArray.size := by rw [size_ver]; simp [hv64]
  have hsz : (Array.replicate 64 (Value.int .u8 0)).size = ((lastOf S[i]).map bv).toArray.size := by simp [hv64]
  have h1 : ((lastOf S[i]).map bv).toArray.all (·.oneCell') = true := all_oneCell_toArray (bvs_one _)
  go_enter Tryd.func31, Tryd.ntmps31
  go_wp2_with fail
  refine (has_any h (i : Int)).mono ?_
  rintro e w2 ⟨rfl, rfl⟩
  rw [hhas]
  go_wp2_with fail
  refine (now_any gc (i * 65) S[i] _ _ w hc (lastOf S[i]) hlast hsm).mono ?_
  rintro e w2 ⟨rfl, hb2⟩
  go_wp2_with (refine wpList_store_new rfl 91 _ _ rfl _ _ rfl rfl hisz hsz h1 ?_)
  go_ret2
  exact ⟨w2.heap.size, rfl, hb2.alloc hb2.size _, Blk.new _ _ _, hb2.size⟩
theorem read_bad {w : World} {fp : Nat → Prop} {g gc : Nat} {S : Sec} {l : Int} {B : Nat → Option Addr} {C : Nat → Nat} (h : Lay w fp g gc S l B C) (i : Int) (hi : ¬ (0 ≤ i ∧ i < (S.length : Int))) :
    Calls Tryd.prog 31 #[.pointer (some ⟨g, 0, none⟩), .int .i64 i] w fun e w' => e = .returned (.tuple #[.slice none 0 0, .int .i64 1]) ∧ w = w' := by
  have hhas : decide (0 ≤ i ∧ i < (S.length : Int)) = false := by simp only [decide_eq_false_iff_not]; exact hi
  go_enter Tryd.func31, Tryd.ntmps31
  go_wp2_with fail
  refine (has_any h i).mono ?_
  rintro e w2 ⟨rfl, rfl⟩
  rw [hhas]
  go_wp2
  go_ret2
  exact ⟨rfl, rfl⟩

/-! ### Fuse -/
theorem fuse_any {w : World} {fp : Nat → Prop} {g gc : Nat} {S : Sec} {l : Int} {B : Nat → Option Addr} {C : Nat → Nat} (h : Lay w fp g gc S l B C) (n : Int) (hn : isInt n) :
    Calls Tryd.prog 20 #[.pointer (some ⟨g, 0, none⟩), .int .i64 n] w fun e w' => e = .returned (.tuple #[]) ∧ Only (fun k => k = g) w w' ∧ Lay w' fp g gc S (max n (-1)) B C := by
  have c1 : w.cell? ⟨g, 1, none⟩ = some (litV l) := h.dsk.cell 1
  have c2 : w.cell? ⟨g, 2, none⟩ = some (leftV l) := h.dsk.cell 2
  have f1 : w.frozen? ⟨g, 1, none⟩ = false := h.dsk.free 1
  have f2 : w.frozen? ⟨g, 2, none⟩ = false := h.dsk.free 2
  unfold isInt at hn
  by_cases h0 : 0 ≤ n
  · have e1 : max n (-1) = n := by omega
    rw [e1]
    go_enter Tryd.func20, Tryd.ntmps20
    go_wp2
    go_end0
    have ho : Only (fun k => k = g) w ((((w.setCell ⟨g, 1, none⟩ (.bool false)).setCell ⟨g, 2, none⟩ (.int .i64 0)).setCell ⟨g, 1, none⟩ (.bool true)).setCell ⟨g, 2, none⟩ (.int .i64 n)) :=
      ((((Only.refl (fun k => k = g) w).setCell (p := ⟨g, 1, none⟩) (.inl rfl) _).setCell (p := ⟨g, 2, none⟩) (.inl rfl) _).setCell (p := ⟨g, 1, none⟩) (.inl rfl) _).setCell (p := ⟨g, 2, none⟩) (.inl rfl) _
    refine ⟨rfl, ho, h.fuse n (by omega) (by omega) ho ?_⟩
    have hb := (((h.dsk.put 1 (.bool false)).put 2 (.int .i64 0)).put 1 (.bool true)).put 2 (.int .i64 n)
    have e1 : litV n = .bool true := by unfold litV; rw [decide_eq_true h0]
    have e2 : leftV n = .int .i64 n := by unfold leftV; rw [Int.max_eq_left h0]
    rw [e1, e2]
    exact hb
  · have e1 : max n (-1) = -1 := by omega
    rw [e1]
    go_enter Tryd.func20, Tryd.ntmps20
    go_wp2
    go_end0
    have ho : Only (fun k => k = g) w ((w.setCell ⟨g, 1, none⟩ (.bool false)).setCell ⟨g, 2, none⟩ (.int .i64 0)) :=
      ((Only.refl (fun k => k = g) w).setCell (p := ⟨g, 1, none⟩) (.inl rfl) _).setCell (p := ⟨g, 2, none⟩) (.inl rfl) _
    refine ⟨rfl, ho, h.fuse (-1) (by omega) (by omega) ho ?_⟩
    exact (h.dsk.put 1 (.bool false)).put 2 (.int .i64 0)
end Go.Proofs.YtlpjeopeboemmaaDoor
