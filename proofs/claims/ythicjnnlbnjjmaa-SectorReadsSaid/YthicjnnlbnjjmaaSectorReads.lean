/-
  SectorReads holds for every number and all bytes: a sector is what was written last, and noughts behind it, till a crash. No condition.
-/
import Derived.Test.YthicjnnlbnjjmaaConv
import Derived.Test.YthicjnnlbnjjmaaArgsG
namespace Go.Proofs.Ythicjnnlbnjjmaa.SectorReads
open Go Go.ChangeShapes Go.WideShapes Go.ChangeAt Go.RowKit Go.Proofs.Ythicjnnlbnjjmaa

def readS (k : Nat) (a b : List UInt8) : Sec := (zeroS 10).set k [zerosV, pad a, pad b]
theorem reads_write (k : Nat) (hk : k < 10) (a b : List UInt8) (ha : a.length ≤ 64) (hb : b.length ≤ 64) : writeS (writeS (zeroS 10) (-1) k a) (-1) k b = readS k a b := by
  have hl : (zeroS 10).length = 10 := rfl
  rw [(writeS_ok (S := zeroS 10) (l := -1) (i := k) (bs := a) (by omega) ha (by omega)).2]
  rw [(writeS_ok (l := -1) (i := k) (bs := b) (by rw [List.length_set]; omega) hb (by omega)).2]
  rw [List.getElem_set_self, List.set_set]
  have e : (zeroS 10)[k]'(by omega) = [zerosV] := by simp only [zeroS, List.getElem_replicate]
  rw [e]
  rfl
theorem reads_len (k : Nat) (a b : List UInt8) : (readS k a b).length = 10 := by simp [readS, zeroS]
theorem reads_small (k : Nat) (hk : k < 10) (a b : List UInt8) : Small 999999 (readS k a b) := fun vs hv => by
  rcases List.mem_or_eq_of_mem_set hv with hv | hv
  · rw [List.eq_of_mem_replicate hv]; simp
  · subst hv; simp
theorem reads_wait (k : Nat) (hk : k < 10) (a b : List UInt8) : waiting (readS k a b) = [k] := by
  match k, hk with
  | 0, _ => rfl
  | 1, _ => rfl
  | 2, _ => rfl
  | 3, _ => rfl
  | 4, _ => rfl
  | 5, _ => rfl
  | 6, _ => rfl
  | 7, _ => rfl
  | 8, _ => rfl
  | 9, _ => rfl
  | n + 10, h => omega

set_option maxRecDepth 100000 in
set_option maxHeartbeats 4000000 in
theorem law_any (i : Int) (hi : isInt i) (A : Option Addr) (n c : Nat) (a : List UInt8) (hn : n = a.length) (W : World) (hr : Rd W A (a.map bv)) (B : Option Addr) (m d : Nat) (b : List UInt8) (hm : m = b.length) (hrb : Rd W B (b.map bv)) :
    Calls Try.prog 9 #[.int .i64 i, .slice A n c, .slice B m d] W fun e w' => e = .returned (.bool true) ∧ Below W.heap.size W w' := by
  subst hn hm
  have hi' := hi
  unfold isInt at hi'
  by_cases h1 : 64 < a.length
  · have e1 : (64 : Int) < (a.length : Int) := by omega
    go_enter Try.func9, Try.ntmps9
    go_wp2
    go_ret
    exact ⟨rfl, Below.refl _ _⟩
  · by_cases h2 : 64 < b.length
    · have e1 : decide ((64 : Int) < (a.length : Int)) = false := decide_eq_false (by omega)
      have e2 : (64 : Int) < (b.length : Int) := by omega
      go_enter Try.func9, Try.ntmps9
      go_wp2
      go_ret
      exact ⟨rfl, Below.refl _ _⟩
    · by_cases h3 : i < 0 ∨ 9 < i
      · have e1 : decide ((64 : Int) < (a.length : Int)) = false := decide_eq_false (by omega)
        have e2 : decide ((64 : Int) < (b.length : Int)) = false := decide_eq_false (by omega)
        rcases h3 with h3 | h3
        · go_enter Try.func9, Try.ntmps9
          go_wp2
          go_ret
          exact ⟨rfl, Below.refl _ _⟩
        · have e3 : decide (i < 0) = false := decide_eq_false (by omega)
          go_enter Try.func9, Try.ntmps9
          go_wp2
          go_ret
          exact ⟨rfl, Below.refl _ _⟩
      · obtain ⟨k, rfl⟩ : ∃ k : Nat, i = (k : Int) := ⟨i.toNat, by omega⟩
        have hk : k < 10 := by omega
        have e1 : decide ((64 : Int) < (a.length : Int)) = false := decide_eq_false (by omega)
        have e2 : decide ((64 : Int) < (b.length : Int)) = false := decide_eq_false (by omega)
        have e3 : decide ((k : Int) < 0) = false := decide_eq_false (by omega)
        have e4 : decide ((9 : Int) < (k : Int)) = false := decide_eq_false (by omega)
        go_enter Try.func9, Try.ntmps9
        go_wp2_with fail
        refine (new_step 10 W W (Below.refl _ _) (by omega) (by omega)).mono ?_
        rintro e w2 ⟨g, rfl, hI2, hb2⟩
        go_wp2_with fail
        refine (write_step hI2 hb2 (small_mono (small_zero 10) (by omega)) (k : Int) A _ c a rfl (hr.ext hb2)).mono ?_
        rintro e w3 ⟨rfl, hI3, hb3⟩
        have hok := writeS_ok (S := zeroS 10) (l := -1) (i := k) (bs := a) (by simp [zeroS]; omega) (by omega) (by omega)
        have hl3 : writeL (zeroS 10).length (-1) (k : Int) a = -1 := by unfold writeL; rw [if_pos hok.1]; rfl
        rw [hl3] at hI3
        generalize writeCode (zeroS 10).length (-1) (k : Int) a = r1
        have hS3 := small_write (small_zero 10) (-1) (k : Int) a
        go_wp2_with fail
        refine (write_step hI3 hb3 (small_mono hS3 (by omega)) (k : Int) B _ d b rfl (hrb.ext hb3)).mono ?_
        rintro e w4 ⟨rfl, hI4, hb4⟩
        have hok4 := writeS_ok (S := writeS (zeroS 10) (-1) (k : Int) a) (l := -1) (i := k) (bs := b) (by rw [writeS_length]; simp [zeroS]; omega) (by omega) (by omega)
        have hl4 : writeL (writeS (zeroS 10) (-1) (k : Int) a).length (-1) (k : Int) b = -1 := by unfold writeL; rw [if_pos hok4.1]; rfl
        rw [hl4, reads_write k hk a b (by omega) (by omega)] at hI4
        generalize writeCode (writeS (zeroS 10) (-1) (k : Int) a).length (-1) (k : Int) b = r2
        clear hI2 hI3 hb2 hb3 hok hok4 hl3 hl4 hS3
        have hS4 := reads_small k hk a b
        obtain ⟨gc, B4, C4, hL4⟩ := hI4
        have hk4 : k < (readS k a b).length := by rw [reads_len]; exact hk
        have hlast : lastOf ((readS k a b)[k]'hk4) = pad b := by
          have e : (readS k a b)[k]'hk4 = [zerosV, pad a, pad b] := by simp only [readS, List.getElem_set_self]
          rw [e]; rfl
        have hread := read_ok hL4 (small_mono hS4 (by omega)) k hk4
        rw [hlast] at hread
        go_wp2_with fail
        refine hread.mono ?_
        rintro e w5 ⟨gx, rfl, hb5, hkx, hgx⟩
        have hcv1 : ∀ q, (convert 32 9 (.slice (some ⟨gx, 0, none⟩) b.length 64)).run Try.prog (w5.drewN q) = .ok (.string ⟨b.toArray⟩) (w5.drewN q) := fun q => conv_bytes _ _ _ _ b rfl (Rd.drewN (fun j u hu => ⟨_, rfl, by
          have hj : j < b.length := by
            have := (List.getElem?_eq_some_iff.1 hu).1
            simpa using this
          rw [Addr.add_mid, Nat.zero_add, hkx.cell]
          rw [List.getElem?_toArray, List.getElem?_map, pad, List.getElem?_append_left hj, ← hu, List.getElem?_map]⟩) q)
        have hcv2 : ∀ q, (convert 32 9 (.slice B b.length d)).run Try.prog (w5.drewN q) = .ok (.string ⟨b.toArray⟩) (w5.drewN q) := fun q => conv_bytes _ _ _ _ b rfl (Rd.drewN ((hrb.ext hb4).ext (hb5.mono hb4.size |> fun h => ⟨h.os, h.tape, h.output, hb5.size, fun i hi => hb5.block i hi⟩)) q)
        have hbl : (b.length : Int) ≤ 64 := by omega
        go_wp2_with fail
        go_quiet (fail)
        go_wp2
        have hpl : (pad b).length = 64 := pad_length (by omega)
        have hzero : ∀ j : Nat, b.length ≤ j → j < 64 → w5.cell? ⟨gx, j, none⟩ = some (.int .u8 0) := fun j h5 h6 => by
          rw [hkx.cell, List.getElem?_toArray, List.getElem?_map, pad, List.getElem?_append_right h5, List.getElem?_replicate, if_pos (by omega)]
          rfl
        replace hzero := Lib.hid hzero
        go_loop [11] (fun i => ∃ j : Nat, b.length ≤ j ∧ j ≤ 64 ∧ i = .int .i64 (j : Int)) (fun i => 64 - (intOf i).toNat)
        case atStart => exact ⟨b.length, Nat.le_refl _, by omega, rfl⟩
        case round =>
          obtain ⟨j, hj1, hj2, rfl⟩ := hrel
          by_cases hlt : j < 64
          · have hcz := hzero.out j hj1 hlt
            have hji : (j : Int) < 64 := by omega
            go_wp2
            go_round
            case rel => exact ⟨j + 1, by omega, by omega, by go_num⟩
            case measure => simp [intOf]; omega
          · obtain rfl : j = 64 := by omega
            obtain ⟨b0, hb0⟩ : ∃ b0, (pad b)[0]? = some b0 := ⟨_, List.getElem?_eq_getElem (by omega)⟩
            have hx0 : w5.cell? ⟨gx, 0, none⟩ = some (.int .u8 (b0.toNat : Int)) := by
              rw [hkx.cell, List.getElem?_toArray, List.getElem?_map, hb0]; rfl
            have hf0 : w5.frozen? ⟨gx, 0, none⟩ = false := hkx.free 0
            go_wp2_with fail
            have hsub : (((b0.toNat : Int) + 1) % 256 - 1) % 256 = (b0.toNat : Int) := by have := b0.toNat_lt; omega
            have hwrap : IntKind.u8.wrap (((b0.toNat : Int) + 1) % 256 - 1) = (b0.toNat : Int) := by rw [IntKind.wrap_u8]; exact hsub
            have h45 := hb5.size
            have ho6 : Only (fun k' => k' = gx) (w5.drewN nq) ((w5.drewN nq).setCell ⟨gx, 0, none⟩ (.int .u8 (((b0.toNat : Int) + 1) % 256))) := (Only.refl (fun k' => k' = gx) (w5.drewN nq)).setCell (p := ⟨gx, 0, none⟩) (.inl rfl) _
            have hL6 := ((hL4.ext hb5).drewN nq).only ho6 (fun k' hk' e => by have := hk'.2; omega)
            have hk6 := (hkx.drewN nq).put 0 (.int .u8 (((b0.toNat : Int) + 1) % 256))
            have hb6 : Below W.heap.size W ((w5.drewN nq).setCell ⟨gx, 0, none⟩ (.int .u8 (((b0.toNat : Int) + 1) % 256))) := by
              refine (ext_drewN (hb4.trans (hb5.mono hb4.size)) nq).trans (ho6.below (fun i hi => ?_) ?_)
              · have := hb4.size; omega
              · have h7 : W.heap.size ≤ w5.heap.size := by have := hb4.size; omega
                exact h7
            have hcx : ((w5.drewN nq).setCell ⟨gx, 0, none⟩ (.int .u8 (((b0.toNat : Int) + 1) % 256))).cell? ⟨gx, 0, none⟩ = some (.int .u8 (((b0.toNat : Int) + 1) % 256)) := by
              rw [hk6.cell]; simp [hpl]
            have hlx := hk6.lt
            clear hkx hcv1 hcv2 ho6 hx0 hf0 hk6
            generalize (w5.drewN nq).setCell ⟨gx, 0, none⟩ (.int .u8 (((b0.toNat : Int) + 1) % 256)) = w6 at hL6 hb6 hcx hlx
            have hread6 := read_ok hL6 (small_mono hS4 (by omega)) k hk4
            rw [hlast] at hread6
            refine hread6.mono ?_
            rintro e w7 ⟨gy, rfl, hb7, hky, _⟩
            have hy0 : w7.cell? ⟨gy, 0, none⟩ = some (.int .u8 (b0.toNat : Int)) := by
              rw [hky.cell, List.getElem?_toArray, List.getElem?_map, hb0]; rfl
            have hwait := waiting_any (hL6.ext hb7) (small_mono hS4 (by omega))
            rw [reads_wait k hk a b] at hwait
            go_wp2_with fail
            refine hwait.mono ?_
            rintro e w8 ⟨A8, c8, rfl, hrow8, hb8, _⟩
            obtain ⟨ad8, rfl, hw0⟩ := hrow8.rd 0 (.int .i64 (k : Int)) rfl
            have hw0' : w8.cell? ad8 = some (.int .i64 (k : Int)) := hw0
            have hy8 : w8.cell? ⟨gy, 0, none⟩ = some (.int .u8 (b0.toNat : Int)) := (World.cell?_of_block (a := ⟨gy, 0, none⟩) (hb8.block gy hky.lt)).trans hy0
            have hx8 : w8.cell? ⟨gx, 0, none⟩ = some (.int .u8 (((b0.toNat : Int) + 1) % 256)) :=
              (World.cell?_of_block (a := ⟨gx, 0, none⟩) ((hb8.block gx (by have := hb7.size; show gx < w7.heap.size; omega)).trans (hb7.block gx hlx))).trans hcx
            have hb78 : Below W.heap.size W w8 := (hb6.trans (hb7.mono hb6.size)).trans (hb8.mono (by have := hb6.size; have := hb7.size; omega))
            clear hread6 hwait hread hlast
            go_wp2_with fail
            have hkeep := Lib.hid (show ∀ w' : World, Below w8.heap.size w8 w' → w'.cell? ⟨gy, 0, none⟩ = some (.int .u8 (b0.toNat : Int)) ∧ w'.cell? ⟨gx, 0, none⟩ = some (.int .u8 (((b0.toNat : Int) + 1) % 256)) ∧ w'.cell? ad8 = some (.int .i64 (k : Int)) from fun w' hb' =>
              ⟨(World.cell?_of_block (a := ⟨gy, 0, none⟩) (hb'.block gy (World.block_lt_of_cell? w8 _ hy8))).trans hy8, (World.cell?_of_block (a := ⟨gx, 0, none⟩) (hb'.block gx (World.block_lt_of_cell? w8 _ hx8))).trans hx8, (World.cell?_of_block (a := ad8) (hb'.block _ (World.block_lt_of_cell? w8 _ hw0'))).trans hw0'⟩)
            go_region_held_law (fun w' => w'.cell? ⟨gy, 0, none⟩ = some (.int .u8 (b0.toNat : Int)) ∧ w'.cell? ⟨gx, 0, none⟩ = some (.int .u8 (((b0.toNat : Int) + 1) % 256)) ∧ w'.cell? ad8 = some (.int .i64 (k : Int)))
              (first | exact ⟨hy8, hx8, hw0'⟩ | exact hkeep.out _ hb9)
              (first
                | (go_at_call 15; refine (known_any _).mono ?_; rintro e w9 ⟨rfl, hb9'⟩; have hb9 : Below w8.heap.size w8 w9 := ⟨hb9'.os, hb9'.tape, hb9'.output, hb9'.size, hb9'.block⟩))
            all_goals
              go_wp2
              go_ret
              exact ⟨rfl, hb78.trans (hb9.mono hb78.size)⟩

theorem contract (H : Type) (enc : TypeId × Value → H) (W : World) (base : Nat) (args : Array Value) (ds gs : List (DataW H)) (before : List MemPlace)
    (hval : ∀ (j : Nat) t v, Try.f9.params[j]? = some t → args[j]? = some v → Value.okWide Try.prog W .any base t v)
    (hW : DataW.Whole enc Try.prog Try.f9.params.toList Rows.sectorReadsSpec.vars false W args.toList ds gs before) :
    Calls Try.prog 9 args W fun e W' => ∃ v, e = .returned v ∧ Rows.sectorReadsSpec.post enc Try.prog Try.f9 false true false false W args v W' := by
  have hW' := hW
  obtain ⟨p, q, hA0, hV, rfl, hfz, hnd⟩ := hW
  have hA : DataW.TrodAll enc Try.prog W 0 (fun _ => true) true Try.f9.params.toList args.toList ds p := hA0
  rw [Try.params9] at hA hval
  obtain ⟨x0, x1, x2, d0, d1, d2, p0, p1, p2, rfl, rfl, rfl, h0, h1, h2⟩ := trodAll_three hA
  obtain ⟨v0, rfl, rfl, rfl, wv0⟩ := open_int Try.underlying3 (hval 0 _ x0 rfl rfl) h0
  have i0 := int_of_wf wv0
  obtain ⟨A1, n1, c1, xs1, rfl, hn1, hc1, hm1, hr1⟩ := arg_bytes (hval 1 _ x1 rfl rfl) h1
  obtain ⟨A2, n2, c2, xs2, rfl, hn2, hc2, hm2, hr2⟩ := arg_bytes (hval 2 _ x2 rfl rfl) h2
  have walk : Calls Try.prog 9 #[.int .i64 v0, .slice A1 n1 c1, .slice A2 n2 c2] W fun e w' => e = .returned (.bool true) ∧ Below W.heap.size W w' := law_any v0 i0 A1 n1 c1 xs1 hn1 W hr1 A2 n2 c2 xs2 hn2 hr2
  refine walk.mono fun e W' ⟨he, hb⟩ => ?_
  subst he
  exact ⟨_, rfl, law_post rfl rfl (by kernel_rfl) ⟨rfl, rfl, rfl⟩ hW' hb⟩

theorem laid_met (os : Os) : laidMet Try.prog Rows.sectorReadsRow.laid ((plainWorld os).forCall (fun _ _ => 0) ⟨#[], #[.int .i64 0, .slice none 0 0, .slice none 0 0], []⟩).memory :=
  laidMet_of_run' 8 (by kernel_rfl) (by kernel_rfl)
theorem reads (os : Os) {H : Type} (enc : TypeId × Value → H) : ∃ places, DataW.whole enc Try.prog ((plainWorld os).forCall (fun _ _ => 0) ⟨#[], #[.int .i64 0, .slice none 0 0, .slice none 0 0], []⟩).memory Try.f9.params.toList Rows.sectorReadsSpec.vars false #[Value.int .i64 0, .slice none 0 0, .slice none 0 0].toList 8 = some ([.lit (.int .i64 0), .nil, .nil], [], places) :=
  ⟨[], by kernel_rfl⟩

set_option maxRecDepth 100000 in
theorem lifted (os : Os) (started : os.Started) (H : Type) (enc : TypeId × Value → H) (F : Stop.Interp) :
    ReturnsInHanded {} Try.checked os 9 .any ((OpenSpec.ofChange Rows.sectorReadsSpec).preRow enc Try.prog Try.f9 Rows.sectorReadsRow.domain false Rows.sectorReadsRow.laid) (((OpenSpec.ofChange Rows.sectorReadsSpec).at F).post enc Try.prog Try.f9 false true false false) := by
  obtain ⟨places, hx⟩ := reads os enc
  refine returnsInHanded_of_row (C := Try.checked) (s := OpenSpec.ofChange Rows.sectorReadsSpec) own started (by kernel_rfl) Try.func9
    (witness_row_at (enc := enc) (C := Try.checked) false (plainWorld os) #[.int .i64 0, .slice none 0 0, .slice none 0 0] rfl (by kernel_rfl) (by kernel_rfl) (by kernel_rfl)
      (OpenSpec.preRow_of_cond 8 hx (by kernel_rfl) (fun k hk => by cases hk) (by kernel_rfl) (laid_met os))) ?_
  intro W base args ds gs before hval hW _ _ _ _ _ _
  exact contract H enc W base args ds gs before hval hW

theorem said : Rows.SectorReadsSaid :=
  OpenClaim.holds_of_cond 9 Try.f9 rfl rfl rfl rfl rfl rfl rfl ⟨rfl, rfl, rfl, rfl, rfl⟩ rfl rfl rfl rfl rfl (by kernel_rfl) Try.func9 (by kernel_rfl)
    (of_decide_eq_true (by kernel_rfl)) (by unfold Func.isWrapper; first | (rw [if_pos (by decide +kernel)]; kernel_rfl) | (rw [if_neg (by decide +kernel)]; exact ⟨rfl, rfl⟩))
    (fun os started H enc _ F => by rw [OpenClaim.pre_eq_preRow]; exact lifted os started H enc F)

end Go.Proofs.Ythicjnnlbnjjmaa.SectorReads
