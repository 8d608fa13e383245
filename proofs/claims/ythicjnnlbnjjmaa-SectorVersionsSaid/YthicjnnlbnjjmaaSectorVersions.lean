/-
  SectorVersions holds for every list of bytes and every number: of so many versions of a sector just the one that is picked is there behind a crash; the first is what was flushed. No condition.
-/
import Derived.Test.YthicjnnlbnjjmaaSteps
import Derived.Test.YthicjnnlbnjjmaaArgsG
namespace Go.Proofs.Ythicjnnlbnjjmaa.SectorVersions
open Go Go.ChangeShapes Go.WideShapes Go.ChangeAt Go.RowKit Go.Proofs.Ythicjnnlbnjjmaa

/-- three sectors, of the second one the versions behind what was flushed -/
def verS (xs : List UInt8) : Sec := [[zerosV], pad [77] :: xs.map (fun x => pad [x]), [zerosV]]
theorem ver_zero : flushS (writeS (zeroS 3) (-1) 1 [77]) = verS [] := by rfl
theorem ver_len (xs : List UInt8) : (verS xs).length = 3 := rfl
theorem ver_code (xs : List UInt8) (x : UInt8) : writeCode (verS xs).length (-1) 1 [x] = 0 := by rw [ver_len]; rfl
theorem ver_write (xs : List UInt8) (x : UInt8) : writeS (verS xs) (-1) 1 [x] = verS (xs ++ [x]) := by
  unfold writeS
  rw [if_pos (ver_code xs x)]
  simp [verS]
theorem ver_left (xs : List UInt8) (x : UInt8) : writeL (verS xs).length (-1) 1 [x] = -1 := by unfold writeL; rw [if_pos (ver_code xs x)]; rfl
theorem ver_small {xs : List UInt8} (h : xs.length ≤ 100) : Small 999999 (verS xs) := fun vs hv => by
  simp only [verS, List.mem_cons, List.not_mem_nil, or_false] at hv
  rcases hv with rfl | rfl | rfl <;> simp <;> omega
theorem ver_crash (xs : List UInt8) (pick : Int) (h : 1 < (crashS (verS xs) [pick]).length) : lastOf ((crashS (verS xs) [pick])[1]'h) = pad [(77 :: xs).getD ((max pick 0).toNat % (xs.length + 1)) 0] := by
  have hrk : rk (pw (verS xs)) 1 = 0 := rfl
  have e1 : crashAt (verS xs) [pick] 1 = pad [(77 :: xs).getD ((max pick 0).toNat % (xs.length + 1)) 0] := by
    unfold crashAt pickOf
    rw [hrk]
    have e2 : (verS xs).getD 1 [] = ((77 :: xs).map (fun x => pad [x])) := rfl
    rw [e2, List.length_map, List.length_cons]
    have hlt := Nat.mod_lt (max pick 0).toNat (show 0 < xs.length + 1 by omega)
    show ((77 :: xs).map (fun x => pad [x])).getD ((max pick 0).toNat % (xs.length + 1)) [] = _
    rw [List.getD_eq_getElem?_getD, List.getElem?_map, List.getD_eq_getElem?_getD, List.getElem?_eq_getElem (by simpa using hlt)]
    rfl
  have e3 : (crashS (verS xs) [pick])[1]'h = if 1 < ((77 :: xs).map (fun x => pad [x])).length then [crashAt (verS xs) [pick] 1] else (77 :: xs).map (fun x => pad [x]) := rfl
  rw [e3, e1]
  split
  · rfl
  · rename_i hlt
    match xs, hlt with
    | [], _ => simp [lastOf, Nat.mod_one]
    | a :: r, hlt => simp at hlt

theorem imp_alloc {W wr : World} {g : Nat} {S : Sec} {l : Int} (h : Imp wr (Born W wr) g S l) (o : Obj) : Imp (wr.alloc o) (Born W (wr.alloc o)) g S l :=
  (h.ext ((Below.refl _ _).alloc (Nat.le_refl _) o)).mono (fun k hk _ => ⟨hk.1, by have := hk.2; rw [World.size_alloc]; omega⟩)

set_option maxRecDepth 100000 in
set_option maxHeartbeats 4000000 in
theorem law_any (A : Option Addr) (n c : Nat) (xs : List UInt8) (hn : n = xs.length) (pick : Int) (hp : isInt pick) (W : World) (hr : Rd W A (xs.map bv)) :
    Calls Try.prog 8 #[.slice A n c, .int .i64 pick] W fun e w' => e = .returned (.bool true) ∧ Below W.heap.size W w' := by
  subst hn
  have hp' := hp
  unfold isInt at hp'
  by_cases hlong : 100 < xs.length
  · go_enter Try.func8, Try.ntmps8
    go_wp2
    go_ret
    exact ⟨rfl, Below.refl _ _⟩
  · have hl100 : ¬ 100 < (xs.length : Int) := by omega
    go_enter Try.func8, Try.ntmps8
    go_wp2_with fail
    refine (new_step 3 W W (Below.refl _ _) (by omega) (by omega)).mono ?_
    rintro e w2 ⟨g, rfl, hI2, hb2⟩
    go_wp2_with fail
    refine (write_step (imp_alloc hI2 (Obj.cells #[Value.int IntKind.u8 77] 5)) (hb2.alloc hb2.size _) (small_of (by rfl)) 1 _ 1 1 [77] rfl (Rd.lit w2 #[Value.int IntKind.u8 77] 5)).mono ?_
    rintro e w3 ⟨rfl, hI3, hb3⟩
    have hl3 : writeL (zeroS 3).length (-1) 1 [77] = -1 := by rfl
    rw [hl3] at hI3
    generalize writeCode (zeroS 3).length (-1) 1 [77] = r1
    go_wp2_with fail
    refine (flush_step hI3 hb3 (small_of (by rfl))).mono ?_
    rintro e w4 ⟨rfl, hI4, hb4⟩
    rw [if_neg (by omega), ver_zero] at hI4
    have hl4 : tick (-1) = -1 := by rfl
    rw [hl4] at hI4
    generalize flushCode (-1) = r2
    clear hI3 hI2 hb2 hb3
    go_wp2
    go_loopw [7] (fun i wr => ∃ k : Nat, k ≤ xs.length ∧ i = .int .i64 (k : Int) ∧ Imp wr (Born W wr) g (verS (xs.take k)) (-1) ∧ Below W.heap.size W wr) (fun i _ => xs.length - (intOf i).toNat)
    case atStart => exact ⟨0, Nat.zero_le _, rfl, hI4, hb4⟩
    case round =>
      clear hI4 hb4
      obtain ⟨k, hk, rfl, hI, hb⟩ := hrel
      by_cases hlt : k < xs.length
      · obtain ⟨ad, rfl, hcell⟩ := (hr.ext hb).at_ (k := k) (by simpa using hlt)
        simp only [List.getElem_map, bv] at hcell
        have hki : (k : Int) < (xs.length : Int) := by omega
        have hcall := write_step (imp_alloc hI (Obj.cells #[Value.int IntKind.u8 (xs[k].toNat : Int)] 5)) (hb.alloc hb.size _) (ver_small (by simp; omega)) 1 _ 1 1 [xs[k]] rfl (Rd.lit wr #[Value.int IntKind.u8 (xs[k].toNat : Int)] 5)
        rw [ver_code, ver_write, ver_left] at hcall
        have htk : xs.take k ++ [xs[k]] = xs.take (k + 1) := by rw [List.take_succ_eq_append_getElem hlt]
        rw [htk] at hcall
        clear htk
        go_wp2_with fail
        refine hcall.mono ?_
        rintro e w5 ⟨rfl, hI5, hb5⟩
        go_wp2
        go_roundw
        case rel => exact ⟨k + 1, by omega, by go_num, hI5, hb5⟩
        case measure => simp [intOf]; omega
      · obtain rfl : k = xs.length := by omega
        rw [List.take_length] at hI
        have hlit : RdF (Born W wr) (wr.alloc (Obj.cells #[Value.int IntKind.i64 pick] 3)) (some ⟨wr.heap.size, 0, none⟩) ([pick].map iv) :=
          RdF.lit wr #[Value.int IntKind.i64 pick] 3 rfl (fun h => by have := h.2; omega)
        have hcall := crash_step (w0 := wr) (hI.ext ((Below.refl _ _).alloc (Nat.le_refl _) (Obj.cells #[Value.int IntKind.i64 pick] 3))) (by rw [World.size_alloc]; omega) (hb.alloc hb.size _) (small_mono (ver_small (by omega)) (by omega)) _ 1 1 [pick] rfl hlit (by simpa using hp)
        go_wp2_with fail
        refine hcall.mono ?_
        rintro e w5 ⟨rfl, hI5, hb5⟩
        clear hcall hlit
        have hlen5 : 1 < (crashS (verS xs) [pick]).length := by rw [crashS_length, ver_len]; omega
        have hlast := ver_crash xs pick hlen5
        have hS5 := small_crash (ver_small (xs := xs) (by omega)) (by omega) [pick]
        obtain ⟨gc, B, C, hL5⟩ := hI5
        have hread := read_ok hL5 (small_mono hS5 (by omega)) 1 hlen5
        rw [hlast] at hread
        clear hlast hS5
        obtain ⟨q, hq⟩ : ∃ q : Nat, q = (max pick 0).toNat % (xs.length + 1) := ⟨_, rfl⟩
        have hql : q < xs.length + 1 := by rw [hq]; exact Nat.mod_lt _ (by omega)
        rw [← hq] at hread
        have hr5 := hr.ext hb5
        by_cases hp0 : 0 ≤ pick
        · obtain ⟨p, rfl⟩ : ∃ p : Nat, pick = (p : Int) := ⟨pick.toNat, by omega⟩
          have hmp : (max (p : Int) 0).toNat = p := by omega
          rw [hmp] at hq
          have hrem : (p : Int) % ((xs.length : Int) + 1) = (q : Int) := by
            rw [hq, show ((xs.length : Int) + 1) = ((xs.length + 1 : Nat) : Int) by omega]; rfl
          clear hmp hq
          rcases q with _ | q1
          · have hq0 : ¬ (0 : Int) < ((0 : Nat) : Int) := by omega
            go_wp2_with fail
            refine hread.mono ?_
            rintro e w6 ⟨g', rfl, hb6, hk6, _⟩
            have hc6 : w6.cell? ⟨g', 0, none⟩ = some (.int .u8 77) := hk6.cell 0
            clear hread hk6
            go_wp2_with fail
            refine (known_any w6).mono ?_
            rintro e w7 ⟨rfl, hb7⟩
            go_wp2
            go_ret
            have hb56 := hb5.trans (hb6.mono hb5.size)
            exact ⟨rfl, hb56.trans (hb7.mono hb56.size)⟩
          · have hq1 : q1 < xs.length := by omega
            obtain ⟨ad, rfl, hcell⟩ := hr5.at_ (k := q1) (by simpa using hq1)
            simp only [List.getElem_map, bv] at hcell
            have hget : (77 :: xs).getD (q1 + 1) 0 = xs[q1] := by
              rw [List.getD_eq_getElem?_getD, List.getElem?_cons_succ, List.getElem?_eq_getElem hq1]; rfl
            rw [hget] at hread
            clear hget
            have hrem2 : (p : Int) % ((xs.length : Int) + 1) = (q1 : Int) + 1 := by rw [hrem]; omega
            clear hrem
            have hq1i : (q1 : Int) < (xs.length : Int) := by omega
            have hq1b : q1 ≤ 1000000 := by omega
            go_wp2_with fail
            refine hread.mono ?_
            rintro e w6 ⟨g', rfl, hb6, hk6, _⟩
            have hc6 : w6.cell? ⟨g', 0, none⟩ = some (.int .u8 (xs[q1].toNat : Int)) := hk6.cell 0
            clear hread hk6
            go_wp2_with fail
            refine (known_any w6).mono ?_
            rintro e w7 ⟨rfl, hb7⟩
            go_wp2
            go_ret
            have hb56 := hb5.trans (hb6.mono hb5.size)
            exact ⟨rfl, hb56.trans (hb7.mono hb56.size)⟩
        · have hq0 : q = 0 := by
            rw [hq, show (max pick 0).toNat = 0 by omega, Nat.zero_mod]
          subst hq0
          clear hq
          go_wp2_with fail
          refine hread.mono ?_
          rintro e w6 ⟨g', rfl, hb6, hk6, _⟩
          have hc6 : w6.cell? ⟨g', 0, none⟩ = some (.int .u8 77) := hk6.cell 0
          clear hread hk6
          go_wp2_with fail
          refine (known_any w6).mono ?_
          rintro e w7 ⟨rfl, hb7⟩
          go_wp2
          go_ret
          have hb56 := hb5.trans (hb6.mono hb5.size)
          exact ⟨rfl, hb56.trans (hb7.mono hb56.size)⟩

theorem contract (H : Type) (enc : TypeId × Value → H) (W : World) (base : Nat) (args : Array Value) (ds gs : List (DataW H)) (before : List MemPlace)
    (hval : ∀ (j : Nat) t v, Try.f8.params[j]? = some t → args[j]? = some v → Value.okWide Try.prog W .any base t v)
    (hW : DataW.Whole enc Try.prog Try.f8.params.toList Rows.sectorVersionsSpec.vars false W args.toList ds gs before) :
    Calls Try.prog 8 args W fun e W' => ∃ v, e = .returned v ∧ Rows.sectorVersionsSpec.post enc Try.prog Try.f8 false true false false W args v W' := by
  have hW' := hW
  obtain ⟨p, q, hA0, hV, rfl, hfz, hnd⟩ := hW
  have hA : DataW.TrodAll enc Try.prog W 0 (fun _ => true) true Try.f8.params.toList args.toList ds p := hA0
  rw [Try.params8] at hA hval
  obtain ⟨x0, x1, d0, d1, p0, p1, rfl, rfl, rfl, h0, h1⟩ := trodAll_two hA
  obtain ⟨A0, n0, c0, xs0, rfl, hn0, hc0, hm0, hr0⟩ := arg_bytes (hval 0 _ x0 rfl rfl) h0
  obtain ⟨v1, rfl, rfl, rfl, wv1⟩ := open_int Try.underlying3 (hval 1 _ x1 rfl rfl) h1
  have i1 := int_of_wf wv1
  have walk : Calls Try.prog 8 #[.slice A0 n0 c0, .int .i64 v1] W fun e w' => e = .returned (.bool true) ∧ Below W.heap.size W w' := law_any A0 n0 c0 xs0 hn0 v1 i1 W hr0
  refine walk.mono fun e W' ⟨he, hb⟩ => ?_
  subst he
  exact ⟨_, rfl, law_post rfl rfl (by kernel_rfl) ⟨rfl, rfl, rfl⟩ hW' hb⟩

theorem laid_met (os : Os) : laidMet Try.prog Rows.sectorVersionsRow.laid ((plainWorld os).forCall (fun _ _ => 0) ⟨#[], #[.slice none 0 0, .int .i64 0], []⟩).memory :=
  laidMet_of_run' 8 (by kernel_rfl) (by kernel_rfl)
theorem reads (os : Os) {H : Type} (enc : TypeId × Value → H) : ∃ places, DataW.whole enc Try.prog ((plainWorld os).forCall (fun _ _ => 0) ⟨#[], #[.slice none 0 0, .int .i64 0], []⟩).memory Try.f8.params.toList Rows.sectorVersionsSpec.vars false #[Value.slice none 0 0, .int .i64 0].toList 8 = some ([.nil, .lit (.int .i64 0)], [], places) :=
  ⟨[], by kernel_rfl⟩

set_option maxRecDepth 100000 in
theorem lifted (os : Os) (started : os.Started) (H : Type) (enc : TypeId × Value → H) (F : Stop.Interp) :
    ReturnsInHanded {} Try.checked os 8 .any ((OpenSpec.ofChange Rows.sectorVersionsSpec).preRow enc Try.prog Try.f8 Rows.sectorVersionsRow.domain false Rows.sectorVersionsRow.laid) (((OpenSpec.ofChange Rows.sectorVersionsSpec).at F).post enc Try.prog Try.f8 false true false false) := by
  obtain ⟨places, hx⟩ := reads os enc
  refine returnsInHanded_of_row (C := Try.checked) (s := OpenSpec.ofChange Rows.sectorVersionsSpec) own started (by kernel_rfl) Try.func8
    (witness_row_at (enc := enc) (C := Try.checked) false (plainWorld os) #[.slice none 0 0, .int .i64 0] rfl (by kernel_rfl) (by kernel_rfl) (by kernel_rfl)
      (OpenSpec.preRow_of_cond 8 hx (by kernel_rfl) (fun k hk => by cases hk) (by kernel_rfl) (laid_met os))) ?_
  intro W base args ds gs before hval hW _ _ _ _ _ _
  exact contract H enc W base args ds gs before hval hW

theorem said : Rows.SectorVersionsSaid :=
  OpenClaim.holds_of_cond 8 Try.f8 rfl rfl rfl rfl rfl rfl rfl ⟨rfl, rfl, rfl, rfl, rfl⟩ rfl rfl rfl rfl rfl (by kernel_rfl) Try.func8 (by kernel_rfl)
    (of_decide_eq_true (by kernel_rfl)) (by unfold Func.isWrapper; first | (rw [if_pos (by decide +kernel)]; kernel_rfl) | (rw [if_neg (by decide +kernel)]; exact ⟨rfl, rfl⟩))
    (fun os started H enc _ F => by rw [OpenClaim.pre_eq_preRow]; exact lifted os started H enc F)

end Go.Proofs.Ythicjnnlbnjjmaa.SectorVersions
