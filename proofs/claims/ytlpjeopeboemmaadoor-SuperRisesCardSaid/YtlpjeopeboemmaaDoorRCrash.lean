/-
  The contract of the reference's Crash. No statement of the seat is proved here.
-/
import Derived.Test.YtlpjeopeboemmaaDoorRMeth
namespace Go.Proofs.YtlpjeopeboemmaaDoor
open Go Go.RowKit

theorem rflush_dead {w : World} {fp : Nat → Prop} {g : Nat} {S : Sec} {l : Int} {A : Option Addr} {c : Nat} {B : Nat → Option Addr} {C : Nat → Nat} (h : RLay w fp g S l A c B C) (h0 : l = 0) :
    Calls Tryd.prog 75 #[.pointer (some ⟨g, 0, none⟩)] w fun e w' => e = .returned (.int .i64 6) ∧ w = w' := by
  have c1 : w.cell? ⟨g, 1, none⟩ = some (.int .i64 l) := h.dsk.cell 1
  subst h0
  go_enter Tryd.func75, Tryd.ntmps75
  go_wp2
  go_ret
  exact ⟨rfl, rfl⟩

set_option maxRecDepth 100000 in
set_option maxHeartbeats 4000000 in
theorem rcrash_any {w : World} {fp : Nat → Prop} {g : Nat} {S : Sec} {l : Int} {A : Option Addr} {c : Nat} {B : Nat → Option Addr} {C : Nat → Nat} (h : RLay w fp g S l A c B C) (hs : Small 1000000 S) (P : Option Addr) (n cp : Nat) (ps : List Int) (hn : n = ps.length) (hp : RdF fp w P (ps.map iv)) (hpi : ∀ x ∈ ps, isInt x) :
    Calls Tryd.prog 35 #[.pointer (some ⟨g, 0, none⟩), .slice P n cp] w fun e w' => e = .returned (.tuple #[]) ∧ Ref w' (More fp w w') g (crashS S ps) (-1) ∧ Only fp w w' := by
  subst hn
  obtain ⟨G, hG⟩ : ∃ G : Nat → List (List UInt8) → List (List UInt8), G = fun i vs => if 1 < vs.length then [crashAt S ps i] else vs := ⟨_, rfl⟩
  have hall : rst S G S.length = crashS S ps := by rw [rst_all, hG]; rfl
  replace hall := Lib.hid hall
  replace hG := Lib.hid hG
  have hpi := Lib.hid hpi
  have hnn := h.n
  go_enter Tryd.func35, Tryd.ntmps35
  go_wp2
  go_loopw [4, 5, 6] (fun kk ii _ wr => ∃ (i : Nat) (B1 : Nat → Option Addr) (C1 : Nat → Nat), i ≤ S.length ∧ ii = .int .i64 (i : Int) ∧ kk = .int .i64 (rk (pw S) i : Int) ∧ RLay wr (More fp w wr) g (rst S G i) l A c B1 C1 ∧ Only fp w wr) (fun _ ii _ _ => S.length - (intOf ii).toNat)
  case atStart => exact ⟨0, B, C, Nat.zero_le _, rfl, rfl, by rw [rst_zero]; exact h.mono (fun k hk _ => .inl hk), Only.refl _ _⟩
  case round =>
    obtain ⟨i, B1, C1, hi, rfl, rfl, hL, honly⟩ := hrel
    have hlenT : (rst S G i).length = S.length := rst_length S G i
    have hdsk0 : wr.cell? ⟨g, 0, none⟩ = some (.slice A S.length c) := by
      have := hL.dsk.cell 0
      rw [hlenT] at this
      exact this
    by_cases hlt : i < S.length
    · have hiT : i < (rst S G i).length := by rw [hlenT]; exact hlt
      have hat := rst_at S G i hlt hiT
      have hrow := hL.row
      rw [hlenT] at hrow
      obtain ⟨b, o, rfl, hcell, hfr⟩ := hrow.there1 hlt
      have hck := hcell _ (rvals_get (rst S G i) B1 C1 hiT)
      rw [hat] at hck
      have hcel := hL.cel i hiT
      rw [hat] at hcel
      have hwf := h.wf S[i] (List.getElem_mem hlt)
      have hpos := List.length_pos_iff.2 hwf.1
      have hsm := hs S[i] (List.getElem_mem hlt)
      have hii : (i : Int) < (S.length : Int) := by omega
      have hrk := Lib.hid (rk_succ (pw S) i)
      have hrkle := rk_le (pw S) i
      have hrkb : rk (pw S) i ≤ 4096 := by omega
      clear hlenT
      by_cases h1 : S[i].length = 1
      · have hpw : pw S i = false := by rw [pw_eq hlt]; simp [h1]
        have hsame : rst S G (i + 1) = rst S G i := rst_same S G i hlt (by rw [hG.out]; simp [h1])
        rw [← hsame] at hL
        rw [h1] at hck
        clear hat hsame
        go_wp2
        go_roundw
        case rel => exact ⟨i + 1, B1, C1, by omega, by go_num, by rw [hrk.out, hpw]; rfl, hL, honly⟩
        case measure => simp [intOf]; omega
      · have hpw : pw S i = true := by rw [pw_eq hlt]; simp; omega
        obtain ⟨b', o', hB, _, _⟩ := hcel.there1 (i := 0) hpos
        obtain ⟨q, hqe⟩ : ∃ q, q = pickNat ps (rk (pw S) i) := ⟨_, rfl⟩
        have hq : q % S[i].length < S[i].length := Nat.mod_lt _ hpos
        obtain ⟨F, hFe⟩ : ∃ F, F = S[i][q % S[i].length] := ⟨_, rfl⟩
        have hFc : crashAt S ps i = F := by
          unfold crashAt pickOf
          have hSd : S.getD i [] = S[i] := by rw [List.getD_eq_getElem?_getD, List.getElem?_eq_getElem hlt]; rfl
          rw [hSd]
          show S[i].getD (pickNat ps (rk (pw S) i) % S[i].length) [] = F
          rw [← hqe, List.getD_eq_getElem?_getD, List.getElem?_eq_getElem hq, hFe]; rfl
        have hFl : F.length = 64 := by rw [hFe]; exact hwf.2 _ (List.getElem_mem _)
        have hstr : wr.cell? ⟨b', o' + q % S[i].length, none⟩ = some (.string ⟨F.toArray⟩) := by
          obtain ⟨b2, o2, hB2, hc2, _⟩ := hcel.there1 hq
          rw [hB] at hB2
          injection hB2 with hB2
          injection hB2 with e1 e2 _
          subst e1 e2
          exact hc2 _ (by rw [List.getElem?_map, List.getElem?_eq_getElem hq, hFe]; rfl)
        rw [hB] at hck
        have hput : RLay ((wr.alloc (Obj.cells #[.string ⟨F.toArray⟩] 9)).setCell ⟨b, o + i, none⟩ (.slice (some ⟨wr.heap.size, 0, none⟩) 1 1)) (More (More fp w wr) wr (wr.alloc (Obj.cells #[.string ⟨F.toArray⟩] 9))) g ((rst S G i).set i [F]) l (some ⟨b, o, none⟩) c _ _ := hL.put hiT [F] ⟨by simp, fun v hv => by simp at hv; subst hv; exact hFl⟩ (some ⟨wr.heap.size, 0, none⟩) 1 (w1 := wr.alloc (Obj.cells #[.string ⟨F.toArray⟩] 9)) ((Only.refl _ wr).alloc _) (RowO.lit wr 9 1 1 #[.string ⟨F.toArray⟩] rfl (by unfold maxLen; omega) rfl) (fun k hk => .inr (by rw [inA_some] at hk; subst hk; rw [World.size_alloc]; omega)) rfl
        have hsuc := rst_succ S G i hlt
        have hGi : G i S[i] = [F] := by rw [hG.out]; show (if 1 < S[i].length then [crashAt S ps i] else S[i]) = [F]; rw [if_pos (by omega), hFc]
        rw [hGi] at hsuc
        rw [← hsuc] at hput
        have hbA : More fp w wr b := hL.fA b ((inA_some _ _ _ _).2 rfl)
        have fin : ∀ q, ∃ (i' : Nat) (B2 : Nat → Option Addr) (C2 : Nat → Nat), i' ≤ S.length ∧ Value.int .i64 ((i : Int) + 1) = .int .i64 (i' : Int) ∧ Value.int .i64 ((rk (pw S) i : Int) + 1) = .int .i64 (rk (pw S) i' : Int) ∧ RLay (World.drewN ((wr.alloc (Obj.cells #[.string ⟨F.toArray⟩] 9)).setCell ⟨b, o + i, none⟩ (.slice (some ⟨wr.heap.size, 0, none⟩) 1 1)) q) (More fp w (World.drewN ((wr.alloc (Obj.cells #[.string ⟨F.toArray⟩] 9)).setCell ⟨b, o + i, none⟩ (.slice (some ⟨wr.heap.size, 0, none⟩) 1 1)) q)) g (rst S G i') l (some ⟨b, o, none⟩) c B2 C2 ∧ Only fp w (World.drewN ((wr.alloc (Obj.cells #[.string ⟨F.toArray⟩] 9)).setCell ⟨b, o + i, none⟩ (.slice (some ⟨wr.heap.size, 0, none⟩) 1 1)) q) := fun q => by
          have ho9 : Only fp w ((wr.alloc (Obj.cells #[.string ⟨F.toArray⟩] 9)).setCell ⟨b, o + i, none⟩ (.slice (some ⟨wr.heap.size, 0, none⟩) 1 1)) := (honly.alloc _).setCell (p := ⟨b, o + i, none⟩) (by
            rcases hbA with h1 | h1
            · exact .inl h1
            · exact .inr h1.1) _
          have zw : (World.drewN ((wr.alloc (Obj.cells #[.string ⟨F.toArray⟩] 9)).setCell ⟨b, o + i, none⟩ (.slice (some ⟨wr.heap.size, 0, none⟩) 1 1)) q).heap.size = wr.heap.size + 1 := by
            show (World.setCell _ _ _).heap.size = _
            simp [World.setCell]
          refine ⟨i + 1, _, _, by omega, by go_num, ?_, (hput.drewN q).mono (fun k' hk' _ => ?_), ho9.drewN q⟩
          · rw [hrk.out, hpw, if_pos rfl]; go_num
          · unfold More at hk' ⊢
            rw [World.size_alloc] at hk'
            rcases hk' with (hk' | hk') | hk'
            · exact .inl hk'
            · exact .inr (by rw [zw]; omega)
            · exact .inr (by rw [zw]; have := honly.size; omega)
        have hYeq : ((wr.alloc (Obj.cells #[.string ⟨F.toArray⟩] 9)).setCell ⟨b, o + i, none⟩ (.slice (some ⟨wr.heap.size, 0, none⟩) 1 1)) = ((wr.setCell ⟨b, o + i, none⟩ (.slice (some ⟨wr.heap.size, 0, none⟩) 1 1)).alloc (Obj.cells #[.string ⟨F.toArray⟩] 9)) := World.setCell_alloc_past _ _ _ _ (World.block_lt_of_cell? wr _ hck)
        rw [hYeq] at fin
        clear hYeq
        replace fin := Lib.hid fin
        have hlp := hp.only honly
        have hlb : b < wr.heap.size := World.block_lt_of_cell? wr _ hck
        have hlg : g < wr.heap.size := World.block_lt_of_cell? wr _ hdsk0
        have d1 : (wr.alloc (Obj.cells #[.string ⟨F.toArray⟩] 9)).cell? ⟨g, 0, none⟩ = some (.slice (some ⟨b, o, none⟩) S.length c) := (World.cell?_alloc_lt _ _ _ hlg).trans hdsk0
        have d2 : (wr.alloc (Obj.cells #[.string ⟨F.toArray⟩] 9)).cell? ⟨b, o + i, none⟩ = some (.slice (some ⟨b', o', none⟩) S[i].length (C1 i)) := (World.cell?_alloc_lt _ _ _ hlb).trans hck
        have d3 : (wr.alloc (Obj.cells #[.string ⟨F.toArray⟩] 9)).frozen? ⟨b, o + i, none⟩ = false := (World.frozen?_alloc_past _ _ _ hlb).trans hfr
        clear hput hsuc hGi hat hFc hFe hcel
        have hql : q % S[i].length ≤ 1000000 := by omega
        have hqb : q ≤ 9223372036854775807 := by
          rw [hqe]
          unfold pickNat
          by_cases hkp : rk (pw S) i < ps.length
          · rw [List.getD_eq_getElem?_getD, List.getElem?_eq_getElem hkp]
            have := hpi.out ps[rk (pw S) i] (List.getElem_mem _)
            unfold isInt at this
            simp only [Option.getD_some]
            omega
          · rw [List.getD_eq_getElem?_getD, List.getElem?_eq_none (by omega)]; simp
        generalize hm : S[i].length = m at hck hpos hsm h1 hq hstr hql d2
        have hm1 : (m == 1) = false := by simpa using h1
        have hm1i : ((m : Int) == 1) = false := by
          have : ¬ (m : Int) = 1 := by omega
          simpa using this
        have hmi : (0 : Int) < (m : Int) := by omega
        have hm0 : ¬ (m : Int) = 0 := by omega
        by_cases hkp : rk (pw S) i < ps.length
        · obtain ⟨ap, rfl, hcp⟩ := hlp.1.at_ (k := rk (pw S) i) (by simpa using hkp)
          simp only [List.getElem_map, iv] at hcp
          have hkpi : (rk (pw S) i : Int) < (ps.length : Int) := by omega
          have hqp : q = (max ps[rk (pw S) i] 0).toNat := by rw [hqe]; unfold pickNat; rw [List.getD_eq_getElem?_getD, List.getElem?_eq_getElem hkp]; rfl
          have hpb := hpi.out ps[rk (pw S) i] (List.getElem_mem _)
          unfold isInt at hpb
          clear hqe
          generalize ps[rk (pw S) i] = p at hcp hqp hpb
          by_cases h0 : 0 ≤ p
          · obtain rfl : p = (q : Int) := by omega
            obtain ⟨qm, hqm⟩ : ∃ qm, qm = q % m := ⟨_, rfl⟩
            have hrem : ((q : Nat) : Int) % (m : Int) = (qm : Int) := by rw [hqm]; rfl
            rw [← hqm] at hstr hql hq
            clear hqp hqm
            have hqi : (qm : Int) < (m : Int) := by omega
            generalize rk (pw S) i = kk at hcp hkpi fin hrkb hrkle hkp hrk
            go_wp2_with fail
            go_region
            go_wp2_with fail
            go_region
            go_wp2
            go_roundw
            case rel => exact fin.out 2
            case measure => simp [intOf]; omega
          · obtain rfl : q = 0 := by omega
            rw [Nat.zero_mod, Nat.add_zero] at hstr
            clear hqp
            generalize rk (pw S) i = kk at hcp hkpi fin hrkb hrkle hkp hrk
            go_wp2_with fail
            go_region
            go_wp2_with fail
            go_region
            go_wp2
            go_roundw
            case rel => exact fin.out 2
            case measure => simp [intOf]; omega
        · have hq0 : q = 0 := by
            rw [hqe]; unfold pickNat
            rw [List.getD_eq_getElem?_getD, List.getElem?_eq_none (by omega)]; simp
          subst hq0
          rw [Nat.zero_mod, Nat.add_zero] at hstr
          clear hqe
          have hkpi : ¬ (rk (pw S) i : Int) < (ps.length : Int) := by omega
          generalize rk (pw S) i = kk at fin hrkb hrkle hkp hrk hkpi
          go_wp2_with fail
          go_region
          go_wp2
          go_roundw
          case rel => exact fin.out 1
          case measure => simp [intOf]; omega
    · obtain rfl : i = S.length := by omega
      have c1 : wr.cell? ⟨g, 1, none⟩ = some (.int .i64 l) := hL.dsk.cell 1
      have f1 : wr.frozen? ⟨g, 1, none⟩ = false := hL.dsk.free 1
      go_wp2
      go_end0
      have ho : Only (fun k => k = g) wr (wr.setCell ⟨g, 1, none⟩ (.int .i64 (-1))) := (Only.refl (fun k => k = g) wr).setCell (p := ⟨g, 1, none⟩) (.inl rfl) _
      have hf := hL.left (-1) (by omega) (by omega) ho (hL.dsk.put 1 (.int .i64 (-1)))
      rw [hall.out] at hf
      have zw : (wr.setCell ⟨g, 1, none⟩ (.int .i64 (-1))).heap.size = wr.heap.size := by simp [World.setCell]
      refine ⟨rfl, ⟨A, c, B1, C1, hf.mono (fun k hk _ => ?_)⟩, honly.trans ho (fun k _ hk => by subst hk; exact h.fg)⟩
      rcases hk with hk | hk
      · exact .inl hk
      · exact .inr (by rw [zw]; exact hk)
end Go.Proofs.YtlpjeopeboemmaaDoor
