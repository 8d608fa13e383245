/-
  Texts of this claim, joined (part 1): contracts and lemmas that the last text goes by. No statement of the seat is proved here.
-/
import Derived.Test.YtbigdkkjajlekaaAll0
set_option linter.unusedVariables false
set_option linter.unusedSimpArgs false
/-
  The contracts of Of, the program's and the reference's. No statement of the seat is proved here.
-/
namespace Go.Proofs.Ytbigdkkjajlekaa
open Go Go.RowKit
set_option maxRecDepth 100000

def SaysParts (l : List Prt) (w : World) (e : Ending) (w' : World) : Prop := ∃ A c, e = .returned (.slice A l.length c) ∧ NewP w w' A c l
theorem below_own {w wr w2 w3 : World} {g : Nat} (h1 : Below w.heap.size w wr) (h2 : Below wr.heap.size wr w2) (h3 : Only (fun k => k = g) w2 w3) (hg : w.heap.size ≤ g) : Below w.heap.size w w3 := by
  have h4 := ext_trans h1 h2
  exact h4.trans (h3.below (fun i hi => by omega) h4.size)
set_option maxHeartbeats 2000000 in
theorem of_any (B : Option Addr) (n d : Nat) (ts : List Tok) (w : World) (hn : n = ts.length) (h2 : ToksAt w B ts) (hl2 : ts.length ≤ 1000000) :
    Calls Try.prog 12 #[.slice B n d] w (SaysParts (ofL ts) w) := by
  subst hn
  have hli2 : (ts.length : Int) ≤ 1000000 := by omega
  have hmk := make_parts w ts.length hl2
  have hF0 := FillP.start w ts.length
  obtain ⟨O1, hO1⟩ : ∃ O1, O1 = Obj.cells (madeCells zeroP (ts.length * 2)) 51 := ⟨_, rfl⟩
  have hmk' : (Instr.makeSlice 23 (.int .i64 (ts.length : Int)) (.int .i64 (ts.length : Int))).run Try.prog w = .ok (.slice (some ⟨w.heap.size, 0, none⟩) ts.length ts.length) (w.alloc O1) := by rw [hO1]; exact hmk _ rfl
  rw [← hO1] at hF0
  have HF0 := Lib.hid hF0
  clear hF0 hO1 hmk
  go_enter Try.func12, Try.ntmps12
  go_wp2
  go_loopw [11] (fun i wr => ∃ k : Nat, k ≤ ts.length ∧ i = .int .i64 (k : Int) ∧ Hid (FillP wr w.heap.size ts.length ((ofL ts).take k)) ∧ Hid (Below w.heap.size w wr)) (fun i _ => ts.length - (intOf i).toNat)
  case atStart => exact ⟨0, Nat.zero_le _, rfl, Lib.hid (by simpa using HF0.out), Lib.hid (ext_alloc (Below.refl _ _) _)⟩
  case round =>
    clear hmk'
    obtain ⟨k, hk, rfl, HF, Hb⟩ := hrel
    by_cases hlt : k < ts.length
    · obtain ⟨g2, o2, rfl, c2, c3⟩ := (h2.ext Hb.out).at_ hlt
      have hki2 : (k : Int) < (ts.length : Int) := by omega
      have HO := Lib.hid (fun W => ofone_any ts[k] W)
      obtain ⟨Z, hZ, hz⟩ := str_hide ts[k].text
      obtain ⟨K, hK⟩ : ∃ K, ts[k].kind = K := ⟨_, rfl⟩
      rw [hZ] at c3 HO
      rw [hK] at c2 HO
      clear hZ hz hK
      have HT := Lib.hid (ofL_take ts k hlt)
      have HL : Hid (((ofL ts).take k).length = k) := Lib.hid (by rw [List.length_take, ofL_len]; omega)
      go_wp2_with fail
      refine (HO.out _).mono ?_
      rintro e w2 ⟨rfl, hb2⟩
      have Hb2 : Hid (Below wr.heap.size wr w2) := Lib.hid (ext_trans (ext_alloc (Below.refl _ _) _) hb2)
      have HF2 : Hid (FillP w2 w.heap.size ts.length ((ofL ts).take k)) := Lib.hid (HF.out.ext Hb2.out)
      clear hb2
      go_wp2_with (refine wpList_store_part rfl _ _ rfl w.heap.size _ rfl (p := ofT ts[k]) rfl HF2.out (by rw [HL.out]) (by rw [HL.out]; exact hlt) ?_)
      rintro w3 hF3 ho3
      have HF3 := Lib.hid hF3
      have Ho3 := Lib.hid ho3
      clear hF3 ho3
      go_wp2
      go_roundw
      case rel => exact ⟨k + 1, by omega, by go_num, Lib.hid (by rw [HT.out]; exact HF3.out), Lib.hid (below_own Hb.out Hb2.out Ho3.out (Nat.le_refl _))⟩
      case measure => simp [intOf]; omega
    · obtain rfl : k = ts.length := by omega
      have hw : NewP w wr (some ⟨w.heap.size, 0, none⟩) ts.length (ofL ts) := by
        refine FillP.whole (by have := HF.out; rwa [List.take_of_length_le (by rw [ofL_len]; omega)] at this) (ofL_len ts) (by unfold maxLen; omega) w Hb.out (Nat.le_refl _)
      have HW := Lib.hid hw
      have HL := Lib.hid (ofL_len ts)
      clear hw
      go_wp2
      go_ret
      exact ⟨some ⟨w.heap.size, 0, none⟩, ts.length, (by rw [HL.out]; rfl), HW.out⟩
theorem rvaries_any (k : Int) (w : World) : Calls Try.prog 29 #[.int .i64 k] w fun e w' => e = .returned (.bool (varies k)) ∧ w' = w := by
  have hv : varies k = (decide (0 ≤ k) && decide (k ≤ 5)) := rfl
  by_cases h0 : 0 ≤ k
  · by_cases h5 : k ≤ 5
    · have hr : true = varies k := by rw [hv]; simp [h0, h5]
      have HR := Lib.hid hr
      clear hr hv
      go_enter Try.func29, Try.ntmps29
      go_wp2
      go_ret
      exact ⟨ret_bool HR.out, rfl⟩
    · have hr : false = varies k := by rw [hv]; simp [h0, h5]
      have HR := Lib.hid hr
      clear hr hv
      go_enter Try.func29, Try.ntmps29
      go_wp2
      go_ret
      exact ⟨ret_bool HR.out, rfl⟩
  · have hr : false = varies k := by rw [hv]; simp [h0]
    have HR := Lib.hid hr
    clear hr hv
    go_enter Try.func29, Try.ntmps29
    go_wp2
    go_ret
    exact ⟨ret_bool HR.out, rfl⟩
end Go.Proofs.Ytbigdkkjajlekaa

/-
  The contract of the reference's Of. No statement of the seat is proved here.
-/
namespace Go.Proofs.Ytbigdkkjajlekaa
open Go Go.RowKit
set_option maxRecDepth 100000

set_option maxHeartbeats 2000000 in
theorem rof_any (B : Option Addr) (n d : Nat) (ts : List Tok) (w : World) (hn : n = ts.length) (h2 : ToksAt w B ts) (hl2 : ts.length ≤ 1000000) :
    Calls Try.prog 13 #[.slice B n d] w (SaysParts (ofL ts) w) := by
  subst hn
  have hli2 : (ts.length : Int) ≤ 1000000 := by omega
  go_enter Try.func13, Try.ntmps13
  go_wp2
  go_loopw [3, 4] (fun s i wr => ∃ (k : Nat) (A : Option Addr) (c : Nat), k ≤ ts.length ∧ i = .int .i64 (k : Int) ∧ s = .slice A k c ∧ Hid (NewO w wr 51 2 A k c (cellsP ((ofL ts).take k)))) (fun _ i _ => ts.length - (intOf i).toNat)
  case atStart => exact ⟨0, none, 0, Nat.zero_le _, rfl, rfl, Lib.hid (NewO.start w 51 2)⟩
  case round =>
    obtain ⟨k, A, c, hk, rfl, rfl, HN⟩ := hrel
    by_cases hlt : k < ts.length
    · have Hb := Lib.hid HN.out.bel
      obtain ⟨g2, o2, rfl, c2, c3⟩ := (h2.ext Hb.out).at_ hlt
      have hki2 : (k : Int) < (ts.length : Int) := by omega
      obtain ⟨Z, hZ, hz⟩ := str_hide ts[k].text
      obtain ⟨K, hK⟩ : ∃ K, ts[k].kind = K := ⟨_, rfl⟩
      have HC := Lib.hid (rvaries_any K wr)
      have HT := Lib.hid (ofL_take ts k hlt)
      have Hm1 : Hid (k + 1 ≤ maxLen) := Lib.hid (by unfold maxLen; omega)
      have Hm2 : Hid ((k + 1) * 24 ≤ 140737488355328) := Lib.hid (by omega)
      cases hv : varies K
      · have HE : Hid (encP (ofT ts[k]) = [.bool false, .string Z]) := Lib.hid (by rw [ofT_no (by rw [hK]; exact hv)]; unfold encP; rw [← hZ])
        rw [hZ] at c3
        rw [hK] at c2
        rw [hv] at HC
        clear hZ hz hK hv
        go_wp2_with fail
        refine HC.out.mono ?_
        rintro e w' ⟨rfl, rfl⟩
        go_wp2_with (refine wpList_app_new rfl (.tmp 21) (.tmp 28) _ rfl _ _ 2 24 Try.underlying23 info_part rfl A k c _ HN.out (ext_alloc (Below.refl _ _) _) rfl ⟨_, 0, none⟩ 1 [.bool false, .string Z] rfl rfl (Rd.lit _ #[.bool false, .string Z] 51) (by intro u hu; simp at hu; rcases hu with rfl | rfl <;> rfl) Hm1.out Hm2.out ?_; intro A7 c7 w7 hN7 hB7)
        have HN7 := Lib.hid hN7
        clear hN7 hB7
        go_wp2
        go_roundw
        case rel => exact ⟨k + 1, A7, c7, by omega, by go_num, rfl, Lib.hid (by rw [HT.out, cellsP_snoc, HE.out]; exact HN7.out)⟩
        case measure => simp [intOf]; omega
      · have HE : Hid (encP (ofT ts[k]) = [.bool true, .string ⟨#[]⟩]) := Lib.hid (by rw [ofT_yes (by rw [hK]; exact hv)]; rfl)
        rw [hZ] at c3
        rw [hK] at c2
        rw [hv] at HC
        clear hZ hz hK hv
        go_wp2_with fail
        refine HC.out.mono ?_
        rintro e w' ⟨rfl, rfl⟩
        go_wp2_with (refine wpList_app_new rfl (.tmp 17) (.tmp 19) _ rfl _ _ 2 24 Try.underlying23 info_part rfl A k c _ HN.out (ext_alloc (Below.refl _ _) _) rfl ⟨_, 0, none⟩ 1 [.bool true, .string ⟨#[]⟩] rfl rfl (Rd.lit _ #[.bool true, .string ⟨#[]⟩] 51) (by intro u hu; simp at hu; rcases hu with rfl | rfl <;> rfl) Hm1.out Hm2.out ?_; intro A7 c7 w7 hN7 hB7)
        have HN7 := Lib.hid hN7
        clear hN7 hB7
        go_wp2
        go_roundw
        case rel => exact ⟨k + 1, A7, c7, by omega, by go_num, rfl, Lib.hid (by rw [HT.out, cellsP_snoc, HE.out]; exact HN7.out)⟩
        case measure => simp [intOf]; omega
    · obtain rfl : k = ts.length := by omega
      have hN := HN.out
      rw [List.take_of_length_le (by rw [ofL_len]; omega)] at hN
      have hw : NewP w wr A c (ofL ts) := by unfold NewP; rw [ofL_len]; exact hN
      have HW := Lib.hid hw
      have HL := Lib.hid (ofL_len ts)
      clear hw hN
      go_wp2
      go_ret
      exact ⟨A, c, (by rw [HL.out]; rfl), HW.out⟩
end Go.Proofs.Ytbigdkkjajlekaa

/-
  The contracts of Merge, the program's and the reference's. No statement of the seat is proved here.
-/
namespace Go.Proofs.Ytbigdkkjajlekaa
open Go Go.RowKit
set_option maxRecDepth 100000
theorem merge1_dot {p : Prt} (t : Option Tok) (h : p.any = true) : merge1 p t = dot := by unfold merge1; rw [if_pos h]
theorem merge1_none {p : Prt} (h : p.any = false) : merge1 p none = p := by unfold merge1; rw [if_neg (by rw [h]; decide)]
theorem merge1_same {p : Prt} {t : Tok} (h : p.any = false) (he : p.text = t.text) : merge1 p (some t) = p := by rw [merge1_eq, if_neg (by rw [h]; decide), if_pos he]
theorem merge1_other {p : Prt} {t : Tok} (h : p.any = false) (he : p.text ≠ t.text) : merge1 p (some t) = dot := by rw [merge1_eq, if_neg (by rw [h]; decide), if_neg he]
theorem encP_of {p : Prt} {b : Bool} {Z : ByteArray} (h : p.any = b) (hz : strV p.text = .string Z) : encP p = [.bool b, .string Z] := by unfold encP; rw [h, hz]

set_option maxHeartbeats 4000000 in
theorem merge_any_ (A : Option Addr) (n c : Nat) (l : List Prt) (B : Option Addr) (n2 d : Nat) (ts : List Tok) (w : World) (hn : n = l.length) (hn2 : n2 = ts.length) (h : PartsAt w A l) (h2 : ToksAt w B ts) (hl : l.length ≤ 1000000) (hl2 : ts.length ≤ 1000000) :
    Calls Try.prog 16 #[.slice A n c, .slice B n2 d] w (SaysParts (mergeL l ts) w) := by
  subst hn hn2
  have hli : (l.length : Int) ≤ 1000000 := by omega
  have hli2 : (ts.length : Int) ≤ 1000000 := by omega
  have hmk := make_parts w l.length hl
  have hF0 := FillP.start w l.length
  obtain ⟨O1, hO1⟩ : ∃ O1, O1 = Obj.cells (madeCells zeroP (l.length * 2)) 51 := ⟨_, rfl⟩
  have hmk' : (Instr.makeSlice 23 (.int .i64 (l.length : Int)) (.int .i64 (l.length : Int))).run Try.prog w = .ok (.slice (some ⟨w.heap.size, 0, none⟩) l.length l.length) (w.alloc O1) := by rw [hO1]; exact hmk _ rfl
  rw [← hO1] at hF0
  have HF0 := Lib.hid hF0
  clear hF0 hO1 hmk
  go_enter Try.func16, Try.ntmps16
  go_wp2
  go_loopw [13] (fun i wr => ∃ k : Nat, k ≤ l.length ∧ i = .int .i64 (k : Int) ∧ Hid (FillP wr w.heap.size l.length ((mergeL l ts).take k)) ∧ Hid (Below w.heap.size w wr)) (fun i _ => l.length - (intOf i).toNat)
  case atStart => exact ⟨0, Nat.zero_le _, rfl, Lib.hid (by simpa using HF0.out), Lib.hid (ext_alloc (Below.refl _ _) _)⟩
  case round =>
    clear hmk'
    obtain ⟨k, hk, rfl, HF, Hb⟩ := hrel
    by_cases hlt : k < l.length
    · obtain ⟨g, o, rfl, c0, c1⟩ := (h.ext Hb.out).at_ hlt
      have hki : (k : Int) < (l.length : Int) := by omega
      have hk0 : (0 : Int) ≤ (k : Int) := by omega
      have HT := Lib.hid (mergeL_take l ts k hlt)
      have HL : Hid (((mergeL l ts).take k).length = k) := Lib.hid (by rw [List.length_take, mergeL_len]; omega)
      have Hm1 : Hid (k + 1 ≤ maxLen) := Lib.hid (by unfold maxLen; omega)
      have Hm2 : Hid ((k + 1) * 24 ≤ 140737488355328) := Lib.hid (by omega)
      cases hA : l[k].any
      · rw [hA] at c0
        by_cases hlt2 : k < ts.length
        · obtain ⟨g2, o2, rfl, -, c3⟩ := (h2.ext Hb.out).at_ hlt2
          have hki2 : (k : Int) < (ts.length : Int) := by omega
          have hget : ts[k]? = some ts[k] := List.getElem?_eq_getElem hlt2
          rw [hget] at HT
          clear hget
          obtain ⟨Y, Z, hY, hZ, hc⟩ := str_cases l[k].text ts[k].text
          rw [hY] at c1
          rw [hZ] at c3
          rcases hc with ⟨he, rfl⟩ | ⟨he, hf⟩
          · have HE : Hid (encP (merge1 l[k] (some ts[k])) = [.bool false, .string Y]) := Lib.hid (by rw [merge1_same hA he]; exact encP_of hA hY)
            clear hY hZ hA he
            have q3 : (wr.alloc (Obj.cells #[.bool false, .string Y] 51)).cell? ⟨g2, o2 + k * 2 + 1, none⟩ = some (.string Y) := (World.cell?_of_block (Below.heap_alloc wr _ g2 (World.block_lt_of_cell? wr _ c3))).trans c3
            go_wp2
            go_quiet (fail)
            go_wp2_with (first | fail | (refine wpList_store_part2 rfl _ _ rfl w.heap.size _ rfl rfl HE.out (HF.out.ext (ext_drewN (ext_alloc (Below.refl _ _) _) _)) (by rw [HL.out]) (by rw [HL.out]; exact hlt) ?_; intro w3 hF3 ho3))
            have HF3 := Lib.hid hF3
            have Hb3 : Hid (Below w.heap.size w w3) := Lib.hid (below_own Hb.out (ext_drewN (ext_alloc (Below.refl _ _) _) _) ho3 (Nat.le_refl _))
            clear hF3 ho3
            go_wp2
            go_roundw
            case rel => exact ⟨k + 1, by omega, by go_num, Lib.hid (by rw [HT.out]; exact HF3.out), Hb3⟩
            case measure => simp [intOf]; omega
          · have HE : Hid (encP (merge1 l[k] (some ts[k])) = [.bool true, .string ⟨#[]⟩]) := Lib.hid (by rw [merge1_other hA he]; rfl)
            clear hY hZ hA he
            have q3 : (wr.alloc (Obj.cells #[.bool false, .string Y] 51)).cell? ⟨g2, o2 + k * 2 + 1, none⟩ = some (.string Z) := (World.cell?_of_block (Below.heap_alloc wr _ g2 (World.block_lt_of_cell? wr _ c3))).trans c3
            go_wp2
            go_quiet (fail)
            go_wp2_with (first | (refine wpList_store_pvar rfl _ _ rfl wr.heap.size rfl rfl (Blk.drewN (Blk.new wr _ _) _) rfl ?_; intro w2 hB2 ho2; have Hb2 : Hid (Below wr.heap.size wr w2) := Lib.hid (below_own (Below.refl _ _) (ext_drewN (ext_alloc (Below.refl _ _) _) _) ho2 (Nat.le_refl _)); have d0 : w2.cell? ⟨wr.heap.size, 0, none⟩ = some (.bool true) := hB2.cell 0; have d1 : w2.cell? ⟨wr.heap.size, 1, none⟩ = some (.string ⟨#[]⟩) := hB2.cell 1; clear hB2 ho2) | (refine wpList_store_part2 rfl _ _ rfl w.heap.size _ rfl rfl HE.out (HF.out.ext Hb2.out) (by rw [HL.out]) (by rw [HL.out]; exact hlt) ?_; intro w3 hF3 ho3))
            have HF3 := Lib.hid hF3
            have Hb3 : Hid (Below w.heap.size w w3) := Lib.hid (below_own Hb.out Hb2.out ho3 (Nat.le_refl _))
            clear hF3 ho3
            go_wp2
            go_roundw
            case rel => exact ⟨k + 1, by omega, by go_num, Lib.hid (by rw [HT.out]; exact HF3.out), Hb3⟩
            case measure => simp [intOf]; omega
        · have hki2 : ¬ (k : Int) < (ts.length : Int) := by omega
          have hdk : decide (k < ts.length) = false := decide_eq_false hlt2
          have hget : ts[k]? = none := List.getElem?_eq_none (by omega)
          rw [hget] at HT
          clear hget
          obtain ⟨Y, hY, -⟩ := str_hide l[k].text
          rw [hY] at c1
          have HE : Hid (encP (merge1 l[k] none) = [.bool false, .string Y]) := Lib.hid (by rw [merge1_none hA]; exact encP_of hA hY)
          clear hY hA
          go_wp2
          go_quiet (fail)
          go_wp2_with (first | fail | (refine wpList_store_part2 rfl _ _ rfl w.heap.size _ rfl rfl HE.out (HF.out.ext (ext_drewN (ext_alloc (Below.refl _ _) _) _)) (by rw [HL.out]) (by rw [HL.out]; exact hlt) ?_; intro w3 hF3 ho3))
          have HF3 := Lib.hid hF3
          have Hb3 : Hid (Below w.heap.size w w3) := Lib.hid (below_own Hb.out (ext_drewN (ext_alloc (Below.refl _ _) _) _) ho3 (Nat.le_refl _))
          clear hF3 ho3
          go_wp2
          go_roundw
          case rel => exact ⟨k + 1, by omega, by go_num, Lib.hid (by rw [HT.out]; exact HF3.out), Hb3⟩
          case measure => simp [intOf]; omega
      · rw [hA] at c0
        obtain ⟨Y, hY, -⟩ := str_hide l[k].text
        rw [hY] at c1
        have HE : Hid (encP (merge1 l[k] ts[k]?) = [.bool true, .string ⟨#[]⟩]) := Lib.hid (by rw [merge1_dot _ hA]; rfl)
        clear hY hA
        go_wp2
        go_quiet (fail)
        go_wp2_with (first | (refine wpList_store_pvar rfl _ _ rfl wr.heap.size rfl rfl (Blk.drewN (Blk.new wr _ _) _) rfl ?_; intro w2 hB2 ho2; have Hb2 : Hid (Below wr.heap.size wr w2) := Lib.hid (below_own (Below.refl _ _) (ext_drewN (ext_alloc (Below.refl _ _) _) _) ho2 (Nat.le_refl _)); have d0 : w2.cell? ⟨wr.heap.size, 0, none⟩ = some (.bool true) := hB2.cell 0; have d1 : w2.cell? ⟨wr.heap.size, 1, none⟩ = some (.string ⟨#[]⟩) := hB2.cell 1; clear hB2 ho2) | (refine wpList_store_part2 rfl _ _ rfl w.heap.size _ rfl rfl HE.out (HF.out.ext Hb2.out) (by rw [HL.out]) (by rw [HL.out]; exact hlt) ?_; intro w3 hF3 ho3))
        have HF3 := Lib.hid hF3
        have Hb3 : Hid (Below w.heap.size w w3) := Lib.hid (below_own Hb.out Hb2.out ho3 (Nat.le_refl _))
        clear hF3 ho3
        go_wp2
        go_roundw
        case rel => exact ⟨k + 1, by omega, by go_num, Lib.hid (by rw [HT.out]; exact HF3.out), Hb3⟩
        case measure => simp [intOf]; omega
    · obtain rfl : k = l.length := by omega
      have hw : NewP w wr (some ⟨w.heap.size, 0, none⟩) l.length (mergeL l ts) := by
        refine FillP.whole (by have := HF.out; rwa [List.take_of_length_le (by rw [mergeL_len]; omega)] at this) (mergeL_len l ts) (by unfold maxLen; omega) w Hb.out (Nat.le_refl _)
      have HW := Lib.hid hw
      have HL := Lib.hid (mergeL_len l ts)
      clear hw
      go_wp2
      go_ret
      exact ⟨some ⟨w.heap.size, 0, none⟩, l.length, (by rw [HL.out]; rfl), HW.out⟩

set_option maxHeartbeats 4000000 in
theorem rmerge_any (A : Option Addr) (n c : Nat) (l : List Prt) (B : Option Addr) (n2 d : Nat) (ts : List Tok) (w : World) (hn : n = l.length) (hn2 : n2 = ts.length) (h : PartsAt w A l) (h2 : ToksAt w B ts) (hl : l.length ≤ 1000000) (hl2 : ts.length ≤ 1000000) :
    Calls Try.prog 17 #[.slice A n c, .slice B n2 d] w (SaysParts (mergeL l ts) w) := by
  subst hn hn2
  have hli : (l.length : Int) ≤ 1000000 := by omega
  have hli2 : (ts.length : Int) ≤ 1000000 := by omega
  go_enter Try.func17, Try.ntmps17
  go_wp2
  go_loopw [5, 6] (fun s i wr => ∃ (k : Nat) (A2 : Option Addr) (c2 : Nat), k ≤ l.length ∧ i = .int .i64 (k : Int) ∧ s = .slice A2 k c2 ∧ Hid (NewO w wr 51 2 A2 k c2 (cellsP ((mergeL l ts).take k)))) (fun _ i _ => l.length - (intOf i).toNat)
  case atStart => exact ⟨0, none, 0, Nat.zero_le _, rfl, rfl, Lib.hid (NewO.start w 51 2)⟩
  case round =>
    obtain ⟨k, A2, c2, hk, rfl, rfl, HN⟩ := hrel
    have Hb := Lib.hid HN.out.bel
    by_cases hlt : k < l.length
    · obtain ⟨g, o, rfl, c0, c1⟩ := (h.ext Hb.out).at_ hlt
      have hki : (k : Int) < (l.length : Int) := by omega
      have hk0 : (0 : Int) ≤ (k : Int) := by omega
      have HT := Lib.hid (mergeL_take l ts k hlt)
      have HL : Hid (((mergeL l ts).take k).length = k) := Lib.hid (by rw [List.length_take, mergeL_len]; omega)
      have Hm1 : Hid (k + 1 ≤ maxLen) := Lib.hid (by unfold maxLen; omega)
      have Hm2 : Hid ((k + 1) * 24 ≤ 140737488355328) := Lib.hid (by omega)
      cases hA : l[k].any
      · rw [hA] at c0
        by_cases hlt2 : k < ts.length
        · obtain ⟨g2, o2, rfl, -, c3⟩ := (h2.ext Hb.out).at_ hlt2
          have hki2 : (k : Int) < (ts.length : Int) := by omega
          have hget : ts[k]? = some ts[k] := List.getElem?_eq_getElem hlt2
          rw [hget] at HT
          clear hget
          obtain ⟨Y, Z, hY, hZ, hc⟩ := str_cases l[k].text ts[k].text
          rw [hY] at c1
          rw [hZ] at c3
          rcases hc with ⟨he, rfl⟩ | ⟨he, hf⟩
          · have HE : Hid (encP (merge1 l[k] (some ts[k])) = [.bool false, .string Y]) := Lib.hid (by rw [merge1_same hA he]; exact encP_of hA hY)
            clear hY hZ hA he
            have q3 : (wr.alloc (Obj.cells #[.bool false, .string Y] 51)).cell? ⟨g2, o2 + k * 2 + 1, none⟩ = some (.string Y) := (World.cell?_of_block (Below.heap_alloc wr _ g2 (World.block_lt_of_cell? wr _ c3))).trans c3
            go_wp2
            go_quiet (fail)
            go_wp2_with (first | fail | (refine wpList_app_new rfl (.tmp 37) (.tmp 39) _ rfl _ _ 2 24 Try.underlying23 info_part rfl A2 k c2 _ HN.out (by repeat (first | exact Below.refl _ _ | refine ext_alloc ?_ _ | refine ext_drewN ?_ _)) rfl ⟨_, 0, none⟩ 1 [.bool false, .string Y] rfl rfl (Rd.lit_at _ #[.bool false, .string Y] 51 (by first | rfl | simp | exact (World.size_alloc _ _).symm)) (by intro u hu; simp at hu; rcases hu with rfl | rfl <;> rfl) Hm1.out Hm2.out ?_; intro A7 c7 w7 hN7 hB7))
            have HN7 := Lib.hid hN7
            clear hN7 hB7
            go_wp2
            go_roundw
            case rel => exact ⟨k + 1, A7, c7, by omega, by go_num, rfl, Lib.hid (by rw [HT.out, cellsP_snoc, HE.out]; exact HN7.out)⟩
            case measure => simp [intOf]; omega
          · have HE : Hid (encP (merge1 l[k] (some ts[k])) = [.bool true, .string ⟨#[]⟩]) := Lib.hid (by rw [merge1_other hA he]; rfl)
            clear hY hZ hA he
            have q3 : (wr.alloc (Obj.cells #[.bool false, .string Y] 51)).cell? ⟨g2, o2 + k * 2 + 1, none⟩ = some (.string Z) := (World.cell?_of_block (Below.heap_alloc wr _ g2 (World.block_lt_of_cell? wr _ c3))).trans c3
            go_wp2
            go_quiet (fail)
            go_wp2_with (first | (refine wpList_store_pvar rfl _ _ rfl wr.heap.size rfl rfl (Blk.drewN (Blk.new wr _ _) _) rfl ?_; intro w2 hB2 ho2; have Hb2 : Hid (Below wr.heap.size wr w2) := Lib.hid (below_own (Below.refl _ _) (ext_drewN (ext_alloc (Below.refl _ _) _) _) ho2 (Nat.le_refl _)); have d0 : w2.cell? ⟨wr.heap.size, 0, none⟩ = some (.bool true) := hB2.cell 0; have d1 : w2.cell? ⟨wr.heap.size, 1, none⟩ = some (.string ⟨#[]⟩) := hB2.cell 1; clear hB2 ho2) | (refine wpList_app_new rfl (.tmp 37) (.tmp 39) _ rfl _ _ 2 24 Try.underlying23 info_part rfl A2 k c2 _ HN.out (by repeat (first | exact Hb2.out | refine ext_alloc ?_ _ | refine ext_drewN ?_ _)) rfl ⟨_, 0, none⟩ 1 [.bool true, .string ⟨#[]⟩] rfl rfl (Rd.lit_at _ #[.bool true, .string ⟨#[]⟩] 51 (by first | rfl | simp | exact (World.size_alloc _ _).symm)) (by intro u hu; simp at hu; rcases hu with rfl | rfl <;> rfl) Hm1.out Hm2.out ?_; intro A7 c7 w7 hN7 hB7))
            have HN7 := Lib.hid hN7
            clear hN7 hB7
            go_wp2
            go_roundw
            case rel => exact ⟨k + 1, A7, c7, by omega, by go_num, rfl, Lib.hid (by rw [HT.out, cellsP_snoc, HE.out]; exact HN7.out)⟩
            case measure => simp [intOf]; omega
        · have hki2 : ¬ (k : Int) < (ts.length : Int) := by omega
          have hdk : decide (k < ts.length) = false := decide_eq_false hlt2
          have hget : ts[k]? = none := List.getElem?_eq_none (by omega)
          rw [hget] at HT
          clear hget
          obtain ⟨Y, hY, -⟩ := str_hide l[k].text
          rw [hY] at c1
          have HE : Hid (encP (merge1 l[k] none) = [.bool false, .string Y]) := Lib.hid (by rw [merge1_none hA]; exact encP_of hA hY)
          clear hY hA
          go_wp2
          go_quiet (fail)
          go_wp2_with (first | fail | (refine wpList_app_new rfl (.tmp 37) (.tmp 39) _ rfl _ _ 2 24 Try.underlying23 info_part rfl A2 k c2 _ HN.out (by repeat (first | exact Below.refl _ _ | refine ext_alloc ?_ _ | refine ext_drewN ?_ _)) rfl ⟨_, 0, none⟩ 1 [.bool false, .string Y] rfl rfl (Rd.lit_at _ #[.bool false, .string Y] 51 (by first | rfl | simp | exact (World.size_alloc _ _).symm)) (by intro u hu; simp at hu; rcases hu with rfl | rfl <;> rfl) Hm1.out Hm2.out ?_; intro A7 c7 w7 hN7 hB7))
          have HN7 := Lib.hid hN7
          clear hN7 hB7
          go_wp2
          go_roundw
          case rel => exact ⟨k + 1, A7, c7, by omega, by go_num, rfl, Lib.hid (by rw [HT.out, cellsP_snoc, HE.out]; exact HN7.out)⟩
          case measure => simp [intOf]; omega
      · rw [hA] at c0
        obtain ⟨Y, hY, -⟩ := str_hide l[k].text
        rw [hY] at c1
        have HE : Hid (encP (merge1 l[k] ts[k]?) = [.bool true, .string ⟨#[]⟩]) := Lib.hid (by rw [merge1_dot _ hA]; rfl)
        clear hY hA
        go_wp2
        go_quiet (fail)
        go_wp2_with (first | (refine wpList_store_pvar rfl _ _ rfl wr.heap.size rfl rfl (Blk.drewN (Blk.new wr _ _) _) rfl ?_; intro w2 hB2 ho2; have Hb2 : Hid (Below wr.heap.size wr w2) := Lib.hid (below_own (Below.refl _ _) (ext_drewN (ext_alloc (Below.refl _ _) _) _) ho2 (Nat.le_refl _)); have d0 : w2.cell? ⟨wr.heap.size, 0, none⟩ = some (.bool true) := hB2.cell 0; have d1 : w2.cell? ⟨wr.heap.size, 1, none⟩ = some (.string ⟨#[]⟩) := hB2.cell 1; clear hB2 ho2) | (refine wpList_app_new rfl (.tmp 37) (.tmp 39) _ rfl _ _ 2 24 Try.underlying23 info_part rfl A2 k c2 _ HN.out (by repeat (first | exact Hb2.out | refine ext_alloc ?_ _ | refine ext_drewN ?_ _)) rfl ⟨_, 0, none⟩ 1 [.bool true, .string ⟨#[]⟩] rfl rfl (Rd.lit_at _ #[.bool true, .string ⟨#[]⟩] 51 (by first | rfl | simp | exact (World.size_alloc _ _).symm)) (by intro u hu; simp at hu; rcases hu with rfl | rfl <;> rfl) Hm1.out Hm2.out ?_; intro A7 c7 w7 hN7 hB7))
        have HN7 := Lib.hid hN7
        clear hN7 hB7
        go_wp2
        go_roundw
        case rel => exact ⟨k + 1, A7, c7, by omega, by go_num, rfl, Lib.hid (by rw [HT.out, cellsP_snoc, HE.out]; exact HN7.out)⟩
        case measure => simp [intOf]; omega
    · obtain rfl : k = l.length := by omega
      have hN := HN.out
      rw [List.take_of_length_le (by rw [mergeL_len]; omega)] at hN
      have hw : NewP w wr A2 c2 (mergeL l ts) := by unfold NewP; rw [mergeL_len]; exact hN
      have HW := Lib.hid hw
      have HL := Lib.hid (mergeL_len l ts)
      clear hw hN
      go_wp2
      go_ret
      exact ⟨A2, c2, (by rw [HL.out]; rfl), HW.out⟩
end Go.Proofs.Ytbigdkkjajlekaa

/-
  The contracts of Vars, the program's and the reference's. No statement of the seat is proved here.
-/
namespace Go.Proofs.Ytbigdkkjajlekaa
open Go Go.RowKit
set_option maxRecDepth 100000
theorem info_string : (Try.prog.info? 9).map (fun i => (i.zero, i.size, i.bytes)) = some (some (.string ⟨#[]⟩), 1, 16) := by kernel_rfl
/-- a row of texts that was made anew -/
def NewS (w w' : World) (A : Option Addr) (c : Nat) (l : List (List UInt8)) : Prop := NewO w w' 9 1 A l.length c (l.map strV)
def SaysStrs (l : List (List UInt8)) (w : World) (e : Ending) (w' : World) : Prop := ∃ A c, e = .returned (.slice A l.length c) ∧ NewS w w' A c l
theorem strs_snoc (l : List (List UInt8)) (s : List UInt8) {Z : ByteArray} (h : strV s = .string Z) : (l ++ [s]).map strV = l.map strV ++ [.string Z] := by rw [List.map_append, ← h]; rfl

set_option maxHeartbeats 4000000 in
theorem vars_any (A : Option Addr) (n c : Nat) (l : List Prt) (B : Option Addr) (n2 d : Nat) (ts : List Tok) (w : World) (hn : n = l.length) (hn2 : n2 = ts.length) (hc : l.length ≤ c) (h : PartsAt w A l) (h2 : ToksAt w B ts) (hl : l.length ≤ 1000000) (hl2 : ts.length ≤ 1000000) :
    Calls Try.prog 19 #[.slice A n c, .slice B n2 d] w (SaysStrs (varsL l ts) w) := by
  subst hn hn2
  have hli : (l.length : Int) ≤ 1000000 := by omega
  have hli2 : (ts.length : Int) ≤ 1000000 := by omega
  by_cases hx : ts.length < l.length
  · have hxi : (ts.length : Int) < (l.length : Int) := by omega
    have hMc : (ts.length : Int) ≤ (c : Int) := by omega
    have HM : Hid (l.length ≤ ts.length ∨ ts.length ≤ ts.length) := Lib.hid (by omega)
    go_enter Try.func19, Try.ntmps19
    go_wp2
    go_loopw [5, 16] (fun s i wr => ∃ (k m : Nat) (A2 : Option Addr) (c2 : Nat), k ≤ ts.length ∧ m ≤ k ∧ i = .int .i64 (k : Int) ∧ s = .slice A2 m c2 ∧ Hid (m = (varsTo l ts k).length) ∧ Hid (NewO w wr 9 1 A2 m c2 ((varsTo l ts k).map strV))) (fun _ i _ => ts.length - (intOf i).toNat)
    case atStart => exact ⟨0, 0, none, 0, Nat.zero_le _, Nat.zero_le _, rfl, rfl, Lib.hid (by simp [varsTo, varsZ]), Lib.hid (NewO.start w 9 1)⟩
    case round =>
      obtain ⟨k, m, A2, c2, hk, hm, rfl, rfl, Hm, HN⟩ := hrel
      have Hb := Lib.hid HN.out.bel
      by_cases hlt : k < ts.length
      · have hl1 : k < l.length := by omega
        have hl3 : k < ts.length := by omega
        obtain ⟨g, o, rfl, c0, c1⟩ := (h.ext Hb.out).at_ hl1
        obtain ⟨g2, o2, rfl, -, c3⟩ := (h2.ext Hb.out).at_ hl3
        have hki : (k : Int) < (l.length : Int) := by omega
        have hki2 : (k : Int) < (ts.length : Int) := by omega
        have hkM : (k : Int) < (ts.length : Int) := by omega
        have hk0 : (0 : Int) ≤ (k : Int) := by omega
        have HS := Lib.hid (varsTo_succ l ts k hl1 hl3)
        have Hm1 : Hid (m + 1 ≤ maxLen) := Lib.hid (by unfold maxLen; omega)
        have Hm2 : Hid ((m + 1) * 16 ≤ 140737488355328) := Lib.hid (by omega)
        obtain ⟨Y, hY, -⟩ := str_hide l[k].text
        obtain ⟨Z, hZ, -⟩ := str_hide ts[k].text
        rw [hY] at c1
        rw [hZ] at c3
        have HZ := Lib.hid (strs_snoc (varsTo l ts k) ts[k].text hZ)
        clear hY hZ
        cases hA : l[k].any
        · rw [hA] at c0
          have HE : Hid (varsTo l ts (k + 1) = varsTo l ts k) := Lib.hid (by rw [HS.out, hA]; simp)
          clear hA
          go_wp2
          go_roundw
          case rel => exact ⟨k + 1, m, A2, c2, by omega, by omega, by go_num, rfl, Lib.hid (by rw [HE.out]; exact Hm.out), Lib.hid (by rw [HE.out]; exact HN.out.ext (by first | exact Below.refl _ _ | exact ext_alloc (Below.refl _ _) _))⟩
          case measure => simp [intOf]; omega
        · rw [hA] at c0
          have HE : Hid (varsTo l ts (k + 1) = varsTo l ts k ++ [ts[k].text]) := Lib.hid (by rw [HS.out, hA]; rfl)
          clear hA
          have q3 : (wr.alloc (Obj.cells #[.bool true, .string Y] 51)).cell? ⟨g2, o2 + k * 2 + 1, none⟩ = some (.string Z) := (World.cell?_of_block (Below.heap_alloc wr _ g2 (World.block_lt_of_cell? wr _ c3))).trans c3
          go_wp2_with (refine wpList_app_new rfl (.tmp 23) (.tmp 29) _ rfl _ _ 1 16 Try.underlying36 info_string rfl A2 m c2 _ HN.out (by repeat (first | exact Below.refl _ _ | refine ext_alloc ?_ _ | refine ext_drewN ?_ _)) rfl ⟨_, 0, none⟩ 1 [.string Z] rfl rfl (Rd.lit_at _ #[.string Z] 9 (by first | rfl | simp | exact (World.size_alloc _ _).symm)) (by intro u hu; simp at hu; subst hu; rfl) Hm1.out Hm2.out ?_; intro A7 c7 w7 hN7 hB7)
          have HN7 := Lib.hid hN7
          clear hN7 hB7
          go_wp2
          go_roundw
          case rel => exact ⟨k + 1, m + 1, A7, c7, by omega, by omega, by go_num, rfl, Lib.hid (by rw [HE.out, List.length_append, ← Hm.out]; rfl), Lib.hid (by rw [HE.out, HZ.out]; exact HN7.out)⟩
          case measure => simp [intOf]; omega
      · obtain rfl : k = ts.length := by omega
        have hv := varsTo_all l ts _ HM.out
        have hw : NewS w wr A2 c2 (varsL l ts) := by unfold NewS; rw [← hv, ← Hm.out]; exact HN.out
        have HW := Lib.hid hw
        have HL : Hid ((varsL l ts).length = m) := Lib.hid (by rw [← hv]; exact Hm.out.symm)
        clear hw hv
        go_wp2
        go_ret
        exact ⟨A2, c2, (by rw [HL.out]; rfl), HW.out⟩
  · have hxi : ¬ (ts.length : Int) < (l.length : Int) := by omega
    have hMc : (l.length : Int) ≤ (c : Int) := by omega
    have HM : Hid (l.length ≤ l.length ∨ ts.length ≤ l.length) := Lib.hid (by omega)
    go_enter Try.func19, Try.ntmps19
    go_wp2
    go_loopw [5, 16] (fun s i wr => ∃ (k m : Nat) (A2 : Option Addr) (c2 : Nat), k ≤ l.length ∧ m ≤ k ∧ i = .int .i64 (k : Int) ∧ s = .slice A2 m c2 ∧ Hid (m = (varsTo l ts k).length) ∧ Hid (NewO w wr 9 1 A2 m c2 ((varsTo l ts k).map strV))) (fun _ i _ => l.length - (intOf i).toNat)
    case atStart => exact ⟨0, 0, none, 0, Nat.zero_le _, Nat.zero_le _, rfl, rfl, Lib.hid (by simp [varsTo, varsZ]), Lib.hid (NewO.start w 9 1)⟩
    case round =>
      obtain ⟨k, m, A2, c2, hk, hm, rfl, rfl, Hm, HN⟩ := hrel
      have Hb := Lib.hid HN.out.bel
      by_cases hlt : k < l.length
      · have hl1 : k < l.length := by omega
        have hl3 : k < ts.length := by omega
        obtain ⟨g, o, rfl, c0, c1⟩ := (h.ext Hb.out).at_ hl1
        obtain ⟨g2, o2, rfl, -, c3⟩ := (h2.ext Hb.out).at_ hl3
        have hki : (k : Int) < (l.length : Int) := by omega
        have hki2 : (k : Int) < (ts.length : Int) := by omega
        have hkM : (k : Int) < (l.length : Int) := by omega
        have hk0 : (0 : Int) ≤ (k : Int) := by omega
        have HS := Lib.hid (varsTo_succ l ts k hl1 hl3)
        have Hm1 : Hid (m + 1 ≤ maxLen) := Lib.hid (by unfold maxLen; omega)
        have Hm2 : Hid ((m + 1) * 16 ≤ 140737488355328) := Lib.hid (by omega)
        obtain ⟨Y, hY, -⟩ := str_hide l[k].text
        obtain ⟨Z, hZ, -⟩ := str_hide ts[k].text
        rw [hY] at c1
        rw [hZ] at c3
        have HZ := Lib.hid (strs_snoc (varsTo l ts k) ts[k].text hZ)
        clear hY hZ
        cases hA : l[k].any
        · rw [hA] at c0
          have HE : Hid (varsTo l ts (k + 1) = varsTo l ts k) := Lib.hid (by rw [HS.out, hA]; simp)
          clear hA
          go_wp2
          go_roundw
          case rel => exact ⟨k + 1, m, A2, c2, by omega, by omega, by go_num, rfl, Lib.hid (by rw [HE.out]; exact Hm.out), Lib.hid (by rw [HE.out]; exact HN.out.ext (by first | exact Below.refl _ _ | exact ext_alloc (Below.refl _ _) _))⟩
          case measure => simp [intOf]; omega
        · rw [hA] at c0
          have HE : Hid (varsTo l ts (k + 1) = varsTo l ts k ++ [ts[k].text]) := Lib.hid (by rw [HS.out, hA]; rfl)
          clear hA
          have q3 : (wr.alloc (Obj.cells #[.bool true, .string Y] 51)).cell? ⟨g2, o2 + k * 2 + 1, none⟩ = some (.string Z) := (World.cell?_of_block (Below.heap_alloc wr _ g2 (World.block_lt_of_cell? wr _ c3))).trans c3
          go_wp2_with (refine wpList_app_new rfl (.tmp 23) (.tmp 29) _ rfl _ _ 1 16 Try.underlying36 info_string rfl A2 m c2 _ HN.out (by repeat (first | exact Below.refl _ _ | refine ext_alloc ?_ _ | refine ext_drewN ?_ _)) rfl ⟨_, 0, none⟩ 1 [.string Z] rfl rfl (Rd.lit_at _ #[.string Z] 9 (by first | rfl | simp | exact (World.size_alloc _ _).symm)) (by intro u hu; simp at hu; subst hu; rfl) Hm1.out Hm2.out ?_; intro A7 c7 w7 hN7 hB7)
          have HN7 := Lib.hid hN7
          clear hN7 hB7
          go_wp2
          go_roundw
          case rel => exact ⟨k + 1, m + 1, A7, c7, by omega, by omega, by go_num, rfl, Lib.hid (by rw [HE.out, List.length_append, ← Hm.out]; rfl), Lib.hid (by rw [HE.out, HZ.out]; exact HN7.out)⟩
          case measure => simp [intOf]; omega
      · obtain rfl : k = l.length := by omega
        have hv := varsTo_all l ts _ HM.out
        have hw : NewS w wr A2 c2 (varsL l ts) := by unfold NewS; rw [← hv, ← Hm.out]; exact HN.out
        have HW := Lib.hid hw
        have HL : Hid ((varsL l ts).length = m) := Lib.hid (by rw [← hv]; exact Hm.out.symm)
        clear hw hv
        go_wp2
        go_ret
        exact ⟨A2, c2, (by rw [HL.out]; rfl), HW.out⟩

set_option maxHeartbeats 4000000 in
theorem rvars_any (A : Option Addr) (n c : Nat) (l : List Prt) (B : Option Addr) (n2 d : Nat) (ts : List Tok) (w : World) (hn : n = l.length) (hn2 : n2 = ts.length) (hc : l.length ≤ c) (h : PartsAt w A l) (h2 : ToksAt w B ts) (hl : l.length ≤ 1000000) (hl2 : ts.length ≤ 1000000) :
    Calls Try.prog 20 #[.slice A n c, .slice B n2 d] w (SaysStrs (varsL l ts) w) := by
  subst hn hn2
  have hli : (l.length : Int) ≤ 1000000 := by omega
  have hli2 : (ts.length : Int) ≤ 1000000 := by omega
  obtain ⟨M, hM1, hM2, hM⟩ : ∃ M, M ≤ l.length ∧ M ≤ ts.length ∧ (l.length ≤ M ∨ ts.length ≤ M) := ⟨min l.length ts.length, by omega, by omega, by omega⟩
  have HM := Lib.hid hM
  have hMi : (M : Int) ≤ (l.length : Int) := by omega
  clear hM
  go_enter Try.func20, Try.ntmps20
  go_wp2
  go_loopw [5, 6] (fun s i wr => ∃ (k m : Nat) (A2 : Option Addr) (c2 : Nat), k ≤ M ∧ m ≤ k ∧ i = .int .i64 (k : Int) ∧ s = .slice A2 m c2 ∧ Hid (m = (varsTo l ts k).length) ∧ Hid (NewO w wr 9 1 A2 m c2 ((varsTo l ts k).map strV))) (fun _ i _ => M - (intOf i).toNat)
  case atStart => exact ⟨0, 0, none, 0, Nat.zero_le _, Nat.zero_le _, rfl, rfl, Lib.hid (by simp [varsTo, varsZ]), Lib.hid (NewO.start w 9 1)⟩
  case round =>
    obtain ⟨k, m, A2, c2, hk, hm, rfl, rfl, Hm, HN⟩ := hrel
    have Hb := Lib.hid HN.out.bel
    by_cases hlt : k < M
    · have hl1 : k < l.length := by omega
      have hl3 : k < ts.length := by omega
      obtain ⟨g, o, rfl, c0, c1⟩ := (h.ext Hb.out).at_ hl1
      obtain ⟨g2, o2, rfl, -, c3⟩ := (h2.ext Hb.out).at_ hl3
      have hki : (k : Int) < (l.length : Int) := by omega
      have hki2 : (k : Int) < (ts.length : Int) := by omega
      have hkM : (k : Int) < (M : Int) := by omega
      have hk0 : (0 : Int) ≤ (k : Int) := by omega
      have HS := Lib.hid (varsTo_succ l ts k hl1 hl3)
      have Hm1 : Hid (m + 1 ≤ maxLen) := Lib.hid (by unfold maxLen; omega)
      have Hm2 : Hid ((m + 1) * 16 ≤ 140737488355328) := Lib.hid (by omega)
      obtain ⟨Y, hY, -⟩ := str_hide l[k].text
      obtain ⟨Z, hZ, -⟩ := str_hide ts[k].text
      rw [hY] at c1
      rw [hZ] at c3
      have HZ := Lib.hid (strs_snoc (varsTo l ts k) ts[k].text hZ)
      clear hY hZ
      cases hA : l[k].any
      · rw [hA] at c0
        have HE : Hid (varsTo l ts (k + 1) = varsTo l ts k) := Lib.hid (by rw [HS.out, hA]; simp)
        clear hA
        go_wp2
        go_roundw
        case rel => exact ⟨k + 1, m, A2, c2, by omega, by omega, by go_num, rfl, Lib.hid (by rw [HE.out]; exact Hm.out), Lib.hid (by rw [HE.out]; exact HN.out.ext (by first | exact Below.refl _ _ | exact ext_alloc (Below.refl _ _) _))⟩
        case measure => simp [intOf]; omega
      · rw [hA] at c0
        have HE : Hid (varsTo l ts (k + 1) = varsTo l ts k ++ [ts[k].text]) := Lib.hid (by rw [HS.out, hA]; rfl)
        clear hA
        go_wp2_with (refine wpList_app_new rfl (.tmp 24) (.tmp 30) _ rfl _ _ 1 16 Try.underlying36 info_string rfl A2 m c2 _ HN.out (by repeat (first | exact Below.refl _ _ | refine ext_alloc ?_ _ | refine ext_drewN ?_ _)) rfl ⟨_, 0, none⟩ 1 [.string Z] rfl rfl (Rd.lit_at _ #[.string Z] 9 (by first | rfl | simp | exact (World.size_alloc _ _).symm)) (by intro u hu; simp at hu; subst hu; rfl) Hm1.out Hm2.out ?_; intro A7 c7 w7 hN7 hB7)
        have HN7 := Lib.hid hN7
        clear hN7 hB7
        go_wp2
        go_roundw
        case rel => exact ⟨k + 1, m + 1, A7, c7, by omega, by omega, by go_num, rfl, Lib.hid (by rw [HE.out, List.length_append, ← Hm.out]; rfl), Lib.hid (by rw [HE.out, HZ.out]; exact HN7.out)⟩
        case measure => simp [intOf]; omega
    · obtain rfl : k = M := by omega
      have hv := varsTo_all l ts _ HM.out
      have hw : NewS w wr A2 c2 (varsL l ts) := by unfold NewS; rw [← hv, ← Hm.out]; exact HN.out
      have HW := Lib.hid hw
      have HL : Hid ((varsL l ts).length = m) := Lib.hid (by rw [← hv]; exact Hm.out.symm)
      clear hw hv
      have HM2 := HM.out
      by_cases hx : k < l.length
      · have hxi : (k : Int) < (l.length : Int) := by omega
        have hxj : ¬ (k : Int) < (ts.length : Int) := by omega
        clear HM2
        go_wp2
        go_ret
        exact ⟨A2, c2, (by rw [HL.out]; rfl), HW.out⟩
      · have hxi : ¬ (k : Int) < (l.length : Int) := by omega
        clear HM2
        go_wp2
        go_ret
        exact ⟨A2, c2, (by rw [HL.out]; rfl), HW.out⟩
end Go.Proofs.Ytbigdkkjajlekaa
