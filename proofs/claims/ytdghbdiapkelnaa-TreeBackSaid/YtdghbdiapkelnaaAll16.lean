/-
  Texts of this claim, joined (part 16): contracts and lemmas that the last text goes by. No statement of the seat is proved here.
-/
import Derived.Test.YtdghbdiapkelnaaAll14
import Derived.Test.YtdghbdiapkelnaaAll8
import Derived.Test.YtdghbdiapkelnaaAll15
import Derived.Test.YtdghbdiapkelnaaAll11
import Derived.Deep.RegionHeld3
set_option linter.unusedVariables false
set_option linter.unusedSimpArgs false
/-
  TreeBack's walk. No statement of the seat is proved here.
-/
namespace Go.Proofs.Ytdghbdiapkelnaa
open Go Go.RowKit Go.Maps
set_option maxRecDepth 100000

theorem treeB_len {t : Tr} (hG : Good t) (hS : Sml t) : (treeB t).length ≤ 40000000 := by
  have h := lvTo_len hG hS t.lv.length
  unfold lvTo at h
  rw [List.take_length] at h
  exact h
/-- Encode's bytes, as a row that is read -/
theorem enc_rd {T : Nat → Prop} {W : World} {gx : Nat} {t : Tr} (h : TrIn T W gx t) (hG : Good t) (hS : Sml t) : Calls Try.prog 26 #[.pointer (some ⟨gx, 0, none⟩)] W fun e w' => ∃ A' c', e = .returned (.slice A' (treeB t).length c') ∧ Hid (Rd w' A' ((treeB t).map bv)) ∧ Hid ((treeB t).length ≤ c') ∧ Hid (Below W.heap.size W w') := by
  refine (encode_any h hG hS).mono ?_
  rintro e w' ⟨A', c', rfl, h1, h2⟩
  have h3 := Own.cap h1
  rw [List.length_map] at h3
  exact ⟨A', c', rfl, Lib.hid h1.rd, Lib.hid h3, Lib.hid h2⟩
/-- Decode of a tree's own bytes -/
theorem dec_rd {W : World} {A : Option Addr} {c : Nat} {t : Tr} (hG : Good t) (hS : Sml t) (hP : Pl t) (hc : (treeB t).length ≤ c) (hA : Rd W A ((treeB t).map bv)) : Calls Try.prog 27 #[.slice A (treeB t).length c] W fun e w' => ∃ g T, e = .returned (.tuple #[.pointer (some ⟨g, 0, none⟩), .int .i64 0]) ∧ Hid (TrIn T w' g t) ∧ Hid (∀ j, T j → W.heap.size ≤ j) ∧ Hid (Below W.heap.size W w') := by
  obtain ⟨U, e1, e2⟩ := dec_back hG hP hS
  refine (decode_any A c (treeB t) W hc hA (by have := treeB_len hG hS; omega) (fun k hk => Nat.le_trans (e2 k hk) (by omega))).mono ?_
  rintro e w' ⟨hB, h⟩
  rw [e1] at h
  rcases h with ⟨-, g, T, rfl, hT, hTs⟩ | ⟨h, -⟩
  · exact ⟨g, T, rfl, hT, hTs, hB⟩
  · exact absurd h (by simp [wholeB])
set_option maxHeartbeats 16000000 in
theorem back_walk (A : Option Addr) (c : Nat) (l : List (List Tok)) (B : Option Addr) (c2 : Nat) (m : List (List Tok)) (w : World) (h : RowR IsTks 1 w A l) (hl : l.length ≤ maxLen) (hz : ∀ r ∈ l, ∀ t ∈ r, t.text.length ≤ 140737488355328) (h2 : RowR IsTks 1 w B m) (hl2 : m.length ≤ maxLen) (hz2 : ∀ r ∈ m, ∀ t ∈ r, t.text.length ≤ 140737488355328) :
    Calls Try.prog 6 #[.slice A l.length c, .slice B m.length c2] w fun e w' => e = .returned (.bool true) ∧ Below w.heap.size w w' := by
  have HR := Lib.hid h
  have HM := Lib.hid h2
  have HH := Lib.hid (heavyT_any A c l w h hl hz)
  have HH2 := Lib.hid (heavyT_any B c2 m w h2 hl2 hz2)
  have HPn := Lib.hid (plain_any A c l w h hl hz)
  unfold maxLen at hl hl2
  have hli : (l.length : Int) ≤ 9223372036854775807 := by omega
  have hmi : (m.length : Int) ≤ 9223372036854775807 := by omega
  have HN := Lib.hid (new_any w)
  clear h hl hz h2 hl2 hz2
  go_enter Try.func6, Try.ntmps6
  go_wp2_with fail
  refine HH.out.mono ?_
  rintro e w0 ⟨r, rfl, hw, hlt⟩
  subst hw
  have HL1 : Hid (r = false → ∀ i (hi : i < l.length), i < 120 → sumT l[i] l[i].length ≤ 6000) := Lib.hid hlt
  clear hlt HH
  cases r
  case true =>
    go_wp2
    go_ret
    exact ⟨rfl, Below.refl _ _⟩
  case false =>
    have HLt : Hid (∀ i (hi : i < l.length), i < 120 → sumT l[i] l[i].length ≤ 6000) := Lib.hid (HL1.out rfl)
    clear HL1
    go_wp2_with fail
    refine HH2.out.mono ?_
    rintro e w0 ⟨r, rfl, hw, hlt⟩
    subst hw
    have HL1 : Hid (r = false → ∀ i (hi : i < m.length), i < 120 → sumT m[i] m[i].length ≤ 6000) := Lib.hid hlt
    clear hlt HH2
    cases r
    case true =>
      go_wp2
      go_ret
      exact ⟨rfl, Below.refl _ _⟩
    case false =>
      have HMt : Hid (∀ i (hi : i < m.length), i < 120 → sumT m[i] m[i].length ≤ 6000) := Lib.hid (HL1.out rfl)
      clear HL1
      go_wp2_with fail
      refine HPn.out.mono ?_
      rintro e w0 ⟨r, rfl, hw, hlt⟩
      subst hw
      have HL1 : Hid (r = true → ∀ i (hi : i < l.length), i < 120 → plL l[i]) := Lib.hid hlt
      clear hlt HPn
      cases r
      case false =>
        go_wp2
        go_ret
        exact ⟨rfl, Below.refl _ _⟩
      case true =>
        have HPl : Hid (∀ i (hi : i < l.length), i < 120 → plL l[i]) := Lib.hid (HL1.out rfl)
        clear HL1
        go_wp2_with fail
        refine HN.out.mono ?_
        rintro e w1 ⟨g, rfl, hT, hb, hg⟩
        have HT := Lib.hid hT
        have Hb := Lib.hid hb
        have Hg : Hid (w.heap.size ≤ g) := Lib.hid hg
        clear hT hb hg HN
        go_wp2
        go_loopw [6] (fun i wr => ∃ k : Nat, k ≤ l.length ∧ k ≤ 120 ∧ i = .int .i64 (k : Int) ∧ ∃ (T : Nat → Prop) (t : Tr), Hid (TrIn T wr g t) ∧ Hid (Good t) ∧ Hid (Sml t) ∧ Hid (Pl t) ∧ Hid (∀ j, T j → w.heap.size ≤ j) ∧ Hid (Below w.heap.size w wr)) (fun i _ => l.length - (intOf i).toNat)
        case atStart => exact ⟨0, Nat.zero_le _, Nat.zero_le _, rfl, _, _, HT, Lib.hid Good.new, Lib.hid Sml.new, Lib.hid Pl.new, Lib.hid (fun j hj => by rw [hj]; exact Hg.out), Hb⟩
        case round =>
          obtain ⟨k, hk, hk120, rfl, T, t, HTr, HG, HS, HP, HTs, Hbr⟩ := hrel
          by_cases hlt : k < l.length
          · have hki : (k : Int) < (l.length : Int) := by omega
            by_cases h120 : k < 120
            · have hk1 : (k : Int) < 120 := by omega
              obtain ⟨g2, o2, B3, cb, rfl, u0, ht, hm1, hm2⟩ := row_toks HR.out hlt
              unfold maxLen at hm2
              have hmj : (l[k].length : Int) ≤ 9223372036854775807 := by omega
              have u1 : wr.cell? ⟨g2, o2 + k, none⟩ = some (.slice B3 l[k].length cb) := (World.cell?_of_block (Hbr.out.block _ (World.block_lt_of_cell? w _ u0))).trans u0
              have HA := Lib.hid (asg_step cb HTr.out HG.out HTs.out Hbr.out ht (HLt.out k hlt h120))
              have HG2 := Lib.hid (HG.out.step l[k])
              have HS2 := Lib.hid (HS.out.step (HLt.out k hlt h120))
              have HP2 := Lib.hid (HP.out.step HG.out (HPl.out k hlt h120))
              clear u0 ht hm1 hm2 HG HTr HTs HS HP
              go_wp2_with fail
              refine HA.out.mono ?_
              rintro e w2 ⟨T2, V, cv, rfl, HT2, HTs2, -, -, Hb2, -, -⟩
              go_wp2
              go_roundw
              case rel => exact ⟨k + 1, by omega, by omega, by go_num, T2, _, HT2, HG2, HS2, HP2, HTs2, Hb2⟩
              case measure => simp [intOf]; omega
            · have hk1 : ¬ (k : Int) < 120 := by omega
              clear h120
              obtain ⟨E, hE⟩ : ∃ E, treeB t = E := ⟨_, rfl⟩
              have HE := Lib.hid hE
              have HEn := enc_rd HTr.out HG.out HS.out
              have HDe : Hid (∀ W A c, E.length ≤ c → Rd W A (E.map bv) → Calls Try.prog 27 #[.slice A E.length c] W fun e w' => ∃ g T, e = .returned (.tuple #[.pointer (some ⟨g, 0, none⟩), .int .i64 0]) ∧ Hid (TrIn T w' g t) ∧ Hid (∀ j, T j → W.heap.size ≤ j) ∧ Hid (Below W.heap.size W w')) := Lib.hid (fun W A c h1 h2 => by
                rw [← hE] at h1 h2 ⊢
                exact dec_rd HG.out HS.out HP.out h1 h2)
              rw [hE] at HEn
              have HEn := Lib.hid HEn
              obtain ⟨Z, hZ, -⟩ := str_hide E
              have HZ : Hid (∀ W A c, Rd W A (E.map bv) → (convert 48 9 (.slice A E.length c)).run Try.prog W = .ok (.string Z) W) := Lib.hid (fun W A c hr => by
                have := conv_bytes W A _ c E rfl hr
                rw [show Value.string ⟨E.toArray⟩ = strV E from rfl, hZ] at this
                exact this)
              clear hE hZ HP
              go_wp2_with fail
              refine HEn.out.mono ?_
              rintro e w2 ⟨A1, c1, rfl, hr1, hcap, hb2⟩
              have HDn := Lib.hid (HDe.out w2 A1 c1 hcap.out hr1.out)
              have HTa2 := Lib.hid (HTr.out.ext hb2.out)
              have Hlt2 : Hid (∀ j, T j → j < w2.heap.size) := Lib.hid (fun j hj => HTa2.out.lt hj)
              clear HEn HDe hcap
              go_wp2_with fail
              refine HDn.out.mono ?_
              rintro e w3 ⟨gd, Td, rfl, HTd3, HTdn, hb3⟩
              have HCp := Lib.hid (copy_any (HTa2.out.ext hb3.out) HG.out)
              have Hltd : Hid (∀ j, Td j → j < w3.heap.size) := Lib.hid (fun j hj => HTd3.out.lt hj)
              clear HDn
              go_wp2_with fail
              refine HCp.out.mono ?_
              rintro e w4 ⟨gc, Tc, rfl, HTc, HTcn, hb4⟩
              have HTa := Lib.hid ((HTa2.out.ext hb3.out).ext hb4.out)
              have HTd := Lib.hid (HTd3.out.ext hb4.out)
              have HrA := Lib.hid ((hr1.out.ext hb3.out).ext hb4.out)
              have Hb4 := Lib.hid (ext_trans (ext_trans (ext_trans Hbr.out hb2.out) hb3.out) hb4.out)
              have Hz2 := Lib.hid (ext_trans Hbr.out hb2.out).size
              have HTds : Hid (∀ j, Td j → w.heap.size ≤ j) := Lib.hid (fun j hj => Nat.le_trans Hz2.out (HTdn.out j hj))
              have HTcs : Hid (∀ j, Tc j → w.heap.size ≤ j) := Lib.hid (fun j hj => Nat.le_trans Hz2.out (Nat.le_trans hb3.out.size (HTcn.out j hj)))
              have HTad : Hid (∀ j, T j → ¬ Td j) := Lib.hid (fun j h1 h2 => by have := Hlt2.out j h1; have := HTdn.out j h2; omega)
              have HTac : Hid (∀ j, T j → ¬ Tc j) := Lib.hid (fun j h1 h2 => by have := Hlt2.out j h1; have := HTcn.out j h2; have := hb3.out.size; omega)
              have HTdc : Hid (∀ j, Td j → ¬ Tc j) := Lib.hid (fun j h1 h2 => by have := Hltd.out j h1; have := HTcn.out j h2; omega)
              clear HTr HCp HTa2 HTd3 HTdn HTcn hb2 hb3 hb4 hr1 Hz2 Hlt2 Hltd
              go_wp2
              refine wp_region_held_drew (S := (fun W => (convert 48 9 (.slice A1 E.length c1)).run Try.prog W = .ok (.string Z) W)) (by kernel_rfl) ?_ (fun hHeld => ?_)
              · exact HZ.out _ _ _ (HrA.out.ext (ext_drew (Below.refl _ _)))
              refine wpAnyH_take (i := 0) (v := ?_) (take_list rfl) (by kernel_rfl) (by kernel_rfl) (by kernel_rfl) (fun _ _ _ h => h) (Or.inl ⟨by rfl, ?_⟩) (by assumption) ?_
              rotate_left
              · intro w hSw
                try dsimp only at hSw
                first | (go_simp; done) | (go_simp; with_reducible rfl)
              try simp only [Act.put, List.setIfInBounds_toArray, List.set_cons_zero, List.set_cons_succ]
              refine wpAnyH_take (i := 1) (v := ?_) (take_list rfl) (by kernel_rfl) (by kernel_rfl) (by kernel_rfl) (fun _ _ _ h => h) (Or.inl ⟨by rfl, ?_⟩) (by assumption) ?_
              rotate_left
              · intro w hSw
                try dsimp only at hSw
                first | (go_simp; done) | (go_simp; with_reducible rfl)
              try simp only [Act.put, List.setIfInBounds_toArray, List.set_cons_zero, List.set_cons_succ]
              refine wpAnyH_take (i := 2) (v := ?_) (take_list rfl) (by kernel_rfl) (by kernel_rfl) (by kernel_rfl) (fun _ _ _ h => h) (Or.inl ⟨by rfl, ?_⟩) (by assumption) ?_
              rotate_left
              · intro w hSw
                try dsimp only at hSw
                first | (go_simp; done) | (go_simp; with_reducible rfl)
              try simp only [Act.put, List.setIfInBounds_toArray, List.set_cons_zero, List.set_cons_succ]
              refine wpAnyH_take (i := 3) (v := ?_) (take_list rfl) (by kernel_rfl) (by kernel_rfl) (by kernel_rfl) (fun _ _ _ h => h) (Or.inl ⟨by rfl, ?_⟩) (by assumption) ?_
              rotate_left
              · intro w hSw
                try dsimp only at hSw
                first | (go_simp; done) | (go_simp; with_reducible rfl)
              try simp only [Act.put, List.setIfInBounds_toArray, List.set_cons_zero, List.set_cons_succ]
              refine wpAnyH_take (i := 4) (v := ?_) (take_list rfl) (by kernel_rfl) (by kernel_rfl) (by kernel_rfl) (fun _ _ _ h => h) (Or.inl ⟨by rfl, ?_⟩) (by assumption) ?_
              rotate_left
              · intro w hSw
                try dsimp only at hSw
                first | (go_simp; done) | (go_simp; with_reducible rfl)
              try simp only [Act.put, List.setIfInBounds_toArray, List.set_cons_zero, List.set_cons_succ]
              refine wpAnyH_take (i := 5) (v := ?_) (take_list rfl) (by kernel_rfl) (by kernel_rfl) (by kernel_rfl) (fun _ _ _ h => h) (Or.inl ⟨by rfl, ?_⟩) (by assumption) ?_
              rotate_left
              · intro w hSw
                try dsimp only at hSw
                first | (go_simp; done) | (go_simp; with_reducible rfl)
              try simp only [Act.put, List.setIfInBounds_toArray, List.set_cons_zero, List.set_cons_succ]
              refine wpAnyH_take (i := 6) (v := ?_) (take_list rfl) (by kernel_rfl) (by kernel_rfl) (by kernel_rfl) (fun _ _ _ h => h) (Or.inl ⟨by rfl, ?_⟩) (by assumption) ?_
              rotate_left
              · intro w hSw
                try dsimp only at hSw
                first | (go_simp; done) | (go_simp; with_reducible rfl)
              try simp only [Act.put, List.setIfInBounds_toArray, List.set_cons_zero, List.set_cons_succ]
              refine wpAnyH_take (i := 7) (v := ?_) (take_list rfl) (by kernel_rfl) (by kernel_rfl) (by kernel_rfl) (fun _ _ _ h => h) (Or.inl ⟨by rfl, ?_⟩) (by assumption) ?_
              rotate_left
              · intro w hSw
                try dsimp only at hSw
                first | (go_simp; done) | (go_simp; with_reducible rfl)
              try simp only [Act.put, List.setIfInBounds_toArray, List.set_cons_zero, List.set_cons_succ]
              refine wpAnyH_take (i := 8) (v := ?_) (take_list rfl) (by kernel_rfl) (by kernel_rfl) (by kernel_rfl) (fun _ _ _ h => h) (Or.inl ⟨by rfl, ?_⟩) (by assumption) ?_
              rotate_left
              · intro w hSw
                try dsimp only at hSw
                first | (go_simp; done) | (go_simp; with_reducible rfl)
              try simp only [Act.put, List.setIfInBounds_toArray, List.set_cons_zero, List.set_cons_succ]
              refine wpAnyH_take (i := 9) (v := ?_) (take_list rfl) (by kernel_rfl) (by kernel_rfl) (by kernel_rfl) (fun _ _ _ h => h) (Or.inl ⟨by rfl, ?_⟩) (by assumption) ?_
              rotate_left
              · intro w hSw
                try dsimp only at hSw
                first | (go_simp; done) | (go_simp; with_reducible rfl)
              try simp only [Act.put, List.setIfInBounds_toArray, List.set_cons_zero, List.set_cons_succ]
              refine wpAnyH_take (i := 10) (v := ?_) (take_list rfl) (by kernel_rfl) (by kernel_rfl) (by kernel_rfl) (fun _ _ _ h => h) (Or.inl ⟨by rfl, ?_⟩) (by assumption) ?_
              rotate_left
              · intro w hSw
                try dsimp only at hSw
                first | (go_simp; done) | (go_simp; with_reducible rfl)
              try simp only [Act.put, List.setIfInBounds_toArray, List.set_cons_zero, List.set_cons_succ]
              refine wpAnyH_take (i := 11) (v := ?_) (take_list rfl) (by kernel_rfl) (by kernel_rfl) (by kernel_rfl) (fun _ _ _ h => h) (Or.inl ⟨by rfl, ?_⟩) (by assumption) ?_
              rotate_left
              · intro w hSw
                try dsimp only at hSw
                first | (go_simp; done) | (go_simp; with_reducible rfl)
              try simp only [Act.put, List.setIfInBounds_toArray, List.set_cons_zero, List.set_cons_succ]
              refine wpAnyH_take (i := 14) (v := ?_) (take_list rfl) (by kernel_rfl) (by kernel_rfl) (by kernel_rfl) (fun _ _ _ h => h) (Or.inl ⟨by rfl, ?_⟩) (by assumption) ?_
              rotate_left
              · intro w hSw
                try dsimp only at hSw
                first | (go_simp; done) | (go_simp; with_reducible rfl)
              try simp only [Act.put, List.setIfInBounds_toArray, List.set_cons_zero, List.set_cons_succ]
              refine wpAnyH_take (i := 15) (v := ?_) (take_list rfl) (by kernel_rfl) (by kernel_rfl) (by kernel_rfl) (fun _ _ _ h => h) (Or.inl ⟨by rfl, ?_⟩) (by assumption) ?_
              rotate_left
              · intro w hSw
                try dsimp only at hSw
                first | (go_simp; done) | (go_simp; with_reducible rfl)
              try simp only [Act.put, List.setIfInBounds_toArray, List.set_cons_zero, List.set_cons_succ]
              refine wpAnyH_ready (rs := [12]) (by kernel_rfl) (by simp) ?_
              refine AllReadyH.cons (take_list rfl) (fun K hK => ?_) ?_
              · skip
                go_simp
                refine (enc_rd (HTd.out.ext (w' := w4.drew) (ext_drew (Below.refl _ _))) HG.out HS.out).mono ?_
                rw [HE.out]
                rintro e w5 ⟨A2, cc2, rfl, hr2, -, hb5⟩
                dsimp only
                have hb5 : Below w4.heap.size w4 w5 := ext_trans (ext_drew (Below.refl _ _)) hb5.out
                refine hK.out _ _ ?_ (fun hHeld => ?_)
                · try dsimp only
                  exact HZ.out _ _ _ (HrA.out.ext hb5)
                clear hK K
                refine wpAnyH_ready (rs := [13]) (by kernel_rfl) (by simp) ?_
                refine AllReadyH.cons (take_list rfl) (fun K hK => ?_) ?_
                · skip
                  have hcv := HZ.out w5 A2 cc2 hr2.out
                  go_simp
                  clear hcv
                  refine hK.out _ _ ?_ (fun hHeld => ?_)
                  · try dsimp only
                    exact HZ.out _ _ _ (HrA.out.ext hb5)
                  clear hK K
                  refine wpAnyH_take (i := 16) (v := ?_) (take_list rfl) (by kernel_rfl) (by kernel_rfl) (by kernel_rfl) (fun _ _ _ h => h) (Or.inl ⟨by rfl, ?_⟩) (by assumption) ?_
                  rotate_left
                  · intro w hSw
                    try dsimp only at hSw
                    first | (go_simp; done) | (go_simp; with_reducible rfl)
                  try simp only [Act.put, List.setIfInBounds_toArray, List.set_cons_zero, List.set_cons_succ]
                  refine wpAnyH_take (i := 17) (v := ?_) (take_list rfl) (by kernel_rfl) (by kernel_rfl) (by kernel_rfl) (fun _ _ _ h => h) (Or.inl ⟨by rfl, ?_⟩) (by assumption) ?_
                  rotate_left
                  · intro w hSw
                    try dsimp only at hSw
                    first | (go_simp; done) | (go_simp; with_reducible rfl)
                  try simp only [Act.put, List.setIfInBounds_toArray, List.set_cons_zero, List.set_cons_succ]
                  refine wpAnyH_done (by kernel_rfl) ?_ _
                  have HTa5 := Lib.hid (HTa.out.ext hb5)
                  have HTd5 := Lib.hid (HTd.out.ext hb5)
                  have HTc5 := Lib.hid (HTc.out.ext hb5)
                  have Hb5 := Lib.hid (ext_trans Hb4.out hb5)
                  clear hb5 hr2 HTa HTd HTc Hb4 HrA
                  go_wp2
                  go_loopw [11] (fun i wr => ∃ k : Nat, k ≤ m.length ∧ k ≤ 120 ∧ i = .int .i64 (k : Int) ∧ ∃ (T1 T2 T3 : Nat → Prop) (t : Tr), Hid (TrIn T1 wr g t) ∧ Hid (TrIn T2 wr gd t) ∧ Hid (TrIn T3 wr gc t) ∧ Hid (Good t) ∧ Hid (Sml t) ∧ Hid (∀ j, T1 j → w.heap.size ≤ j) ∧ Hid (∀ j, T2 j → w.heap.size ≤ j) ∧ Hid (∀ j, T3 j → w.heap.size ≤ j) ∧ Hid (∀ j, T1 j → ¬ T2 j) ∧ Hid (∀ j, T1 j → ¬ T3 j) ∧ Hid (∀ j, T2 j → ¬ T3 j) ∧ Hid (Below w.heap.size w wr)) (fun i _ => m.length - (intOf i).toNat)
                  case atStart => exact ⟨0, Nat.zero_le _, Nat.zero_le _, rfl, T, Td, Tc, t, HTa5, HTd5, HTc5, HG, HS, HTs, HTds, HTcs, HTad, HTac, HTdc, Hb5⟩
                  case round =>
                    clear HTs HTds HTcs HTad HTac HTdc HTa5 HTd5 HTc5 Hb5 HG HS
                    obtain ⟨k, hk, hk120, rfl, T1, T2, T3, t, HT1, HT2, HT3, HG, HS, HTs1, HTs2, HTs3, H12, H13, H23, Hbr⟩ := hrel
                    by_cases hlt : k < m.length
                    · have hki : (k : Int) < (m.length : Int) := by omega
                      by_cases h120 : k < 120
                      · have hk1 : (k : Int) < 120 := by omega
                        obtain ⟨g2, o2, B3, cb, rfl, u0, ht, hm1, hm2⟩ := row_toks HM.out hlt
                        unfold maxLen at hm2
                        have hmj : (m[k].length : Int) ≤ 9223372036854775807 := by omega
                        have HU : Hid (∀ W, Below w.heap.size w W → W.cell? ⟨g2, o2 + k, none⟩ = some (.slice B3 m[k].length cb)) := Lib.hid (fun W hW => (World.cell?_of_block (hW.block _ (World.block_lt_of_cell? w _ u0))).trans u0)
                        have hs := HMt.out k hlt h120
                        have HTk := Lib.hid ht
                        have HG2 := Lib.hid (HG.out.step m[k])
                        have HS2 := Lib.hid (HS.out.step hs)
                        have HI := Lib.hid (idT HG.out m[k])
                        have HAs : Hid (∀ (X : Nat → Prop) (W : World) (gx : Nat), (∀ j, X j → w.heap.size ≤ j) → Below w.heap.size w W → TrIn X W gx t → Calls Try.prog 15 #[.pointer (some ⟨gx, 0, none⟩), .slice B3 m[k].length cb] W fun e w' => ∃ (T2 : Nat → Prop) (V : Option Addr) (cv : Nat), e = .returned (.agg #[.int .i64 ((numT t m[k]).2 : Int), .slice V (varsT t m[k]).length cv]) ∧ Hid (TrIn T2 w' gx (numT t m[k]).1) ∧ Hid (∀ j, T2 j → w.heap.size ≤ j) ∧ Hid (RowO w' 9 1 V (varsT t m[k]).length cv ((varsT t m[k]).map strV)) ∧ Hid (∀ k, inA V k → W.heap.size ≤ k ∧ ¬ T2 k) ∧ Hid (Below w.heap.size w w') ∧ Hid (Only X W w') ∧ Hid (∀ j, T2 j → X j ∨ W.heap.size ≤ j)) := Lib.hid (fun X W gx hX hW hT => asg_step cb hT HG.out hX hW HTk.out hs)
                        have e0 := HU.out wr Hbr.out
                        clear u0 ht hm1 hm2 hs HG HS
                        generalize varsT t m[k] = vs at *
                        generalize numT t m[k] = ni at *
                        obtain ⟨t2, id⟩ := ni
                        dsimp only at HAs HG2 HS2 HI
                        generalize m[k] = ts at *
                        have HLi : Hid (∀ (W : World) (V : Option Addr) (cv : Nat) (V2 : Option Addr) (cv2 : Nat), RowO W 9 1 V vs.length cv (vs.map strV) → RowO W 9 1 V2 vs.length cv2 (vs.map strV) → Calls Try.prog 14 #[.agg #[.int .i64 (id : Int), .slice V vs.length cv], .agg #[.int .i64 (id : Int), .slice V2 vs.length cv2]] W fun e w' => e = .returned (.bool true) ∧ Below W.heap.size W w') := Lib.hid (fun W V cv V2 cv2 h4 h5 => by
                          refine (rline_any ⟨(id : Int), vs⟩ ⟨(id : Int), vs⟩ V V2 cv cv2 W ⟨HI.out, h4.le, h4.max, h4.nil_cap, h4.rd⟩ ⟨HI.out, h5.le, h5.max, h5.nil_cap, h5.rd⟩).mono ?_
                          rintro e w' ⟨r, rfl, hr, hb⟩
                          rw [hr.2 rfl]
                          exact ⟨rfl, hb⟩)
                        have HA1 := Lib.hid (HAs.out T1 wr g HTs1.out Hbr.out HT1.out)
                        go_wp2_with fail
                        refine HA1.out.mono ?_
                        rintro e w2 ⟨U1, V, cv, rfl, HU1, HUs1, HV1, HVn1, Hb2, HO2, HUn1⟩
                        clear e0 HA1
                        have HT22 := HT2.out.only HO2.out (fun j h2 h1 => H12.out j h1 h2)
                        have HT32 := HT3.out.only HO2.out (fun j h3 h1 => H13.out j h1 h3)
                        have H12a : Hid (∀ j, U1 j → ¬ T2 j) := Lib.hid (fun j h1 h2 => by
                          rcases HUn1.out j h1 with h | h
                          · exact H12.out j h h2
                          · have := HT2.out.lt h2; omega)
                        have H13a : Hid (∀ j, U1 j → ¬ T3 j) := Lib.hid (fun j h1 h3 => by
                          rcases HUn1.out j h1 with h | h
                          · exact H13.out j h h3
                          · have := HT3.out.lt h3; omega)
                        have HV12 : Hid (∀ j, inA V j → ¬ T2 j) := Lib.hid (fun j hj h2 => by
                          have h4 := (HVn1.out j hj).1
                          have := HT2.out.lt h2; omega)
                        have HV13 : Hid (∀ j, inA V j → ¬ T3 j) := Lib.hid (fun j hj h3 => by
                          have h4 := (HVn1.out j hj).1
                          have := HT3.out.lt h3; omega)
                        have Hq2 : Hid (¬ T2 w2.heap.size) := Lib.hid (fun hx => Nat.lt_irrefl _ (HT22.lt hx))
                        have Hq3 : Hid (¬ T3 w2.heap.size) := Lib.hid (fun hx => Nat.lt_irrefl _ (HT32.lt hx))
                        clear H12 H13
                        have H12 := H12a
                        have H13 := H13a
                        clear H12a H13a
                        obtain ⟨w3, hw3⟩ : ∃ w3, w3 = w2.alloc (Obj.cells #[.int .i64 (id : Int), .slice V vs.length cv] 31) := ⟨_, rfl⟩
                        have hb3 : Below w2.heap.size w2 w3 := by rw [hw3]; exact ext_alloc (Below.refl _ _) _
                        have HBq : Hid (Blk w3 w2.heap.size 31 #[.int .i64 (id : Int), .slice V vs.length cv]) := Lib.hid (by rw [hw3]; exact Blk.new _ _ _)
                        have Hb3 := Lib.hid (ext_trans Hb2.out hb3)
                        have HT1q := Lib.hid (HU1.out.ext hb3)
                        have HT2r := Lib.hid (HT22.ext hb3)
                        have HT3r := Lib.hid (HT32.ext hb3)
                        have HVq := Lib.hid (HV1.out.ext hb3)
                        obtain ⟨q, hq⟩ : ∃ q, q = w2.heap.size := ⟨_, rfl⟩
                        rw [← hq] at HBq Hq2 Hq3
                        have HKq : Hid (∀ W, Blk W q 31 #[.int .i64 (id : Int), .slice V vs.length cv] → Below w.heap.size w W → W.cell? ⟨q, 0, none⟩ = some (.int .i64 (id : Int)) ∧ W.cell? ⟨q, 1, none⟩ = some (.slice V vs.length cv) ∧ W.cell? ⟨g2, o2 + k, none⟩ = some (.slice B3 ts.length cb)) := Lib.hid (fun W hB hW => by
                          have x0 := hB.cell 0
                          have x1 := hB.cell 1
                          simp only [List.getElem?_toArray, List.getElem?_cons_zero, List.getElem?_cons_succ] at x0 x1
                          exact ⟨x0, x1, HU.out W hW⟩)
                        have Hw3 := Lib.hid hw3
                        have Hq := Lib.hid hq
                        clear hb3 hw3 hq HT22 HT32 HUn1 HV1 HVn1 HO2 HT1 HT2 HT3 HU1 Hb2
                        go_wp2
                        rw [← Hw3.out, ← Hq.out]
                        refine wp_region_held_drew (S := (fun W => W.cell? ⟨q, 0, none⟩ = some (.int .i64 (id : Int)) ∧ W.cell? ⟨q, 1, none⟩ = some (.slice V vs.length cv) ∧ W.cell? ⟨g2, o2 + k, none⟩ = some (.slice B3 ts.length cb))) (by kernel_rfl) ?_ (fun hHeld => ?_)
                        · exact HKq.out w3.drew HBq.out (ext_drew Hb3.out)
                        refine wpAnyH_take (i := 0) (v := ?_) (take_list rfl) (by kernel_rfl) (by kernel_rfl) (by kernel_rfl) (fun _ _ _ h => h) (Or.inl ⟨by rfl, ?_⟩) (by assumption) ?_
                        rotate_left
                        · intro w hSw
                          try dsimp only at hSw
                          first | (go_simp; done) | (go_simp; with_reducible rfl)
                        try simp only [Act.put, List.setIfInBounds_toArray, List.set_cons_zero, List.set_cons_succ]
                        refine wpAnyH_take (i := 1) (v := ?_) (take_list rfl) (by kernel_rfl) (by kernel_rfl) (by kernel_rfl) (fun _ _ _ h => h) (Or.inl ⟨by rfl, ?_⟩) (by assumption) ?_
                        rotate_left
                        · intro w hSw
                          try dsimp only at hSw
                          first | (go_simp; done) | (go_simp; with_reducible rfl)
                        try simp only [Act.put, List.setIfInBounds_toArray, List.set_cons_zero, List.set_cons_succ]
                        refine wpAnyH_take (i := 2) (v := ?_) (take_list rfl) (by kernel_rfl) (by kernel_rfl) (by kernel_rfl) (fun _ _ _ h => h) (Or.inl ⟨by rfl, ?_⟩) (by assumption) ?_
                        rotate_left
                        · intro w hSw
                          try dsimp only at hSw
                          first | (go_simp; done) | (go_simp; with_reducible rfl)
                        try simp only [Act.put, List.setIfInBounds_toArray, List.set_cons_zero, List.set_cons_succ]
                        refine wpAnyH_take (i := 3) (v := ?_) (take_list rfl) (by kernel_rfl) (by kernel_rfl) (by kernel_rfl) (fun _ _ _ h => h) (Or.inl ⟨by rfl, ?_⟩) (by assumption) ?_
                        rotate_left
                        · intro w hSw
                          try dsimp only at hSw
                          first | (go_simp; done) | (go_simp; with_reducible rfl)
                        try simp only [Act.put, List.setIfInBounds_toArray, List.set_cons_zero, List.set_cons_succ]
                        refine wpAnyH_take (i := 4) (v := ?_) (take_list rfl) (by kernel_rfl) (by kernel_rfl) (by kernel_rfl) (fun _ _ _ h => h) (Or.inl ⟨by rfl, ?_⟩) (by assumption) ?_
                        rotate_left
                        · intro w hSw
                          try dsimp only at hSw
                          first | (go_simp; done) | (go_simp; with_reducible rfl)
                        try simp only [Act.put, List.setIfInBounds_toArray, List.set_cons_zero, List.set_cons_succ]
                        refine wpAnyH_take (i := 5) (v := ?_) (take_list rfl) (by kernel_rfl) (by kernel_rfl) (by kernel_rfl) (fun _ _ _ h => h) (Or.inl ⟨by rfl, ?_⟩) (by assumption) ?_
                        rotate_left
                        · intro w hSw
                          try dsimp only at hSw
                          first | (go_simp; done) | (go_simp; with_reducible rfl)
                        try simp only [Act.put, List.setIfInBounds_toArray, List.set_cons_zero, List.set_cons_succ]
                        refine wpAnyH_ready (rs := [6]) (by kernel_rfl) (by simp) ?_
                        refine AllReadyH.cons (take_list rfl) (fun K hK => ?_) ?_
                        · skip
                          go_simp
                          refine (HAs.out T2 w3.drew gd HTs2.out (ext_drew Hb3.out) (HT2r.out.ext (ext_drew (Below.refl _ _)))).mono ?_
                          rintro e w5 ⟨U2, V2, cv2, rfl, HU2, HUs2, HV2, HVn2, Hb5, HO5, HUn2⟩
                          dsimp only
                          have HO5 : Only T2 w3 w5 := (Only.of_ext (S := T2) (ext_drew (Below.refl _ _) : Below w3.heap.size w3 w3.drew)).trans HO5.out (fun _ _ h => h)
                          have HB5 := Lib.hid (HBq.out.only HO5 Hq2.out)
                          have HK5 := HKq.out w5 HB5.out Hb5.out
                          have HV5 := Lib.hid (HVq.out.only HO5 HV12.out)
                          have HT15 := Lib.hid (HT1q.out.only HO5 H12.out)
                          have HT35 := Lib.hid (HT3r.out.only HO5 (fun j h3 h2 => H23.out j h2 h3))
                          have H12' : Hid (∀ j, U1 j → ¬ U2 j) := Lib.hid (fun j h1 h2 => by
                            rcases HUn2.out j h2 with h | h
                            · exact H12.out j h1 h
                            · have h5 : w3.heap.size ≤ j := h
                              have := HT1q.out.lt h1; omega)
                          have H23' : Hid (∀ j, U2 j → ¬ T3 j) := Lib.hid (fun j h2 h3 => by
                            rcases HUn2.out j h2 with h | h
                            · exact H23.out j h h3
                            · have h5 : w3.heap.size ≤ j := h
                              have := HT3r.out.lt h3; omega)
                          have HLa := Lib.hid (HLi.out w5 V cv V2 cv2 HV5.out HV2.out)
                          refine hK.out _ _ ?_ (fun hHeld => ?_)
                          · try dsimp only
                            exact HK5
                          clear hK K
                          refine wpAnyH_ready (rs := [7]) (by kernel_rfl) (by simp) ?_
                          refine AllReadyH.cons (take_list rfl) (fun K hK => ?_) ?_
                          · skip
                            go_simp
                            refine HLa.out.mono ?_
                            rintro e w6 ⟨rfl, hb6⟩
                            dsimp only
                            have Hb6 := Lib.hid (ext_trans Hb5.out hb6)
                            have HB6 := Lib.hid (HB5.out.ext hb6)
                            have HK6 := HKq.out w6 HB6.out Hb6.out
                            have HV6 := Lib.hid (HV5.out.ext hb6)
                            have HT16 := Lib.hid (HT15.out.ext hb6)
                            have HT26 := Lib.hid (HU2.out.ext hb6)
                            have HT36 := Lib.hid (HT35.out.ext hb6)
                            have Hs6 : Hid (∀ j, T3 j → j < w5.heap.size) := Lib.hid (fun j hj => HT35.out.lt hj)
                            have Hz6 : Hid (w5.heap.size ≤ w6.heap.size) := Lib.hid hb6.size
                            clear hb6
                            refine hK.out _ _ ?_ (fun hHeld => ?_)
                            · try dsimp only
                              exact HK6
                            clear hK K
                            refine wpAnyH_take (i := 8) (v := ?_) (take_list rfl) (by kernel_rfl) (by kernel_rfl) (by kernel_rfl) (fun _ _ _ h => h) (Or.inl ⟨by rfl, ?_⟩) (by assumption) ?_
                            rotate_left
                            · intro w hSw
                              try dsimp only at hSw
                              first | (go_simp; done) | (go_simp; with_reducible rfl)
                            try simp only [Act.put, List.setIfInBounds_toArray, List.set_cons_zero, List.set_cons_succ]
                            refine wpAnyH_take (i := 9) (v := ?_) (take_list rfl) (by kernel_rfl) (by kernel_rfl) (by kernel_rfl) (fun _ _ _ h => h) (Or.inl ⟨by rfl, ?_⟩) (by assumption) ?_
                            rotate_left
                            · intro w hSw
                              try dsimp only at hSw
                              first | (go_simp; done) | (go_simp; with_reducible rfl)
                            try simp only [Act.put, List.setIfInBounds_toArray, List.set_cons_zero, List.set_cons_succ]
                            refine wpAnyH_take (i := 10) (v := ?_) (take_list rfl) (by kernel_rfl) (by kernel_rfl) (by kernel_rfl) (fun _ _ _ h => h) (Or.inl ⟨by rfl, ?_⟩) (by assumption) ?_
                            rotate_left
                            · intro w hSw
                              try dsimp only at hSw
                              first | (go_simp; done) | (go_simp; with_reducible rfl)
                            try simp only [Act.put, List.setIfInBounds_toArray, List.set_cons_zero, List.set_cons_succ]
                            refine wpAnyH_take (i := 11) (v := ?_) (take_list rfl) (by kernel_rfl) (by kernel_rfl) (by kernel_rfl) (fun _ _ _ h => h) (Or.inl ⟨by rfl, ?_⟩) (by assumption) ?_
                            rotate_left
                            · intro w hSw
                              try dsimp only at hSw
                              first | (go_simp; done) | (go_simp; with_reducible rfl)
                            try simp only [Act.put, List.setIfInBounds_toArray, List.set_cons_zero, List.set_cons_succ]
                            refine wpAnyH_take (i := 12) (v := ?_) (take_list rfl) (by kernel_rfl) (by kernel_rfl) (by kernel_rfl) (fun _ _ _ h => h) (Or.inl ⟨by rfl, ?_⟩) (by assumption) ?_
                            rotate_left
                            · intro w hSw
                              try dsimp only at hSw
                              first | (go_simp; done) | (go_simp; with_reducible rfl)
                            try simp only [Act.put, List.setIfInBounds_toArray, List.set_cons_zero, List.set_cons_succ]
                            refine wpAnyH_take (i := 13) (v := ?_) (take_list rfl) (by kernel_rfl) (by kernel_rfl) (by kernel_rfl) (fun _ _ _ h => h) (Or.inl ⟨by rfl, ?_⟩) (by assumption) ?_
                            rotate_left
                            · intro w hSw
                              try dsimp only at hSw
                              first | (go_simp; done) | (go_simp; with_reducible rfl)
                            try simp only [Act.put, List.setIfInBounds_toArray, List.set_cons_zero, List.set_cons_succ]
                            refine wpAnyH_take (i := 14) (v := ?_) (take_list rfl) (by kernel_rfl) (by kernel_rfl) (by kernel_rfl) (fun _ _ _ h => h) (Or.inl ⟨by rfl, ?_⟩) (by assumption) ?_
                            rotate_left
                            · intro w hSw
                              try dsimp only at hSw
                              first | (go_simp; done) | (go_simp; with_reducible rfl)
                            try simp only [Act.put, List.setIfInBounds_toArray, List.set_cons_zero, List.set_cons_succ]
                            refine wpAnyH_take (i := 15) (v := ?_) (take_list rfl) (by kernel_rfl) (by kernel_rfl) (by kernel_rfl) (fun _ _ _ h => h) (Or.inl ⟨by rfl, ?_⟩) (by assumption) ?_
                            rotate_left
                            · intro w hSw
                              try dsimp only at hSw
                              first | (go_simp; done) | (go_simp; with_reducible rfl)
                            try simp only [Act.put, List.setIfInBounds_toArray, List.set_cons_zero, List.set_cons_succ]
                            refine wpAnyH_ready (rs := [16]) (by kernel_rfl) (by simp) ?_
                            refine AllReadyH.cons (take_list rfl) (fun K hK => ?_) ?_
                            · skip
                              go_simp
                              refine (HAs.out T3 w6 gc HTs3.out Hb6.out HT36.out).mono ?_
                              rintro e w7 ⟨U3, V3, cv3, rfl, HU3, HUs3, HV3, HVn3, Hb7, HO7, HUn3⟩
                              dsimp only
                              have HB7 := Lib.hid (HB6.out.only HO7.out Hq3.out)
                              have HK7 := HKq.out w7 HB7.out Hb7.out
                              have HV7 := Lib.hid (HV6.out.only HO7.out HV13.out)
                              have HT17 := Lib.hid (HT16.out.only HO7.out H13.out)
                              have HT27 := Lib.hid (HT26.out.only HO7.out H23'.out)
                              have H13' : Hid (∀ j, U1 j → ¬ U3 j) := Lib.hid (fun j h1 h3 => by
                                rcases HUn3.out j h3 with h | h
                                · exact H13.out j h1 h
                                · have := HT16.out.lt h1; omega)
                              have H23'' : Hid (∀ j, U2 j → ¬ U3 j) := Lib.hid (fun j h2 h3 => by
                                rcases HUn3.out j h3 with h | h
                                · exact H23'.out j h2 h
                                · have := HT26.out.lt h2; omega)
                              have HLb := Lib.hid (HLi.out w7 V cv V3 cv3 HV7.out HV3.out)
                              refine hK.out _ _ ?_ (fun hHeld => ?_)
                              · try dsimp only
                                exact HK7
                              clear hK K
                              refine wpAnyH_ready (rs := [17]) (by kernel_rfl) (by simp) ?_
                              refine AllReadyH.cons (take_list rfl) (fun K hK => ?_) ?_
                              · skip
                                go_simp
                                refine HLb.out.mono ?_
                                rintro e w8 ⟨rfl, hb8⟩
                                dsimp only
                                have Hb8 := Lib.hid (ext_trans Hb7.out hb8)
                                have HK8 := HKq.out w8 (HB7.out.ext hb8) Hb8.out
                                have HT18 := Lib.hid (HT17.out.ext hb8)
                                have HT28 := Lib.hid (HT27.out.ext hb8)
                                have HT38 := Lib.hid (HU3.out.ext hb8)
                                clear hb8
                                refine hK.out _ _ ?_ (fun hHeld => ?_)
                                · try dsimp only
                                  exact HK8
                                clear hK K
                                refine wpAnyH_take (i := 18) (v := ?_) (take_list rfl) (by kernel_rfl) (by kernel_rfl) (by kernel_rfl) (fun _ _ _ h => h) (Or.inl ⟨by rfl, ?_⟩) (by assumption) ?_
                                rotate_left
                                · intro w hSw
                                  try dsimp only at hSw
                                  first | (go_simp; done) | (go_simp; with_reducible rfl)
                                try simp only [Act.put, List.setIfInBounds_toArray, List.set_cons_zero, List.set_cons_succ]
                                refine wpAnyH_take (i := 19) (v := ?_) (take_list rfl) (by kernel_rfl) (by kernel_rfl) (by kernel_rfl) (fun _ _ _ h => h) (Or.inl ⟨by rfl, ?_⟩) (by assumption) ?_
                                rotate_left
                                · intro w hSw
                                  try dsimp only at hSw
                                  first | (go_simp; done) | (go_simp; with_reducible rfl)
                                try simp only [Act.put, List.setIfInBounds_toArray, List.set_cons_zero, List.set_cons_succ]
                                refine wpAnyH_done (by kernel_rfl) ?_ _
                                go_wp2
                                go_roundw
                                case rel => exact ⟨k + 1, by omega, by omega, by go_num, U1, U2, U3, t2, HT18, HT28, HT38, HG2, HS2, HUs1, HUs2, HUs3, H12', H13', H23'', Hb8⟩
                                case measure => simp [intOf]; omega
                              exact AllReadyH.nil
                            exact AllReadyH.nil
                          exact AllReadyH.nil
                        exact AllReadyH.nil
                      · have hk1 : ¬ (k : Int) < 120 := by omega
                        clear h120
                        obtain ⟨E, hE⟩ : ∃ E, treeB t = E := ⟨_, rfl⟩
                        have HE := Lib.hid hE
                        obtain ⟨Z, hZ, -⟩ := str_hide E
                        have HZ : Hid (∀ W A c, Rd W A (E.map bv) → (convert 48 9 (.slice A E.length c)).run Try.prog W = .ok (.string Z) W) := Lib.hid (fun W A c hr => by
                          have := conv_bytes W A _ c E rfl hr
                          rw [show Value.string ⟨E.toArray⟩ = strV E from rfl, hZ] at this
                          exact this)
                        clear hE hZ
                        go_wp2
                        refine wp_region_held_drew (S := (fun _ => True)) (by kernel_rfl) ?_ (fun hHeld => ?_)
                        · trivial
                        refine wpAnyH_take (i := 0) (v := ?_) (take_list rfl) (by kernel_rfl) (by kernel_rfl) (by kernel_rfl) (fun _ _ _ h => h) (Or.inl ⟨by rfl, ?_⟩) (by assumption) ?_
                        rotate_left
                        · intro w hSw
                          try dsimp only at hSw
                          first | (go_simp; done) | (go_simp; with_reducible rfl)
                        try simp only [Act.put, List.setIfInBounds_toArray, List.set_cons_zero, List.set_cons_succ]
                        refine wpAnyH_take (i := 3) (v := ?_) (take_list rfl) (by kernel_rfl) (by kernel_rfl) (by kernel_rfl) (fun _ _ _ h => h) (Or.inl ⟨by rfl, ?_⟩) (by assumption) ?_
                        rotate_left
                        · intro w hSw
                          try dsimp only at hSw
                          first | (go_simp; done) | (go_simp; with_reducible rfl)
                        try simp only [Act.put, List.setIfInBounds_toArray, List.set_cons_zero, List.set_cons_succ]
                        refine wpAnyH_ready (rs := [1]) (by kernel_rfl) (by simp) ?_
                        refine AllReadyH.cons (take_list rfl) (fun K hK => ?_) ?_
                        · skip
                          go_simp
                          refine (enc_rd (HT1.out.ext (w' := wr.drew) (ext_drew (Below.refl _ _))) HG.out HS.out).mono ?_
                          rw [HE.out]
                          rintro e w5 ⟨A1, c1, rfl, hr1, -, hb5⟩
                          dsimp only
                          have hb5 : Below wr.heap.size wr w5 := ext_trans (ext_drew (Below.refl _ _)) hb5.out
                          refine hK.out _ _ ?_ (fun hHeld => ?_)
                          · try dsimp only
                            all_goals trivial
                          clear hK K
                          refine wpAnyH_ready (rs := [2, 4]) (by kernel_rfl) (by simp) ?_
                          refine AllReadyH.cons (take_list rfl) (fun K hK => ?_) ?_
                          · skip
                            have hcv := HZ.out w5 A1 c1 hr1.out
                            go_simp
                            clear hcv
                            refine hK.out _ _ ?_ (fun hHeld => ?_)
                            · try dsimp only
                              all_goals trivial
                            clear hK K
                            refine wpAnyH_ready (rs := [4]) (by kernel_rfl) (by simp) ?_
                            refine AllReadyH.cons (take_list rfl) (fun K hK => ?_) ?_
                            · skip
                              go_simp
                              refine (enc_rd (HT2.out.ext hb5) HG.out HS.out).mono ?_
                              rw [HE.out]
                              rintro e w6 ⟨A2, cc2, rfl, hr2, -, hb6⟩
                              dsimp only
                              refine hK.out _ _ ?_ (fun hHeld => ?_)
                              · try dsimp only
                                all_goals trivial
                              clear hK K
                              refine wpAnyH_ready (rs := [5]) (by kernel_rfl) (by simp) ?_
                              refine AllReadyH.cons (take_list rfl) (fun K hK => ?_) ?_
                              · skip
                                have hcv := HZ.out w6 A2 cc2 hr2.out
                                go_simp
                                clear hcv
                                refine hK.out _ _ ?_ (fun hHeld => ?_)
                                · try dsimp only
                                  all_goals trivial
                                clear hK K
                                refine wpAnyH_take (i := 6) (v := ?_) (take_list rfl) (by kernel_rfl) (by kernel_rfl) (by kernel_rfl) (fun _ _ _ h => h) (Or.inl ⟨by rfl, ?_⟩) (by assumption) ?_
                                rotate_left
                                · intro w hSw
                                  try dsimp only at hSw
                                  first | (go_simp; done) | (go_simp; with_reducible rfl)
                                try simp only [Act.put, List.setIfInBounds_toArray, List.set_cons_zero, List.set_cons_succ]
                                refine wpAnyH_take (i := 7) (v := ?_) (take_list rfl) (by kernel_rfl) (by kernel_rfl) (by kernel_rfl) (fun _ _ _ h => h) (Or.inl ⟨by rfl, ?_⟩) (by assumption) ?_
                                rotate_left
                                · intro w hSw
                                  try dsimp only at hSw
                                  first | (go_simp; done) | (go_simp; with_reducible rfl)
                                try simp only [Act.put, List.setIfInBounds_toArray, List.set_cons_zero, List.set_cons_succ]
                                refine wpAnyH_ready (rs := [8]) (by kernel_rfl) (by simp) ?_
                                refine AllReadyH.cons (take_list rfl) (fun K hK => ?_) ?_
                                · skip
                                  go_simp
                                  refine (known15_any w6).mono ?_
                                  rintro e w7 ⟨rfl, hb7⟩
                                  dsimp only
                                  refine hK.out _ _ ?_ (fun hHeld => ?_)
                                  · try dsimp only
                                    all_goals trivial
                                  clear hK K
                                  refine wpAnyH_take (i := 9) (v := ?_) (take_list rfl) (by kernel_rfl) (by kernel_rfl) (by kernel_rfl) (fun _ _ _ h => h) (Or.inl ⟨by rfl, ?_⟩) (by assumption) ?_
                                  rotate_left
                                  · intro w hSw
                                    try dsimp only at hSw
                                    first | (go_simp; done) | (go_simp; with_reducible rfl)
                                  try simp only [Act.put, List.setIfInBounds_toArray, List.set_cons_zero, List.set_cons_succ]
                                  refine wpAnyH_take (i := 10) (v := ?_) (take_list rfl) (by kernel_rfl) (by kernel_rfl) (by kernel_rfl) (fun _ _ _ h => h) (Or.inl ⟨by rfl, ?_⟩) (by assumption) ?_
                                  rotate_left
                                  · intro w hSw
                                    try dsimp only at hSw
                                    first | (go_simp; done) | (go_simp; with_reducible rfl)
                                  try simp only [Act.put, List.setIfInBounds_toArray, List.set_cons_zero, List.set_cons_succ]
                                  refine wpAnyH_done (by kernel_rfl) ?_ _
                                  go_wp2
                                  go_ret
                                  exact ⟨rfl, ext_trans (ext_trans (ext_trans Hbr.out hb5) hb6.out) hb7⟩
                                exact AllReadyH.nil
                              exact AllReadyH.nil
                            exact AllReadyH.nil
                          refine AllReadyH.cons (take_list rfl) (fun K hK => ?_) ?_
                          · skip
                            go_simp
                            refine (enc_rd (HT2.out.ext hb5) HG.out HS.out).mono ?_
                            rw [HE.out]
                            rintro e w6 ⟨A2, cc2, rfl, hr2, -, hb6⟩
                            dsimp only
                            refine hK.out _ _ ?_ (fun hHeld => ?_)
                            · try dsimp only
                              all_goals trivial
                            clear hK K
                            refine wpAnyH_ready (rs := [2, 5]) (by kernel_rfl) (by simp) ?_
                            refine AllReadyH.cons (take_list rfl) (fun K hK => ?_) ?_
                            · skip
                              have hcv := HZ.out w6 A1 c1 (hr1.out.ext hb6.out)
                              go_simp
                              clear hcv
                              refine hK.out _ _ ?_ (fun hHeld => ?_)
                              · try dsimp only
                                all_goals trivial
                              clear hK K
                              refine wpAnyH_ready (rs := [5]) (by kernel_rfl) (by simp) ?_
                              refine AllReadyH.cons (take_list rfl) (fun K hK => ?_) ?_
                              · skip
                                have hcv := HZ.out w6 A2 cc2 hr2.out
                                go_simp
                                clear hcv
                                refine hK.out _ _ ?_ (fun hHeld => ?_)
                                · try dsimp only
                                  all_goals trivial
                                clear hK K
                                refine wpAnyH_take (i := 6) (v := ?_) (take_list rfl) (by kernel_rfl) (by kernel_rfl) (by kernel_rfl) (fun _ _ _ h => h) (Or.inl ⟨by rfl, ?_⟩) (by assumption) ?_
                                rotate_left
                                · intro w hSw
                                  try dsimp only at hSw
                                  first | (go_simp; done) | (go_simp; with_reducible rfl)
                                try simp only [Act.put, List.setIfInBounds_toArray, List.set_cons_zero, List.set_cons_succ]
                                refine wpAnyH_take (i := 7) (v := ?_) (take_list rfl) (by kernel_rfl) (by kernel_rfl) (by kernel_rfl) (fun _ _ _ h => h) (Or.inl ⟨by rfl, ?_⟩) (by assumption) ?_
                                rotate_left
                                · intro w hSw
                                  try dsimp only at hSw
                                  first | (go_simp; done) | (go_simp; with_reducible rfl)
                                try simp only [Act.put, List.setIfInBounds_toArray, List.set_cons_zero, List.set_cons_succ]
                                refine wpAnyH_ready (rs := [8]) (by kernel_rfl) (by simp) ?_
                                refine AllReadyH.cons (take_list rfl) (fun K hK => ?_) ?_
                                · skip
                                  go_simp
                                  refine (known15_any w6).mono ?_
                                  rintro e w7 ⟨rfl, hb7⟩
                                  dsimp only
                                  refine hK.out _ _ ?_ (fun hHeld => ?_)
                                  · try dsimp only
                                    all_goals trivial
                                  clear hK K
                                  refine wpAnyH_take (i := 9) (v := ?_) (take_list rfl) (by kernel_rfl) (by kernel_rfl) (by kernel_rfl) (fun _ _ _ h => h) (Or.inl ⟨by rfl, ?_⟩) (by assumption) ?_
                                  rotate_left
                                  · intro w hSw
                                    try dsimp only at hSw
                                    first | (go_simp; done) | (go_simp; with_reducible rfl)
                                  try simp only [Act.put, List.setIfInBounds_toArray, List.set_cons_zero, List.set_cons_succ]
                                  refine wpAnyH_take (i := 10) (v := ?_) (take_list rfl) (by kernel_rfl) (by kernel_rfl) (by kernel_rfl) (fun _ _ _ h => h) (Or.inl ⟨by rfl, ?_⟩) (by assumption) ?_
                                  rotate_left
                                  · intro w hSw
                                    try dsimp only at hSw
                                    first | (go_simp; done) | (go_simp; with_reducible rfl)
                                  try simp only [Act.put, List.setIfInBounds_toArray, List.set_cons_zero, List.set_cons_succ]
                                  refine wpAnyH_done (by kernel_rfl) ?_ _
                                  go_wp2
                                  go_ret
                                  exact ⟨rfl, ext_trans (ext_trans (ext_trans Hbr.out hb5) hb6.out) hb7⟩
                                exact AllReadyH.nil
                              exact AllReadyH.nil
                            refine AllReadyH.cons (take_list rfl) (fun K hK => ?_) ?_
                            · skip
                              have hcv := HZ.out w6 A2 cc2 hr2.out
                              go_simp
                              clear hcv
                              refine hK.out _ _ ?_ (fun hHeld => ?_)
                              · try dsimp only
                                all_goals trivial
                              clear hK K
                              refine wpAnyH_ready (rs := [2]) (by kernel_rfl) (by simp) ?_
                              refine AllReadyH.cons (take_list rfl) (fun K hK => ?_) ?_
                              · skip
                                have hcv := HZ.out w6 A1 c1 (hr1.out.ext hb6.out)
                                go_simp
                                clear hcv
                                refine hK.out _ _ ?_ (fun hHeld => ?_)
                                · try dsimp only
                                  all_goals trivial
                                clear hK K
                                refine wpAnyH_take (i := 6) (v := ?_) (take_list rfl) (by kernel_rfl) (by kernel_rfl) (by kernel_rfl) (fun _ _ _ h => h) (Or.inl ⟨by rfl, ?_⟩) (by assumption) ?_
                                rotate_left
                                · intro w hSw
                                  try dsimp only at hSw
                                  first | (go_simp; done) | (go_simp; with_reducible rfl)
                                try simp only [Act.put, List.setIfInBounds_toArray, List.set_cons_zero, List.set_cons_succ]
                                refine wpAnyH_take (i := 7) (v := ?_) (take_list rfl) (by kernel_rfl) (by kernel_rfl) (by kernel_rfl) (fun _ _ _ h => h) (Or.inl ⟨by rfl, ?_⟩) (by assumption) ?_
                                rotate_left
                                · intro w hSw
                                  try dsimp only at hSw
                                  first | (go_simp; done) | (go_simp; with_reducible rfl)
                                try simp only [Act.put, List.setIfInBounds_toArray, List.set_cons_zero, List.set_cons_succ]
                                refine wpAnyH_ready (rs := [8]) (by kernel_rfl) (by simp) ?_
                                refine AllReadyH.cons (take_list rfl) (fun K hK => ?_) ?_
                                · skip
                                  go_simp
                                  refine (known15_any w6).mono ?_
                                  rintro e w7 ⟨rfl, hb7⟩
                                  dsimp only
                                  refine hK.out _ _ ?_ (fun hHeld => ?_)
                                  · try dsimp only
                                    all_goals trivial
                                  clear hK K
                                  refine wpAnyH_take (i := 9) (v := ?_) (take_list rfl) (by kernel_rfl) (by kernel_rfl) (by kernel_rfl) (fun _ _ _ h => h) (Or.inl ⟨by rfl, ?_⟩) (by assumption) ?_
                                  rotate_left
                                  · intro w hSw
                                    try dsimp only at hSw
                                    first | (go_simp; done) | (go_simp; with_reducible rfl)
                                  try simp only [Act.put, List.setIfInBounds_toArray, List.set_cons_zero, List.set_cons_succ]
                                  refine wpAnyH_take (i := 10) (v := ?_) (take_list rfl) (by kernel_rfl) (by kernel_rfl) (by kernel_rfl) (fun _ _ _ h => h) (Or.inl ⟨by rfl, ?_⟩) (by assumption) ?_
                                  rotate_left
                                  · intro w hSw
                                    try dsimp only at hSw
                                    first | (go_simp; done) | (go_simp; with_reducible rfl)
                                  try simp only [Act.put, List.setIfInBounds_toArray, List.set_cons_zero, List.set_cons_succ]
                                  refine wpAnyH_done (by kernel_rfl) ?_ _
                                  go_wp2
                                  go_ret
                                  exact ⟨rfl, ext_trans (ext_trans (ext_trans Hbr.out hb5) hb6.out) hb7⟩
                                exact AllReadyH.nil
                              exact AllReadyH.nil
                            exact AllReadyH.nil
                          exact AllReadyH.nil
                        exact AllReadyH.nil
                    · obtain rfl : k = m.length := by omega
                      clear hlt hk hk120
                      obtain ⟨E, hE⟩ : ∃ E, treeB t = E := ⟨_, rfl⟩
                      have HE := Lib.hid hE
                      obtain ⟨Z, hZ, -⟩ := str_hide E
                      have HZ : Hid (∀ W A c, Rd W A (E.map bv) → (convert 48 9 (.slice A E.length c)).run Try.prog W = .ok (.string Z) W) := Lib.hid (fun W A c hr => by
                        have := conv_bytes W A _ c E rfl hr
                        rw [show Value.string ⟨E.toArray⟩ = strV E from rfl, hZ] at this
                        exact this)
                      clear hE hZ
                      go_wp2
                      refine wp_region_held_drew (S := (fun _ => True)) (by kernel_rfl) ?_ (fun hHeld => ?_)
                      · trivial
                      refine wpAnyH_take (i := 0) (v := ?_) (take_list rfl) (by kernel_rfl) (by kernel_rfl) (by kernel_rfl) (fun _ _ _ h => h) (Or.inl ⟨by rfl, ?_⟩) (by assumption) ?_
                      rotate_left
                      · intro w hSw
                        try dsimp only at hSw
                        first | (go_simp; done) | (go_simp; with_reducible rfl)
                      try simp only [Act.put, List.setIfInBounds_toArray, List.set_cons_zero, List.set_cons_succ]
                      refine wpAnyH_take (i := 3) (v := ?_) (take_list rfl) (by kernel_rfl) (by kernel_rfl) (by kernel_rfl) (fun _ _ _ h => h) (Or.inl ⟨by rfl, ?_⟩) (by assumption) ?_
                      rotate_left
                      · intro w hSw
                        try dsimp only at hSw
                        first | (go_simp; done) | (go_simp; with_reducible rfl)
                      try simp only [Act.put, List.setIfInBounds_toArray, List.set_cons_zero, List.set_cons_succ]
                      refine wpAnyH_ready (rs := [1]) (by kernel_rfl) (by simp) ?_
                      refine AllReadyH.cons (take_list rfl) (fun K hK => ?_) ?_
                      · skip
                        go_simp
                        refine (enc_rd (HT1.out.ext (w' := wr.drew) (ext_drew (Below.refl _ _))) HG.out HS.out).mono ?_
                        rw [HE.out]
                        rintro e w5 ⟨A1, c1, rfl, hr1, -, hb5⟩
                        dsimp only
                        have hb5 : Below wr.heap.size wr w5 := ext_trans (ext_drew (Below.refl _ _)) hb5.out
                        refine hK.out _ _ ?_ (fun hHeld => ?_)
                        · try dsimp only
                          all_goals trivial
                        clear hK K
                        refine wpAnyH_ready (rs := [2, 4]) (by kernel_rfl) (by simp) ?_
                        refine AllReadyH.cons (take_list rfl) (fun K hK => ?_) ?_
                        · skip
                          have hcv := HZ.out w5 A1 c1 hr1.out
                          go_simp
                          clear hcv
                          refine hK.out _ _ ?_ (fun hHeld => ?_)
                          · try dsimp only
                            all_goals trivial
                          clear hK K
                          refine wpAnyH_ready (rs := [4]) (by kernel_rfl) (by simp) ?_
                          refine AllReadyH.cons (take_list rfl) (fun K hK => ?_) ?_
                          · skip
                            go_simp
                            refine (enc_rd (HT2.out.ext hb5) HG.out HS.out).mono ?_
                            rw [HE.out]
                            rintro e w6 ⟨A2, cc2, rfl, hr2, -, hb6⟩
                            dsimp only
                            refine hK.out _ _ ?_ (fun hHeld => ?_)
                            · try dsimp only
                              all_goals trivial
                            clear hK K
                            refine wpAnyH_ready (rs := [5]) (by kernel_rfl) (by simp) ?_
                            refine AllReadyH.cons (take_list rfl) (fun K hK => ?_) ?_
                            · skip
                              have hcv := HZ.out w6 A2 cc2 hr2.out
                              go_simp
                              clear hcv
                              refine hK.out _ _ ?_ (fun hHeld => ?_)
                              · try dsimp only
                                all_goals trivial
                              clear hK K
                              refine wpAnyH_take (i := 6) (v := ?_) (take_list rfl) (by kernel_rfl) (by kernel_rfl) (by kernel_rfl) (fun _ _ _ h => h) (Or.inl ⟨by rfl, ?_⟩) (by assumption) ?_
                              rotate_left
                              · intro w hSw
                                try dsimp only at hSw
                                first | (go_simp; done) | (go_simp; with_reducible rfl)
                              try simp only [Act.put, List.setIfInBounds_toArray, List.set_cons_zero, List.set_cons_succ]
                              refine wpAnyH_take (i := 7) (v := ?_) (take_list rfl) (by kernel_rfl) (by kernel_rfl) (by kernel_rfl) (fun _ _ _ h => h) (Or.inl ⟨by rfl, ?_⟩) (by assumption) ?_
                              rotate_left
                              · intro w hSw
                                try dsimp only at hSw
                                first | (go_simp; done) | (go_simp; with_reducible rfl)
                              try simp only [Act.put, List.setIfInBounds_toArray, List.set_cons_zero, List.set_cons_succ]
                              refine wpAnyH_ready (rs := [8]) (by kernel_rfl) (by simp) ?_
                              refine AllReadyH.cons (take_list rfl) (fun K hK => ?_) ?_
                              · skip
                                go_simp
                                refine (known15_any w6).mono ?_
                                rintro e w7 ⟨rfl, hb7⟩
                                dsimp only
                                refine hK.out _ _ ?_ (fun hHeld => ?_)
                                · try dsimp only
                                  all_goals trivial
                                clear hK K
                                refine wpAnyH_take (i := 9) (v := ?_) (take_list rfl) (by kernel_rfl) (by kernel_rfl) (by kernel_rfl) (fun _ _ _ h => h) (Or.inl ⟨by rfl, ?_⟩) (by assumption) ?_
                                rotate_left
                                · intro w hSw
                                  try dsimp only at hSw
                                  first | (go_simp; done) | (go_simp; with_reducible rfl)
                                try simp only [Act.put, List.setIfInBounds_toArray, List.set_cons_zero, List.set_cons_succ]
                                refine wpAnyH_take (i := 10) (v := ?_) (take_list rfl) (by kernel_rfl) (by kernel_rfl) (by kernel_rfl) (fun _ _ _ h => h) (Or.inl ⟨by rfl, ?_⟩) (by assumption) ?_
                                rotate_left
                                · intro w hSw
                                  try dsimp only at hSw
                                  first | (go_simp; done) | (go_simp; with_reducible rfl)
                                try simp only [Act.put, List.setIfInBounds_toArray, List.set_cons_zero, List.set_cons_succ]
                                refine wpAnyH_done (by kernel_rfl) ?_ _
                                go_wp2
                                go_ret
                                exact ⟨rfl, ext_trans (ext_trans (ext_trans Hbr.out hb5) hb6.out) hb7⟩
                              exact AllReadyH.nil
                            exact AllReadyH.nil
                          exact AllReadyH.nil
                        refine AllReadyH.cons (take_list rfl) (fun K hK => ?_) ?_
                        · skip
                          go_simp
                          refine (enc_rd (HT2.out.ext hb5) HG.out HS.out).mono ?_
                          rw [HE.out]
                          rintro e w6 ⟨A2, cc2, rfl, hr2, -, hb6⟩
                          dsimp only
                          refine hK.out _ _ ?_ (fun hHeld => ?_)
                          · try dsimp only
                            all_goals trivial
                          clear hK K
                          refine wpAnyH_ready (rs := [2, 5]) (by kernel_rfl) (by simp) ?_
                          refine AllReadyH.cons (take_list rfl) (fun K hK => ?_) ?_
                          · skip
                            have hcv := HZ.out w6 A1 c1 (hr1.out.ext hb6.out)
                            go_simp
                            clear hcv
                            refine hK.out _ _ ?_ (fun hHeld => ?_)
                            · try dsimp only
                              all_goals trivial
                            clear hK K
                            refine wpAnyH_ready (rs := [5]) (by kernel_rfl) (by simp) ?_
                            refine AllReadyH.cons (take_list rfl) (fun K hK => ?_) ?_
                            · skip
                              have hcv := HZ.out w6 A2 cc2 hr2.out
                              go_simp
                              clear hcv
                              refine hK.out _ _ ?_ (fun hHeld => ?_)
                              · try dsimp only
                                all_goals trivial
                              clear hK K
                              refine wpAnyH_take (i := 6) (v := ?_) (take_list rfl) (by kernel_rfl) (by kernel_rfl) (by kernel_rfl) (fun _ _ _ h => h) (Or.inl ⟨by rfl, ?_⟩) (by assumption) ?_
                              rotate_left
                              · intro w hSw
                                try dsimp only at hSw
                                first | (go_simp; done) | (go_simp; with_reducible rfl)
                              try simp only [Act.put, List.setIfInBounds_toArray, List.set_cons_zero, List.set_cons_succ]
                              refine wpAnyH_take (i := 7) (v := ?_) (take_list rfl) (by kernel_rfl) (by kernel_rfl) (by kernel_rfl) (fun _ _ _ h => h) (Or.inl ⟨by rfl, ?_⟩) (by assumption) ?_
                              rotate_left
                              · intro w hSw
                                try dsimp only at hSw
                                first | (go_simp; done) | (go_simp; with_reducible rfl)
                              try simp only [Act.put, List.setIfInBounds_toArray, List.set_cons_zero, List.set_cons_succ]
                              refine wpAnyH_ready (rs := [8]) (by kernel_rfl) (by simp) ?_
                              refine AllReadyH.cons (take_list rfl) (fun K hK => ?_) ?_
                              · skip
                                go_simp
                                refine (known15_any w6).mono ?_
                                rintro e w7 ⟨rfl, hb7⟩
                                dsimp only
                                refine hK.out _ _ ?_ (fun hHeld => ?_)
                                · try dsimp only
                                  all_goals trivial
                                clear hK K
                                refine wpAnyH_take (i := 9) (v := ?_) (take_list rfl) (by kernel_rfl) (by kernel_rfl) (by kernel_rfl) (fun _ _ _ h => h) (Or.inl ⟨by rfl, ?_⟩) (by assumption) ?_
                                rotate_left
                                · intro w hSw
                                  try dsimp only at hSw
                                  first | (go_simp; done) | (go_simp; with_reducible rfl)
                                try simp only [Act.put, List.setIfInBounds_toArray, List.set_cons_zero, List.set_cons_succ]
                                refine wpAnyH_take (i := 10) (v := ?_) (take_list rfl) (by kernel_rfl) (by kernel_rfl) (by kernel_rfl) (fun _ _ _ h => h) (Or.inl ⟨by rfl, ?_⟩) (by assumption) ?_
                                rotate_left
                                · intro w hSw
                                  try dsimp only at hSw
                                  first | (go_simp; done) | (go_simp; with_reducible rfl)
                                try simp only [Act.put, List.setIfInBounds_toArray, List.set_cons_zero, List.set_cons_succ]
                                refine wpAnyH_done (by kernel_rfl) ?_ _
                                go_wp2
                                go_ret
                                exact ⟨rfl, ext_trans (ext_trans (ext_trans Hbr.out hb5) hb6.out) hb7⟩
                              exact AllReadyH.nil
                            exact AllReadyH.nil
                          refine AllReadyH.cons (take_list rfl) (fun K hK => ?_) ?_
                          · skip
                            have hcv := HZ.out w6 A2 cc2 hr2.out
                            go_simp
                            clear hcv
                            refine hK.out _ _ ?_ (fun hHeld => ?_)
                            · try dsimp only
                              all_goals trivial
                            clear hK K
                            refine wpAnyH_ready (rs := [2]) (by kernel_rfl) (by simp) ?_
                            refine AllReadyH.cons (take_list rfl) (fun K hK => ?_) ?_
                            · skip
                              have hcv := HZ.out w6 A1 c1 (hr1.out.ext hb6.out)
                              go_simp
                              clear hcv
                              refine hK.out _ _ ?_ (fun hHeld => ?_)
                              · try dsimp only
                                all_goals trivial
                              clear hK K
                              refine wpAnyH_take (i := 6) (v := ?_) (take_list rfl) (by kernel_rfl) (by kernel_rfl) (by kernel_rfl) (fun _ _ _ h => h) (Or.inl ⟨by rfl, ?_⟩) (by assumption) ?_
                              rotate_left
                              · intro w hSw
                                try dsimp only at hSw
                                first | (go_simp; done) | (go_simp; with_reducible rfl)
                              try simp only [Act.put, List.setIfInBounds_toArray, List.set_cons_zero, List.set_cons_succ]
                              refine wpAnyH_take (i := 7) (v := ?_) (take_list rfl) (by kernel_rfl) (by kernel_rfl) (by kernel_rfl) (fun _ _ _ h => h) (Or.inl ⟨by rfl, ?_⟩) (by assumption) ?_
                              rotate_left
                              · intro w hSw
                                try dsimp only at hSw
                                first | (go_simp; done) | (go_simp; with_reducible rfl)
                              try simp only [Act.put, List.setIfInBounds_toArray, List.set_cons_zero, List.set_cons_succ]
                              refine wpAnyH_ready (rs := [8]) (by kernel_rfl) (by simp) ?_
                              refine AllReadyH.cons (take_list rfl) (fun K hK => ?_) ?_
                              · skip
                                go_simp
                                refine (known15_any w6).mono ?_
                                rintro e w7 ⟨rfl, hb7⟩
                                dsimp only
                                refine hK.out _ _ ?_ (fun hHeld => ?_)
                                · try dsimp only
                                  all_goals trivial
                                clear hK K
                                refine wpAnyH_take (i := 9) (v := ?_) (take_list rfl) (by kernel_rfl) (by kernel_rfl) (by kernel_rfl) (fun _ _ _ h => h) (Or.inl ⟨by rfl, ?_⟩) (by assumption) ?_
                                rotate_left
                                · intro w hSw
                                  try dsimp only at hSw
                                  first | (go_simp; done) | (go_simp; with_reducible rfl)
                                try simp only [Act.put, List.setIfInBounds_toArray, List.set_cons_zero, List.set_cons_succ]
                                refine wpAnyH_take (i := 10) (v := ?_) (take_list rfl) (by kernel_rfl) (by kernel_rfl) (by kernel_rfl) (fun _ _ _ h => h) (Or.inl ⟨by rfl, ?_⟩) (by assumption) ?_
                                rotate_left
                                · intro w hSw
                                  try dsimp only at hSw
                                  first | (go_simp; done) | (go_simp; with_reducible rfl)
                                try simp only [Act.put, List.setIfInBounds_toArray, List.set_cons_zero, List.set_cons_succ]
                                refine wpAnyH_done (by kernel_rfl) ?_ _
                                go_wp2
                                go_ret
                                exact ⟨rfl, ext_trans (ext_trans (ext_trans Hbr.out hb5) hb6.out) hb7⟩
                              exact AllReadyH.nil
                            exact AllReadyH.nil
                          exact AllReadyH.nil
                        exact AllReadyH.nil
                      exact AllReadyH.nil
                exact AllReadyH.nil
              exact AllReadyH.nil
          · obtain rfl : k = l.length := by omega
            clear hlt hk hk120
            obtain ⟨E, hE⟩ : ∃ E, treeB t = E := ⟨_, rfl⟩
            have HE := Lib.hid hE
            have HEn := enc_rd HTr.out HG.out HS.out
            have HDe : Hid (∀ W A c, E.length ≤ c → Rd W A (E.map bv) → Calls Try.prog 27 #[.slice A E.length c] W fun e w' => ∃ g T, e = .returned (.tuple #[.pointer (some ⟨g, 0, none⟩), .int .i64 0]) ∧ Hid (TrIn T w' g t) ∧ Hid (∀ j, T j → W.heap.size ≤ j) ∧ Hid (Below W.heap.size W w')) := Lib.hid (fun W A c h1 h2 => by
              rw [← hE] at h1 h2 ⊢
              exact dec_rd HG.out HS.out HP.out h1 h2)
            rw [hE] at HEn
            have HEn := Lib.hid HEn
            obtain ⟨Z, hZ, -⟩ := str_hide E
            have HZ : Hid (∀ W A c, Rd W A (E.map bv) → (convert 48 9 (.slice A E.length c)).run Try.prog W = .ok (.string Z) W) := Lib.hid (fun W A c hr => by
              have := conv_bytes W A _ c E rfl hr
              rw [show Value.string ⟨E.toArray⟩ = strV E from rfl, hZ] at this
              exact this)
            clear hE hZ HP
            go_wp2_with fail
            refine HEn.out.mono ?_
            rintro e w2 ⟨A1, c1, rfl, hr1, hcap, hb2⟩
            have HDn := Lib.hid (HDe.out w2 A1 c1 hcap.out hr1.out)
            have HTa2 := Lib.hid (HTr.out.ext hb2.out)
            have Hlt2 : Hid (∀ j, T j → j < w2.heap.size) := Lib.hid (fun j hj => HTa2.out.lt hj)
            clear HEn HDe hcap
            go_wp2_with fail
            refine HDn.out.mono ?_
            rintro e w3 ⟨gd, Td, rfl, HTd3, HTdn, hb3⟩
            have HCp := Lib.hid (copy_any (HTa2.out.ext hb3.out) HG.out)
            have Hltd : Hid (∀ j, Td j → j < w3.heap.size) := Lib.hid (fun j hj => HTd3.out.lt hj)
            clear HDn
            go_wp2_with fail
            refine HCp.out.mono ?_
            rintro e w4 ⟨gc, Tc, rfl, HTc, HTcn, hb4⟩
            have HTa := Lib.hid ((HTa2.out.ext hb3.out).ext hb4.out)
            have HTd := Lib.hid (HTd3.out.ext hb4.out)
            have HrA := Lib.hid ((hr1.out.ext hb3.out).ext hb4.out)
            have Hb4 := Lib.hid (ext_trans (ext_trans (ext_trans Hbr.out hb2.out) hb3.out) hb4.out)
            have Hz2 := Lib.hid (ext_trans Hbr.out hb2.out).size
            have HTds : Hid (∀ j, Td j → w.heap.size ≤ j) := Lib.hid (fun j hj => Nat.le_trans Hz2.out (HTdn.out j hj))
            have HTcs : Hid (∀ j, Tc j → w.heap.size ≤ j) := Lib.hid (fun j hj => Nat.le_trans Hz2.out (Nat.le_trans hb3.out.size (HTcn.out j hj)))
            have HTad : Hid (∀ j, T j → ¬ Td j) := Lib.hid (fun j h1 h2 => by have := Hlt2.out j h1; have := HTdn.out j h2; omega)
            have HTac : Hid (∀ j, T j → ¬ Tc j) := Lib.hid (fun j h1 h2 => by have := Hlt2.out j h1; have := HTcn.out j h2; have := hb3.out.size; omega)
            have HTdc : Hid (∀ j, Td j → ¬ Tc j) := Lib.hid (fun j h1 h2 => by have := Hltd.out j h1; have := HTcn.out j h2; omega)
            clear HTr HCp HTa2 HTd3 HTdn HTcn hb2 hb3 hb4 hr1 Hz2 Hlt2 Hltd
            go_wp2
            refine wp_region_held_drew (S := (fun W => (convert 48 9 (.slice A1 E.length c1)).run Try.prog W = .ok (.string Z) W)) (by kernel_rfl) ?_ (fun hHeld => ?_)
            · exact HZ.out _ _ _ (HrA.out.ext (ext_drew (Below.refl _ _)))
            refine wpAnyH_take (i := 0) (v := ?_) (take_list rfl) (by kernel_rfl) (by kernel_rfl) (by kernel_rfl) (fun _ _ _ h => h) (Or.inl ⟨by rfl, ?_⟩) (by assumption) ?_
            rotate_left
            · intro w hSw
              try dsimp only at hSw
              first | (go_simp; done) | (go_simp; with_reducible rfl)
            try simp only [Act.put, List.setIfInBounds_toArray, List.set_cons_zero, List.set_cons_succ]
            refine wpAnyH_take (i := 1) (v := ?_) (take_list rfl) (by kernel_rfl) (by kernel_rfl) (by kernel_rfl) (fun _ _ _ h => h) (Or.inl ⟨by rfl, ?_⟩) (by assumption) ?_
            rotate_left
            · intro w hSw
              try dsimp only at hSw
              first | (go_simp; done) | (go_simp; with_reducible rfl)
            try simp only [Act.put, List.setIfInBounds_toArray, List.set_cons_zero, List.set_cons_succ]
            refine wpAnyH_take (i := 2) (v := ?_) (take_list rfl) (by kernel_rfl) (by kernel_rfl) (by kernel_rfl) (fun _ _ _ h => h) (Or.inl ⟨by rfl, ?_⟩) (by assumption) ?_
            rotate_left
            · intro w hSw
              try dsimp only at hSw
              first | (go_simp; done) | (go_simp; with_reducible rfl)
            try simp only [Act.put, List.setIfInBounds_toArray, List.set_cons_zero, List.set_cons_succ]
            refine wpAnyH_take (i := 3) (v := ?_) (take_list rfl) (by kernel_rfl) (by kernel_rfl) (by kernel_rfl) (fun _ _ _ h => h) (Or.inl ⟨by rfl, ?_⟩) (by assumption) ?_
            rotate_left
            · intro w hSw
              try dsimp only at hSw
              first | (go_simp; done) | (go_simp; with_reducible rfl)
            try simp only [Act.put, List.setIfInBounds_toArray, List.set_cons_zero, List.set_cons_succ]
            refine wpAnyH_take (i := 4) (v := ?_) (take_list rfl) (by kernel_rfl) (by kernel_rfl) (by kernel_rfl) (fun _ _ _ h => h) (Or.inl ⟨by rfl, ?_⟩) (by assumption) ?_
            rotate_left
            · intro w hSw
              try dsimp only at hSw
              first | (go_simp; done) | (go_simp; with_reducible rfl)
            try simp only [Act.put, List.setIfInBounds_toArray, List.set_cons_zero, List.set_cons_succ]
            refine wpAnyH_take (i := 5) (v := ?_) (take_list rfl) (by kernel_rfl) (by kernel_rfl) (by kernel_rfl) (fun _ _ _ h => h) (Or.inl ⟨by rfl, ?_⟩) (by assumption) ?_
            rotate_left
            · intro w hSw
              try dsimp only at hSw
              first | (go_simp; done) | (go_simp; with_reducible rfl)
            try simp only [Act.put, List.setIfInBounds_toArray, List.set_cons_zero, List.set_cons_succ]
            refine wpAnyH_take (i := 6) (v := ?_) (take_list rfl) (by kernel_rfl) (by kernel_rfl) (by kernel_rfl) (fun _ _ _ h => h) (Or.inl ⟨by rfl, ?_⟩) (by assumption) ?_
            rotate_left
            · intro w hSw
              try dsimp only at hSw
              first | (go_simp; done) | (go_simp; with_reducible rfl)
            try simp only [Act.put, List.setIfInBounds_toArray, List.set_cons_zero, List.set_cons_succ]
            refine wpAnyH_take (i := 7) (v := ?_) (take_list rfl) (by kernel_rfl) (by kernel_rfl) (by kernel_rfl) (fun _ _ _ h => h) (Or.inl ⟨by rfl, ?_⟩) (by assumption) ?_
            rotate_left
            · intro w hSw
              try dsimp only at hSw
              first | (go_simp; done) | (go_simp; with_reducible rfl)
            try simp only [Act.put, List.setIfInBounds_toArray, List.set_cons_zero, List.set_cons_succ]
            refine wpAnyH_take (i := 8) (v := ?_) (take_list rfl) (by kernel_rfl) (by kernel_rfl) (by kernel_rfl) (fun _ _ _ h => h) (Or.inl ⟨by rfl, ?_⟩) (by assumption) ?_
            rotate_left
            · intro w hSw
              try dsimp only at hSw
              first | (go_simp; done) | (go_simp; with_reducible rfl)
            try simp only [Act.put, List.setIfInBounds_toArray, List.set_cons_zero, List.set_cons_succ]
            refine wpAnyH_take (i := 9) (v := ?_) (take_list rfl) (by kernel_rfl) (by kernel_rfl) (by kernel_rfl) (fun _ _ _ h => h) (Or.inl ⟨by rfl, ?_⟩) (by assumption) ?_
            rotate_left
            · intro w hSw
              try dsimp only at hSw
              first | (go_simp; done) | (go_simp; with_reducible rfl)
            try simp only [Act.put, List.setIfInBounds_toArray, List.set_cons_zero, List.set_cons_succ]
            refine wpAnyH_take (i := 10) (v := ?_) (take_list rfl) (by kernel_rfl) (by kernel_rfl) (by kernel_rfl) (fun _ _ _ h => h) (Or.inl ⟨by rfl, ?_⟩) (by assumption) ?_
            rotate_left
            · intro w hSw
              try dsimp only at hSw
              first | (go_simp; done) | (go_simp; with_reducible rfl)
            try simp only [Act.put, List.setIfInBounds_toArray, List.set_cons_zero, List.set_cons_succ]
            refine wpAnyH_take (i := 11) (v := ?_) (take_list rfl) (by kernel_rfl) (by kernel_rfl) (by kernel_rfl) (fun _ _ _ h => h) (Or.inl ⟨by rfl, ?_⟩) (by assumption) ?_
            rotate_left
            · intro w hSw
              try dsimp only at hSw
              first | (go_simp; done) | (go_simp; with_reducible rfl)
            try simp only [Act.put, List.setIfInBounds_toArray, List.set_cons_zero, List.set_cons_succ]
            refine wpAnyH_take (i := 14) (v := ?_) (take_list rfl) (by kernel_rfl) (by kernel_rfl) (by kernel_rfl) (fun _ _ _ h => h) (Or.inl ⟨by rfl, ?_⟩) (by assumption) ?_
            rotate_left
            · intro w hSw
              try dsimp only at hSw
              first | (go_simp; done) | (go_simp; with_reducible rfl)
            try simp only [Act.put, List.setIfInBounds_toArray, List.set_cons_zero, List.set_cons_succ]
            refine wpAnyH_take (i := 15) (v := ?_) (take_list rfl) (by kernel_rfl) (by kernel_rfl) (by kernel_rfl) (fun _ _ _ h => h) (Or.inl ⟨by rfl, ?_⟩) (by assumption) ?_
            rotate_left
            · intro w hSw
              try dsimp only at hSw
              first | (go_simp; done) | (go_simp; with_reducible rfl)
            try simp only [Act.put, List.setIfInBounds_toArray, List.set_cons_zero, List.set_cons_succ]
            refine wpAnyH_ready (rs := [12]) (by kernel_rfl) (by simp) ?_
            refine AllReadyH.cons (take_list rfl) (fun K hK => ?_) ?_
            · skip
              go_simp
              refine (enc_rd (HTd.out.ext (w' := w4.drew) (ext_drew (Below.refl _ _))) HG.out HS.out).mono ?_
              rw [HE.out]
              rintro e w5 ⟨A2, cc2, rfl, hr2, -, hb5⟩
              dsimp only
              have hb5 : Below w4.heap.size w4 w5 := ext_trans (ext_drew (Below.refl _ _)) hb5.out
              refine hK.out _ _ ?_ (fun hHeld => ?_)
              · try dsimp only
                exact HZ.out _ _ _ (HrA.out.ext hb5)
              clear hK K
              refine wpAnyH_ready (rs := [13]) (by kernel_rfl) (by simp) ?_
              refine AllReadyH.cons (take_list rfl) (fun K hK => ?_) ?_
              · skip
                have hcv := HZ.out w5 A2 cc2 hr2.out
                go_simp
                clear hcv
                refine hK.out _ _ ?_ (fun hHeld => ?_)
                · try dsimp only
                  exact HZ.out _ _ _ (HrA.out.ext hb5)
                clear hK K
                refine wpAnyH_take (i := 16) (v := ?_) (take_list rfl) (by kernel_rfl) (by kernel_rfl) (by kernel_rfl) (fun _ _ _ h => h) (Or.inl ⟨by rfl, ?_⟩) (by assumption) ?_
                rotate_left
                · intro w hSw
                  try dsimp only at hSw
                  first | (go_simp; done) | (go_simp; with_reducible rfl)
                try simp only [Act.put, List.setIfInBounds_toArray, List.set_cons_zero, List.set_cons_succ]
                refine wpAnyH_take (i := 17) (v := ?_) (take_list rfl) (by kernel_rfl) (by kernel_rfl) (by kernel_rfl) (fun _ _ _ h => h) (Or.inl ⟨by rfl, ?_⟩) (by assumption) ?_
                rotate_left
                · intro w hSw
                  try dsimp only at hSw
                  first | (go_simp; done) | (go_simp; with_reducible rfl)
                try simp only [Act.put, List.setIfInBounds_toArray, List.set_cons_zero, List.set_cons_succ]
                refine wpAnyH_done (by kernel_rfl) ?_ _
                have HTa5 := Lib.hid (HTa.out.ext hb5)
                have HTd5 := Lib.hid (HTd.out.ext hb5)
                have HTc5 := Lib.hid (HTc.out.ext hb5)
                have Hb5 := Lib.hid (ext_trans Hb4.out hb5)
                clear hb5 hr2 HTa HTd HTc Hb4 HrA
                go_wp2
                go_loopw [11] (fun i wr => ∃ k : Nat, k ≤ m.length ∧ k ≤ 120 ∧ i = .int .i64 (k : Int) ∧ ∃ (T1 T2 T3 : Nat → Prop) (t : Tr), Hid (TrIn T1 wr g t) ∧ Hid (TrIn T2 wr gd t) ∧ Hid (TrIn T3 wr gc t) ∧ Hid (Good t) ∧ Hid (Sml t) ∧ Hid (∀ j, T1 j → w.heap.size ≤ j) ∧ Hid (∀ j, T2 j → w.heap.size ≤ j) ∧ Hid (∀ j, T3 j → w.heap.size ≤ j) ∧ Hid (∀ j, T1 j → ¬ T2 j) ∧ Hid (∀ j, T1 j → ¬ T3 j) ∧ Hid (∀ j, T2 j → ¬ T3 j) ∧ Hid (Below w.heap.size w wr)) (fun i _ => m.length - (intOf i).toNat)
                case atStart => exact ⟨0, Nat.zero_le _, Nat.zero_le _, rfl, T, Td, Tc, t, HTa5, HTd5, HTc5, HG, HS, HTs, HTds, HTcs, HTad, HTac, HTdc, Hb5⟩
                case round =>
                  clear HTs HTds HTcs HTad HTac HTdc HTa5 HTd5 HTc5 Hb5 HG HS
                  obtain ⟨k, hk, hk120, rfl, T1, T2, T3, t, HT1, HT2, HT3, HG, HS, HTs1, HTs2, HTs3, H12, H13, H23, Hbr⟩ := hrel
                  by_cases hlt : k < m.length
                  · have hki : (k : Int) < (m.length : Int) := by omega
                    by_cases h120 : k < 120
                    · have hk1 : (k : Int) < 120 := by omega
                      obtain ⟨g2, o2, B3, cb, rfl, u0, ht, hm1, hm2⟩ := row_toks HM.out hlt
                      unfold maxLen at hm2
                      have hmj : (m[k].length : Int) ≤ 9223372036854775807 := by omega
                      have HU : Hid (∀ W, Below w.heap.size w W → W.cell? ⟨g2, o2 + k, none⟩ = some (.slice B3 m[k].length cb)) := Lib.hid (fun W hW => (World.cell?_of_block (hW.block _ (World.block_lt_of_cell? w _ u0))).trans u0)
                      have hs := HMt.out k hlt h120
                      have HTk := Lib.hid ht
                      have HG2 := Lib.hid (HG.out.step m[k])
                      have HS2 := Lib.hid (HS.out.step hs)
                      have HI := Lib.hid (idT HG.out m[k])
                      have HAs : Hid (∀ (X : Nat → Prop) (W : World) (gx : Nat), (∀ j, X j → w.heap.size ≤ j) → Below w.heap.size w W → TrIn X W gx t → Calls Try.prog 15 #[.pointer (some ⟨gx, 0, none⟩), .slice B3 m[k].length cb] W fun e w' => ∃ (T2 : Nat → Prop) (V : Option Addr) (cv : Nat), e = .returned (.agg #[.int .i64 ((numT t m[k]).2 : Int), .slice V (varsT t m[k]).length cv]) ∧ Hid (TrIn T2 w' gx (numT t m[k]).1) ∧ Hid (∀ j, T2 j → w.heap.size ≤ j) ∧ Hid (RowO w' 9 1 V (varsT t m[k]).length cv ((varsT t m[k]).map strV)) ∧ Hid (∀ k, inA V k → W.heap.size ≤ k ∧ ¬ T2 k) ∧ Hid (Below w.heap.size w w') ∧ Hid (Only X W w') ∧ Hid (∀ j, T2 j → X j ∨ W.heap.size ≤ j)) := Lib.hid (fun X W gx hX hW hT => asg_step cb hT HG.out hX hW HTk.out hs)
                      have e0 := HU.out wr Hbr.out
                      clear u0 ht hm1 hm2 hs HG HS
                      generalize varsT t m[k] = vs at *
                      generalize numT t m[k] = ni at *
                      obtain ⟨t2, id⟩ := ni
                      dsimp only at HAs HG2 HS2 HI
                      generalize m[k] = ts at *
                      have HLi : Hid (∀ (W : World) (V : Option Addr) (cv : Nat) (V2 : Option Addr) (cv2 : Nat), RowO W 9 1 V vs.length cv (vs.map strV) → RowO W 9 1 V2 vs.length cv2 (vs.map strV) → Calls Try.prog 14 #[.agg #[.int .i64 (id : Int), .slice V vs.length cv], .agg #[.int .i64 (id : Int), .slice V2 vs.length cv2]] W fun e w' => e = .returned (.bool true) ∧ Below W.heap.size W w') := Lib.hid (fun W V cv V2 cv2 h4 h5 => by
                        refine (rline_any ⟨(id : Int), vs⟩ ⟨(id : Int), vs⟩ V V2 cv cv2 W ⟨HI.out, h4.le, h4.max, h4.nil_cap, h4.rd⟩ ⟨HI.out, h5.le, h5.max, h5.nil_cap, h5.rd⟩).mono ?_
                        rintro e w' ⟨r, rfl, hr, hb⟩
                        rw [hr.2 rfl]
                        exact ⟨rfl, hb⟩)
                      have HA1 := Lib.hid (HAs.out T1 wr g HTs1.out Hbr.out HT1.out)
                      go_wp2_with fail
                      refine HA1.out.mono ?_
                      rintro e w2 ⟨U1, V, cv, rfl, HU1, HUs1, HV1, HVn1, Hb2, HO2, HUn1⟩
                      clear e0 HA1
                      have HT22 := HT2.out.only HO2.out (fun j h2 h1 => H12.out j h1 h2)
                      have HT32 := HT3.out.only HO2.out (fun j h3 h1 => H13.out j h1 h3)
                      have H12a : Hid (∀ j, U1 j → ¬ T2 j) := Lib.hid (fun j h1 h2 => by
                        rcases HUn1.out j h1 with h | h
                        · exact H12.out j h h2
                        · have := HT2.out.lt h2; omega)
                      have H13a : Hid (∀ j, U1 j → ¬ T3 j) := Lib.hid (fun j h1 h3 => by
                        rcases HUn1.out j h1 with h | h
                        · exact H13.out j h h3
                        · have := HT3.out.lt h3; omega)
                      have HV12 : Hid (∀ j, inA V j → ¬ T2 j) := Lib.hid (fun j hj h2 => by
                        have h4 := (HVn1.out j hj).1
                        have := HT2.out.lt h2; omega)
                      have HV13 : Hid (∀ j, inA V j → ¬ T3 j) := Lib.hid (fun j hj h3 => by
                        have h4 := (HVn1.out j hj).1
                        have := HT3.out.lt h3; omega)
                      have Hq2 : Hid (¬ T2 w2.heap.size) := Lib.hid (fun hx => Nat.lt_irrefl _ (HT22.lt hx))
                      have Hq3 : Hid (¬ T3 w2.heap.size) := Lib.hid (fun hx => Nat.lt_irrefl _ (HT32.lt hx))
                      clear H12 H13
                      have H12 := H12a
                      have H13 := H13a
                      clear H12a H13a
                      obtain ⟨w3, hw3⟩ : ∃ w3, w3 = w2.alloc (Obj.cells #[.int .i64 (id : Int), .slice V vs.length cv] 31) := ⟨_, rfl⟩
                      have hb3 : Below w2.heap.size w2 w3 := by rw [hw3]; exact ext_alloc (Below.refl _ _) _
                      have HBq : Hid (Blk w3 w2.heap.size 31 #[.int .i64 (id : Int), .slice V vs.length cv]) := Lib.hid (by rw [hw3]; exact Blk.new _ _ _)
                      have Hb3 := Lib.hid (ext_trans Hb2.out hb3)
                      have HT1q := Lib.hid (HU1.out.ext hb3)
                      have HT2r := Lib.hid (HT22.ext hb3)
                      have HT3r := Lib.hid (HT32.ext hb3)
                      have HVq := Lib.hid (HV1.out.ext hb3)
                      obtain ⟨q, hq⟩ : ∃ q, q = w2.heap.size := ⟨_, rfl⟩
                      rw [← hq] at HBq Hq2 Hq3
                      have HKq : Hid (∀ W, Blk W q 31 #[.int .i64 (id : Int), .slice V vs.length cv] → Below w.heap.size w W → W.cell? ⟨q, 0, none⟩ = some (.int .i64 (id : Int)) ∧ W.cell? ⟨q, 1, none⟩ = some (.slice V vs.length cv) ∧ W.cell? ⟨g2, o2 + k, none⟩ = some (.slice B3 ts.length cb)) := Lib.hid (fun W hB hW => by
                        have x0 := hB.cell 0
                        have x1 := hB.cell 1
                        simp only [List.getElem?_toArray, List.getElem?_cons_zero, List.getElem?_cons_succ] at x0 x1
                        exact ⟨x0, x1, HU.out W hW⟩)
                      have Hw3 := Lib.hid hw3
                      have Hq := Lib.hid hq
                      clear hb3 hw3 hq HT22 HT32 HUn1 HV1 HVn1 HO2 HT1 HT2 HT3 HU1 Hb2
                      go_wp2
                      rw [← Hw3.out, ← Hq.out]
                      refine wp_region_held_drew (S := (fun W => W.cell? ⟨q, 0, none⟩ = some (.int .i64 (id : Int)) ∧ W.cell? ⟨q, 1, none⟩ = some (.slice V vs.length cv) ∧ W.cell? ⟨g2, o2 + k, none⟩ = some (.slice B3 ts.length cb))) (by kernel_rfl) ?_ (fun hHeld => ?_)
                      · exact HKq.out w3.drew HBq.out (ext_drew Hb3.out)
                      refine wpAnyH_take (i := 0) (v := ?_) (take_list rfl) (by kernel_rfl) (by kernel_rfl) (by kernel_rfl) (fun _ _ _ h => h) (Or.inl ⟨by rfl, ?_⟩) (by assumption) ?_
                      rotate_left
                      · intro w hSw
                        try dsimp only at hSw
                        first | (go_simp; done) | (go_simp; with_reducible rfl)
                      try simp only [Act.put, List.setIfInBounds_toArray, List.set_cons_zero, List.set_cons_succ]
                      refine wpAnyH_take (i := 1) (v := ?_) (take_list rfl) (by kernel_rfl) (by kernel_rfl) (by kernel_rfl) (fun _ _ _ h => h) (Or.inl ⟨by rfl, ?_⟩) (by assumption) ?_
                      rotate_left
                      · intro w hSw
                        try dsimp only at hSw
                        first | (go_simp; done) | (go_simp; with_reducible rfl)
                      try simp only [Act.put, List.setIfInBounds_toArray, List.set_cons_zero, List.set_cons_succ]
                      refine wpAnyH_take (i := 2) (v := ?_) (take_list rfl) (by kernel_rfl) (by kernel_rfl) (by kernel_rfl) (fun _ _ _ h => h) (Or.inl ⟨by rfl, ?_⟩) (by assumption) ?_
                      rotate_left
                      · intro w hSw
                        try dsimp only at hSw
                        first | (go_simp; done) | (go_simp; with_reducible rfl)
                      try simp only [Act.put, List.setIfInBounds_toArray, List.set_cons_zero, List.set_cons_succ]
                      refine wpAnyH_take (i := 3) (v := ?_) (take_list rfl) (by kernel_rfl) (by kernel_rfl) (by kernel_rfl) (fun _ _ _ h => h) (Or.inl ⟨by rfl, ?_⟩) (by assumption) ?_
                      rotate_left
                      · intro w hSw
                        try dsimp only at hSw
                        first | (go_simp; done) | (go_simp; with_reducible rfl)
                      try simp only [Act.put, List.setIfInBounds_toArray, List.set_cons_zero, List.set_cons_succ]
                      refine wpAnyH_take (i := 4) (v := ?_) (take_list rfl) (by kernel_rfl) (by kernel_rfl) (by kernel_rfl) (fun _ _ _ h => h) (Or.inl ⟨by rfl, ?_⟩) (by assumption) ?_
                      rotate_left
                      · intro w hSw
                        try dsimp only at hSw
                        first | (go_simp; done) | (go_simp; with_reducible rfl)
                      try simp only [Act.put, List.setIfInBounds_toArray, List.set_cons_zero, List.set_cons_succ]
                      refine wpAnyH_take (i := 5) (v := ?_) (take_list rfl) (by kernel_rfl) (by kernel_rfl) (by kernel_rfl) (fun _ _ _ h => h) (Or.inl ⟨by rfl, ?_⟩) (by assumption) ?_
                      rotate_left
                      · intro w hSw
                        try dsimp only at hSw
                        first | (go_simp; done) | (go_simp; with_reducible rfl)
                      try simp only [Act.put, List.setIfInBounds_toArray, List.set_cons_zero, List.set_cons_succ]
                      refine wpAnyH_ready (rs := [6]) (by kernel_rfl) (by simp) ?_
                      refine AllReadyH.cons (take_list rfl) (fun K hK => ?_) ?_
                      · skip
                        go_simp
                        refine (HAs.out T2 w3.drew gd HTs2.out (ext_drew Hb3.out) (HT2r.out.ext (ext_drew (Below.refl _ _)))).mono ?_
                        rintro e w5 ⟨U2, V2, cv2, rfl, HU2, HUs2, HV2, HVn2, Hb5, HO5, HUn2⟩
                        dsimp only
                        have HO5 : Only T2 w3 w5 := (Only.of_ext (S := T2) (ext_drew (Below.refl _ _) : Below w3.heap.size w3 w3.drew)).trans HO5.out (fun _ _ h => h)
                        have HB5 := Lib.hid (HBq.out.only HO5 Hq2.out)
                        have HK5 := HKq.out w5 HB5.out Hb5.out
                        have HV5 := Lib.hid (HVq.out.only HO5 HV12.out)
                        have HT15 := Lib.hid (HT1q.out.only HO5 H12.out)
                        have HT35 := Lib.hid (HT3r.out.only HO5 (fun j h3 h2 => H23.out j h2 h3))
                        have H12' : Hid (∀ j, U1 j → ¬ U2 j) := Lib.hid (fun j h1 h2 => by
                          rcases HUn2.out j h2 with h | h
                          · exact H12.out j h1 h
                          · have h5 : w3.heap.size ≤ j := h
                            have := HT1q.out.lt h1; omega)
                        have H23' : Hid (∀ j, U2 j → ¬ T3 j) := Lib.hid (fun j h2 h3 => by
                          rcases HUn2.out j h2 with h | h
                          · exact H23.out j h h3
                          · have h5 : w3.heap.size ≤ j := h
                            have := HT3r.out.lt h3; omega)
                        have HLa := Lib.hid (HLi.out w5 V cv V2 cv2 HV5.out HV2.out)
                        refine hK.out _ _ ?_ (fun hHeld => ?_)
                        · try dsimp only
                          exact HK5
                        clear hK K
                        refine wpAnyH_ready (rs := [7]) (by kernel_rfl) (by simp) ?_
                        refine AllReadyH.cons (take_list rfl) (fun K hK => ?_) ?_
                        · skip
                          go_simp
                          refine HLa.out.mono ?_
                          rintro e w6 ⟨rfl, hb6⟩
                          dsimp only
                          have Hb6 := Lib.hid (ext_trans Hb5.out hb6)
                          have HB6 := Lib.hid (HB5.out.ext hb6)
                          have HK6 := HKq.out w6 HB6.out Hb6.out
                          have HV6 := Lib.hid (HV5.out.ext hb6)
                          have HT16 := Lib.hid (HT15.out.ext hb6)
                          have HT26 := Lib.hid (HU2.out.ext hb6)
                          have HT36 := Lib.hid (HT35.out.ext hb6)
                          have Hs6 : Hid (∀ j, T3 j → j < w5.heap.size) := Lib.hid (fun j hj => HT35.out.lt hj)
                          have Hz6 : Hid (w5.heap.size ≤ w6.heap.size) := Lib.hid hb6.size
                          clear hb6
                          refine hK.out _ _ ?_ (fun hHeld => ?_)
                          · try dsimp only
                            exact HK6
                          clear hK K
                          refine wpAnyH_take (i := 8) (v := ?_) (take_list rfl) (by kernel_rfl) (by kernel_rfl) (by kernel_rfl) (fun _ _ _ h => h) (Or.inl ⟨by rfl, ?_⟩) (by assumption) ?_
                          rotate_left
                          · intro w hSw
                            try dsimp only at hSw
                            first | (go_simp; done) | (go_simp; with_reducible rfl)
                          try simp only [Act.put, List.setIfInBounds_toArray, List.set_cons_zero, List.set_cons_succ]
                          refine wpAnyH_take (i := 9) (v := ?_) (take_list rfl) (by kernel_rfl) (by kernel_rfl) (by kernel_rfl) (fun _ _ _ h => h) (Or.inl ⟨by rfl, ?_⟩) (by assumption) ?_
                          rotate_left
                          · intro w hSw
                            try dsimp only at hSw
                            first | (go_simp; done) | (go_simp; with_reducible rfl)
                          try simp only [Act.put, List.setIfInBounds_toArray, List.set_cons_zero, List.set_cons_succ]
                          refine wpAnyH_take (i := 10) (v := ?_) (take_list rfl) (by kernel_rfl) (by kernel_rfl) (by kernel_rfl) (fun _ _ _ h => h) (Or.inl ⟨by rfl, ?_⟩) (by assumption) ?_
                          rotate_left
                          · intro w hSw
                            try dsimp only at hSw
                            first | (go_simp; done) | (go_simp; with_reducible rfl)
                          try simp only [Act.put, List.setIfInBounds_toArray, List.set_cons_zero, List.set_cons_succ]
                          refine wpAnyH_take (i := 11) (v := ?_) (take_list rfl) (by kernel_rfl) (by kernel_rfl) (by kernel_rfl) (fun _ _ _ h => h) (Or.inl ⟨by rfl, ?_⟩) (by assumption) ?_
                          rotate_left
                          · intro w hSw
                            try dsimp only at hSw
                            first | (go_simp; done) | (go_simp; with_reducible rfl)
                          try simp only [Act.put, List.setIfInBounds_toArray, List.set_cons_zero, List.set_cons_succ]
                          refine wpAnyH_take (i := 12) (v := ?_) (take_list rfl) (by kernel_rfl) (by kernel_rfl) (by kernel_rfl) (fun _ _ _ h => h) (Or.inl ⟨by rfl, ?_⟩) (by assumption) ?_
                          rotate_left
                          · intro w hSw
                            try dsimp only at hSw
                            first | (go_simp; done) | (go_simp; with_reducible rfl)
                          try simp only [Act.put, List.setIfInBounds_toArray, List.set_cons_zero, List.set_cons_succ]
                          refine wpAnyH_take (i := 13) (v := ?_) (take_list rfl) (by kernel_rfl) (by kernel_rfl) (by kernel_rfl) (fun _ _ _ h => h) (Or.inl ⟨by rfl, ?_⟩) (by assumption) ?_
                          rotate_left
                          · intro w hSw
                            try dsimp only at hSw
                            first | (go_simp; done) | (go_simp; with_reducible rfl)
                          try simp only [Act.put, List.setIfInBounds_toArray, List.set_cons_zero, List.set_cons_succ]
                          refine wpAnyH_take (i := 14) (v := ?_) (take_list rfl) (by kernel_rfl) (by kernel_rfl) (by kernel_rfl) (fun _ _ _ h => h) (Or.inl ⟨by rfl, ?_⟩) (by assumption) ?_
                          rotate_left
                          · intro w hSw
                            try dsimp only at hSw
                            first | (go_simp; done) | (go_simp; with_reducible rfl)
                          try simp only [Act.put, List.setIfInBounds_toArray, List.set_cons_zero, List.set_cons_succ]
                          refine wpAnyH_take (i := 15) (v := ?_) (take_list rfl) (by kernel_rfl) (by kernel_rfl) (by kernel_rfl) (fun _ _ _ h => h) (Or.inl ⟨by rfl, ?_⟩) (by assumption) ?_
                          rotate_left
                          · intro w hSw
                            try dsimp only at hSw
                            first | (go_simp; done) | (go_simp; with_reducible rfl)
                          try simp only [Act.put, List.setIfInBounds_toArray, List.set_cons_zero, List.set_cons_succ]
                          refine wpAnyH_ready (rs := [16]) (by kernel_rfl) (by simp) ?_
                          refine AllReadyH.cons (take_list rfl) (fun K hK => ?_) ?_
                          · skip
                            go_simp
                            refine (HAs.out T3 w6 gc HTs3.out Hb6.out HT36.out).mono ?_
                            rintro e w7 ⟨U3, V3, cv3, rfl, HU3, HUs3, HV3, HVn3, Hb7, HO7, HUn3⟩
                            dsimp only
                            have HB7 := Lib.hid (HB6.out.only HO7.out Hq3.out)
                            have HK7 := HKq.out w7 HB7.out Hb7.out
                            have HV7 := Lib.hid (HV6.out.only HO7.out HV13.out)
                            have HT17 := Lib.hid (HT16.out.only HO7.out H13.out)
                            have HT27 := Lib.hid (HT26.out.only HO7.out H23'.out)
                            have H13' : Hid (∀ j, U1 j → ¬ U3 j) := Lib.hid (fun j h1 h3 => by
                              rcases HUn3.out j h3 with h | h
                              · exact H13.out j h1 h
                              · have := HT16.out.lt h1; omega)
                            have H23'' : Hid (∀ j, U2 j → ¬ U3 j) := Lib.hid (fun j h2 h3 => by
                              rcases HUn3.out j h3 with h | h
                              · exact H23'.out j h2 h
                              · have := HT26.out.lt h2; omega)
                            have HLb := Lib.hid (HLi.out w7 V cv V3 cv3 HV7.out HV3.out)
                            refine hK.out _ _ ?_ (fun hHeld => ?_)
                            · try dsimp only
                              exact HK7
                            clear hK K
                            refine wpAnyH_ready (rs := [17]) (by kernel_rfl) (by simp) ?_
                            refine AllReadyH.cons (take_list rfl) (fun K hK => ?_) ?_
                            · skip
                              go_simp
                              refine HLb.out.mono ?_
                              rintro e w8 ⟨rfl, hb8⟩
                              dsimp only
                              have Hb8 := Lib.hid (ext_trans Hb7.out hb8)
                              have HK8 := HKq.out w8 (HB7.out.ext hb8) Hb8.out
                              have HT18 := Lib.hid (HT17.out.ext hb8)
                              have HT28 := Lib.hid (HT27.out.ext hb8)
                              have HT38 := Lib.hid (HU3.out.ext hb8)
                              clear hb8
                              refine hK.out _ _ ?_ (fun hHeld => ?_)
                              · try dsimp only
                                exact HK8
                              clear hK K
                              refine wpAnyH_take (i := 18) (v := ?_) (take_list rfl) (by kernel_rfl) (by kernel_rfl) (by kernel_rfl) (fun _ _ _ h => h) (Or.inl ⟨by rfl, ?_⟩) (by assumption) ?_
                              rotate_left
                              · intro w hSw
                                try dsimp only at hSw
                                first | (go_simp; done) | (go_simp; with_reducible rfl)
                              try simp only [Act.put, List.setIfInBounds_toArray, List.set_cons_zero, List.set_cons_succ]
                              refine wpAnyH_take (i := 19) (v := ?_) (take_list rfl) (by kernel_rfl) (by kernel_rfl) (by kernel_rfl) (fun _ _ _ h => h) (Or.inl ⟨by rfl, ?_⟩) (by assumption) ?_
                              rotate_left
                              · intro w hSw
                                try dsimp only at hSw
                                first | (go_simp; done) | (go_simp; with_reducible rfl)
                              try simp only [Act.put, List.setIfInBounds_toArray, List.set_cons_zero, List.set_cons_succ]
                              refine wpAnyH_done (by kernel_rfl) ?_ _
                              go_wp2
                              go_roundw
                              case rel => exact ⟨k + 1, by omega, by omega, by go_num, U1, U2, U3, t2, HT18, HT28, HT38, HG2, HS2, HUs1, HUs2, HUs3, H12', H13', H23'', Hb8⟩
                              case measure => simp [intOf]; omega
                            exact AllReadyH.nil
                          exact AllReadyH.nil
                        exact AllReadyH.nil
                      exact AllReadyH.nil
                    · have hk1 : ¬ (k : Int) < 120 := by omega
                      clear h120
                      obtain ⟨E, hE⟩ : ∃ E, treeB t = E := ⟨_, rfl⟩
                      have HE := Lib.hid hE
                      obtain ⟨Z, hZ, -⟩ := str_hide E
                      have HZ : Hid (∀ W A c, Rd W A (E.map bv) → (convert 48 9 (.slice A E.length c)).run Try.prog W = .ok (.string Z) W) := Lib.hid (fun W A c hr => by
                        have := conv_bytes W A _ c E rfl hr
                        rw [show Value.string ⟨E.toArray⟩ = strV E from rfl, hZ] at this
                        exact this)
                      clear hE hZ
                      go_wp2
                      refine wp_region_held_drew (S := (fun _ => True)) (by kernel_rfl) ?_ (fun hHeld => ?_)
                      · trivial
                      refine wpAnyH_take (i := 0) (v := ?_) (take_list rfl) (by kernel_rfl) (by kernel_rfl) (by kernel_rfl) (fun _ _ _ h => h) (Or.inl ⟨by rfl, ?_⟩) (by assumption) ?_
                      rotate_left
                      · intro w hSw
                        try dsimp only at hSw
                        first | (go_simp; done) | (go_simp; with_reducible rfl)
                      try simp only [Act.put, List.setIfInBounds_toArray, List.set_cons_zero, List.set_cons_succ]
                      refine wpAnyH_take (i := 3) (v := ?_) (take_list rfl) (by kernel_rfl) (by kernel_rfl) (by kernel_rfl) (fun _ _ _ h => h) (Or.inl ⟨by rfl, ?_⟩) (by assumption) ?_
                      rotate_left
                      · intro w hSw
                        try dsimp only at hSw
                        first | (go_simp; done) | (go_simp; with_reducible rfl)
                      try simp only [Act.put, List.setIfInBounds_toArray, List.set_cons_zero, List.set_cons_succ]
                      refine wpAnyH_ready (rs := [1]) (by kernel_rfl) (by simp) ?_
                      refine AllReadyH.cons (take_list rfl) (fun K hK => ?_) ?_
                      · skip
                        go_simp
                        refine (enc_rd (HT1.out.ext (w' := wr.drew) (ext_drew (Below.refl _ _))) HG.out HS.out).mono ?_
                        rw [HE.out]
                        rintro e w5 ⟨A1, c1, rfl, hr1, -, hb5⟩
                        dsimp only
                        have hb5 : Below wr.heap.size wr w5 := ext_trans (ext_drew (Below.refl _ _)) hb5.out
                        refine hK.out _ _ ?_ (fun hHeld => ?_)
                        · try dsimp only
                          all_goals trivial
                        clear hK K
                        refine wpAnyH_ready (rs := [2, 4]) (by kernel_rfl) (by simp) ?_
                        refine AllReadyH.cons (take_list rfl) (fun K hK => ?_) ?_
                        · skip
                          have hcv := HZ.out w5 A1 c1 hr1.out
                          go_simp
                          clear hcv
                          refine hK.out _ _ ?_ (fun hHeld => ?_)
                          · try dsimp only
                            all_goals trivial
                          clear hK K
                          refine wpAnyH_ready (rs := [4]) (by kernel_rfl) (by simp) ?_
                          refine AllReadyH.cons (take_list rfl) (fun K hK => ?_) ?_
                          · skip
                            go_simp
                            refine (enc_rd (HT2.out.ext hb5) HG.out HS.out).mono ?_
                            rw [HE.out]
                            rintro e w6 ⟨A2, cc2, rfl, hr2, -, hb6⟩
                            dsimp only
                            refine hK.out _ _ ?_ (fun hHeld => ?_)
                            · try dsimp only
                              all_goals trivial
                            clear hK K
                            refine wpAnyH_ready (rs := [5]) (by kernel_rfl) (by simp) ?_
                            refine AllReadyH.cons (take_list rfl) (fun K hK => ?_) ?_
                            · skip
                              have hcv := HZ.out w6 A2 cc2 hr2.out
                              go_simp
                              clear hcv
                              refine hK.out _ _ ?_ (fun hHeld => ?_)
                              · try dsimp only
                                all_goals trivial
                              clear hK K
                              refine wpAnyH_take (i := 6) (v := ?_) (take_list rfl) (by kernel_rfl) (by kernel_rfl) (by kernel_rfl) (fun _ _ _ h => h) (Or.inl ⟨by rfl, ?_⟩) (by assumption) ?_
                              rotate_left
                              · intro w hSw
                                try dsimp only at hSw
                                first | (go_simp; done) | (go_simp; with_reducible rfl)
                              try simp only [Act.put, List.setIfInBounds_toArray, List.set_cons_zero, List.set_cons_succ]
                              refine wpAnyH_take (i := 7) (v := ?_) (take_list rfl) (by kernel_rfl) (by kernel_rfl) (by kernel_rfl) (fun _ _ _ h => h) (Or.inl ⟨by rfl, ?_⟩) (by assumption) ?_
                              rotate_left
                              · intro w hSw
                                try dsimp only at hSw
                                first | (go_simp; done) | (go_simp; with_reducible rfl)
                              try simp only [Act.put, List.setIfInBounds_toArray, List.set_cons_zero, List.set_cons_succ]
                              refine wpAnyH_ready (rs := [8]) (by kernel_rfl) (by simp) ?_
                              refine AllReadyH.cons (take_list rfl) (fun K hK => ?_) ?_
                              · skip
                                go_simp
                                refine (known15_any w6).mono ?_
                                rintro e w7 ⟨rfl, hb7⟩
                                dsimp only
                                refine hK.out _ _ ?_ (fun hHeld => ?_)
                                · try dsimp only
                                  all_goals trivial
                                clear hK K
                                refine wpAnyH_take (i := 9) (v := ?_) (take_list rfl) (by kernel_rfl) (by kernel_rfl) (by kernel_rfl) (fun _ _ _ h => h) (Or.inl ⟨by rfl, ?_⟩) (by assumption) ?_
                                rotate_left
                                · intro w hSw
                                  try dsimp only at hSw
                                  first | (go_simp; done) | (go_simp; with_reducible rfl)
                                try simp only [Act.put, List.setIfInBounds_toArray, List.set_cons_zero, List.set_cons_succ]
                                refine wpAnyH_take (i := 10) (v := ?_) (take_list rfl) (by kernel_rfl) (by kernel_rfl) (by kernel_rfl) (fun _ _ _ h => h) (Or.inl ⟨by rfl, ?_⟩) (by assumption) ?_
                                rotate_left
                                · intro w hSw
                                  try dsimp only at hSw
                                  first | (go_simp; done) | (go_simp; with_reducible rfl)
                                try simp only [Act.put, List.setIfInBounds_toArray, List.set_cons_zero, List.set_cons_succ]
                                refine wpAnyH_done (by kernel_rfl) ?_ _
                                go_wp2
                                go_ret
                                exact ⟨rfl, ext_trans (ext_trans (ext_trans Hbr.out hb5) hb6.out) hb7⟩
                              exact AllReadyH.nil
                            exact AllReadyH.nil
                          exact AllReadyH.nil
                        refine AllReadyH.cons (take_list rfl) (fun K hK => ?_) ?_
                        · skip
                          go_simp
                          refine (enc_rd (HT2.out.ext hb5) HG.out HS.out).mono ?_
                          rw [HE.out]
                          rintro e w6 ⟨A2, cc2, rfl, hr2, -, hb6⟩
                          dsimp only
                          refine hK.out _ _ ?_ (fun hHeld => ?_)
                          · try dsimp only
                            all_goals trivial
                          clear hK K
                          refine wpAnyH_ready (rs := [2, 5]) (by kernel_rfl) (by simp) ?_
                          refine AllReadyH.cons (take_list rfl) (fun K hK => ?_) ?_
                          · skip
                            have hcv := HZ.out w6 A1 c1 (hr1.out.ext hb6.out)
                            go_simp
                            clear hcv
                            refine hK.out _ _ ?_ (fun hHeld => ?_)
                            · try dsimp only
                              all_goals trivial
                            clear hK K
                            refine wpAnyH_ready (rs := [5]) (by kernel_rfl) (by simp) ?_
                            refine AllReadyH.cons (take_list rfl) (fun K hK => ?_) ?_
                            · skip
                              have hcv := HZ.out w6 A2 cc2 hr2.out
                              go_simp
                              clear hcv
                              refine hK.out _ _ ?_ (fun hHeld => ?_)
                              · try dsimp only
                                all_goals trivial
                              clear hK K
                              refine wpAnyH_take (i := 6) (v := ?_) (take_list rfl) (by kernel_rfl) (by kernel_rfl) (by kernel_rfl) (fun _ _ _ h => h) (Or.inl ⟨by rfl, ?_⟩) (by assumption) ?_
                              rotate_left
                              · intro w hSw
                                try dsimp only at hSw
                                first | (go_simp; done) | (go_simp; with_reducible rfl)
                              try simp only [Act.put, List.setIfInBounds_toArray, List.set_cons_zero, List.set_cons_succ]
                              refine wpAnyH_take (i := 7) (v := ?_) (take_list rfl) (by kernel_rfl) (by kernel_rfl) (by kernel_rfl) (fun _ _ _ h => h) (Or.inl ⟨by rfl, ?_⟩) (by assumption) ?_
                              rotate_left
                              · intro w hSw
                                try dsimp only at hSw
                                first | (go_simp; done) | (go_simp; with_reducible rfl)
                              try simp only [Act.put, List.setIfInBounds_toArray, List.set_cons_zero, List.set_cons_succ]
                              refine wpAnyH_ready (rs := [8]) (by kernel_rfl) (by simp) ?_
                              refine AllReadyH.cons (take_list rfl) (fun K hK => ?_) ?_
                              · skip
                                go_simp
                                refine (known15_any w6).mono ?_
                                rintro e w7 ⟨rfl, hb7⟩
                                dsimp only
                                refine hK.out _ _ ?_ (fun hHeld => ?_)
                                · try dsimp only
                                  all_goals trivial
                                clear hK K
                                refine wpAnyH_take (i := 9) (v := ?_) (take_list rfl) (by kernel_rfl) (by kernel_rfl) (by kernel_rfl) (fun _ _ _ h => h) (Or.inl ⟨by rfl, ?_⟩) (by assumption) ?_
                                rotate_left
                                · intro w hSw
                                  try dsimp only at hSw
                                  first | (go_simp; done) | (go_simp; with_reducible rfl)
                                try simp only [Act.put, List.setIfInBounds_toArray, List.set_cons_zero, List.set_cons_succ]
                                refine wpAnyH_take (i := 10) (v := ?_) (take_list rfl) (by kernel_rfl) (by kernel_rfl) (by kernel_rfl) (fun _ _ _ h => h) (Or.inl ⟨by rfl, ?_⟩) (by assumption) ?_
                                rotate_left
                                · intro w hSw
                                  try dsimp only at hSw
                                  first | (go_simp; done) | (go_simp; with_reducible rfl)
                                try simp only [Act.put, List.setIfInBounds_toArray, List.set_cons_zero, List.set_cons_succ]
                                refine wpAnyH_done (by kernel_rfl) ?_ _
                                go_wp2
                                go_ret
                                exact ⟨rfl, ext_trans (ext_trans (ext_trans Hbr.out hb5) hb6.out) hb7⟩
                              exact AllReadyH.nil
                            exact AllReadyH.nil
                          refine AllReadyH.cons (take_list rfl) (fun K hK => ?_) ?_
                          · skip
                            have hcv := HZ.out w6 A2 cc2 hr2.out
                            go_simp
                            clear hcv
                            refine hK.out _ _ ?_ (fun hHeld => ?_)
                            · try dsimp only
                              all_goals trivial
                            clear hK K
                            refine wpAnyH_ready (rs := [2]) (by kernel_rfl) (by simp) ?_
                            refine AllReadyH.cons (take_list rfl) (fun K hK => ?_) ?_
                            · skip
                              have hcv := HZ.out w6 A1 c1 (hr1.out.ext hb6.out)
                              go_simp
                              clear hcv
                              refine hK.out _ _ ?_ (fun hHeld => ?_)
                              · try dsimp only
                                all_goals trivial
                              clear hK K
                              refine wpAnyH_take (i := 6) (v := ?_) (take_list rfl) (by kernel_rfl) (by kernel_rfl) (by kernel_rfl) (fun _ _ _ h => h) (Or.inl ⟨by rfl, ?_⟩) (by assumption) ?_
                              rotate_left
                              · intro w hSw
                                try dsimp only at hSw
                                first | (go_simp; done) | (go_simp; with_reducible rfl)
                              try simp only [Act.put, List.setIfInBounds_toArray, List.set_cons_zero, List.set_cons_succ]
                              refine wpAnyH_take (i := 7) (v := ?_) (take_list rfl) (by kernel_rfl) (by kernel_rfl) (by kernel_rfl) (fun _ _ _ h => h) (Or.inl ⟨by rfl, ?_⟩) (by assumption) ?_
                              rotate_left
                              · intro w hSw
                                try dsimp only at hSw
                                first | (go_simp; done) | (go_simp; with_reducible rfl)
                              try simp only [Act.put, List.setIfInBounds_toArray, List.set_cons_zero, List.set_cons_succ]
                              refine wpAnyH_ready (rs := [8]) (by kernel_rfl) (by simp) ?_
                              refine AllReadyH.cons (take_list rfl) (fun K hK => ?_) ?_
                              · skip
                                go_simp
                                refine (known15_any w6).mono ?_
                                rintro e w7 ⟨rfl, hb7⟩
                                dsimp only
                                refine hK.out _ _ ?_ (fun hHeld => ?_)
                                · try dsimp only
                                  all_goals trivial
                                clear hK K
                                refine wpAnyH_take (i := 9) (v := ?_) (take_list rfl) (by kernel_rfl) (by kernel_rfl) (by kernel_rfl) (fun _ _ _ h => h) (Or.inl ⟨by rfl, ?_⟩) (by assumption) ?_
                                rotate_left
                                · intro w hSw
                                  try dsimp only at hSw
                                  first | (go_simp; done) | (go_simp; with_reducible rfl)
                                try simp only [Act.put, List.setIfInBounds_toArray, List.set_cons_zero, List.set_cons_succ]
                                refine wpAnyH_take (i := 10) (v := ?_) (take_list rfl) (by kernel_rfl) (by kernel_rfl) (by kernel_rfl) (fun _ _ _ h => h) (Or.inl ⟨by rfl, ?_⟩) (by assumption) ?_
                                rotate_left
                                · intro w hSw
                                  try dsimp only at hSw
                                  first | (go_simp; done) | (go_simp; with_reducible rfl)
                                try simp only [Act.put, List.setIfInBounds_toArray, List.set_cons_zero, List.set_cons_succ]
                                refine wpAnyH_done (by kernel_rfl) ?_ _
                                go_wp2
                                go_ret
                                exact ⟨rfl, ext_trans (ext_trans (ext_trans Hbr.out hb5) hb6.out) hb7⟩
                              exact AllReadyH.nil
                            exact AllReadyH.nil
                          exact AllReadyH.nil
                        exact AllReadyH.nil
                      exact AllReadyH.nil
                  · obtain rfl : k = m.length := by omega
                    clear hlt hk hk120
                    obtain ⟨E, hE⟩ : ∃ E, treeB t = E := ⟨_, rfl⟩
                    have HE := Lib.hid hE
                    obtain ⟨Z, hZ, -⟩ := str_hide E
                    have HZ : Hid (∀ W A c, Rd W A (E.map bv) → (convert 48 9 (.slice A E.length c)).run Try.prog W = .ok (.string Z) W) := Lib.hid (fun W A c hr => by
                      have := conv_bytes W A _ c E rfl hr
                      rw [show Value.string ⟨E.toArray⟩ = strV E from rfl, hZ] at this
                      exact this)
                    clear hE hZ
                    go_wp2
                    refine wp_region_held_drew (S := (fun _ => True)) (by kernel_rfl) ?_ (fun hHeld => ?_)
                    · trivial
                    refine wpAnyH_take (i := 0) (v := ?_) (take_list rfl) (by kernel_rfl) (by kernel_rfl) (by kernel_rfl) (fun _ _ _ h => h) (Or.inl ⟨by rfl, ?_⟩) (by assumption) ?_
                    rotate_left
                    · intro w hSw
                      try dsimp only at hSw
                      first | (go_simp; done) | (go_simp; with_reducible rfl)
                    try simp only [Act.put, List.setIfInBounds_toArray, List.set_cons_zero, List.set_cons_succ]
                    refine wpAnyH_take (i := 3) (v := ?_) (take_list rfl) (by kernel_rfl) (by kernel_rfl) (by kernel_rfl) (fun _ _ _ h => h) (Or.inl ⟨by rfl, ?_⟩) (by assumption) ?_
                    rotate_left
                    · intro w hSw
                      try dsimp only at hSw
                      first | (go_simp; done) | (go_simp; with_reducible rfl)
                    try simp only [Act.put, List.setIfInBounds_toArray, List.set_cons_zero, List.set_cons_succ]
                    refine wpAnyH_ready (rs := [1]) (by kernel_rfl) (by simp) ?_
                    refine AllReadyH.cons (take_list rfl) (fun K hK => ?_) ?_
                    · skip
                      go_simp
                      refine (enc_rd (HT1.out.ext (w' := wr.drew) (ext_drew (Below.refl _ _))) HG.out HS.out).mono ?_
                      rw [HE.out]
                      rintro e w5 ⟨A1, c1, rfl, hr1, -, hb5⟩
                      dsimp only
                      have hb5 : Below wr.heap.size wr w5 := ext_trans (ext_drew (Below.refl _ _)) hb5.out
                      refine hK.out _ _ ?_ (fun hHeld => ?_)
                      · try dsimp only
                        all_goals trivial
                      clear hK K
                      refine wpAnyH_ready (rs := [2, 4]) (by kernel_rfl) (by simp) ?_
                      refine AllReadyH.cons (take_list rfl) (fun K hK => ?_) ?_
                      · skip
                        have hcv := HZ.out w5 A1 c1 hr1.out
                        go_simp
                        clear hcv
                        refine hK.out _ _ ?_ (fun hHeld => ?_)
                        · try dsimp only
                          all_goals trivial
                        clear hK K
                        refine wpAnyH_ready (rs := [4]) (by kernel_rfl) (by simp) ?_
                        refine AllReadyH.cons (take_list rfl) (fun K hK => ?_) ?_
                        · skip
                          go_simp
                          refine (enc_rd (HT2.out.ext hb5) HG.out HS.out).mono ?_
                          rw [HE.out]
                          rintro e w6 ⟨A2, cc2, rfl, hr2, -, hb6⟩
                          dsimp only
                          refine hK.out _ _ ?_ (fun hHeld => ?_)
                          · try dsimp only
                            all_goals trivial
                          clear hK K
                          refine wpAnyH_ready (rs := [5]) (by kernel_rfl) (by simp) ?_
                          refine AllReadyH.cons (take_list rfl) (fun K hK => ?_) ?_
                          · skip
                            have hcv := HZ.out w6 A2 cc2 hr2.out
                            go_simp
                            clear hcv
                            refine hK.out _ _ ?_ (fun hHeld => ?_)
                            · try dsimp only
                              all_goals trivial
                            clear hK K
                            refine wpAnyH_take (i := 6) (v := ?_) (take_list rfl) (by kernel_rfl) (by kernel_rfl) (by kernel_rfl) (fun _ _ _ h => h) (Or.inl ⟨by rfl, ?_⟩) (by assumption) ?_
                            rotate_left
                            · intro w hSw
                              try dsimp only at hSw
                              first | (go_simp; done) | (go_simp; with_reducible rfl)
                            try simp only [Act.put, List.setIfInBounds_toArray, List.set_cons_zero, List.set_cons_succ]
                            refine wpAnyH_take (i := 7) (v := ?_) (take_list rfl) (by kernel_rfl) (by kernel_rfl) (by kernel_rfl) (fun _ _ _ h => h) (Or.inl ⟨by rfl, ?_⟩) (by assumption) ?_
                            rotate_left
                            · intro w hSw
                              try dsimp only at hSw
                              first | (go_simp; done) | (go_simp; with_reducible rfl)
                            try simp only [Act.put, List.setIfInBounds_toArray, List.set_cons_zero, List.set_cons_succ]
                            refine wpAnyH_ready (rs := [8]) (by kernel_rfl) (by simp) ?_
                            refine AllReadyH.cons (take_list rfl) (fun K hK => ?_) ?_
                            · skip
                              go_simp
                              refine (known15_any w6).mono ?_
                              rintro e w7 ⟨rfl, hb7⟩
                              dsimp only
                              refine hK.out _ _ ?_ (fun hHeld => ?_)
                              · try dsimp only
                                all_goals trivial
                              clear hK K
                              refine wpAnyH_take (i := 9) (v := ?_) (take_list rfl) (by kernel_rfl) (by kernel_rfl) (by kernel_rfl) (fun _ _ _ h => h) (Or.inl ⟨by rfl, ?_⟩) (by assumption) ?_
                              rotate_left
                              · intro w hSw
                                try dsimp only at hSw
                                first | (go_simp; done) | (go_simp; with_reducible rfl)
                              try simp only [Act.put, List.setIfInBounds_toArray, List.set_cons_zero, List.set_cons_succ]
                              refine wpAnyH_take (i := 10) (v := ?_) (take_list rfl) (by kernel_rfl) (by kernel_rfl) (by kernel_rfl) (fun _ _ _ h => h) (Or.inl ⟨by rfl, ?_⟩) (by assumption) ?_
                              rotate_left
                              · intro w hSw
                                try dsimp only at hSw
                                first | (go_simp; done) | (go_simp; with_reducible rfl)
                              try simp only [Act.put, List.setIfInBounds_toArray, List.set_cons_zero, List.set_cons_succ]
                              refine wpAnyH_done (by kernel_rfl) ?_ _
                              go_wp2
                              go_ret
                              exact ⟨rfl, ext_trans (ext_trans (ext_trans Hbr.out hb5) hb6.out) hb7⟩
                            exact AllReadyH.nil
                          exact AllReadyH.nil
                        exact AllReadyH.nil
                      refine AllReadyH.cons (take_list rfl) (fun K hK => ?_) ?_
                      · skip
                        go_simp
                        refine (enc_rd (HT2.out.ext hb5) HG.out HS.out).mono ?_
                        rw [HE.out]
                        rintro e w6 ⟨A2, cc2, rfl, hr2, -, hb6⟩
                        dsimp only
                        refine hK.out _ _ ?_ (fun hHeld => ?_)
                        · try dsimp only
                          all_goals trivial
                        clear hK K
                        refine wpAnyH_ready (rs := [2, 5]) (by kernel_rfl) (by simp) ?_
                        refine AllReadyH.cons (take_list rfl) (fun K hK => ?_) ?_
                        · skip
                          have hcv := HZ.out w6 A1 c1 (hr1.out.ext hb6.out)
                          go_simp
                          clear hcv
                          refine hK.out _ _ ?_ (fun hHeld => ?_)
                          · try dsimp only
                            all_goals trivial
                          clear hK K
                          refine wpAnyH_ready (rs := [5]) (by kernel_rfl) (by simp) ?_
                          refine AllReadyH.cons (take_list rfl) (fun K hK => ?_) ?_
                          · skip
                            have hcv := HZ.out w6 A2 cc2 hr2.out
                            go_simp
                            clear hcv
                            refine hK.out _ _ ?_ (fun hHeld => ?_)
                            · try dsimp only
                              all_goals trivial
                            clear hK K
                            refine wpAnyH_take (i := 6) (v := ?_) (take_list rfl) (by kernel_rfl) (by kernel_rfl) (by kernel_rfl) (fun _ _ _ h => h) (Or.inl ⟨by rfl, ?_⟩) (by assumption) ?_
                            rotate_left
                            · intro w hSw
                              try dsimp only at hSw
                              first | (go_simp; done) | (go_simp; with_reducible rfl)
                            try simp only [Act.put, List.setIfInBounds_toArray, List.set_cons_zero, List.set_cons_succ]
                            refine wpAnyH_take (i := 7) (v := ?_) (take_list rfl) (by kernel_rfl) (by kernel_rfl) (by kernel_rfl) (fun _ _ _ h => h) (Or.inl ⟨by rfl, ?_⟩) (by assumption) ?_
                            rotate_left
                            · intro w hSw
                              try dsimp only at hSw
                              first | (go_simp; done) | (go_simp; with_reducible rfl)
                            try simp only [Act.put, List.setIfInBounds_toArray, List.set_cons_zero, List.set_cons_succ]
                            refine wpAnyH_ready (rs := [8]) (by kernel_rfl) (by simp) ?_
                            refine AllReadyH.cons (take_list rfl) (fun K hK => ?_) ?_
                            · skip
                              go_simp
                              refine (known15_any w6).mono ?_
                              rintro e w7 ⟨rfl, hb7⟩
                              dsimp only
                              refine hK.out _ _ ?_ (fun hHeld => ?_)
                              · try dsimp only
                                all_goals trivial
                              clear hK K
                              refine wpAnyH_take (i := 9) (v := ?_) (take_list rfl) (by kernel_rfl) (by kernel_rfl) (by kernel_rfl) (fun _ _ _ h => h) (Or.inl ⟨by rfl, ?_⟩) (by assumption) ?_
                              rotate_left
                              · intro w hSw
                                try dsimp only at hSw
                                first | (go_simp; done) | (go_simp; with_reducible rfl)
                              try simp only [Act.put, List.setIfInBounds_toArray, List.set_cons_zero, List.set_cons_succ]
                              refine wpAnyH_take (i := 10) (v := ?_) (take_list rfl) (by kernel_rfl) (by kernel_rfl) (by kernel_rfl) (fun _ _ _ h => h) (Or.inl ⟨by rfl, ?_⟩) (by assumption) ?_
                              rotate_left
                              · intro w hSw
                                try dsimp only at hSw
                                first | (go_simp; done) | (go_simp; with_reducible rfl)
                              try simp only [Act.put, List.setIfInBounds_toArray, List.set_cons_zero, List.set_cons_succ]
                              refine wpAnyH_done (by kernel_rfl) ?_ _
                              go_wp2
                              go_ret
                              exact ⟨rfl, ext_trans (ext_trans (ext_trans Hbr.out hb5) hb6.out) hb7⟩
                            exact AllReadyH.nil
                          exact AllReadyH.nil
                        refine AllReadyH.cons (take_list rfl) (fun K hK => ?_) ?_
                        · skip
                          have hcv := HZ.out w6 A2 cc2 hr2.out
                          go_simp
                          clear hcv
                          refine hK.out _ _ ?_ (fun hHeld => ?_)
                          · try dsimp only
                            all_goals trivial
                          clear hK K
                          refine wpAnyH_ready (rs := [2]) (by kernel_rfl) (by simp) ?_
                          refine AllReadyH.cons (take_list rfl) (fun K hK => ?_) ?_
                          · skip
                            have hcv := HZ.out w6 A1 c1 (hr1.out.ext hb6.out)
                            go_simp
                            clear hcv
                            refine hK.out _ _ ?_ (fun hHeld => ?_)
                            · try dsimp only
                              all_goals trivial
                            clear hK K
                            refine wpAnyH_take (i := 6) (v := ?_) (take_list rfl) (by kernel_rfl) (by kernel_rfl) (by kernel_rfl) (fun _ _ _ h => h) (Or.inl ⟨by rfl, ?_⟩) (by assumption) ?_
                            rotate_left
                            · intro w hSw
                              try dsimp only at hSw
                              first | (go_simp; done) | (go_simp; with_reducible rfl)
                            try simp only [Act.put, List.setIfInBounds_toArray, List.set_cons_zero, List.set_cons_succ]
                            refine wpAnyH_take (i := 7) (v := ?_) (take_list rfl) (by kernel_rfl) (by kernel_rfl) (by kernel_rfl) (fun _ _ _ h => h) (Or.inl ⟨by rfl, ?_⟩) (by assumption) ?_
                            rotate_left
                            · intro w hSw
                              try dsimp only at hSw
                              first | (go_simp; done) | (go_simp; with_reducible rfl)
                            try simp only [Act.put, List.setIfInBounds_toArray, List.set_cons_zero, List.set_cons_succ]
                            refine wpAnyH_ready (rs := [8]) (by kernel_rfl) (by simp) ?_
                            refine AllReadyH.cons (take_list rfl) (fun K hK => ?_) ?_
                            · skip
                              go_simp
                              refine (known15_any w6).mono ?_
                              rintro e w7 ⟨rfl, hb7⟩
                              dsimp only
                              refine hK.out _ _ ?_ (fun hHeld => ?_)
                              · try dsimp only
                                all_goals trivial
                              clear hK K
                              refine wpAnyH_take (i := 9) (v := ?_) (take_list rfl) (by kernel_rfl) (by kernel_rfl) (by kernel_rfl) (fun _ _ _ h => h) (Or.inl ⟨by rfl, ?_⟩) (by assumption) ?_
                              rotate_left
                              · intro w hSw
                                try dsimp only at hSw
                                first | (go_simp; done) | (go_simp; with_reducible rfl)
                              try simp only [Act.put, List.setIfInBounds_toArray, List.set_cons_zero, List.set_cons_succ]
                              refine wpAnyH_take (i := 10) (v := ?_) (take_list rfl) (by kernel_rfl) (by kernel_rfl) (by kernel_rfl) (fun _ _ _ h => h) (Or.inl ⟨by rfl, ?_⟩) (by assumption) ?_
                              rotate_left
                              · intro w hSw
                                try dsimp only at hSw
                                first | (go_simp; done) | (go_simp; with_reducible rfl)
                              try simp only [Act.put, List.setIfInBounds_toArray, List.set_cons_zero, List.set_cons_succ]
                              refine wpAnyH_done (by kernel_rfl) ?_ _
                              go_wp2
                              go_ret
                              exact ⟨rfl, ext_trans (ext_trans (ext_trans Hbr.out hb5) hb6.out) hb7⟩
                            exact AllReadyH.nil
                          exact AllReadyH.nil
                        exact AllReadyH.nil
                      exact AllReadyH.nil
                    exact AllReadyH.nil
              exact AllReadyH.nil
            exact AllReadyH.nil
end Go.Proofs.Ytdghbdiapkelnaa
