/-
  Texts of this claim, joined (part 11): contracts and lemmas that the last text goes by. No statement of the seat is proved here.
-/
import Derived.Test.YtdghbdiapkelnaaAll10
import Derived.Test.YtdghbdiapkelnaaAll2
set_option linter.unusedVariables false
set_option linter.unusedSimpArgs false
/-
  TreeStays' walk. No statement of the seat is proved here.
-/
namespace Go.Proofs.Ytdghbdiapkelnaa
open Go Go.RowKit Go.Maps
set_option maxRecDepth 100000

theorem RowO.none_len {w : World} {e : TypeId} {sz m c : Nat} {xs : List Value} (h : RowO w e sz none m c xs) : m = 0 := by
  rcases h.2 with ⟨_, h, _⟩ | ⟨_, _, _, e, _⟩
  · exact h
  · cases e
theorem tmpl_short {t : Tr} (h : Good t) (g : Nat) : (tmpl t g).length ≤ 1000000 := by
  unfold tmpl
  split
  · simp
  · rw [List.getD_eq_getElem?_getD]
    cases hx : t.ts[g - 1]? with
    | none => exact Nat.zero_le _
    | some p => have := (h.long p (List.mem_of_getElem? hx)).2; simp; omega
/-- copies of the first m templates in memory, in blocks of U -/
structure Was (U : Nat → Prop) (w : World) (t : Tr) (m : Nat) (A : Option Addr) (c : Nat) : Prop where
  row : ∃ xs, RowO w 39 1 A m c xs ∧ ∀ j, j < m → ∃ B e, xs[j]? = some (.slice B (tmpl t j).length e) ∧ RowO w 72 2 B (tmpl t j).length e (cellsP (tmpl t j)) ∧ ∀ k, inA B k → U k
  sA : ∀ k, inA A k → U k
  lt : ∀ k, U k → k < w.heap.size
section
variable {U T : Nat → Prop} {w w' : World} {t u : Tr} {m c : Nat} {A : Option Addr}
theorem Was.none_ (w : World) (t : Tr) : Was (fun _ => False) w t 0 none 0 := ⟨⟨[], RowO.none_ _ _ _, fun j hj => absurd hj (Nat.not_lt_zero _)⟩, fun k hk => absurd hk (inA_none k), fun _ h => h.elim⟩
theorem Was.only (h : Was U w t m A c) (ho : Only T w w') (hn : ∀ k, U k → ¬ T k) : Was U w' t m A c := by
  obtain ⟨⟨xs, h1, h2⟩, h3, h4⟩ := h
  refine ⟨⟨xs, h1.only ho (fun k hk => hn k (h3 k hk)), fun j hj => ?_⟩, h3, fun k hk => Nat.lt_of_lt_of_le (h4 k hk) ho.size⟩
  obtain ⟨B, e, q1, q2, q3⟩ := h2 j hj
  exact ⟨B, e, q1, q2.only ho (fun k hk => hn k (q3 k hk)), q3⟩
theorem Was.ext (h : Was U w t m A c) (hb : Below w.heap.size w w') : Was U w' t m A c := h.only (Only.of_ext (S := fun _ => False) hb) (fun _ _ h => h)
theorem Was.turn (h : Was U w t m A c) (he : ∀ j, j < m → tmpl u j = tmpl t j) : Was U w u m A c := by
  obtain ⟨⟨xs, h1, h2⟩, h3, h4⟩ := h
  exact ⟨⟨xs, h1, fun j hj => by rw [he j hj]; exact h2 j hj⟩, h3, h4⟩
theorem Was.le (h : Was U w t m A c) : m ≤ c ∧ c ≤ maxLen := by
  obtain ⟨⟨xs, h1, _⟩, _, _⟩ := h
  exact ⟨h1.le, h1.max⟩
theorem Was.at_ (h : Was U w t m A c) {k : Nat} (hk : k < m) : ∃ gA oA B e, A = some ⟨gA, oA, none⟩ ∧ w.cell? ⟨gA, oA + k, none⟩ = some (.slice B (tmpl t k).length e) ∧ PartsAt w B (tmpl t k) := by
  obtain ⟨⟨xs, h1, h2⟩, h3, h4⟩ := h
  obtain ⟨B, e, q1, q2, q3⟩ := h2 k hk
  obtain ⟨gA, oA, hA⟩ := h1.addr (by omega)
  obtain ⟨ad, ea, hc⟩ := h1.rd k _ q1
  rw [hA] at ea
  injection ea with ea
  rw [← ea, Addr.add_mid] at hc
  exact ⟨gA, oA, B, e, hA, hc, parts_row q2⟩
/-- one more copy -/
theorem Was.snoc {w1 w2 w3 : World} {xs : List Value} {B A' : Option Addr} {e c' : Nat} (h1 : RowO w 39 1 A m c xs) (h2 : ∀ j, j < m → ∃ B e, xs[j]? = some (.slice B (tmpl t j).length e) ∧ RowO w 72 2 B (tmpl t j).length e (cellsP (tmpl t j)) ∧ ∀ k, inA B k → U k) (h3 : ∀ k, inA A k → U k) (h4 : ∀ k, U k → k < w.heap.size)
    (hb1 : Below w.heap.size w w1) (hb2 : Below w1.heap.size w1 w2) (hp : RowO w1 72 2 B (tmpl t m).length e (cellsP (tmpl t m))) (hpn : ∀ k, inA B k → w.heap.size ≤ k)
    (hr : RowO w3 39 1 A' (m + 1) c' (xs ++ [.slice B (tmpl t m).length e])) (ho : Only (inA A) w2 w3) (hA : ∀ k, inA A' k → inA A k ∨ (w2.heap.size ≤ k ∧ k < w3.heap.size)) :
    Was (fun k => U k ∨ (w.heap.size ≤ k ∧ k < w3.heap.size)) w3 t (m + 1) A' c' := by
  have s1 := hb1.size
  have s2 := hb2.size
  have s3 := ho.size
  have hxl : xs.length = m := by have := h1.1; omega
  have hne : ∀ k, inA B k → ¬ inA A k := fun k hk hk2 => by have := h4 k (h3 k hk2); have := hpn k hk; omega
  refine ⟨⟨_, hr, fun j hj => ?_⟩, fun k hk => ?_, fun k hk => ?_⟩
  · by_cases hjm : j < m
    · obtain ⟨B2, e2, q1, q2, q3⟩ := h2 j hjm
      refine ⟨B2, e2, by rw [List.getElem?_append_left (by omega)]; exact q1, ((q2.ext hb1).ext hb2).only ho (fun k hk => q2.ne_rowT h1 (by decide) k hk), fun k hk => .inl (q3 k hk)⟩
    · obtain rfl : j = m := by omega
      refine ⟨B, e, by rw [List.getElem?_append_right (by omega), hxl]; simp, (hp.ext hb2).only ho hne, fun k hk => .inr ⟨hpn k hk, ?_⟩⟩
      have := hp.lt hk
      omega
  · rcases hA k hk with hk | hk
    · exact .inl (h3 k hk)
    · exact .inr (by omega)
  · rcases hk with hk | hk
    · have := h4 k hk; omega
    · exact hk.2
end
set_option maxHeartbeats 6000000 in
theorem stays_walk (A : Option Addr) (c : Nat) (l : List (List Tok)) (w : World) (h : RowR IsTks 1 w A l) (hl : l.length ≤ maxLen) (hz : ∀ r ∈ l, ∀ t ∈ r, t.text.length ≤ 140737488355328) :
    Calls Try.prog 5 #[.slice A l.length c] w fun e w' => e = .returned (.bool true) ∧ Below w.heap.size w w' := by
  have HR := Lib.hid h
  have HH := Lib.hid (heavyT_any A c l w h hl hz)
  unfold maxLen at hl
  have hli : (l.length : Int) ≤ 9223372036854775807 := by omega
  have HN := Lib.hid (new_any w)
  clear h hl hz
  go_enter Try.func5, Try.ntmps5
  go_wp2_with fail
  refine HH.out.mono ?_
  rintro e w0 ⟨r, rfl, hw, hlt⟩
  subst hw
  have HL1 : Hid (r = false → ∀ i (hi : i < l.length), i < 120 → sumT l[i] l[i].length ≤ 6000) := Lib.hid hlt
  clear hlt HH
  cases r
  case true =>
    go_wp2
    go_ret
    exact ⟨rfl, Below.refl _ _⟩
  case false =>
    have HLt : Hid (∀ i (hi : i < l.length), i < 120 → sumT l[i] l[i].length ≤ 6000) := Lib.hid (HL1.out rfl)
    clear HL1
    go_wp2_with fail
    refine HN.out.mono ?_
    rintro e w1 ⟨g, rfl, hT, hb, hg⟩
    have HT := Lib.hid hT
    have Hb := Lib.hid hb
    have Hg := Lib.hid hg
    clear hT hb hg HN
    go_wp2
    go_loopw [4, 5] (fun s i wr => ∃ (k m cA : Nat) (WA : Option Addr), k ≤ l.length ∧ k ≤ 120 ∧ i = .int .i64 (k : Int) ∧ s = .slice WA m cA ∧ ∃ (T U : Nat → Prop) (t : Tr), Hid (TrIn T wr g t) ∧ Hid (Good t) ∧ Hid (∀ j, T j → w.heap.size ≤ j) ∧ Hid (Below w.heap.size w wr) ∧ Hid (Was U wr t m WA cA) ∧ Hid (∀ j, U j → w.heap.size ≤ j ∧ ¬ T j) ∧ Hid (m ≤ t.ts.length + 1)) (fun _ i _ => l.length - (intOf i).toNat)
    case atStart => exact ⟨0, 0, 0, none, Nat.zero_le _, Nat.zero_le _, rfl, rfl, _, _, _, HT, Lib.hid Good.new, Lib.hid (fun j hj => by rw [hj]; exact Hg.out), Hb, Lib.hid (Was.none_ _ _), Lib.hid (fun _ h => h.elim), Lib.hid (Nat.zero_le _)⟩
    case round =>
      obtain ⟨k, m, cA, WA, hk, hk120, rfl, rfl, T, U, t, HTr, HG, HTs, Hbr, HWs, HUs, HM⟩ := hrel
      by_cases hlt : k < l.length
      · have hki : (k : Int) < (l.length : Int) := by omega
        by_cases h120 : k < 120
        · have hk1 : (k : Int) < 120 := by omega
          obtain ⟨g2, o2, B, cb, rfl, u0, ht, hm1, hm2⟩ := row_toks HR.out hlt
          unfold maxLen at hm2
          have hmi : (l[k].length : Int) ≤ 9223372036854775807 := by omega
          have u1 : wr.cell? ⟨g2, o2 + k, none⟩ = some (.slice B l[k].length cb) := (World.cell?_of_block (Hbr.out.block _ (World.block_lt_of_cell? w _ u0))).trans u0
          have HA := Lib.hid (asg_step cb HTr.out HG.out HTs.out Hbr.out ht (HLt.out k hlt h120))
          have HG2 := Lib.hid (HG.out.step l[k])
          have HWt : Hid (Was U wr (numT t l[k]).1 m WA cA) := Lib.hid (HWs.out.turn (fun j hj => numT_tmpl t l[k] (by have := HM.out; omega)))
          have HM2 : Hid (m ≤ (numT t l[k]).1.ts.length + 1) := Lib.hid (by
            have := HM.out
            rcases numT_grows t l[k] with h | ⟨p, h⟩
            · rw [h]; exact this
            · rw [h, List.length_append]; omega)
          clear u0 ht hm1 hm2 HG HTs HWs HM
          generalize varsT t l[k] = vs at *
          generalize numT t l[k] = ni at *
          obtain ⟨t2, id⟩ := ni
          dsimp only at HA HG2 HWt HM2
          generalize l[k] = ts at *
          go_wp2_with fail
          refine HA.out.mono ?_
          rintro e w2 ⟨T2, V, cv, rfl, HT2, HTs2, HV, HVn, Hb2, HO2, HTn⟩
          have HW2 : Hid (Was U w2 t2 m WA cA) := Lib.hid (HWt.out.only HO2.out (fun j hj => (HUs.out j hj).2))
          have HU2 : Hid (∀ j, U j → w.heap.size ≤ j ∧ ¬ T2 j) := Lib.hid (fun j hj => ⟨(HUs.out j hj).1, fun h2 => by
            rcases HTn.out j h2 with h3 | h3
            · exact (HUs.out j hj).2 h3
            · have := HWt.out.lt j hj; omega⟩)
          have HLe : Hid (t2.ts.length ≤ 63 ∧ t2.lv.length ≤ 32) := Lib.hid ⟨HG2.out.ids, HG2.out.lvs⟩
          have hn2 : (t2.ts.length : Int) + 1 ≤ 64 := by have := HLe.out; omega
          have hl2 : (t2.lv.length : Int) ≤ 32 := by have := HLe.out; omega
          clear HA HV HVn HO2 HTn HWt HUs u1
          go_wp2
          go_loopw [4, 6] (fun s i wr => ∃ (q m cA : Nat) (WA : Option Addr), q ≤ m ∧ i = .int .i64 (q : Int) ∧ s = .slice WA m cA ∧ ∃ (U : Nat → Prop), Hid (TrIn T2 wr g t2) ∧ Hid (Below w.heap.size w wr) ∧ Hid (Was U wr t2 m WA cA) ∧ Hid (∀ j, U j → w.heap.size ≤ j ∧ ¬ T2 j) ∧ m ≤ t2.ts.length + 1) (fun _ i _ => t2.ts.length + 1 - (intOf i).toNat)
          case atStart => exact ⟨0, m, cA, WA, Nat.zero_le _, rfl, rfl, U, HT2, Hb2, HW2, HU2, HM2.out⟩
          case round =>
            obtain ⟨q, m, cA, WA, hqm, rfl, rfl, U, HT3, Hb3, HW3, HU3, hm3⟩ := hrel
            have HLn : Hid (∀ W, Below wr.heap.size wr W → Calls Try.prog 22 #[.pointer (some ⟨g, 0, none⟩)] W fun e w' => e = .returned (.int .i64 ((t2.ts.length : Int) + 1)) ∧ w' = W) := Lib.hid (fun W hW => len_any (HT3.out.ext hW) (by have := HLe.out; omega))
            have HLv : Hid (Calls Try.prog 24 #[.pointer (some ⟨g, 0, none⟩)] wr fun e w' => e = .returned (.int .i64 (t2.lv.length : Int)) ∧ w' = wr) := Lib.hid (leaves_any HT3.out)
            have hmi : (m : Int) ≤ 64 := by omega
            by_cases hq : q < t2.ts.length + 1
            · have hqi : (q : Int) < (t2.ts.length : Int) + 1 := by omega
              have HTm := Lib.hid (template_any HT3.out HG2.out (id := q) (by omega))
              have HP1 : Hid ((tmpl t2 q).length ≤ 1000000) := Lib.hid (tmpl_short HG2.out q)
              go_wp2_with fail
              refine (HLn.out _ (Below.refl _ _)).mono ?_
              rintro e w4 ⟨rfl, hw4⟩
              have hw4 := hw4.symm
              subst hw4
              go_wp2_with fail
              refine HTm.out.mono ?_
              rintro e w5 ⟨B5, c5, rfl, hN5⟩
              have HB5 := Lib.hid hN5.bel
              have HT5 := Lib.hid (HT3.out.ext hN5.bel)
              by_cases hqm2 : q < m
              · have hqm3 : (q : Int) < (m : Int) := by omega
                obtain ⟨gA, oA, B6, e6, rfl, hc, hP6⟩ := (HW3.out.ext hN5.bel).at_ hqm2
                have HSm : Hid (Calls Try.prog 23 #[.slice B5 (tmpl t2 q).length c5, .slice B6 (tmpl t2 q).length e6] w5 fun e w' => e = .returned (.bool true) ∧ Below w5.heap.size w5 w') := Lib.hid ((rsame_any B5 _ c5 (tmpl t2 q) B6 _ e6 (tmpl t2 q) w5 rfl rfl (parts_new hN5) hP6 HP1.out HP1.out).mono (fun e w' ⟨h1, h2⟩ => ⟨by rw [h1, decide_eq_true rfl], h2⟩))
                have HWx := Lib.hid (HW3.out.ext hN5.bel)
                have hle := HW3.out.le
                unfold maxLen at hle
                clear hN5 hP6
                generalize tmpl t2 q = P at *
                go_wp2_with fail
                refine HSm.out.mono ?_
                rintro e w6 ⟨rfl, hb6⟩
                have HT6 := Lib.hid (HT5.out.ext hb6)
                have HW6 := Lib.hid (HWx.out.ext hb6)
                have HB6 := Lib.hid (ext_trans (ext_trans Hb3.out HB5.out) hb6)
                clear hb6 hc
                go_wp2
                go_roundw
                case rel => exact ⟨q + 1, m, cA, _, by omega, by go_num, rfl, U, HT6, HB6, HW6, HU3, hm3⟩
                case measure => simp [intOf]; omega
              · obtain rfl : q = m := by omega
                have hqm3 : ¬ (q : Int) < (q : Int) := by omega
                obtain ⟨⟨xs, h1, h2⟩, h3, h4⟩ := HW3.out
                have H1 := Lib.hid h1
                have H2 := Lib.hid h2
                have H3 := Lib.hid h3
                have H4 := Lib.hid h4
                have HN5 := Lib.hid hN5
                obtain ⟨P, hP⟩ : ∃ P, P = tmpl t2 q := ⟨_, rfl⟩
                have HP := Lib.hid hP
                rw [← hP] at HN5 HP1
                rw [← hP]
                have hpl : P.length ≤ 1000000 := HP1.out
                have hp1 : 0 + P.length ≤ maxLen := by unfold maxLen; omega
                have hp2 : (0 + P.length) * 24 ≤ 140737488355328 := by omega
                have hp3 : q + 1 ≤ maxLen := by unfold maxLen; omega
                have hp4 : (q + 1) * 24 ≤ 140737488355328 := by omega
                clear h1 h2 h3 h4 hN5 hP HTm HW3
                go_wp2_with (first
                  | (at_builtin
                     refine wpList_appO _ rfl (.tmp 64) (.tmp 65) _ rfl 72 _ 2 24 Try.underlying39 info_part rfl (some ⟨w5.heap.size, 0, none⟩) 0 0 [] rfl (RowO.lit w5 72 2 0 #[] rfl (Nat.zero_le _) rfl) B5 P.length c5 (cellsP P) rfl (cellsP_len P) ((parts_new HN5.out).rd.ext (ext_alloc (Below.refl _ _) _)) (cellsP_one P) (by intro h; subst h; exact HN5.out.row.none_len) hp1 hp2 ?_
                     intro A7 c7 w7 hr7 ho7 hA7
                     have HR7 := Lib.hid hr7
                     have hb7 : Below w5.heap.size w5 w7 := (ext_alloc (Below.refl _ _) _ : Below w5.heap.size w5 (w5.alloc (.cells #[] 72))).trans (ho7.below (fun k hk => by rw [inA_some] at hk; omega) (by rw [World.size_alloc]; exact Nat.le_succ _))
                     have HB7 := Lib.hid hb7
                     have HA7 : Hid (∀ k, inA A7 k → w5.heap.size ≤ k) := Lib.hid (fun k hk => by
                       rcases hA7 k hk with h | h
                       · rw [inA_some] at h; omega
                       · rw [World.size_alloc] at h; omega)
                     rw [List.nil_append, Nat.zero_add] at HR7
                     clear hr7 ho7 hA7 hb7
                     rw [Nat.zero_add])
                  | (at_builtin
                     refine wpList_appO _ rfl (.tmp 63) (.tmp 67) _ rfl 39 _ 1 24 Try.underlying45 info_tmpl rfl WA q cA xs rfl (((H1.out.ext HB5.out).ext HB7.out).ext (ext_alloc (Below.refl _ _) _)) (some ⟨w7.heap.size, 0, none⟩) 1 1 [.slice A7 P.length c7] rfl rfl (Rd.lit_at _ #[.slice A7 P.length c7] _ rfl) (by intro u hu; simp at hu; subst hu; rfl) (by intro h; cases h) hp3 hp4 ?_
                     intro A8 c8 w8 hr8 ho8 hA8
                     have hb8 : Below w7.heap.size w7 (w7.alloc (.cells #[.slice A7 P.length c7] 39)) := ext_alloc (Below.refl _ _) _
                     have hb78 := ext_trans (ext_trans HB5.out HB7.out) hb8
                     have HT8 : Hid (TrIn T2 w8 g t2) := Lib.hid ((HT3.out.ext hb78).only ho8 (fun k hk hk2 => (HU3.out k (H3.out k hk2)).2 hk))
                     have HW8 : Hid (Was (fun k => U k ∨ (wr.heap.size ≤ k ∧ k < w8.heap.size)) w8 t2 (q + 1) A8 c8) := Lib.hid (by
                       have hr7 := HR7.out
                       have hr8' := hr8
                       rw [HP.out] at hr7 hr8'
                       exact Was.snoc H1.out H2.out H3.out H4.out (ext_trans HB5.out HB7.out) hb8 hr7 (fun k hk => Nat.le_trans HB5.out.size (HA7.out k hk)) hr8' ho8 hA8)
                     have HU8 : Hid (∀ j, (U j ∨ (wr.heap.size ≤ j ∧ j < w8.heap.size)) → w.heap.size ≤ j ∧ ¬ T2 j) := Lib.hid (fun j hj => by
                       rcases hj with hj | hj
                       · exact HU3.out j hj
                       · refine ⟨Nat.le_trans Hb3.out.size hj.1, fun h => ?_⟩
                         obtain ⟨A, c, xs, R, d, ys, M, h9⟩ := HT3.out
                         have := h9.lt _ h
                         omega)
                     have HB8 : Hid (Below w.heap.size w w8) := Lib.hid ((ext_trans Hb3.out hb78).trans (ho8.below (fun k hk => (HU3.out k (H3.out k hk)).1) (ext_trans Hb3.out hb78).size))
                     clear hr8 ho8 hA8 hb8 hb78))
                go_roundw
                case rel => exact ⟨q + 1, q + 1, c8, A8, Nat.le_refl _, by go_num, rfl, _, HT8, HB8, HW8, HU8, by omega⟩
                case measure => simp [intOf]; omega
            · have hqi : ¬ (q : Int) < (t2.ts.length : Int) + 1 := by omega
              have h64 : ¬ (64 : Int) < (t2.ts.length : Int) + 1 := by omega
              have h32 : ¬ (32 : Int) < (t2.lv.length : Int) := by omega
              have HM9 : Hid (m ≤ t2.ts.length + 1) := Lib.hid hm3
              go_wp2_with fail
              refine (HLn.out _ (Below.refl _ _)).mono ?_
              rintro e w4 ⟨rfl, hw4⟩
              have hw4 := hw4.symm
              subst hw4
              go_wp2_with fail
              refine (HLn.out _ (Below.refl _ _)).mono ?_
              rintro e w4 ⟨rfl, hw4⟩
              have hw4 := hw4.symm
              subst hw4
              go_wp2_with fail
              refine HLv.out.mono ?_
              rintro e w4 ⟨rfl, hw4⟩
              have hw4 := hw4.symm
              subst hw4
              go_wp2
              go_roundw
              case rel => exact ⟨k + 1, m, cA, WA, by omega, by omega, by go_num, rfl, T2, U, t2, HT3, HG2, HTs2, Hb3, HW3, HU3, HM9⟩
              case measure => simp [intOf]; omega
        · have hk1 : ¬ (k : Int) < 120 := by omega
          have HK := Lib.hid (known15_any wr)
          go_wp2_with fail
          refine HK.out.mono ?_
          rintro e w' ⟨rfl, hb⟩
          go_wp2
          go_ret
          exact ⟨rfl, ext_trans Hbr.out hb⟩
      · obtain rfl : k = l.length := by omega
        have HK := Lib.hid (known15_any wr)
        go_wp2_with fail
        refine HK.out.mono ?_
        rintro e w' ⟨rfl, hb⟩
        go_wp2
        go_ret
        exact ⟨rfl, ext_trans Hbr.out hb⟩
end Go.Proofs.Ytdghbdiapkelnaa

/-
  TreeRenders' walk. No statement of the seat is proved here.
-/
namespace Go.Proofs.Ytdghbdiapkelnaa
open Go Go.RowKit Go.Maps
set_option maxRecDepth 100000

/-- what rows were assigned, in memory, in blocks of U -/
structure All (U : Nat → Prop) (w : World) (ps : List (Nat × List (List UInt8))) (A : Option Addr) (c : Nat) : Prop where
  row : ∃ xs, RowO w 31 2 A ps.length c xs ∧ ∀ j (h : j < ps.length), ∃ V e, xs[j * 2]? = some (.int .i64 (ps[j].1 : Int)) ∧ xs[j * 2 + 1]? = some (.slice V ps[j].2.length e) ∧ RowO w 9 1 V ps[j].2.length e (ps[j].2.map strV) ∧ ∀ k, inA V k → U k
  sA : ∀ k, inA A k → U k
  lt : ∀ k, U k → k < w.heap.size
section
variable {U T : Nat → Prop} {w w' : World} {ps : List (Nat × List (List UInt8))} {c : Nat} {A : Option Addr}
theorem All.none_ (w : World) : All (fun _ => False) w [] none 0 := ⟨⟨[], RowO.none_ _ _ _, fun j hj => absurd hj (Nat.not_lt_zero _)⟩, fun k hk => absurd hk (inA_none k), fun _ h => h.elim⟩
theorem All.only (h : All U w ps A c) (ho : Only T w w') (hn : ∀ k, U k → ¬ T k) : All U w' ps A c := by
  obtain ⟨⟨xs, h1, h2⟩, h3, h4⟩ := h
  refine ⟨⟨xs, h1.only ho (fun k hk => hn k (h3 k hk)), fun j hj => ?_⟩, h3, fun k hk => Nat.lt_of_lt_of_le (h4 k hk) ho.size⟩
  obtain ⟨B, e, q1, q2, q3, q4⟩ := h2 j hj
  exact ⟨B, e, q1, q2, q3.only ho (fun k hk => hn k (q4 k hk)), q4⟩
theorem All.ext (h : All U w ps A c) (hb : Below w.heap.size w w') : All U w' ps A c := h.only (Only.of_ext (S := fun _ => False) hb) (fun _ _ h => h)
theorem All.at_ (h : All U w ps A c) {k : Nat} (hk : k < ps.length) : ∃ gA oA V e, A = some ⟨gA, oA, none⟩ ∧ w.cell? ⟨gA, oA + k * 2, none⟩ = some (.int .i64 (ps[k].1 : Int)) ∧ w.cell? ⟨gA, oA + k * 2 + 1, none⟩ = some (.slice V ps[k].2.length e) ∧ Rd w V (ps[k].2.map strV) := by
  obtain ⟨⟨xs, h1, h2⟩, h3, h4⟩ := h
  obtain ⟨V, e, q1, q2, q3, q4⟩ := h2 k hk
  obtain ⟨gA, oA, hA⟩ := h1.addr (by omega)
  have key : ∀ i u, xs[i]? = some u → w.cell? ⟨gA, oA + i, none⟩ = some u := fun i u hu => by
    obtain ⟨ad, ea, hc⟩ := h1.rd i u hu
    rw [hA] at ea
    injection ea with ea
    rw [← ea, Addr.add_mid] at hc
    exact hc
  exact ⟨gA, oA, V, e, hA, key _ _ q1, by have := key _ _ q2; rwa [← Nat.add_assoc] at this, q3.rd⟩
/-- one more -/
theorem All.snoc {w1 w2 w3 : World} {xs : List Value} {V A' : Option Addr} {e c' id : Nat} {vs : List (List UInt8)} (h1 : RowO w 31 2 A ps.length c xs) (h2 : ∀ j (h : j < ps.length), ∃ V e, xs[j * 2]? = some (.int .i64 (ps[j].1 : Int)) ∧ xs[j * 2 + 1]? = some (.slice V ps[j].2.length e) ∧ RowO w 9 1 V ps[j].2.length e (ps[j].2.map strV) ∧ ∀ k, inA V k → U k) (h3 : ∀ k, inA A k → U k) (h4 : ∀ k, U k → k < w.heap.size)
    (ho1 : Only T w w1) (hn : ∀ k, U k → ¬ T k) (hb2 : Below w1.heap.size w1 w2) (hp : RowO w1 9 1 V vs.length e (vs.map strV)) (hpn : ∀ k, inA V k → w.heap.size ≤ k)
    (hr : RowO w3 31 2 A' (ps.length + 1) c' (xs ++ [.int .i64 (id : Int), .slice V vs.length e])) (ho : Only (inA A) w2 w3) (hA : ∀ k, inA A' k → inA A k ∨ (w2.heap.size ≤ k ∧ k < w3.heap.size)) :
    All (fun k => U k ∨ inA V k ∨ (w1.heap.size ≤ k ∧ k < w3.heap.size)) w3 (ps ++ [(id, vs)]) A' c' := by
  have s1 := ho1.size
  have s2 := hb2.size
  have s3 := ho.size
  have hxl : xs.length = ps.length * 2 := h1.1
  have hne : ∀ k, inA V k → ¬ inA A k := fun k hk hk2 => by have := h4 k (h3 k hk2); have := hpn k hk; omega
  refine ⟨⟨_, by rw [List.length_append]; exact hr, fun j hj => ?_⟩, fun k hk => ?_, fun k hk => ?_⟩
  · by_cases hjm : j < ps.length
    · obtain ⟨B2, e2, q1, q2, q3, q4⟩ := h2 j hjm
      rw [List.getElem_append_left hjm]
      exact ⟨B2, e2, by rw [List.getElem?_append_left (by omega)]; exact q1, by rw [List.getElem?_append_left (by omega)]; exact q2, ((q3.only ho1 (fun k hk => hn k (q4 k hk))).ext hb2).only ho (fun k hk => q3.ne_rowT h1 (by decide) k hk), fun k hk => .inl (q4 k hk)⟩
    · have hj2 : j = ps.length := by rw [List.length_append, List.length_singleton] at hj; omega
      subst hj2
      rw [List.getElem_append_right (Nat.le_refl _)]
      simp only [Nat.sub_self, List.getElem_cons_zero]
      exact ⟨V, e, by rw [List.getElem?_append_right (by omega), hxl]; simp, by rw [List.getElem?_append_right (by omega), hxl]; simp, (hp.ext hb2).only ho hne, fun k hk => .inr (.inl hk)⟩
  · rcases hA k hk with hk | hk
    · exact .inl (h3 k hk)
    · exact .inr (.inr (by omega))
  · rcases hk with hk | hk | hk
    · have := h4 k hk; omega
    · have := hp.lt hk; omega
    · exact hk.2
end
theorem info_asgd : (Try.prog.info? 31).map (fun i => (i.zero, i.size, i.bytes)) = some (some (.agg #[.int .i64 0, .slice none 0 0]), 2, 32) := by kernel_rfl
/-- what was assigned renders as the rows -/
def Rends (t : Tr) (l : List (List Tok)) (ps : List (Nat × List (List UInt8))) : Prop := ∀ j (h : j < ps.length) (hl : j < l.length), ps[j].1 ≤ t.ts.length ∧ rendS (tmpl t ps[j].1) ps[j].2 = joinL l[j] ∧ rendE (tmpl t ps[j].1) ps[j].2 = 0 ∧ (renderL (tmpl t ps[j].1) ps[j].2).length ≤ 6000 ∧ ps[j].2.length ≤ 1000000
theorem numT_le (t : Tr) (l : List Tok) : t.ts.length ≤ (numT t l).1.ts.length := by
  rcases numT_grows t l with h | ⟨p, h⟩
  · rw [h]; exact Nat.le_refl _
  · rw [h, List.length_append]; omega
theorem wildN_le : ∀ l : List Prt, wildN l ≤ l.length := fun l => by
  unfold wildN
  exact List.countP_le_length
theorem Rends.step {t : Tr} (hG : Good t) {l : List (List Tok)} {ps : List (Nat × List (List UInt8))} (h : Rends t l ps) (hk : ps.length < l.length) (hs : sumT l[ps.length] l[ps.length].length ≤ 6000) : Rends (numT t l[ps.length]).1 l (ps ++ [((numT t l[ps.length]).2, varsT t l[ps.length])]) := fun j hj hl => by
  by_cases hjm : j < ps.length
  · rw [List.getElem_append_left hjm]
    obtain ⟨h1, h2, h3, h4, h5⟩ := h j hjm hl
    rw [numT_tmpl t _ h1]
    exact ⟨Nat.le_trans h1 (numT_le _ _), h2, h3, h4, h5⟩
  · have hj2 : j = ps.length := by rw [List.length_append, List.length_singleton] at hj; omega
    subst hj2
    rw [List.getElem_append_right (Nat.le_refl _)]
    simp only [Nat.sub_self, List.getElem_cons_zero]
    obtain ⟨r1, r2⟩ := numT_renders hG l[ps.length]
    have hj := (light_ok hs).2.1
    have ht := tmpl_short (hG.step l[ps.length]) (numT t l[ps.length]).2
    have hw := wildN_le (tmpl (numT t l[ps.length]).1 (numT t l[ps.length]).2)
    refine ⟨(numT_fits hG _).1, ?_, ?_, by rw [r1]; exact hj, by omega⟩
    · unfold rendS
      rw [if_pos r2]
      exact r1
    · unfold rendE
      rw [if_pos r2]

set_option maxHeartbeats 6000000 in
theorem renders_walk (A : Option Addr) (c : Nat) (l : List (List Tok)) (w : World) (h : RowR IsTks 1 w A l) (hl : l.length ≤ maxLen) (hz : ∀ r ∈ l, ∀ t ∈ r, t.text.length ≤ 140737488355328) :
    Calls Try.prog 4 #[.slice A l.length c] w fun e w' => e = .returned (.bool true) ∧ Below w.heap.size w w' := by
  have HR := Lib.hid h
  have HH := Lib.hid (heavyT_any A c l w h hl hz)
  unfold maxLen at hl
  have hli : (l.length : Int) ≤ 9223372036854775807 := by omega
  have HN := Lib.hid (new_any w)
  clear h hl hz
  go_enter Try.func4, Try.ntmps4
  go_wp2_with fail
  refine HH.out.mono ?_
  rintro e w0 ⟨r, rfl, hw, hlt⟩
  subst hw
  have HL1 : Hid (r = false → ∀ i (hi : i < l.length), i < 120 → sumT l[i] l[i].length ≤ 6000) := Lib.hid hlt
  clear hlt HH
  cases r
  case true =>
    go_wp2
    go_ret
    exact ⟨rfl, Below.refl _ _⟩
  case false =>
    have HLt : Hid (∀ i (hi : i < l.length), i < 120 → sumT l[i] l[i].length ≤ 6000) := Lib.hid (HL1.out rfl)
    clear HL1
    go_wp2_with fail
    refine HN.out.mono ?_
    rintro e w1 ⟨g, rfl, hT, hb, hg⟩
    have HT := Lib.hid hT
    have Hb := Lib.hid hb
    have Hg := Lib.hid hg
    clear hT hb hg HN
    go_wp2
    go_loopw [4, 5] (fun s i wr => ∃ (ps : List (Nat × List (List UInt8))) (cA : Nat) (WA : Option Addr), ps.length ≤ l.length ∧ ps.length ≤ 120 ∧ i = .int .i64 (ps.length : Int) ∧ s = .slice WA ps.length cA ∧ ∃ (T U : Nat → Prop) (t : Tr), Hid (TrIn T wr g t) ∧ Hid (Good t) ∧ Hid (∀ j, T j → w.heap.size ≤ j) ∧ Hid (Below w.heap.size w wr) ∧ Hid (All U wr ps WA cA) ∧ Hid (∀ j, U j → w.heap.size ≤ j ∧ ¬ T j) ∧ Hid (Rends t l ps)) (fun _ i _ => l.length - (intOf i).toNat)
    case atStart => exact ⟨[], 0, none, Nat.zero_le _, Nat.zero_le _, rfl, rfl, _, _, _, HT, Lib.hid Good.new, Lib.hid (fun j hj => by rw [hj]; exact Hg.out), Hb, Lib.hid (All.none_ _), Lib.hid (fun _ h => h.elim), Lib.hid (fun j hj => absurd hj (Nat.not_lt_zero _))⟩
    case round =>
      obtain ⟨ps, cA, WA, hk, hk120, rfl, rfl, T, U, t, HTr, HG, HTs, Hbr, HAl, HUs, HRe⟩ := hrel
      obtain ⟨w5, hw5⟩ : ∃ w5, w5 = wr := ⟨_, rfl⟩
      have HKl : Hid (ps.length ≤ l.length) := Lib.hid hk
      have HK1 : Hid (ps.length ≤ 120) := Lib.hid hk120
      by_cases hlt : ps.length < l.length
      · have hki : (ps.length : Int) < (l.length : Int) := by omega
        by_cases h120 : ps.length < 120
        · have hk1 : (ps.length : Int) < 120 := by omega
          obtain ⟨g2, o2, B, cb, rfl, u0, ht, hm1, hm2⟩ := row_toks HR.out hlt
          unfold maxLen at hm2
          have hmi : (l[ps.length].length : Int) ≤ 9223372036854775807 := by omega
          have u1 : wr.cell? ⟨g2, o2 + ps.length, none⟩ = some (.slice B l[ps.length].length cb) := (World.cell?_of_block (Hbr.out.block _ (World.block_lt_of_cell? w _ u0))).trans u0
          have HA := Lib.hid (asg_step cb HTr.out HG.out HTs.out Hbr.out ht (HLt.out _ hlt h120))
          have HG2 := Lib.hid (HG.out.step l[ps.length])
          have HRe2 := Lib.hid (HRe.out.step HG.out hlt (HLt.out _ hlt h120))
          obtain ⟨⟨xs, h1, h2⟩, h3, h4⟩ := HAl.out
          have H1 := Lib.hid h1
          have H2 := Lib.hid h2
          have H3 := Lib.hid h3
          have H4 := Lib.hid h4
          clear u0 ht hm1 hm2 HG HTs HRe HAl h1 h2 h3 h4 hw5
          generalize varsT t l[ps.length] = vs at *
          generalize numT t l[ps.length] = ni at *
          obtain ⟨t2, id⟩ := ni
          dsimp only at HA HG2 HRe2
          generalize l[ps.length] = ts at *
          have hp1 : ps.length + 1 ≤ maxLen := by unfold maxLen; omega
          have hp2 : (ps.length + 1) * 32 ≤ 140737488355328 := by omega
          go_wp2_with fail
          refine HA.out.mono ?_
          rintro e w2 ⟨T2, V, cv, rfl, HT2, HTs2, HV, HVn, Hb2, HO2, HTn⟩
          clear HA u1
          go_wp2_with (
            at_builtin
            refine wpList_appO _ rfl (.tmp 26) (.tmp 33) _ rfl 31 _ 2 32 Try.underlying37 info_asgd rfl WA ps.length cA xs rfl ((H1.out.only HO2.out (fun k hk => (HUs.out k (H3.out k hk)).2)).ext (ext_alloc (Below.refl _ _) _)) (some ⟨w2.heap.size, 0, none⟩) 1 1 [.int .i64 (id : Int), .slice V vs.length cv] rfl rfl (Rd.lit_at _ #[.int .i64 (id : Int), .slice V vs.length cv] _ rfl) (by intro u hu; simp at hu; rcases hu with rfl | rfl <;> rfl) (by intro h; cases h) hp1 hp2 ?_
            intro A8 c8 w8 hr8 ho8 hA8
            have hb8 : Below w2.heap.size w2 (w2.alloc (.cells #[.int .i64 (id : Int), .slice V vs.length cv] 31)) := ext_alloc (Below.refl _ _) _
            have HUT : Hid (∀ k, U k → ¬ T2 k) := Lib.hid (fun k hk h2 => by
              rcases HTn.out k h2 with h3 | h3
              · exact (HUs.out k hk).2 h3
              · have := H4.out k hk; omega)
            have HT8 : Hid (TrIn T2 w8 g t2) := Lib.hid ((HT2.out.ext hb8).only ho8 (fun k hk hk2 => HUT.out k (H3.out k hk2) hk))
            have HW8 : Hid (All (fun k => U k ∨ inA V k ∨ (w2.heap.size ≤ k ∧ k < w8.heap.size)) w8 (ps ++ [(id, vs)]) A8 c8) := Lib.hid (All.snoc H1.out H2.out H3.out H4.out HO2.out (fun k hk => (HUs.out k hk).2) hb8 HV.out (fun k hk => (HVn.out k hk).1) hr8 ho8 hA8)
            have HU8 : Hid (∀ j, (U j ∨ inA V j ∨ (w2.heap.size ≤ j ∧ j < w8.heap.size)) → w.heap.size ≤ j ∧ ¬ T2 j) := Lib.hid (fun j hj => by
              rcases hj with hj | hj | hj
              · exact ⟨(HUs.out j hj).1, HUT.out j hj⟩
              · exact ⟨Nat.le_trans Hbr.out.size (HVn.out j hj).1, (HVn.out j hj).2⟩
              · refine ⟨Nat.le_trans Hb2.out.size hj.1, fun h => ?_⟩
                obtain ⟨A, c, xs, R, d, ys, M, h9⟩ := HT2.out
                have := h9.lt _ h
                omega)
            have HB8 : Hid (Below w.heap.size w w8) := Lib.hid ((ext_trans Hb2.out hb8).trans (ho8.below (fun k hk => (HUs.out k (H3.out k hk)).1) (ext_trans Hb2.out hb8).size))
            clear hr8 ho8 hA8 hb8)
          go_roundw
          case rel => exact ⟨ps ++ [(id, vs)], c8, A8, by rw [List.length_append]; simp; omega, by rw [List.length_append]; simp; omega, by rw [List.length_append, List.length_singleton]; go_num, by rw [List.length_append, List.length_singleton], T2, _, t2, HT8, HG2, HTs2, HB8, HW8, HU8, HRe2⟩
          case measure => simp [intOf]; omega
        · have hk1 : ¬ (ps.length : Int) < 120 := by omega
          subst hw5
          have HAl0 := Lib.hid HAl.out
          obtain ⟨⟨xs, hrow, -⟩, -, -⟩ := HAl.out
          have hle := hrow.le
          have hmx := hrow.max
          unfold maxLen at hmx
          have hni : (ps.length : Int) ≤ 9223372036854775807 := by omega
          clear hrow hle hmx
          go_wp2
          go_loopw [6] (fun i wr => ∃ q : Nat, q ≤ ps.length ∧ i = .int .i64 (q : Int) ∧ Hid (Below w5.heap.size w5 wr)) (fun i _ => ps.length - (intOf i).toNat)
          case atStart => exact ⟨0, Nat.zero_le _, rfl, Lib.hid (Below.refl _ _)⟩
          case round =>
            obtain ⟨q, hq, rfl, Hb6⟩ := hrel
            have HBW := Lib.hid (fun W (hW : Below wr.heap.size wr W) => ext_trans Hb6.out hW)
            by_cases hlt : q < ps.length
            · have hqi : (q : Int) < (ps.length : Int) := by omega
              have hql : q < l.length := by have := HKl.out; omega
              obtain ⟨gA, oA, V, e, rfl, c0, c1, hV⟩ := (HAl.out.ext Hb6.out).at_ hlt
              obtain ⟨r1, r2, r3, r4, r5⟩ := HRe.out q hlt hql
              obtain ⟨g2, o2, B, cb, rfl, u0, ht, hm1, hm2⟩ := row_toks HR.out hql
              have HTm := Lib.hid (template_any (HTr.out.ext Hb6.out) HG.out r1)
              have hJ1 := (light_ok (HLt.out q hql (by have := HK1.out; omega))).1
              have hJ2 := (light_ok (HLt.out q hql (by have := HK1.out; omega))).2.1
              have HJ : Hid (∀ W, Below wr.heap.size wr W → Calls Try.prog 21 #[.slice B l[q].length cb] W fun e w' => e = .returned (strV (joinL l[q])) ∧ w' = W) := Lib.hid (fun W hW => rjoin_any B _ cb l[q] W rfl (ht.ext (ext_trans Hbr.out (HBW.out W hW))) (by omega) (by have := HLt.out q hql (by have := HK1.out; omega); omega))
              have HU : Hid (∀ W, Below wr.heap.size wr W → W.cell? ⟨g2, o2 + q, none⟩ = some (.slice B l[q].length cb)) := Lib.hid (fun W hW => (World.cell?_of_block ((ext_trans Hbr.out (HBW.out W hW)).block _ (World.block_lt_of_cell? w _ u0))).trans u0)
              have HV := Lib.hid hV
              have HC1 : Hid (∀ W, Below wr.heap.size wr W → W.cell? ⟨gA, oA + q * 2 + 1, none⟩ = some (.slice V ps[q].2.length e)) := Lib.hid (fun W hW => (World.cell?_of_block (hW.block _ (World.block_lt_of_cell? wr _ c1))).trans c1)
              have HP1 := Lib.hid (tmpl_short HG.out ps[q].1)
              have HRn : Hid (∀ W B2 c2, Below wr.heap.size wr W → PartsAt W B2 (tmpl t ps[q].1) → Calls Try.prog 20 #[.slice B2 (tmpl t ps[q].1).length c2, .slice V ps[q].2.length e] W fun e w' => e = .returned (.tuple #[strV (joinL l[q]), .int .i64 0]) ∧ Below W.heap.size W w') := Lib.hid (fun W B2 c2 hW hP => (rrender_any B2 _ c2 _ V _ e ps[q].2 W rfl rfl hP (HV.out.ext hW) HP1.out r5 (by omega)).mono (fun e w' ⟨h1, h2⟩ => ⟨by rw [h1, r2, r3], h2⟩))
              obtain ⟨Z, hZ, -⟩ := str_hide (joinL l[q])
              rw [hZ] at HJ HRn
              clear hZ c1 u0 ht hm1 hm2 hV r1 r2 r3 r4 r5 hJ1 hJ2
              generalize ps[q].2.length = vl at *
              generalize tmpl t ps[q].1 = P at *
              generalize l[q].length = tl at *
              generalize ps[q].1 = id at *
              go_wp2_with fail
              refine HTm.out.mono ?_
              rintro e w6 ⟨B6, c6, rfl, hN6⟩
              have d1 := HC1.out _ hN6.bel
              have HR6 := Lib.hid (HRn.out w6 B6 c6 hN6.bel (parts_new hN6))
              have HB6 := Lib.hid hN6.bel
              clear hN6
              go_wp2_with fail
              refine HR6.out.mono ?_
              rintro e w7 ⟨rfl, hb7⟩
              have hb67 := ext_trans HB6.out hb7
              have d2 := HU.out _ hb67
              have HJ7 := Lib.hid (HJ.out w7 hb67)
              have HB7 := Lib.hid (HBW.out _ hb67)
              clear hb7 hb67 d1
              go_wp2_with fail
              refine HJ7.out.mono ?_
              rintro e w8 ⟨rfl, hw8⟩
              have hw8 := hw8.symm
              subst hw8
              go_wp2
              go_roundw
              case rel => exact ⟨q + 1, by omega, by go_num, HB7⟩
              case measure => simp [intOf]; omega
            · obtain rfl : q = ps.length := by omega
              have HK := Lib.hid (known15_any wr)
              have HBF := Lib.hid (ext_trans Hbr.out Hb6.out)
              go_wp2_with fail
              refine HK.out.mono ?_
              rintro e w' ⟨rfl, hb⟩
              go_wp2
              go_ret
              exact ⟨rfl, ext_trans HBF.out hb⟩
      · have hki : ¬ (ps.length : Int) < (l.length : Int) := by omega
        subst hw5
        have HAl0 := Lib.hid HAl.out
        obtain ⟨⟨xs, hrow, -⟩, -, -⟩ := HAl.out
        have hle := hrow.le
        have hmx := hrow.max
        unfold maxLen at hmx
        have hni : (ps.length : Int) ≤ 9223372036854775807 := by omega
        clear hrow hle hmx
        go_wp2
        go_loopw [6] (fun i wr => ∃ q : Nat, q ≤ ps.length ∧ i = .int .i64 (q : Int) ∧ Hid (Below w5.heap.size w5 wr)) (fun i _ => ps.length - (intOf i).toNat)
        case atStart => exact ⟨0, Nat.zero_le _, rfl, Lib.hid (Below.refl _ _)⟩
        case round =>
          obtain ⟨q, hq, rfl, Hb6⟩ := hrel
          have HBW := Lib.hid (fun W (hW : Below wr.heap.size wr W) => ext_trans Hb6.out hW)
          by_cases hlt : q < ps.length
          · have hqi : (q : Int) < (ps.length : Int) := by omega
            have hql : q < l.length := by have := HKl.out; omega
            obtain ⟨gA, oA, V, e, rfl, c0, c1, hV⟩ := (HAl.out.ext Hb6.out).at_ hlt
            obtain ⟨r1, r2, r3, r4, r5⟩ := HRe.out q hlt hql
            obtain ⟨g2, o2, B, cb, rfl, u0, ht, hm1, hm2⟩ := row_toks HR.out hql
            have HTm := Lib.hid (template_any (HTr.out.ext Hb6.out) HG.out r1)
            have hJ1 := (light_ok (HLt.out q hql (by have := HK1.out; omega))).1
            have hJ2 := (light_ok (HLt.out q hql (by have := HK1.out; omega))).2.1
            have HJ : Hid (∀ W, Below wr.heap.size wr W → Calls Try.prog 21 #[.slice B l[q].length cb] W fun e w' => e = .returned (strV (joinL l[q])) ∧ w' = W) := Lib.hid (fun W hW => rjoin_any B _ cb l[q] W rfl (ht.ext (ext_trans Hbr.out (HBW.out W hW))) (by omega) (by have := HLt.out q hql (by have := HK1.out; omega); omega))
            have HU : Hid (∀ W, Below wr.heap.size wr W → W.cell? ⟨g2, o2 + q, none⟩ = some (.slice B l[q].length cb)) := Lib.hid (fun W hW => (World.cell?_of_block ((ext_trans Hbr.out (HBW.out W hW)).block _ (World.block_lt_of_cell? w _ u0))).trans u0)
            have HV := Lib.hid hV
            have HC1 : Hid (∀ W, Below wr.heap.size wr W → W.cell? ⟨gA, oA + q * 2 + 1, none⟩ = some (.slice V ps[q].2.length e)) := Lib.hid (fun W hW => (World.cell?_of_block (hW.block _ (World.block_lt_of_cell? wr _ c1))).trans c1)
            have HP1 := Lib.hid (tmpl_short HG.out ps[q].1)
            have HRn : Hid (∀ W B2 c2, Below wr.heap.size wr W → PartsAt W B2 (tmpl t ps[q].1) → Calls Try.prog 20 #[.slice B2 (tmpl t ps[q].1).length c2, .slice V ps[q].2.length e] W fun e w' => e = .returned (.tuple #[strV (joinL l[q]), .int .i64 0]) ∧ Below W.heap.size W w') := Lib.hid (fun W B2 c2 hW hP => (rrender_any B2 _ c2 _ V _ e ps[q].2 W rfl rfl hP (HV.out.ext hW) HP1.out r5 (by omega)).mono (fun e w' ⟨h1, h2⟩ => ⟨by rw [h1, r2, r3], h2⟩))
            obtain ⟨Z, hZ, -⟩ := str_hide (joinL l[q])
            rw [hZ] at HJ HRn
            clear hZ c1 u0 ht hm1 hm2 hV r1 r2 r3 r4 r5 hJ1 hJ2
            generalize ps[q].2.length = vl at *
            generalize tmpl t ps[q].1 = P at *
            generalize l[q].length = tl at *
            generalize ps[q].1 = id at *
            go_wp2_with fail
            refine HTm.out.mono ?_
            rintro e w6 ⟨B6, c6, rfl, hN6⟩
            have d1 := HC1.out _ hN6.bel
            have HR6 := Lib.hid (HRn.out w6 B6 c6 hN6.bel (parts_new hN6))
            have HB6 := Lib.hid hN6.bel
            clear hN6
            go_wp2_with fail
            refine HR6.out.mono ?_
            rintro e w7 ⟨rfl, hb7⟩
            have hb67 := ext_trans HB6.out hb7
            have d2 := HU.out _ hb67
            have HJ7 := Lib.hid (HJ.out w7 hb67)
            have HB7 := Lib.hid (HBW.out _ hb67)
            clear hb7 hb67 d1
            go_wp2_with fail
            refine HJ7.out.mono ?_
            rintro e w8 ⟨rfl, hw8⟩
            have hw8 := hw8.symm
            subst hw8
            go_wp2
            go_roundw
            case rel => exact ⟨q + 1, by omega, by go_num, HB7⟩
            case measure => simp [intOf]; omega
          · obtain rfl : q = ps.length := by omega
            have HK := Lib.hid (known15_any wr)
            have HBF := Lib.hid (ext_trans Hbr.out Hb6.out)
            go_wp2_with fail
            refine HK.out.mono ?_
            rintro e w' ⟨rfl, hb⟩
            go_wp2
            go_ret
            exact ⟨rfl, ext_trans HBF.out hb⟩
end Go.Proofs.Ytdghbdiapkelnaa
