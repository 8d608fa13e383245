/-
  PROVED HERE: OctetRows's tied card (the first form, every argument): rows as bytes, each with its length, one behind the other, all at once or one by one; and back.
  Conditions: none of our own; the card's row lists the table octet.crcSteps, which the card ties to the program's text.
-/
import Derived.Test.YtdnaabiijihooaaDoorKnown
import Derived.Test.YtdnaabiijihooaaDoorHeavy
import Derived.Test.YtdnaabiijihooaaDoorRef
import Derived.Test.YtdnaabiijihooaaDoorRBytes
import Derived.Test.YtdnaabiijihooaaDoorRoomy
import Derived.Test.YtdnaabiijihooaaDoorArgs
namespace Go.Proofs.YtdnaabiijihooaaDoor.OctetRows
open Go Go.ChangeShapes Go.WideShapes Go.ChangeAt Go.RowKit

theorem RowsF.fresh {fp : Nat → Prop} {w : World} {A : Option Addr} {xss : List (List UInt8)} (h : RowsF (fun _ => False) w A xss) (hf : ∀ k, fp k → w.heap.size ≤ k) : RowsF fp w A xss := by
  obtain ⟨vs, h1, h2, h3⟩ := h
  refine ⟨vs, RdF.fresh h1.1 hf, h2, fun j v xs hv hx => ?_⟩
  obtain ⟨B, c, e, hc, hr⟩ := h3 j v xs hv hx
  exact ⟨B, c, e, hc, RdF.fresh hr.1 hf⟩

def endTo (xss : List (List UInt8)) (k : Nat) : Nat := (rowsTo xss k).length
theorem endTo_zero (xss : List (List UInt8)) : endTo xss 0 = 0 := rfl
theorem endTo_all (xss : List (List UInt8)) : endTo xss xss.length = (rowsB xss).length := by unfold endTo; rw [rowsTo_all]
theorem endTo_le (xss : List (List UInt8)) (k : Nat) : endTo xss k ≤ (rowsB xss).length := rowsTo_le xss k
theorem rowsB_len (xss : List (List UInt8)) (h : ∀ xs ∈ xss, xs.length ≤ 4000) : (rowsB xss).length ≤ 9 * xss.length + xss.flatten.length := by
  induction xss with
  | nil => simp [rowsB]
  | cons x r ih =>
    have h1 := dig_clamp_len (x.length : Int)
    rw [clamp_of_nat (by have := h x (by simp); omega)] at h1
    have ih' := ih (fun y hy => h y (by simp [hy]))
    have e : (rowsB (x :: r)).length = (dig x.length).length + x.length + (rowsB r).length := by unfold rowsB; rw [List.flatMap_cons, List.length_append, List.length_append]
    rw [e]
    simp only [List.length_cons, List.flatten_cons, List.length_append]
    omega
theorem rowsB_one (xs : List UInt8) : rowsB [xs] = dig xs.length ++ xs := by simp [rowsB]
/-- what stands in the Reader behind k rows -/
def leftOf (xss : List (List UInt8)) (raw : List UInt8) (k : Nat) : List UInt8 := rowsB (xss.drop k) ++ raw
theorem leftOf_cons (xss : List (List UInt8)) (raw : List UInt8) (k : Nat) (h : k < xss.length) : leftOf xss raw k = dig xss[k].length ++ (xss[k] ++ leftOf xss raw (k + 1)) := by
  unfold leftOf
  unfold rowsB
  rw [List.drop_eq_getElem_cons h, List.flatMap_cons, List.append_assoc, List.append_assoc]
theorem leftOf_all (xss : List (List UInt8)) (raw : List UInt8) : leftOf xss raw xss.length = raw := by unfold leftOf; rw [List.drop_length]; simp [rowsB]
theorem leftOf_len (xss : List (List UInt8)) (raw : List UInt8) (k : Nat) : (leftOf xss raw k).length ≤ (rowsB xss).length + raw.length := by
  have h : rowsB xss = rowsTo xss k ++ rowsB (xss.drop k) := by unfold rowsTo rowsB; rw [← List.flatMap_append, List.take_append_drop]
  unfold leftOf
  rw [h, List.length_append, List.length_append]
  omega

/-- what the first loop has made: a Writer's bytes, the same bytes in a list; the second Writer waits -/
def Made (w wr : World) (g g2 : Nat) (bs : List UInt8) (A : Option Addr) (c : Nat) : Prop :=
  Below w.heap.size w wr ∧ Wr wr (fun k => k = g2) g2 [] ∧ ∃ f1 fW : Nat → Prop, Wr wr f1 g (bs.map bv) ∧ Own wr fW 5 A c (bs.map bv) ∧ (∀ k, f1 k → ¬ fW k) ∧ (∀ k, f1 k ∨ fW k → w.heap.size ≤ k ∧ k < wr.heap.size ∧ k ≠ g2) ∧ w.heap.size ≤ g2

section
variable {w wr w2 w3 w4 w5 w6 : World} {A : Option Addr} {g g2 c : Nat} {bs cs : List UInt8} {o : Obj} {f1 fW : Nat → Prop}
/-- one round: room is made (w2), the row is laid (w3, behind a list's one cell), looked at (w4), the room is spoilt (w5), the row is told (w6) and appended (w7) -/
theorem Made.round (hb : Below w.heap.size w wr) (hg2 : Wr wr (fun k => k = g2) g2 []) (hd : ∀ k, f1 k → ¬ fW k) (hs : ∀ k, f1 k ∨ fW k → w.heap.size ≤ k ∧ k < wr.heap.size ∧ k ≠ g2) (h2 : w.heap.size ≤ g2) (hW : Own wr fW 5 A c (bs.map bv))
    (hb2 : Below wr.heap.size wr w2) (h3 : Wr w3 (More f1 (w2.alloc o) w3) g (bs.map bv ++ cs.map bv)) (ho3 : Only f1 (w2.alloc o) w3) (q : Nat) (h4 : w4 = w3.drewN q)
    (ho5 : Only (fun k => wr.heap.size ≤ k ∧ k < w2.heap.size) w4 w5) (hb6 : Below w5.heap.size w5 w6) :
    (∀ (A7 : Option Addr) (c7 : Nat) (w7 : World), Only fW w6 w7 → Own w7 (More fW w6 w7) 5 A7 c7 (bs.map bv ++ cs.map bv) → Made w w7 g g2 (bs ++ cs) A7 c7) ∧ Own w6 fW 5 A c (bs.map bv) ∧ Below w.heap.size w w6 := by
  subst h4
  have s1 := hb.size
  have s2 := hb2.size
  have s3 := ho3.size
  rw [World.size_alloc] at s3
  have s5 : w3.heap.size ≤ w5.heap.size := ho5.size
  have s6 := hb6.size
  have hgl := hg2.lt
  -- the step from wr to w6: nothing but f1 and what is new
  have o3 : Only f1 wr w3 := ((Only.of_ext hb2).alloc o).trans ho3 (fun _ _ h => h)
  have o5 : Only f1 wr w5 := (o3.drewN q).trans ho5 (fun i hi hm => by omega)
  have o6 : Only f1 wr w6 := o5.trans (Only.of_ext (S := fun _ => False) hb6) (fun _ _ h => h.elim)
  have hW6 : Own w6 fW 5 A c (bs.map bv) := hW.only o6 (fun k hk h => hd k h hk)
  have hb06 : Below w.heap.size w w6 := hb.trans (o6.below (fun i hi => (hs i (.inl hi)).1) s1)
  have hg26 : Wr w6 (fun k => k = g2) g2 [] := hg2.only o6 (fun k hk h => (hs k (.inl h)).2.2 hk)
  have h16 : Wr w6 (More f1 (w2.alloc o) w3) g (bs.map bv ++ cs.map bv) := by
    have h4 : Wr (w3.drewN q) (More f1 (w2.alloc o) w3) g (bs.map bv ++ cs.map bv) := h3.drewN q
    have h5 := h4.only ho5 (fun k hk h => by
      rcases hk with hk | hk
      · have := hs k (.inl hk); omega
      · have := hk.1; rw [World.size_alloc] at this; omega)
    exact h5.ext hb6
  refine ⟨fun A7 c7 w7 ho7 h7 => ?_, hW6, hb06⟩
  have s7 := ho7.size
  refine ⟨hb06.trans (ho7.below (fun i hi => (hs i (.inr hi)).1) (by omega)), hg26.only ho7 (fun k hk h => (hs k (.inr h)).2.2 hk), More f1 (w2.alloc o) w3, More fW w6 w7, ?_, by rw [List.map_append]; exact h7, fun k hk h => ?_, fun k hk => ?_, h2⟩
  · rw [List.map_append]
    refine h16.only ho7 (fun k hk h => ?_)
    rcases hk with hk | hk
    · exact hd k hk h
    · have h8 := hs k (.inr h); have h9 := hk.1; rw [World.size_alloc] at h9; omega
  · rcases hk with hk | hk
    · rcases h with h | h
      · exact hd k hk h
      · have := hs k (.inl hk); omega
    · have h9 := hk.1
      rw [World.size_alloc] at h9
      rcases h with h | h
      · have := hs k (.inr h); omega
      · omega
  · rcases hk with (hk | hk) | (hk | hk)
    · have := hs k (.inl hk); omega
    · have h9 := hk.1; rw [World.size_alloc] at h9; omega
    · have := hs k (.inr hk); omega
    · omega
end

set_option maxHeartbeats 1000000 in
theorem walk_heavy (A B : Option Addr) (n c m d : Nat) (xss : List (List UInt8)) (w : World) (hn : n = xss.length) (hr : RowsF (fun _ => False) w A xss) (hm : ∀ xs ∈ xss, xs.length ≤ maxLen) (hm2 : xss.length ≤ maxLen) (h : 4000 < 3 * xss.length + xss.flatten.length) :
    Calls Tryd.prog 4 #[.slice A n c, .slice B m d] w fun e w' => e = .returned (.bool true) ∧ Below w.heap.size w w' := by
  have Hn := Lib.hid hn
  clear hn
  go_enter Tryd.func4, Tryd.ntmps4
  go_wp2_with (go_at_call 21; refine (heavy_yes A n c xss _ Hn.out hr hm hm2 h).mono ?_; rintro e w3 ⟨rfl, rfl⟩)
  go_ret
  exact ⟨rfl, Below.refl _ _⟩
set_option maxHeartbeats 1000000 in
theorem walk_long (A B : Option Addr) (n c m d : Nat) (xss : List (List UInt8)) (w : World) (hn : n = xss.length) (hr : RowsF (fun _ => False) w A xss) (h : 3 * xss.length + xss.flatten.length ≤ 4000) (hm : (4000 : Int) < (m : Int)) :
    Calls Tryd.prog 4 #[.slice A n c, .slice B m d] w fun e w' => e = .returned (.bool true) ∧ Below w.heap.size w w' := by
  have Hn := Lib.hid hn
  clear hn
  go_enter Tryd.func4, Tryd.ntmps4
  go_wp2_with (go_at_call 21; refine (heavy_no A n c xss _ Hn.out hr h).mono ?_; rintro e w3 ⟨rfl, rfl⟩)
  go_ret
  exact ⟨rfl, Below.refl _ _⟩

set_option maxRecDepth 100000 in
set_option maxHeartbeats 4000000 in
theorem walk_light (A B : Option Addr) (n c m d : Nat) (xss : List (List UInt8)) (raw : List UInt8) (w : World) (ht : Tab w) (hn : n = xss.length) (hr : RowsF (fun _ => False) w A xss) (h : 3 * xss.length + xss.flatten.length ≤ 4000) (hx4 : ∀ xs ∈ xss, xs.length ≤ 4000)
    (hm : m = raw.length) (hd : raw.length ≤ d) (hraw : Rd w B (raw.map bv)) (hm4 : ¬ (4000 : Int) < (m : Int)) :
    Calls Tryd.prog 4 #[.slice A n c, .slice B m d] w fun e w' => e = .returned (.bool true) ∧ Below w.heap.size w w' := by
  subst hn hm
  have hlx : xss.length ≤ 4000 := by omega
  have hl4 : raw.length ≤ 4000 := by omega
  have hrawd : decide ((4000 : Int) < (raw.length : Int)) = false := decide_eq_false (by omega)
  have hB := rowsB_len xss hx4
  have hB4 : (rowsB xss).length ≤ 40000 := by omega
  have hEle := Lib.hid (endTo_le xss)
  clear hB hm4
  go_enter Tryd.func4, Tryd.ntmps4
  go_wp2_with fail
  refine (heavy_no A _ c xss _ rfl hr h).mono ?_
  rintro e w3 ⟨rfl, rfl⟩
  go_wp2
  have hstart : Made w ((w.alloc (.cells #[.slice none 0 0] 25)).alloc (.cells #[.slice none 0 0] 25)) w.heap.size (w.heap.size + 1) [] none 0 := by
    refine ⟨((Below.refl _ _).alloc (Nat.le_refl _) _).alloc (by simp) _, ?_, fun k => k = w.heap.size, fun _ => False, (Wr.new w (fun k => k = w.heap.size) rfl).alloc _, Own.none_ _ _ _, fun _ _ h => h, fun k hk => ?_, by omega⟩
    · have := Wr.new (w.alloc (.cells #[.slice none 0 0] 25)) (fun k => k = w.heap.size + 1) (by simp)
      rw [World.size_alloc] at this
      exact this
    · rcases hk with hk | hk
      · subst hk; simp only [World.size_alloc]; omega
      · exact hk.elim
  go_loopw [7, 8] (fun s i wr => ∃ (k : Nat) (A' : Option Addr) (c' : Nat), k ≤ xss.length ∧ i = .int .i64 (k : Int) ∧ s = .slice A' (endTo xss k) c' ∧ Made w wr w.heap.size (w.heap.size + 1) (rowsTo xss k) A' c') (fun _ i _ => xss.length - (intOf i).toNat)
  case atStart => exact ⟨0, none, 0, Nat.zero_le _, rfl, by rw [endTo_zero], hstart⟩
  case round =>
    obtain ⟨k, A', c', hk, rfl, rfl, hbel, hg2, f1, fW, hw1, hW, hdis, hfs, hle2⟩ := hrel
    by_cases hlt : k < xss.length
    · obtain ⟨ad, D, cd, rfl, hcell0, hl, hrd0⟩ := hr.at_ hlt
      have hrl4 : xss[k].length ≤ 4000 := hx4 _ (List.getElem_mem hlt)
      have hrs := rowsTo_succ xss k hlt
      have hele := hEle.out (k + 1)
      have hadb : ad.block < w.heap.size := by have := World.block_lt_of_cell? w _ hcell0; rwa [block_add] at this
      have h0a := Lib.hid (show endTo xss k = ((rowsTo xss k).map bv).length by rw [List.length_map]; rfl)
      obtain ⟨cs, hcs⟩ : ∃ cs, dig xss[k].length ++ xss[k] = cs := ⟨_, rfl⟩
      have hcl : endTo xss (k + 1) = endTo xss k + cs.length := by unfold endTo; rw [hrs, List.append_assoc, hcs, List.length_append]
      rw [List.append_assoc, hcs] at hrs
      have h1b : rowsB [xss[k]] = cs := by rw [rowsB_one, hcs]
      have Hcs := Lib.hid hcs
      have Hcl := Lib.hid hcl
      have Hrs := Lib.hid hrs
      have H1b := Lib.hid h1b
      have hcs4 : endTo xss k + cs.length ≤ 40000 := by omega
      have hel : ((rowsTo xss k).map bv).length + cs.length ≤ 40000 := by rw [List.length_map]; exact hcs4
      clear hrs hele hcs hcl h1b
      generalize xss[k] = row at *
      have hat : Hid (∀ wx : World, Below w.heap.size w wx → wx.cell? (ad.add k) = some (.slice D row.length cd)) := fun wx hb => (hb.cell (p := ad.add k) (by rw [block_add]; exact hadb)).trans hcell0
      have hcr := hat.out _ hbel
      clear hcell0
      go_wp2_with fail
      refine (roomy_any D _ cd row _ rfl (hrd0.1.ext hbel) (by omega)).mono ?_
      rintro e1 w2 ⟨A2, c2, rfl, hn2, hb2⟩
      have hb02 := ext_trans hbel hb2
      have hcap2 := Own.cap hn2
      rw [List.length_map, List.length_append] at hcap2
      have hcap2' : row.length + 1 ≤ c2 := hcap2
      have hc2 := hat.out _ hb02
      have hA2 : Rd w2 A2 (row.map bv) := by
        have := hn2.rd.take row.length
        rwa [← List.map_take, List.take_left' rfl] at this
      have hrow2 : RowsF f1 (w2.alloc (.cells #[.slice A2 row.length c2] 23)) (some ⟨w2.heap.size, 0, none⟩) [row] := by
        refine RowsF.one ⟨hA2, fun a ea _ hf => ?_⟩ (by omega) _ rfl (fun hf => by have := hfs _ (.inl hf); have := hb2.size; omega)
        have h1 := (hn2.2 a ea).1
        have h2 := (hfs _ (.inl hf)).2.1
        omega
      clear hcr hcap2
      go_wp2_with fail
      refine (bytes_any f1 _ _ 1 1 [row] _ _ ((hw1.ext hb2).alloc _) rfl hrow2 (by rw [H1b.out]; omega) (by simp)).mono ?_
      rintro e2 w4 ⟨rfl, hw4, ho4⟩
      rw [H1b.out] at hw4
      have s02 := hb02.size
      have hb04 : Below w.heap.size w w4 := (hb02.alloc s02 _).trans (ho4.below (fun i hi => (hfs i (.inl hi)).1) (by simp; omega))
      have hc4 := hat.out _ hb04
      have hnof : ∀ a, A2 = some a → ¬ f1 a.block := fun a ea hf => by
        have h1 := (hn2.2 a ea).1
        have h2 := (hfs _ (.inl hf)).2.1
        omega
      have hA4 : Rd w4 A2 ((row ++ [171]).map bv) := (hn2.rd.alloc _).only ho4 (fun a ea _ => hnof a ea)
      have hO4 : Own w4 (fun j => wr.heap.size ≤ j ∧ j < w2.heap.size) 5 A2 c2 ((row ++ [171]).map bv) := (Own.alloc hn2 _).only ho4 (fun j hj hf => by have := (hfs j (.inl hf)).2.1; omega)
      clear hc2 hrow2
      go_wp2_with fail
      refine (stands_yes A2 D _ _ c2 cd row _ rfl rfl hcap2' hA4 (hrd0.1.ext hb04) (by omega)).mono ?_
      rintro e3 w5 ⟨rfl, q, hq⟩
      have hO5 : Own w5 (fun j => wr.heap.size ≤ j ∧ j < w2.heap.size) 5 A2 c2 ((row ++ [171]).map bv) := by rw [hq]; exact hO4
      have hb05 : Below w.heap.size w w5 := by rw [hq]; exact ext_drewN hb04 q
      have Hq := Lib.hid hq
      clear hq hc4
      go_wp2_with fail
      refine (spoil_any _ A2 _ c2 _ _ (by simp) hO5 (by simp; omega)).mono ?_
      rintro e4 w6 ⟨rfl, ho6⟩
      have hb06 : Below w.heap.size w w6 := hb05.trans (ho6.below (fun i hi => Nat.le_trans hbel.size hi.1) hb05.size)
      have hc6 := hat.out _ hb06
      go_wp2_with fail
      refine (refbytes_any D _ cd row cs _ rfl Hcs.out (hrd0.1.ext hb06) (by omega)).mono ?_
      rintro e5 w7 ⟨A7, c7, rfl, hn7, hb7⟩
      have hk1 : endTo xss k + cs.length ≤ maxLen := by unfold maxLen; omega
      have hk2 : (endTo xss k + cs.length) * 1 ≤ 140737488355328 := by omega
      have h1c := Lib.hid (show cs.length = (cs.map bv).length by rw [List.length_map])
      obtain ⟨hnext, hW7, hb07⟩ := Made.round hbel hg2 hdis hfs hle2 hW hb2 hw4 ho4 q Hq.out ho6 hb7
      clear hc6
      have hc7 := hat.out _ hb07
      go_wp2_with (at_builtin
                   refine wpList_app _ (fp := fW) rfl (.tmp 49) (.tmp 54) _ rfl _ _ 1 Tryd.underlying23 info_u8 rfl A' (endTo xss k) c' ((rowsTo xss k).map bv) rfl h0a.out hW7 A7 cs.length c7 (cs.map bv) rfl h1c.out hn7.rd (bvs_one _) hk1 hk2 ?_
                   intro A8 c8 w8 hown8 honly8)
      go_roundw
      case rel =>
        have hm := hnext A8 c8 w8 honly8 hown8
        exact ⟨k + 1, A8, c8, by omega, by go_num, by rw [Hcl.out], by rw [Hrs.out]; exact hm⟩
      case measure => simp [intOf]; omega
    · obtain rfl : k = xss.length := by omega
      obtain ⟨wo, rfl⟩ : ∃ wo : World, wo = wr := ⟨_, rfl⟩
      rw [endTo_all]
      rw [rowsTo_all] at hw1 hW
      obtain ⟨bs, hbs⟩ : ∃ bs, rowsB xss = bs := ⟨_, rfl⟩
      have Hbs := Lib.hid hbs
      rw [hbs] at hw1 hW hB4 ⊢
      clear hbs
      go_wp2_with fail
      refine (bytes_any (fun k => k = w.heap.size + 1) _ A _ c xss [] _ hg2 rfl ((RowsF.fresh hr (fun k hk => by omega)).ext hbel) (by rw [Hbs.out]; simp; omega) (by omega)).mono ?_
      rintro e1 w1 ⟨rfl, hg3, ho1⟩
      rw [List.nil_append, Hbs.out] at hg3
      have hb01 : Below w.heap.size w w1 := hbel.trans (ho1.below (fun i hi => by omega) hbel.size)
      go_wp2_with fail
      refine (raw_any f1 _ B _ d (bs.map bv) (raw.map bv) _ (hw1.only ho1 (fun k hk h => (hfs k (.inl hk)).2.2 h)) (by simp) (hraw.ext hb01) (bvs_one _) (by simp; omega)).mono ?_
      rintro e2 w2 ⟨rfl, hw2, ho2⟩
      have hb02 : Below w.heap.size w w2 := hb01.trans (ho2.below (fun i hi => (hfs i (.inl hi)).1) hb01.size)
      go_wp2_with fail
      refine (raw_any _ _ B _ d (bs.map bv) (raw.map bv) _ (hg3.only ho2 (fun k hk h => ?_)) (by simp) (hraw.ext hb02) (bvs_one _) (by simp; omega)).mono ?_
      · have h1 := hfs k (.inl h)
        rcases hk with hk | hk
        · exact h1.2.2 hk
        · omega
      rintro e3 w3 ⟨rfl, hg4, ho3⟩
      have s1 := ho1.size
      have s2 := ho2.size
      have s3 := ho3.size
      have hgl := hg2.lt
      have hb03 : Below w.heap.size w w3 := hb02.trans (ho3.below (fun i hi => by rcases hi with hi | hi; omega; exact Nat.le_trans hbel.size hi.1) hb02.size)
      have hw3 : Wr w3 (More f1 w1 w2) w.heap.size (bs.map bv ++ raw.map bv) := hw2.only ho3 (fun k hk h => by
        rcases hk with hk | hk
        · have h1 := hfs k (.inl hk)
          rcases h with h | h
          · exact h1.2.2 h
          · omega
        · rcases h with h | h
          · omega
          · omega)
      have hW3 : Own w3 fW 5 A' c' (bs.map bv) := ((hW.only ho1 (fun k hk h => (hfs k (.inr hk)).2.2 h)).only ho2 (fun k hk h => hdis k h hk)).only ho3 (fun k hk h => by
        have h1 := hfs k (.inr hk)
        rcases h with h | h
        · exact h1.2.2 h
        · omega)
      have hk1 : bs.length + raw.length ≤ maxLen := by unfold maxLen; omega
      have hk2 : (bs.length + raw.length) * 1 ≤ 140737488355328 := by omega
      have h0a := Lib.hid (show bs.length = (bs.map bv).length by rw [List.length_map])
      have h0b := Lib.hid (show raw.length = (raw.map bv).length by rw [List.length_map])
      have hraw3 := hraw.ext hb03
      go_wp2_with (first
        | (at_builtin
           refine wpList_app _ (fp := fW) rfl (.tmp 62) (.tmp 63) _ rfl _ _ 1 Tryd.underlying23 info_u8 rfl A' bs.length c' (bs.map bv) rfl h0a.out hW3 B raw.length d (raw.map bv) rfl h0b.out hraw3 (bvs_one _) hk1 hk2 ?_
           intro A4 c4 w4 hown4 honly4)
        | fail)
      have hb04 : Below w.heap.size w w4 := hb03.trans (honly4.below (fun i hi => (hfs i (.inr hi)).1) hb03.size)
      have hw4 : Wr w4 (More f1 w1 w2) w.heap.size ((bs ++ raw).map bv) := by
        rw [List.map_append]
        refine hw3.only honly4 (fun k hk h => ?_)
        rcases hk with hk | hk
        · exact hdis k hk h
        · have := hfs k (.inr h); omega
      have hg5 : Wr w4 (More (More (fun k => k = w.heap.size + 1) wo w1) w2 w3) (w.heap.size + 1) ((bs ++ raw).map bv) := by
        rw [List.map_append]
        refine hg4.only honly4 (fun k hk h => ?_)
        have h1 := hfs k (.inr h)
        rcases hk with (hk | hk) | hk
        · exact h1.2.2 hk
        · omega
        · omega
      have hR4 : Rd w4 A4 ((bs ++ raw).map bv) := by rw [List.map_append]; exact hown4.rd
      have hcap4 := hown4.cap
      rw [List.length_append, List.length_map, List.length_map] at hcap4
      have hleft0 : leftOf xss raw 0 = bs ++ raw := by unfold leftOf; rw [List.drop_zero, Hbs.out]
      have Hleft0 := Lib.hid hleft0
      have hlenall : bs.length + raw.length = (bs ++ raw).length := by rw [List.length_append]
      rw [hlenall] at hcap4
      have Hlenall := Lib.hid hlenall
      have hal : (bs ++ raw).length ≤ 44000 := by omega
      clear hown4 honly4 hW hW3 hw1 hw2 hw3 hg2 hg3 hg4 ho1 ho2 ho3 hk1 hk2 h0a h0b hraw3 hleft0 hlenall
      generalize bs ++ raw = all at *
      go_wp2_with fail
      refine (out_any _ _ all _ hw4 (by omega)).mono ?_
      rintro e5 w5 ⟨A5, c5, rfl, hn5, hb5⟩
      rw [Hlenall.out]
      go_wp2_with fail
      refine (same_yes A5 A4 _ _ c5 c4 all _ rfl rfl hn5.rd (hR4.ext hb5) (by omega)).mono ?_
      rintro e6 w6 ⟨rfl, q, hq⟩
      have hb46 : Below w4.heap.size w4 w6 := by rw [hq]; exact ext_drewN hb5 q
      clear hq
      go_wp2_with fail
      refine (out_any _ _ all _ (hg5.ext hb46) (by omega)).mono ?_
      rintro e7 w7 ⟨A7, c7, rfl, hn7, hb7⟩
      go_wp2_with fail
      refine (same_yes A7 A4 _ _ c7 c4 all _ rfl rfl hn7.rd ((hR4.ext hb46).ext hb7) (by omega)).mono ?_
      rintro e8 w8 ⟨rfl, q2, hq2⟩
      have hb48 : Below w4.heap.size w4 w8 := by rw [hq2]; exact ext_drewN (ext_trans hb46 hb7) q2
      have hb08 := ext_trans hb04 hb48
      clear hq2
      go_wp2_with fail
      refine (newreader A4 _ c4 all _ rfl hcap4 (hR4.ext hb48) (by omega)).mono ?_
      rintro e9 w9 ⟨g, rfl, hrd, hb9⟩
      have hb09 := ext_trans hb08 hb9
      have s8 := hb08.size
      have s9 := hb9.size
      rw [← Hleft0.out] at hrd
      have hll := leftOf_len xss raw
      rw [Hbs.out] at hll
      have Hll := Lib.hid hll
      have Hleftall := Lib.hid (leftOf_all xss raw)
      clear hll
      go_wp2
      go_loopw [11] (fun i wr => ∃ k : Nat, k ≤ xss.length ∧ i = .int .i64 (k : Int) ∧ Below w.heap.size w wr ∧ w9.heap.size ≤ wr.heap.size ∧ Rdr wr (fun j => w8.heap.size ≤ j ∧ j < w9.heap.size) g (leftOf xss raw k) false) (fun i _ => xss.length - (intOf i).toNat)
      case atStart => exact ⟨0, Nat.zero_le _, rfl, hb09, Nat.le_refl _, hrd⟩
      case round =>
        obtain ⟨k, hk, rfl, hb0r, hs9r, hst⟩ := hrel
        have hgw : w8.heap.size ≤ g := hst.1.1
        have hlk := Hll.out k
        by_cases hlt : k < xss.length
        · obtain ⟨ad, D, cd, rfl, hcell0, hl, hrd0⟩ := hr.at_ hlt
          have hadb : ad.block < w.heap.size := by have := World.block_lt_of_cell? w _ hcell0; rwa [block_add] at this
          have hrl4 : xss[k].length ≤ 4000 := hx4 _ (List.getElem_mem hlt)
          have hcons := leftOf_cons xss raw k hlt
          have hcall := rbytes_ok _ g (leftOf xss raw k) xss[k].length (dig xss[k].length).length wr hst (by rw [hcons]; exact num_dig _ _ (by omega)) (dig_pos _) (by rw [hcons]; simp) (by rw [hcons]; simp) (by omega)
          rw [hcons] at hcall
          rw [show (dig xss[k].length ++ (xss[k] ++ leftOf xss raw (k + 1))).drop (dig xss[k].length).length = xss[k] ++ leftOf xss raw (k + 1) by simp] at hcall
          rw [show (xss[k] ++ leftOf xss raw (k + 1)).take xss[k].length = xss[k] by simp, show (xss[k] ++ leftOf xss raw (k + 1)).drop xss[k].length = leftOf xss raw (k + 1) by simp] at hcall
          have Hcall := Lib.hid hcall
          clear hcons hcall hst hlk
          generalize xss[k] = row at *
          go_wp2_with fail
          refine Hcall.out.mono ?_
          rintro e10 w10 ⟨A10, c10, rfl, hn10, hrd10, ho10⟩
          have hb010 : Below w.heap.size w w10 := hb0r.trans (ho10.below (fun i hi => by omega) hb0r.size)
          have hc10 : w10.cell? (ad.add k) = some (.slice D row.length cd) := (hb010.cell (p := ad.add k) (by rw [block_add]; exact hadb)).trans hcell0
          have s10 := ho10.size
          clear hcell0
          go_wp2_with fail
          refine (same_yes A10 D _ _ c10 cd row _ rfl rfl hn10.rd (hrd0.1.ext hb010) (by omega)).mono ?_
          rintro e11 w11 ⟨rfl, q3, hq3⟩
          have hO11 : Own w11 (fun j => wr.heap.size ≤ j ∧ j < w10.heap.size) 5 A10 c10 (row.map bv) := by rw [hq3]; exact hn10
          have hrd11 : Rdr w11 (fun j => w8.heap.size ≤ j ∧ j < w9.heap.size) g (leftOf xss raw (k + 1)) false := by rw [hq3]; exact hrd10.drewN q3
          have hb011 : Below w.heap.size w w11 := by rw [hq3]; exact ext_drewN hb010 q3
          have s11 : w10.heap.size = w11.heap.size := by rw [hq3]; rfl
          clear hq3 hc10
          go_wp2_with fail
          refine (spoil_any _ A10 _ c10 _ _ (by simp) hO11 (by simp; omega)).mono ?_
          rintro e12 w12 ⟨rfl, ho12⟩
          have s12 := ho12.size
          go_wp2
          go_roundw
          case rel => exact ⟨k + 1, by omega, by go_num, hb011.trans (ho12.below (fun i hi => Nat.le_trans hb0r.size hi.1) hb011.size), by omega, hrd11.only ho12 (fun j hj h => by omega)⟩
          case measure => simp [intOf]; omega
        · obtain rfl : k = xss.length := by omega
          rw [Hleftall.out] at hst
          go_wp2_with fail
          refine (rleft _ g raw false _ hst).mono ?_
          rintro e10 w10 ⟨rfl, rfl⟩
          go_wp2_with fail
          refine (rraw_ok _ g raw raw.length _ hst (Nat.le_refl _) (by omega)).mono ?_
          rw [List.take_length, List.drop_length]
          rintro e11 w11 ⟨A11, c11, rfl, hn11, hrd11, ho11⟩
          have hb011 : Below w.heap.size w w11 := hb0r.trans (ho11.below (fun i hi => by omega) hb0r.size)
          go_wp2_with fail
          refine (same_yes A11 B _ _ c11 d raw _ rfl rfl hn11.rd (hraw.ext hb011) (by omega)).mono ?_
          rintro e12 w12 ⟨rfl, q4, rfl⟩
          go_wp2_with fail
          refine (rwhole _ g [] _ (hrd11.drewN q4)).mono ?_
          rintro e13 w13 ⟨rfl, rfl⟩
          have hbf := ext_drewN hb011 q4
          go_wp2_with fail
          refine (known_any _ (ht.ext hbf)).mono ?_
          rintro e14 w14 ⟨rfl, hb14⟩
          go_wp2
          go_ret
          exact ⟨rfl, ext_trans hbf hb14⟩

theorem walk (A B : Option Addr) (n c m d : Nat) (xss : List (List UInt8)) (raw : List UInt8) (w : World) (ht : Tab w) (hn : n = xss.length) (hc : xss.length ≤ c) (hcm : c ≤ maxLen) (hr : RowsF (fun _ => False) w A xss) (hx : ∀ xs ∈ xss, xs.length ≤ maxLen)
    (hm : m = raw.length) (hd : raw.length ≤ d) (hraw : Rd w B (raw.map bv)) :
    Calls Tryd.prog 4 #[.slice A n c, .slice B m d] w fun e w' => e = .returned (.bool true) ∧ Below w.heap.size w w' := by
  by_cases h : 4000 < 3 * xss.length + xss.flatten.length
  · exact walk_heavy A B n c m d xss w hn hr hx (by omega) h
  by_cases h2 : (4000 : Int) < (m : Int)
  · exact walk_long A B n c m d xss w hn hr (by omega) h2
  refine walk_light A B n c m d xss raw w ht hn hr (by omega) (fun xs hxs => ?_) hm hd hraw h2
  obtain ⟨j, hj, rfl⟩ := List.getElem_of_mem hxs
  have h1 := lenTo_le xss (j + 1)
  rw [lenTo_succ xss j hj] at h1
  omega

theorem contract (H : Type) (enc : TypeId × Value → H) (W : World) (base : Nat) (args : Array Value) (ds gs : List (DataW H)) (before : List MemPlace)
    (hval : ∀ (j : Nat) t v, Tryd.f4.params[j]? = some t → args[j]? = some v → Value.okWide Tryd.prog W .any base t v)
    (hW : DataW.Whole enc Tryd.prog Tryd.f4.params.toList Rows.octetRowsSpec.vars false W args.toList ds gs before) (hL : laidMetH Tryd.prog Rows.octetRowsRow.laid W) :
    Calls Tryd.prog 4 args W fun e W' => ∃ v, e = .returned v ∧ Rows.octetRowsSpec.post enc Tryd.prog Tryd.f4 false true false false W args v W' := by
  have ht : Tab W := tab_of_laid hL
  have hW' := hW
  obtain ⟨p, q, hA0, hV, rfl, hfz, hnd⟩ := hW
  have hA : DataW.TrodAll enc Tryd.prog W 0 (fun _ => true) true Tryd.f4.params.toList args.toList ds p := hA0
  rw [Tryd.params4] at hA hval
  obtain ⟨x0, x1, d0, d1, p0, p1, rfl, rfl, rfl, h0, h1⟩ := trodAll_two hA
  obtain ⟨A0, n0, c0, xs0, rfl, hn0, hc0, hm0, hr0, hi0⟩ := arg_rows (hval 0 _ x0 rfl rfl) h0
  obtain ⟨A1, n1, c1, xs1, rfl, hn1, hc1, hm1, hr1⟩ := arg_bytes (hval 1 _ x1 rfl rfl) h1
  have walk : Calls Tryd.prog 4 #[.slice A0 n0 c0, .slice A1 n1 c1] W fun e w' => e = .returned (.bool true) ∧ Below W.heap.size W w' := walk A0 A1 n0 c0 n1 c1 xs0 xs1 W ht hn0 hc0 hm0 hr0 hi0 hn1 hc1 hr1
  refine walk.mono fun e W' ⟨he, hb⟩ => ?_
  subst he
  exact ⟨_, rfl, law_post rfl rfl (by kernel_rfl) ⟨rfl, rfl, rfl⟩ hW' hb⟩

theorem laid_met (os : Os) : laidMet Tryd.prog Rows.octetRowsRow.laid ((laidWorld os).forCall (fun _ _ => 0) ⟨#[], #[.slice none 0 0, .slice none 0 0], []⟩).memory :=
  laidMet_of_run' 8 (by kernel_rfl) (by kernel_rfl)
theorem reads (os : Os) {H : Type} (enc : TypeId × Value → H) : ∃ places, DataW.whole enc Tryd.prog ((laidWorld os).forCall (fun _ _ => 0) ⟨#[], #[.slice none 0 0, .slice none 0 0], []⟩).memory Tryd.f4.params.toList Rows.octetRowsSpec.vars false #[Value.slice none 0 0, .slice none 0 0].toList 8 = some ([.nil, .nil], [], places) :=
  ⟨[], by kernel_rfl⟩

set_option maxRecDepth 100000 in
theorem lifted (os : Os) (started : os.Started) (H : Type) (enc : TypeId × Value → H) (F : Stop.Interp) :
    ReturnsInHanded {} Tryd.checked os 4 .any ((OpenSpec.ofChange Rows.octetRowsSpec).preRow enc Tryd.prog Tryd.f4 Rows.octetRowsRow.domain false Rows.octetRowsRow.laid) (((OpenSpec.ofChange Rows.octetRowsSpec).at F).post enc Tryd.prog Tryd.f4 false true false false) := by
  obtain ⟨places, hx⟩ := reads os enc
  refine returnsInHanded_of_row (C := Tryd.checked) (s := OpenSpec.ofChange Rows.octetRowsSpec) own started (by kernel_rfl) Tryd.func4
    (witness_row_at (enc := enc) (C := Tryd.checked) false (laidWorld os) #[.slice none 0 0, .slice none 0 0] rfl (by kernel_rfl) (by kernel_rfl) (by kernel_rfl)
      (OpenSpec.preRow_of_cond 8 hx (by kernel_rfl) (fun k hk => by cases hk) (by kernel_rfl) (laid_met os))) ?_
  intro W base args ds gs before hval hW _ _ _ hL _ _
  exact contract H enc W base args ds gs before hval hW hL

theorem said : Rows.OctetRowsSaid :=
  OpenClaim.holds_of_cond 4 Tryd.f4 rfl rfl rfl rfl rfl rfl rfl ⟨rfl, rfl, rfl, rfl, rfl⟩ rfl rfl rfl rfl rfl (by kernel_rfl) Tryd.func4 (by kernel_rfl)
    (of_decide_eq_true (by kernel_rfl)) (by unfold Func.isWrapper; first | (rw [if_pos (by decide +kernel)]; kernel_rfl) | (rw [if_neg (by decide +kernel)]; exact ⟨rfl, rfl⟩))
    (fun os started H enc _ F => by rw [OpenClaim.pre_eq_preRow]; exact lifted os started H enc F)

theorem plain (f : FuncId) (fn : Func) (hf : Tryd.pinned.checked.prog.funcNamed "winnower/winnowerlaw1.OctetRows" = some f) (hfn : Tryd.pinned.checked.prog.funcs[f]? = some fn) :
    false = Tryd.pinned.checked.prog.looks [] ∧ ∀ (j : Nat) t, fn.params[j]? = some t → Tryd.pinned.checked.prog.wantsStandIn t = false := by
  obtain rfl : f = 4 := Option.some.inj ((show Tryd.prog.funcNamed "winnower/winnowerlaw1.OctetRows" = some 4 by kernel_rfl).symm.trans hf) |>.symm
  obtain rfl : fn = Tryd.f4 := (Option.some.inj (Tryd.func4.symm.trans hfn)).symm
  refine ⟨by kernel_rfl, fun j t ht => ?_⟩
  have hall : Tryd.f4.params.all (fun t => !Tryd.prog.wantsStandIn t) = true := by kernel_rfl
  have h1 := Array.all_eq_true'.1 hall t (Array.mem_of_getElem? ht)
  have h2 : Tryd.prog.wantsStandIn t = false := by simpa using h1
  exact h2

/-- THE CARD -/
theorem octetRows_card : Rows.OctetRowsCardSaid :=
  Claim7.holds_tied_plain_at .later [] _ _ _ _ said (fun _ h => by cases h) (by kernel_rfl) (fun _ h => by cases h) octetRows_row_tie rfl ⟨rfl, rfl⟩ (by kernel_rfl) rfl plain (by kernel_rfl)
end Go.Proofs.YtdnaabiijihooaaDoor.OctetRows
