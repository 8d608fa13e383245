/-
  PROVED HERE: OctetCuts's tied card (the first form, every argument): of rows whose bytes are cut short all that are whole come, the first that is not errs, and nothing comes behind it.
  Conditions: none of our own; the card's row lists the table octet.crcSteps, which the card ties to the program's text.
-/
import Derived.Test.YtdnaabiijihooaaDoorKnown
import Derived.Test.YtdnaabiijihooaaDoorHeavy
import Derived.Test.YtdnaabiijihooaaDoorRef
import Derived.Test.YtdnaabiijihooaaDoorRBytes
import Derived.Test.YtdnaabiijihooaaDoorArgs
import Derived.Test.YtdnaabiijihooaaDoorMask
import Derived.Test.YtdnaabiijihooaaDoorPrefix
namespace Go.Proofs.YtdnaabiijihooaaDoor.OctetCuts
open Go Go.ChangeShapes Go.WideShapes Go.ChangeAt Go.RowKit

theorem info_int : (Tryd.prog.info? 3).map (fun i => (i.zero, i.size, i.bytes)) = some (some (.int .i64 0), 1, 8) := by kernel_rfl

/-- where row number k begins -/
def endTo (xss : List (List UInt8)) (k : Nat) : Nat := (rowsTo xss k).length
theorem endTo_zero (xss : List (List UInt8)) : endTo xss 0 = 0 := rfl
theorem endTo_succ (xss : List (List UInt8)) (k : Nat) (h : k < xss.length) : endTo xss (k + 1) = endTo xss k + ((dig xss[k].length).length + xss[k].length) := by
  unfold endTo; rw [rowsTo_succ xss k h, List.length_append, List.length_append]; omega
theorem endTo_all (xss : List (List UInt8)) : endTo xss xss.length = (rowsB xss).length := by unfold endTo; rw [rowsTo_all]
theorem endTo_le (xss : List (List UInt8)) (k : Nat) : endTo xss k ≤ (rowsB xss).length := rowsTo_le xss k
theorem rowsB_len (xss : List (List UInt8)) (h : ∀ xs ∈ xss, xs.length ≤ 4000) : (rowsB xss).length ≤ 9 * xss.length + xss.flatten.length := by
  induction xss with
  | nil => simp [rowsB]
  | cons x r ih =>
    have h1 := dig_clamp_len (x.length : Int)
    rw [clamp_of_nat (by have := h x (by simp); omega)] at h1
    have ih' := ih (fun y hy => h y (by simp [hy]))
    have e : (rowsB (x :: r)).length = (dig x.length).length + x.length + (rowsB r).length := by unfold rowsB; rw [List.flatMap_cons, List.length_append, List.length_append]
    rw [e]
    simp only [List.length_cons, List.flatten_cons, List.length_append]
    omega

/-- the list of the ends, as far as it has come -/
def endsL (xss : List (List UInt8)) (k : Nat) : List Value := (List.range k).map fun j => .int .i64 (endTo xss (j + 1) : Int)
theorem endsL_len (xss : List (List UInt8)) (k : Nat) : (endsL xss k).length = k := by simp [endsL]
theorem endsL_succ (xss : List (List UInt8)) (k : Nat) : endsL xss (k + 1) = endsL xss k ++ [.int .i64 (endTo xss (k + 1) : Int)] := by simp [endsL, List.range_succ]
theorem endsL_at (xss : List (List UInt8)) (n k : Nat) (h : k < (endsL xss n).length) : (endsL xss n)[k] = .int .i64 (endTo xss (k + 1) : Int) := by simp [endsL]

/-- what the first loop has made: all bytes so far, all ends so far, in rows of their own -/
def Made (w wr : World) (A : Option Addr) (c : Nat) (bs : List UInt8) (E : Option Addr) (e : Nat) (vs : List Value) : Prop :=
  Below w.heap.size w wr ∧ ∃ fA fE : Nat → Prop, Own wr fA 5 A c (bs.map bv) ∧ Own wr fE 3 E e vs ∧ (∀ k, fA k → ¬ fE k) ∧ (∀ k, fA k ∨ fE k → w.heap.size ≤ k ∧ k < wr.heap.size)

theorem Made.start (w : World) : Made w w none 0 [] none 0 [] := ⟨Below.refl _ _, fun _ => False, fun _ => False, Own.none_ _ _ _, Own.none_ _ _ _, fun _ h => h.elim, fun _ h => by rcases h with h | h <;> exact h.elim⟩

section
variable {w wr w2 w3 w4 : World} {A A3 E E4 : Option Addr} {c c3 e e4 : Nat} {bs cs : List UInt8} {vs us : List Value} {o : Obj}
/-- one more row of bytes -/
theorem Made.bytes {fA fE : Nat → Prop} (hb : Below w.heap.size w wr) (hE : Own wr fE 3 E e vs) (hd : ∀ k, fA k → ¬ fE k) (hs : ∀ k, fA k ∨ fE k → w.heap.size ≤ k ∧ k < wr.heap.size) (hb2 : Below wr.heap.size wr w2)
    (h3 : Own w3 (More fA w2 w3) 5 A3 c3 (bs.map bv ++ cs.map bv)) (ho : Only fA w2 w3) : Made w w3 A3 c3 (bs ++ cs) E e vs := by
  have s1 := hb.size
  have s2 := hb2.size
  have s3 := ho.size
  refine ⟨(ext_trans hb hb2).trans (ho.below (fun i hi => (hs i (.inl hi)).1) (by omega)), More fA w2 w3, fE, by rw [List.map_append]; exact h3, (hE.ext hb2).only ho (fun k hk h => hd k h hk), fun k hk h => ?_, fun k hk => ?_⟩
  · rcases hk with hk | hk
    · exact hd k hk h
    · have := (hs k (.inr h)).2; omega
  · rcases hk with (hk | hk) | hk
    · have := hs k (.inl hk); omega
    · omega
    · have := hs k (.inr hk); omega
/-- one more end -/
theorem Made.end_ {fA fE : Nat → Prop} (hb : Below w.heap.size w wr) (hA : Own wr fA 5 A c (bs.map bv)) (hd : ∀ k, fA k → ¬ fE k) (hs : ∀ k, fA k ∨ fE k → w.heap.size ≤ k ∧ k < wr.heap.size)
    (h3 : Own w3 (More fE (wr.alloc o) w3) 3 E4 e4 (vs ++ us)) (ho : Only fE (wr.alloc o) w3) : Made w w3 A c bs E4 e4 (vs ++ us) := by
  have s1 := hb.size
  have s3 := ho.size
  rw [World.size_alloc] at s3
  refine ⟨(hb.alloc s1 o).trans (ho.below (fun i hi => (hs i (.inr hi)).1) (by rw [World.size_alloc]; omega)), fA, More fE (wr.alloc o) w3, (hA.alloc o).only ho (fun k hk h => hd k hk h), h3, fun k hk h => ?_, fun k hk => ?_⟩
  · rcases h with h | h
    · exact hd k hk h
    · have := (hs k (.inl hk)).2; rw [World.size_alloc] at h; omega
  · rcases hk with hk | hk | hk
    · have := hs k (.inl hk); omega
    · have := hs k (.inr hk); omega
    · rw [World.size_alloc] at hk; omega
end

set_option maxHeartbeats 1000000 in
theorem walk_heavy (A : Option Addr) (n c : Nat) (v : Int) (xss : List (List UInt8)) (w : World) (hn : n = xss.length) (hr : RowsF (fun _ => False) w A xss) (hm : ∀ xs ∈ xss, xs.length ≤ maxLen) (hm2 : xss.length ≤ maxLen) (h : 4000 < 3 * xss.length + xss.flatten.length) :
    Calls Tryd.prog 8 #[.slice A n c, .int .i64 v] w fun e w' => e = .returned (.bool true) ∧ Below w.heap.size w w' := by
  have Hn := Lib.hid hn
  clear hn
  go_enter Tryd.func8, Tryd.ntmps8
  go_wp2_with (go_at_call 21; refine (heavy_yes A n c xss _ Hn.out hr hm hm2 h).mono ?_; rintro e w3 ⟨rfl, rfl⟩)
  go_ret
  exact ⟨rfl, Below.refl _ _⟩
set_option maxHeartbeats 1000000 in
theorem walk_empty (A : Option Addr) (c : Nat) (v : Int) (w : World) (hr : RowsF (fun _ => False) w A []) :
    Calls Tryd.prog 8 #[.slice A 0 c, .int .i64 v] w fun e w' => e = .returned (.bool true) ∧ Below w.heap.size w w' := by
  go_enter Tryd.func8, Tryd.ntmps8
  go_wp2_with (go_at_call 21; refine (heavy_no A 0 c [] _ rfl hr (by simp)).mono ?_; rintro e w3 ⟨rfl, rfl⟩)
  go_ret
  exact ⟨rfl, Below.refl _ _⟩

/-- what stands in the Reader behind k rows -/
def leftOf (xss : List (List UInt8)) (cut k : Nat) : List UInt8 := ((rowsB xss).take cut).drop (endTo xss k)
theorem rowsB_drop (xss : List (List UInt8)) (k : Nat) (h : k < xss.length) : (rowsB xss).drop (endTo xss k) = dig xss[k].length ++ xss[k] ++ (rowsB xss).drop (endTo xss (k + 1)) := by
  have e1 : rowsB xss = rowsTo xss k ++ rowsB (xss.drop k) := by unfold rowsTo rowsB; rw [← List.flatMap_append, List.take_append_drop]
  have e2 : rowsB xss = rowsTo xss (k + 1) ++ rowsB (xss.drop (k + 1)) := by unfold rowsTo rowsB; rw [← List.flatMap_append, List.take_append_drop]
  have e3 : (rowsB xss).drop (endTo xss (k + 1)) = rowsB (xss.drop (k + 1)) := by rw [e2]; unfold endTo; simp
  have e4 : (rowsB xss).drop (endTo xss k) = rowsB (xss.drop k) := by rw [e1]; unfold endTo; simp
  rw [e3, e4]
  unfold rowsB
  rw [List.drop_eq_getElem_cons h, List.flatMap_cons]

/-- the three ways of a round: the row is whole; its number alone; not even that -/
theorem left_whole (xss : List (List UInt8)) (cut k : Nat) (h : k < xss.length) (hc : endTo xss (k + 1) ≤ cut) (hcut : cut ≤ (rowsB xss).length) (hl : xss[k].length ≤ 4611686018427387904) :
    num? (leftOf xss cut k) = some (xss[k].length, (dig xss[k].length).length) ∧ (dig xss[k].length).length ≤ (leftOf xss cut k).length ∧ xss[k].length ≤ ((leftOf xss cut k).drop (dig xss[k].length).length).length ∧
      ((leftOf xss cut k).drop (dig xss[k].length).length).take xss[k].length = xss[k] ∧ ((leftOf xss cut k).drop (dig xss[k].length).length).drop xss[k].length = leftOf xss cut (k + 1) := by
  have hs := endTo_succ xss k h
  have e : leftOf xss cut k = dig xss[k].length ++ (xss[k] ++ leftOf xss cut (k + 1)) := by
    unfold leftOf
    rw [List.drop_take, rowsB_drop xss k h, List.append_assoc, List.take_append, List.take_append, List.drop_take]
    congr 1
    · rw [List.take_of_length_le (by omega)]
    · congr 1
      · rw [List.take_of_length_le (by omega)]
      · congr 1; omega
  rw [e]
  refine ⟨num_dig _ _ hl, by simp, by simp, by simp, by simp⟩
theorem left_short (xss : List (List UInt8)) (cut k : Nat) (h : k < xss.length) (h0 : endTo xss k ≤ cut) (hc : cut < endTo xss (k + 1)) (hcut : cut ≤ (rowsB xss).length) (hl : xss[k].length ≤ 4611686018427387904) :
    num? (leftOf xss cut k) = none ∨ (num? (leftOf xss cut k) = some (xss[k].length, (dig xss[k].length).length) ∧ (dig xss[k].length).length ≤ (leftOf xss cut k).length ∧ ((leftOf xss cut k).drop (dig xss[k].length).length).length < xss[k].length) := by
  have hs := endTo_succ xss k h
  have e : leftOf xss cut k = (dig xss[k].length).take (cut - endTo xss k) ++ xss[k].take (cut - endTo xss k - (dig xss[k].length).length) := by
    unfold leftOf
    rw [List.drop_take, rowsB_drop xss k h, List.take_append, List.take_append]
    rw [show cut - endTo xss k - (dig xss[k].length ++ xss[k]).length = 0 by rw [List.length_append]; omega, List.take_zero, List.append_nil]
  by_cases hm : cut - endTo xss k < (dig xss[k].length).length
  · left
    rw [e, show cut - endTo xss k - (dig xss[k].length).length = 0 by omega, List.take_zero, List.append_nil]
    exact num_prefix _ _ hm
  · right
    rw [e, List.take_of_length_le (show (dig xss[k].length).length ≤ cut - endTo xss k by omega)]
    refine ⟨num_dig _ _ hl, by simp, ?_⟩
    simp; omega
theorem left_len (xss : List (List UInt8)) (cut k : Nat) : (leftOf xss cut k).length ≤ (rowsB xss).length := by unfold leftOf; simp; omega

set_option maxRecDepth 100000 in
set_option maxHeartbeats 4000000 in
theorem walk_light (A : Option Addr) (n c : Nat) (v : Int) (xss : List (List UInt8)) (w : World) (ht : Tab w) (hn : n = xss.length) (hr : RowsF (fun _ => False) w A xss) (h : 3 * xss.length + xss.flatten.length ≤ 4000) (hpos : 0 < xss.length) (hx4 : ∀ xs ∈ xss, xs.length ≤ 4000) :
    Calls Tryd.prog 8 #[.slice A n c, .int .i64 v] w fun e w' => e = .returned (.bool true) ∧ Below w.heap.size w w' := by
  subst hn
  have hlx : xss.length ≤ 4000 := by omega
  have hlp : ((xss.length : Int) == 0) = false := beq_eq_false_iff_ne.2 (by omega)
  have hB := rowsB_len xss hx4
  have hB4 : (rowsB xss).length ≤ 40000 := by omega
  have hEle := Lib.hid (endTo_le xss)
  have hEall := Lib.hid (endTo_all xss)
  have hBpos : 0 < (rowsB xss).length := by
    have h1 : endTo xss 1 = _ := endTo_succ xss 0 hpos
    have h2 := endTo_le xss 1
    have h3 := dig_pos xss[0].length
    omega
  clear hB
  go_enter Tryd.func8, Tryd.ntmps8
  go_wp2_with fail
  refine (heavy_no A _ c xss _ rfl hr h).mono ?_
  rintro e w3 ⟨rfl, rfl⟩
  go_wp2
  go_loopw [5, 6, 7] (fun s t i wr => ∃ (k : Nat) (A' : Option Addr) (c' : Nat) (E : Option Addr) (e : Nat), k ≤ xss.length ∧ i = .int .i64 (k : Int) ∧ s = .slice A' (endTo xss k) c' ∧ t = .slice E k e ∧ Made w wr A' c' (rowsTo xss k) E e (endsL xss k)) (fun _ _ i _ => xss.length - (intOf i).toNat)
  case atStart => exact ⟨0, none, 0, none, 0, Nat.zero_le _, rfl, by rw [endTo_zero], rfl, Made.start w⟩
  case round =>
    obtain ⟨k, A', c', E, e, hk, rfl, rfl, rfl, hbel, fA, fE, hA, hE, hdis, hfs⟩ := hrel
    by_cases hlt : k < xss.length
    · obtain ⟨ad, B, cb, rfl, hcell, hl, hrd⟩ := (hr.ext hbel).at_ hlt
      have hsucc := endTo_succ xss k hlt
      have hl4 : xss[k].length ≤ 4000 := hx4 _ (List.getElem_mem hlt)
      have hrs := rowsTo_succ xss k hlt
      have hele := hEle.out (k + 1)
      have hes := endsL_succ xss k
      have hds := dig_pos xss[k].length
      have h0a := Lib.hid (show endTo xss k = ((rowsTo xss k).map bv).length by rw [List.length_map]; rfl)
      have h0e := Lib.hid (show k = (endsL xss k).length by rw [endsL_len])
      obtain ⟨cs, hcs⟩ : ∃ cs, dig xss[k].length ++ xss[k] = cs := ⟨_, rfl⟩
      have hcl : endTo xss (k + 1) = endTo xss k + cs.length := by rw [hsucc, ← hcs, List.length_append]
      rw [List.append_assoc, hcs] at hrs
      have Hcs := Lib.hid hcs
      have Hcl := Lib.hid hcl
      have Hrs := Lib.hid hrs
      have Hes := Lib.hid hes
      have hcs4 : endTo xss k + cs.length ≤ 40000 := by omega
      clear hsucc hrs hele hes hds hcs hcl
      generalize xss[k] = row at *
      go_wp2_with fail
      refine (refbytes_any B _ cb row cs _ rfl Hcs.out hrd.1 (by omega)).mono ?_
      rintro e1 w2 ⟨A2, c2, rfl, hn2, hb2⟩
      have hk1 : endTo xss k + cs.length ≤ maxLen := by unfold maxLen; omega
      have hk2 : (endTo xss k + cs.length) * 1 ≤ 140737488355328 := by omega
      have hk3 : k + 1 ≤ maxLen := by unfold maxLen; omega
      have hk4 : (k + 1) * 8 ≤ 140737488355328 := by omega
      have h1c := Lib.hid (show cs.length = (cs.map bv).length by rw [List.length_map])
      go_wp2_with (first
        | (at_builtin
           refine wpList_app _ (fp := fA) rfl (.tmp 25) (.tmp 30) _ rfl _ _ 1 Tryd.underlying23 info_u8 rfl A' (endTo xss k) c' ((rowsTo xss k).map bv) rfl h0a.out (hA.ext hb2) A2 cs.length c2 (cs.map bv) rfl h1c.out hn2.rd (bvs_one _) hk1 hk2 ?_
           intro A3 c3 w3 hown3 honly3
           obtain ⟨hbel3, gA, gE, hA3, hE3, hdis3, hfs3⟩ := Made.bytes hbel hE hdis hfs hb2 hown3 honly3)
        | (at_builtin
           refine wpList_app _ (fp := gE) rfl (.tmp 32) (.tmp 35) _ rfl _ _ 8 Tryd.underlying22 info_int rfl E k e (endsL xss k) rfl h0e.out (hE3.alloc _) (some ⟨w3.heap.size, 0, none⟩) 1 1 [.int .i64 ((endTo xss k : Int) + (cs.length : Int))] rfl rfl (Rd.lit w3 #[.int .i64 ((endTo xss k : Int) + (cs.length : Int))] _) (by simp; rfl) hk3 hk4 ?_
           intro E4 e4 w4 hown4 honly4))
      go_roundw
      case rel =>
        have hm := Made.end_ hbel3 hA3 hdis3 hfs3 hown4 honly4
        refine ⟨k + 1, A3, c3, E4, e4, by omega, by go_num, by rw [Hcl.out], rfl, ?_⟩
        rw [Hrs.out, Hes.out, Hcl.out, Int.natCast_add]
        exact hm
      case measure => simp [intOf]; omega
    · obtain rfl : k = xss.length := by omega
      obtain ⟨wo, rfl⟩ : ∃ wo : World, wo = wr := ⟨_, rfl⟩
      have hall := endTo_all xss
      rw [hall]
      rw [rowsTo_all] at hA
      have hb1 := hbel
      obtain ⟨m, e1, lm⟩ := mask30 v
      obtain ⟨cut, hcut⟩ : ∃ cut, cut = m % (rowsB xss).length := ⟨_, rfl⟩
      have hcl : cut < (rowsB xss).length := by rw [hcut]; exact Nat.mod_lt _ hBpos
      have e2 : (m : Int) % ((rowsB xss).length : Int) = (cut : Int) := by rw [hcut]; omega
      have e3 : (m : Int).tmod ((rowsB xss).length : Int) = (cut : Int) := by rw [Int.tmod_eq_emod_of_nonneg (by omega)]; exact e2
      have e4 : (((rowsB xss).length : Int) == 0) = false := beq_eq_false_iff_ne.2 (by omega)
      have hcap := hA.cap
      rw [List.length_map] at hcap
      have htk : ((rowsB xss).take cut).length = cut := by rw [List.length_take]; omega
      have htr : Rd wo A' (((rowsB xss).take cut).map bv) := by rw [List.map_take]; exact hA.rd.take cut
      have Htk := Lib.hid htk
      have hcut4 : cut ≤ 40000 := by omega
      have hrows := hr.ext hbel
      have hE0 := hE.rd
      clear hcut htk hall
      go_wp2_with fail
      refine (newreader A' _ c' ((rowsB xss).take cut) _ Htk.out.symm (by rw [Htk.out]; omega) htr (by rw [Htk.out]; omega)).mono ?_
      rintro e5 w5 ⟨g, rfl, hrd, hb5⟩
      have hb5' := ext_trans hbel hb5
      have hs5 := hb5.size
      have hsr := hbel.size
      have hd0 : (rowsB xss).take cut = leftOf xss cut 0 := rfl
      rw [hd0] at hrd
      clear hd0 hA hE hdis hfs htr
      go_wp2
      go_loopw [10] (fun i wq => ∃ k : Nat, k ≤ xss.length ∧ i = .int .i64 (k : Int) ∧ Below w.heap.size w wq ∧ Below wo.heap.size wo wq ∧
        (if endTo xss k ≤ cut then Rdr wq (fun j => wo.heap.size ≤ j ∧ j < w5.heap.size) g (leftOf xss cut k) false else Rdr wq (fun j => wo.heap.size ≤ j ∧ j < w5.heap.size) g [] true)) (fun i _ => xss.length - (intOf i).toNat)
      case atStart => exact ⟨0, Nat.zero_le _, rfl, hb5', hb5, by rw [if_pos (by rw [endTo_zero]; omega)]; exact hrd⟩
      case round =>
        obtain ⟨k, hk, rfl, hbq, hbrq, hst⟩ := hrel
        by_cases hlt : k < xss.length
        · have hl4 : xss[k].length ≤ 4000 := hx4 _ (List.getElem_mem hlt)
          have hll := left_len xss cut k
          have hsucc := endTo_succ xss k hlt
          obtain ⟨adE, rfl, hce⟩ := (hE0.ext hbrq).at_ (k := k) (by rw [endsL_len]; exact hlt)
          rw [endsL_at] at hce
          have hadE : adE.block < wo.heap.size := by
            obtain ⟨ad', e', h⟩ := hE0.at_ (k := k) (by rw [endsL_len]; exact hlt)
            injection e' with e'; subst e'
            have := World.block_lt_of_cell? wo _ h
            rwa [block_add] at this
          by_cases hw1 : endTo xss (k + 1) ≤ cut
          · rw [if_pos (by omega)] at hst
            have hgw : wo.heap.size ≤ g := hst.1.1
            obtain ⟨n1, n2, n3, n4, n5⟩ := left_whole xss cut k hlt hw1 (by omega) (by omega)
            have hcall := rbytes_ok _ g (leftOf xss cut k) _ _ wr hst n1 (dig_pos _) n2 n3 (by omega)
            rw [n4, n5] at hcall
            have hnext : Hid (∀ W, Rdr W (fun j => wo.heap.size ≤ j ∧ j < w5.heap.size) g (leftOf xss cut (k + 1)) false → (if endTo xss (k + 1) ≤ cut then Rdr W (fun j => wo.heap.size ≤ j ∧ j < w5.heap.size) g (leftOf xss cut (k + 1)) false else Rdr W (fun j => wo.heap.size ≤ j ∧ j < w5.heap.size) g [] true)) := fun W h => by rw [if_pos hw1]; exact h
            have hw1i : (endTo xss (k + 1) : Int) ≤ (cut : Int) := by omega
            have Hcall := Lib.hid hcall
            obtain ⟨ad, B, cb, e0, hcell, hl, hrow⟩ := (hrows.ext hbrq).at_ hlt
            subst e0
            have hadb : ad.block < wo.heap.size := by
              obtain ⟨ad', B', cb', e', h, _⟩ := hrows.at_ hlt
              injection e' with e'; subst e'
              have := World.block_lt_of_cell? wo _ h
              rwa [block_add] at this
            clear n1 n2 n3 n4 n5 hcall hst hsucc hll
            go_wp2_with fail
            refine Hcall.out.mono ?_
            rintro e6 w6 ⟨A6, c6, rfl, hn6, hrd6, ho6⟩
            have hb6 : Below wo.heap.size wo w6 := hbrq.trans (ho6.below (by intro i hi; omega) hbrq.size)
            have hb6w : Below w.heap.size w w6 := ext_trans hb1 hb6
            have hce6 : w6.cell? (adE.add k) = some (.int .i64 (endTo xss (k + 1) : Int)) := by
              have h1 : w6.heap[adE.block]? = wr.heap[adE.block]? := ho6.block _ (Nat.lt_of_lt_of_le hadE hbrq.size) (by omega)
              exact (World.cell?_of_block (by rw [block_add]; exact h1)).trans hce
            have hcell6 : w6.cell? (ad.add k) = some (.slice B xss[k].length cb) := by
              have h1 : w6.heap[ad.block]? = wr.heap[ad.block]? := ho6.block _ (Nat.lt_of_lt_of_le hadb hbrq.size) (by omega)
              exact (World.cell?_of_block (by rw [block_add]; exact h1)).trans hcell
            have hrow6 : Rd w6 B (xss[k].map bv) := by
              obtain ⟨ad', B', cb', e', h, _, hr'⟩ := (hrows.ext hb6).at_ hlt
              injection e' with e'; subst e'
              rw [hcell6] at h
              injection h with h; injection h with h1 h2 h3
              subst h1
              exact hr'.1
            clear hce hcell hrow
            generalize xss[k] = row at *
            go_wp2_with fail
            refine (same_yes A6 B _ _ c6 cb row _ rfl rfl hn6.rd hrow6 (by omega)).mono ?_
            rintro e7 w7 ⟨rfl, q, rfl⟩
            go_wp2_with (go_at_call 18; refine (rgood _ g _ false _ (hrd6.drewN q)).mono ?_; rintro e8 w8 ⟨rfl, rfl⟩)
            go_roundw
            case rel => exact ⟨k + 1, by omega, by go_num, ext_drewN hb6w q, ext_drewN hb6 q, hnext.out _ (hrd6.drewN q)⟩
            case measure => simp [intOf]; omega
          · have hcall : Calls Tryd.prog 27 #[.pointer (some ⟨g, 0, none⟩)] wr fun e w' => e = .returned (.slice none 0 0) ∧ Rdr w' (fun j => wo.heap.size ≤ j ∧ j < w5.heap.size) g [] true ∧ Only (fun k => k = g) wr w' := by
              by_cases hw2 : endTo xss k ≤ cut
              · rw [if_pos hw2] at hst
                rcases left_short xss cut k hlt hw2 (by omega) (by omega) (by omega) with n1 | ⟨n1, n2, n3⟩
                · exact rbytes_none _ g _ wr hst n1 (by omega)
                · exact rbytes_short _ g _ _ _ wr hst n1 (dig_pos _) n2 n3 ⟨by omega, by omega⟩ (by omega)
              · rw [if_neg hw2] at hst
                refine (rbytes_dead _ g [] wr hst).mono ?_
                rintro e w' ⟨rfl, rfl⟩
                exact ⟨rfl, hst, Only.refl _ _⟩
            have hgw : wo.heap.size ≤ g := by split at hst <;> exact hst.1.1
            have hnext : Hid (∀ W, Rdr W (fun j => wo.heap.size ≤ j ∧ j < w5.heap.size) g [] true → (if endTo xss (k + 1) ≤ cut then Rdr W (fun j => wo.heap.size ≤ j ∧ j < w5.heap.size) g (leftOf xss cut (k + 1)) false else Rdr W (fun j => wo.heap.size ≤ j ∧ j < w5.heap.size) g [] true)) := fun W h => by rw [if_neg hw1]; exact h
            have hw1i : (cut : Int) < (endTo xss (k + 1) : Int) := by omega
            have Hcall := Lib.hid hcall
            clear hcall hst hsucc hll
            go_wp2_with fail
            refine Hcall.out.mono ?_
            rintro e6 w6 ⟨rfl, hrd6, ho6⟩
            have hb6 : Below wo.heap.size wo w6 := hbrq.trans (ho6.below (by intro i hi; omega) hbrq.size)
            have hb6w : Below w.heap.size w w6 := ext_trans hb1 hb6
            have hce6 : w6.cell? (adE.add k) = some (.int .i64 (endTo xss (k + 1) : Int)) := by
              have h1 : w6.heap[adE.block]? = wr.heap[adE.block]? := ho6.block _ (Nat.lt_of_lt_of_le hadE hbrq.size) (by omega)
              exact (World.cell?_of_block (by rw [block_add]; exact h1)).trans hce
            clear hce
            go_wp2_with (first
              | (go_at_call 18; refine (rgood _ g [] true _ hrd6).mono ?_; rintro e8 w8 ⟨rfl, rfl⟩)
              | (go_at_call 28; refine (rleft _ g [] true _ hrd6).mono ?_; rintro e8 w8 ⟨rfl, rfl⟩))
            go_roundw
            case rel => exact ⟨k + 1, by omega, by go_num, hb6w, hb6, hnext.out _ hrd6⟩
            case measure => simp [intOf]; omega
        · obtain rfl : k = xss.length := by omega
          rw [if_neg (by rw [hEall.out]; omega)] at hst
          go_wp2_with (first
            | (go_at_call 19; refine (rwhole_bad _ g [] _ hst).mono ?_; rintro e8 w8 ⟨rfl, rfl⟩)
            | (go_at_call 17; refine (rnum_dead _ g [] _ hst).mono ?_; rintro e8 w8 ⟨rfl, rfl⟩))
          refine (known_any _ (ht.ext hbq)).mono ?_
          rintro e9 w9 ⟨rfl, hb9⟩
          go_wp2
          go_ret
          exact ⟨rfl, ext_trans hbq hb9⟩

theorem walk (A : Option Addr) (n c : Nat) (v : Int) (xss : List (List UInt8)) (w : World) (ht : Tab w) (hn : n = xss.length) (hc : xss.length ≤ c) (hcm : c ≤ maxLen) (hr : RowsF (fun _ => False) w A xss) (hm : ∀ xs ∈ xss, xs.length ≤ maxLen) :
    Calls Tryd.prog 8 #[.slice A n c, .int .i64 v] w fun e w' => e = .returned (.bool true) ∧ Below w.heap.size w w' := by
  by_cases h : 4000 < 3 * xss.length + xss.flatten.length
  · exact walk_heavy A n c v xss w hn hr hm (by omega) h
  by_cases h0 : xss.length = 0
  · obtain rfl : xss = [] := List.eq_nil_of_length_eq_zero h0
    subst hn
    exact walk_empty A c v w hr
  refine walk_light A n c v xss w ht hn hr (by omega) (by omega) (fun xs hxs => ?_)
  obtain ⟨j, hj, rfl⟩ := List.getElem_of_mem hxs
  have h1 := lenTo_le xss (j + 1)
  rw [lenTo_succ xss j hj] at h1
  omega

theorem contract (H : Type) (enc : TypeId × Value → H) (W : World) (base : Nat) (args : Array Value) (ds gs : List (DataW H)) (before : List MemPlace)
    (hval : ∀ (j : Nat) t v, Tryd.f8.params[j]? = some t → args[j]? = some v → Value.okWide Tryd.prog W .any base t v)
    (hW : DataW.Whole enc Tryd.prog Tryd.f8.params.toList Rows.octetCutsSpec.vars false W args.toList ds gs before) (hL : laidMetH Tryd.prog Rows.octetCutsRow.laid W) :
    Calls Tryd.prog 8 args W fun e W' => ∃ v, e = .returned v ∧ Rows.octetCutsSpec.post enc Tryd.prog Tryd.f8 false true false false W args v W' := by
  have ht : Tab W := tab_of_laid hL
  have hW' := hW
  obtain ⟨p, q, hA0, hV, rfl, hfz, hnd⟩ := hW
  have hA : DataW.TrodAll enc Tryd.prog W 0 (fun _ => true) true Tryd.f8.params.toList args.toList ds p := hA0
  rw [Tryd.params8] at hA hval
  obtain ⟨x0, x1, d0, d1, p0, p1, rfl, rfl, rfl, h0, h1⟩ := trodAll_two hA
  obtain ⟨A0, n0, c0, xs0, rfl, hn0, hc0, hm0, hr0, hi0⟩ := arg_rows (hval 0 _ x0 rfl rfl) h0
  obtain ⟨v1, rfl, rfl, rfl, wv1⟩ := open_int Tryd.underlying3 (hval 1 _ x1 rfl rfl) h1
  have i1 := int_of_wf wv1
  have walk : Calls Tryd.prog 8 #[.slice A0 n0 c0, .int .i64 v1] W fun e w' => e = .returned (.bool true) ∧ Below W.heap.size W w' := walk A0 n0 c0 v1 xs0 W ht hn0 hc0 hm0 hr0 hi0
  refine walk.mono fun e W' ⟨he, hb⟩ => ?_
  subst he
  exact ⟨_, rfl, law_post rfl rfl (by kernel_rfl) ⟨rfl, rfl, rfl⟩ hW' hb⟩

theorem laid_met (os : Os) : laidMet Tryd.prog Rows.octetCutsRow.laid ((laidWorld os).forCall (fun _ _ => 0) ⟨#[], #[.slice none 0 0, .int .i64 0], []⟩).memory :=
  laidMet_of_run' 8 (by kernel_rfl) (by kernel_rfl)
theorem reads (os : Os) {H : Type} (enc : TypeId × Value → H) : ∃ places, DataW.whole enc Tryd.prog ((laidWorld os).forCall (fun _ _ => 0) ⟨#[], #[.slice none 0 0, .int .i64 0], []⟩).memory Tryd.f8.params.toList Rows.octetCutsSpec.vars false #[Value.slice none 0 0, .int .i64 0].toList 8 = some ([.nil, .lit (.int .i64 0)], [], places) :=
  ⟨[], by kernel_rfl⟩

set_option maxRecDepth 100000 in
theorem lifted (os : Os) (started : os.Started) (H : Type) (enc : TypeId × Value → H) (F : Stop.Interp) :
    ReturnsInHanded {} Tryd.checked os 8 .any ((OpenSpec.ofChange Rows.octetCutsSpec).preRow enc Tryd.prog Tryd.f8 Rows.octetCutsRow.domain false Rows.octetCutsRow.laid) (((OpenSpec.ofChange Rows.octetCutsSpec).at F).post enc Tryd.prog Tryd.f8 false true false false) := by
  obtain ⟨places, hx⟩ := reads os enc
  refine returnsInHanded_of_row (C := Tryd.checked) (s := OpenSpec.ofChange Rows.octetCutsSpec) own started (by kernel_rfl) Tryd.func8
    (witness_row_at (enc := enc) (C := Tryd.checked) false (laidWorld os) #[.slice none 0 0, .int .i64 0] rfl (by kernel_rfl) (by kernel_rfl) (by kernel_rfl)
      (OpenSpec.preRow_of_cond 8 hx (by kernel_rfl) (fun k hk => by cases hk) (by kernel_rfl) (laid_met os))) ?_
  intro W base args ds gs before hval hW _ _ _ hL _ _
  exact contract H enc W base args ds gs before hval hW hL

theorem said : Rows.OctetCutsSaid :=
  OpenClaim.holds_of_cond 8 Tryd.f8 rfl rfl rfl rfl rfl rfl rfl ⟨rfl, rfl, rfl, rfl, rfl⟩ rfl rfl rfl rfl rfl (by kernel_rfl) Tryd.func8 (by kernel_rfl)
    (of_decide_eq_true (by kernel_rfl)) (by unfold Func.isWrapper; first | (rw [if_pos (by decide +kernel)]; kernel_rfl) | (rw [if_neg (by decide +kernel)]; exact ⟨rfl, rfl⟩))
    (fun os started H enc _ F => by rw [OpenClaim.pre_eq_preRow]; exact lifted os started H enc F)

theorem plain (f : FuncId) (fn : Func) (hf : Tryd.pinned.checked.prog.funcNamed "winnower/winnowerlaw1.OctetCuts" = some f) (hfn : Tryd.pinned.checked.prog.funcs[f]? = some fn) :
    false = Tryd.pinned.checked.prog.looks [] ∧ ∀ (j : Nat) t, fn.params[j]? = some t → Tryd.pinned.checked.prog.wantsStandIn t = false := by
  obtain rfl : f = 8 := Option.some.inj ((show Tryd.prog.funcNamed "winnower/winnowerlaw1.OctetCuts" = some 8 by kernel_rfl).symm.trans hf) |>.symm
  obtain rfl : fn = Tryd.f8 := (Option.some.inj (Tryd.func8.symm.trans hfn)).symm
  refine ⟨by kernel_rfl, fun j t ht => ?_⟩
  have hall : Tryd.f8.params.all (fun t => !Tryd.prog.wantsStandIn t) = true := by kernel_rfl
  have h1 := Array.all_eq_true'.1 hall t (Array.mem_of_getElem? ht)
  have h2 : Tryd.prog.wantsStandIn t = false := by simpa using h1
  exact h2

/-- THE CARD -/
theorem octetCuts_card : Rows.OctetCutsCardSaid :=
  Claim7.holds_tied_plain_at .later [] _ _ _ _ said (fun _ h => by cases h) (by kernel_rfl) (fun _ h => by cases h) octetCuts_row_tie rfl ⟨rfl, rfl⟩ (by kernel_rfl) rfl plain (by kernel_rfl)
end Go.Proofs.YtdnaabiijihooaaDoor.OctetCuts
