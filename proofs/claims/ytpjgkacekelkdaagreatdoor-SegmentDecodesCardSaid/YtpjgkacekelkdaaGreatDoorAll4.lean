/-
  Texts of this claim, joined (part 4): contracts and lemmas that the last text goes by. No statement of the seat is proved here.
-/
import Derived.Test.YtpjgkacekelkdaaGreatDoorAll3
import Derived.Test.YtpjgkacekelkdaaGreatDoorAll2
import Derived.Test.YtpjgkacekelkdaaGreatDoorAll0
import Derived.Test.YtpjgkacekelkdaaGreatDoorAll1
import Derived.Laws.IdiomCopy
import Derived.Deep.RegionHeld3
import Derived.Deep.RegionHeldLaw
import Derived.Deep.RegionLaw
import Derived.Lib.Bytealg
import Derived.Test.YtpjgkacekelkdaaGreatDoorRows
import Derived.ProofKit
import Derived.OpenShut
import Derived.Deep.DeepHandedRow
import Derived.Deep.Matrix
import Derived.LaidLaws
import Derived.ChangeMaps5
set_option linter.unusedVariables false
set_option linter.unusedSimpArgs false
/-
  Numbers taken, and added up (program). No statement of the seat is proved here.
-/
namespace Go.Proofs.YtpjgkacekelkdaaGreatDoor
open Go Go.RowKit
set_option maxRecDepth 100000

/-- a row of numbers that was made since 'W' -/
structure Fr (W w : World) (A : Option Addr) (c : Nat) (l : List Int) : Prop where
  row : RowO w 3 1 A l.length c (l.map iv)
  new : ∀ k, inA A k → W.heap.size ≤ k
theorem Fr.start (W w : World) : Fr W w none 0 [] := ⟨RowO.none_ _ _ _, fun k hk => absurd hk (inA_none k)⟩
theorem Fr.rd {W w : World} {A : Option Addr} {c : Nat} {l : List Int} (h : Fr W w A c l) : Rd w A (l.map iv) := h.row.rd
theorem info_int : (Tryz.prog.info? 3).map (fun i => (i.zero, i.size, i.bytes)) = some (some (.int .i64 0), 1, 8) := by kernel_rfl
theorem Fr.grow {W wr x x2 : World} {S : Nat → Prop} {A A' : Option Addr} {c c' : Nat} {l m : List Int} (h : Fr W wr A c l) (hW : W.heap.size ≤ x.heap.size)
    (hr : RowO x2 3 1 A' (l.length + m.length) c' (l.map iv ++ m.map iv)) (hA : ∀ k, inA A' k → inA A k ∨ (x.heap.size ≤ k ∧ k < x2.heap.size)) : Fr W x2 A' c' (l ++ m) :=
  ⟨by rw [List.length_append, List.map_append]; exact hr, fun k hk => by
    rcases hA k hk with hk | hk
    · exact h.new k hk
    · omega⟩
theorem Fr.only {W wr : World} {A : Option Addr} {c : Nat} {l : List Int} {S : Nat → Prop} {x x2 : World} (h : Fr W wr A c l) (ho : Only S W x) (h2 : Only (inA A) x x2) : Only S W x2 :=
  ho.trans h2 fun k hk hi => by have := h.new k hi; omega
/-- what the loop still takes, with what it has -/
structure Tkg (total : List Nat) (L m : Nat) (acc : List Nat) (rest : List UInt8) (bad : Bool) : Prop where
  all : acc ++ (takeN m rest bad).1 = total
  len : acc.length + m ≤ 32769
  short : rest.length ≤ L
def intsN (l : List Nat) : List Int := l.map fun n : Nat => (n : Int)
theorem intsN_length (l : List Nat) : (intsN l).length = l.length := by simp [intsN]
theorem intsN_append (a b : List Nat) : intsN (a ++ b) = intsN a ++ intsN b := by simp [intsN]
theorem Tkg.step {total : List Nat} {L m : Nat} {acc : List Nat} {rest : List UInt8} (h : Tkg total L (m + 1) acc rest false) : Tkg total L m (acc ++ [(stNum rest false).1]) (stNum rest false).2.1 (stNum rest false).2.2 := by
  refine ⟨?_, ?_, Nat.le_trans (stNum_len rest false) h.short⟩
  · rw [← h.all, takeN_succ, List.append_assoc]; rfl
  · rw [List.length_append]; have := h.len; simp; omega
theorem Tkg.end_ {total : List Nat} {L m : Nat} {acc : List Nat} {rest : List UInt8} {bad : Bool} (h : Tkg total L m acc rest bad) (he : m = 0 ∨ bad = true) : acc = total := by
  have h1 := h.all
  rcases he with rfl | rfl
  · rw [takeN_zero] at h1
    rw [← h1]; exact (List.append_nil _).symm
  · rw [takeN_bad] at h1
    rw [← h1]; exact (List.append_nil _).symm
theorem takenP_ints (b : List UInt8) (bad : Bool) : takenP b bad = intsN (takeN (min (stNum b bad).1 32769) (stNum b bad).2.1 (stNum b bad).2.2).1 := rfl

set_option maxHeartbeats 4000000 in
theorem taken_any (fp : Nat → Prop) (g : Nat) (bs : List UInt8) (bad : Bool) (w : World) (h : Rdr w fp g bs bad) (hb : bs.length ≤ 1099511627776) :
    Calls Tryz.prog 68 #[.pointer (some ⟨g, 0, none⟩)] w fun e w' => ∃ A' c', e = .returned (.slice A' (takenP bs bad).length c') ∧ Fr w w' A' c' (takenP bs bad) ∧ Only (fun k => k = g) w w' := by
  have HT : Hid (takenP bs bad = intsN (takeN (min (stNum bs bad).1 32769) (stNum bs bad).2.1 (stNum bs bad).2.2).1) := Lib.hid rfl
  generalize takenP bs bad = T at *
  have hgl : g < w.heap.size := by
    obtain ⟨_, _, _, _, hb, _⟩ := h
    exact hb.lt
  have Hgl := Lib.hid hgl
  obtain ⟨f2, H, Hf2⟩ : ∃ f2 : Nat → Prop, Hid (Rdr w f2 g bs bad) ∧ Hid (∀ k, f2 k → k < w.heap.size) := ⟨fun k => fp k ∧ k < w.heap.size, Lib.hid (h.mono fun _ a b => ⟨a, b⟩), Lib.hid fun _ h => h.2⟩
  have hle := stNum_le bs bad
  have hsl := stNum_len bs bad
  clear h hgl
  go_enter Tryz.func68, Tryz.ntmps68
  go_wp2_with fail
  refine (rnum_st f2 g bs bad w H.out hb).mono ?_
  rintro e w1 ⟨rfl, hr1, ho1⟩
  generalize stNum bs bad = q at *
  obtain ⟨n, bs1, bad1⟩ := q
  simp only at HT hr1 hle hsl ⊢
  obtain ⟨N, hN⟩ : ∃ N, min n 32769 = N := ⟨_, rfl⟩
  rw [hN] at HT
  have hcase : (n ≤ 32769 ∧ N = n) ∨ (32769 < n ∧ N = 32769) := by omega
  have hN65 : N ≤ 32769 := by omega
  have HN := Lib.hid hN65
  have Hr1 := Lib.hid hr1
  have Ho1 := Lib.hid ho1
  have Hbl : Hid (bs1.length ≤ 1099511627776) := Lib.hid (by omega)
  clear hN hr1 ho1 hN65 hsl hb
  rcases hcase with ⟨hq, rfl⟩ | ⟨hq, rfl⟩
  · have hqi : (N : Int) ≤ 32769 := by omega
    go_wp2_with fail
    go_loopw [3, 4] (fun s i wr => ∃ (m : Nat) (acc : List Nat) (rest : List UInt8) (bd : Bool) (A1 : Option Addr) (c1 : Nat), i = .int .i64 (m : Int) ∧ s = .slice A1 acc.length c1 ∧ Hid (Tkg (takeN N bs1 bad1).1 bs1.length m acc rest bd) ∧ Rdr wr f2 g rest bd ∧ Fr w wr A1 c1 (intsN acc) ∧ Only (fun k => k = g) w wr) (fun _ i _ => (intOf i).toNat)
    case atStart => exact ⟨N, [], bs1, bad1, none, 0, rfl, rfl, Lib.hid ⟨rfl, by simp only [List.length_nil, Nat.zero_add]; exact HN.out, Nat.le_refl _⟩, Hr1.out, Fr.start _ _, Ho1.out⟩
    case round =>
      obtain ⟨m, acc, rest, bd, A1, c1, rfl, rfl, Hrd, hr, hS, ho⟩ := hrel
      have Hr := Lib.hid hr
      have HS := Lib.hid hS
      have Ho := Lib.hid ho
      clear hr hS ho
      have HEX : Hid ((m = 0 ∨ bd = true) → intsN acc = T) := Lib.hid (fun he => by rw [HT.out, Hrd.out.end_ he])
      by_cases hm : m = 0
      · subst hm
        have HC := Lib.hid (HEX.out (.inl rfl))
        clear HEX
        go_wp2
        go_ret
        have e := HC.out
        have hS := HS.out
        rw [e] at hS
        exact ⟨A1, c1, by rw [← e, intsN_length]; rfl, hS, Ho.out⟩
      have hmi : (0 : Int) < (m : Int) := by omega
      have hmd : decide ((0 : Int) < (m : Int)) = true := decide_eq_true hmi
      have hmn : decide (0 < m) = true := decide_eq_true (by omega)
      cases bd with
      | true =>
        have HC := Lib.hid (HEX.out (.inr rfl))
        clear HEX hm
        go_wp2_with fail
        refine (rgood _ g rest true wr Hr.out).mono ?_
        rintro e w' ⟨rfl, rfl⟩
        go_wp2
        go_ret
        have e := HC.out
        have hS := HS.out
        rw [e] at hS
        exact ⟨A1, c1, by rw [← e, intsN_length]; rfl, hS, Ho.out⟩
      | false =>
        clear HEX
        obtain ⟨k, hk⟩ : ∃ k, m = k + 1 := ⟨m - 1, by omega⟩
        have hk1 : IntKind.i64.wrap ((m : Int) - 1) = (k : Int) := by rw [show (m : Int) - 1 = (k : Int) by omega]; exact IntWalk.i64_in _ (by have := Hrd.out.len; omega)
        have HRs := Lib.hid (Tkg.step (by rw [← hk]; exact Hrd.out))
        have hal : acc.length + 1 ≤ 32769 := by have := Hrd.out.len; omega
        have hk2 : acc.length + 1 ≤ maxLen := by unfold maxLen; omega
        have hk3 : (acc.length + 1) * 8 ≤ 140737488355328 := by omega
        have hrl : rest.length ≤ 1099511627776 := by have := Hrd.out.short; have := Hbl.out; omega
        have HNU := Lib.hid (rnum_st f2 g rest false wr Hr.out hrl)
        generalize stNum rest false = q at *
        obtain ⟨x, rest', bd'⟩ := q
        simp only at HRs HNU
        have Hk := Lib.hid hk
        clear hk hal hm
        go_wp2_with fail
        refine (rgood _ g rest false wr Hr.out).mono ?_
        rintro e w' ⟨rfl, rfl⟩
        go_wp2_with fail
        refine HNU.out.mono ?_
        rintro e x1 ⟨rfl, hr5, ho5⟩
        have hrow : RowO x1 3 1 A1 acc.length c1 ((intsN acc).map iv) := by
          have h1 := HS.out.row.only ho5 (fun k hk e => by have := HS.out.new k hk; have := Hgl.out; omega)
          rw [intsN_length] at h1
          exact h1
        have Hrow := Lib.hid hrow
        have Hr5 := Lib.hid hr5
        have Ho5 := Lib.hid (Ho.out.trans ho5 (fun _ _ h => h))
        clear hrow hr5 ho5
        go_wp2_with (at_builtin
                     refine wpList_appO _ rfl (.tmp 16) (.tmp 19) _ rfl 3 _ 1 8 Tryz.underlying48 info_int rfl A1 _ c1 _ rfl (Hrow.out.alloc _) (some ⟨x1.heap.size, 0, none⟩) 1 1 [.int .i64 (x : Int)] rfl rfl (Rd.lit _ #[.int .i64 (x : Int)] _) ?_ ?_ hk2 hk3 ?_
                     · simp; rfl
                     · intro h; cases h
                     intro A3 c3 w3 hrow3 honly3 hA3
                     have hx1 : w.heap.size ≤ (x1.alloc (.cells #[.int .i64 (x : Int)] 3)).heap.size := by rw [World.size_alloc]; have := Ho5.out.size; omega
                     have hF3 : Fr w w3 A3 c3 (intsN (acc ++ [x])) := by
                       rw [intsN_append]
                       exact HS.out.grow (S := fun _ => True) hx1 (by rw [intsN_length]; exact hrow3) hA3
                     have hO3 := HS.out.only (Ho5.out.alloc (.cells #[.int .i64 (x : Int)] 3)) honly3
                     have hR3 : Rdr w3 f2 g rest' bd' := (Hr5.out.ext (ext_alloc (Below.refl _ _) _)).only honly3 (fun k hk hi => by have := HS.out.new k hi; have := Hf2.out k hk; omega)
                     have HF3 := Lib.hid hF3
                     have HO3 := Lib.hid hO3
                     have HR3 := Lib.hid hR3
                     clear hrow3 honly3 hA3 hx1 hF3 hO3 hR3)
        go_roundw
        case rel => exact ⟨k, acc ++ [x], rest', bd', A3, c3, rfl, by rw [List.length_append]; rfl, HRs, HR3.out, HF3.out, HO3.out⟩
        case measure => simp [intOf]; have := Hk.out; omega
  · have hqi : (32769 : Int) < (n : Int) := by omega
    go_wp2_with fail
    go_loopw [3, 4] (fun s i wr => ∃ (m : Nat) (acc : List Nat) (rest : List UInt8) (bd : Bool) (A1 : Option Addr) (c1 : Nat), i = .int .i64 (m : Int) ∧ s = .slice A1 acc.length c1 ∧ Hid (Tkg (takeN 32769 bs1 bad1).1 bs1.length m acc rest bd) ∧ Rdr wr f2 g rest bd ∧ Fr w wr A1 c1 (intsN acc) ∧ Only (fun k => k = g) w wr) (fun _ i _ => (intOf i).toNat)
    case atStart => exact ⟨32769, [], bs1, bad1, none, 0, rfl, rfl, Lib.hid ⟨rfl, by simp only [List.length_nil, Nat.zero_add]; exact HN.out, Nat.le_refl _⟩, Hr1.out, Fr.start _ _, Ho1.out⟩
    case round =>
      obtain ⟨m, acc, rest, bd, A1, c1, rfl, rfl, Hrd, hr, hS, ho⟩ := hrel
      have Hr := Lib.hid hr
      have HS := Lib.hid hS
      have Ho := Lib.hid ho
      clear hr hS ho
      have HEX : Hid ((m = 0 ∨ bd = true) → intsN acc = T) := Lib.hid (fun he => by rw [HT.out, Hrd.out.end_ he])
      by_cases hm : m = 0
      · subst hm
        have HC := Lib.hid (HEX.out (.inl rfl))
        clear HEX
        go_wp2
        go_ret
        have e := HC.out
        have hS := HS.out
        rw [e] at hS
        exact ⟨A1, c1, by rw [← e, intsN_length]; rfl, hS, Ho.out⟩
      have hmi : (0 : Int) < (m : Int) := by omega
      have hmd : decide ((0 : Int) < (m : Int)) = true := decide_eq_true hmi
      have hmn : decide (0 < m) = true := decide_eq_true (by omega)
      cases bd with
      | true =>
        have HC := Lib.hid (HEX.out (.inr rfl))
        clear HEX hm
        go_wp2_with fail
        refine (rgood _ g rest true wr Hr.out).mono ?_
        rintro e w' ⟨rfl, rfl⟩
        go_wp2
        go_ret
        have e := HC.out
        have hS := HS.out
        rw [e] at hS
        exact ⟨A1, c1, by rw [← e, intsN_length]; rfl, hS, Ho.out⟩
      | false =>
        clear HEX
        obtain ⟨k, hk⟩ : ∃ k, m = k + 1 := ⟨m - 1, by omega⟩
        have hk1 : IntKind.i64.wrap ((m : Int) - 1) = (k : Int) := by rw [show (m : Int) - 1 = (k : Int) by omega]; exact IntWalk.i64_in _ (by have := Hrd.out.len; omega)
        have HRs := Lib.hid (Tkg.step (by rw [← hk]; exact Hrd.out))
        have hal : acc.length + 1 ≤ 32769 := by have := Hrd.out.len; omega
        have hk2 : acc.length + 1 ≤ maxLen := by unfold maxLen; omega
        have hk3 : (acc.length + 1) * 8 ≤ 140737488355328 := by omega
        have hrl : rest.length ≤ 1099511627776 := by have := Hrd.out.short; have := Hbl.out; omega
        have HNU := Lib.hid (rnum_st f2 g rest false wr Hr.out hrl)
        generalize stNum rest false = q at *
        obtain ⟨x, rest', bd'⟩ := q
        simp only at HRs HNU
        have Hk := Lib.hid hk
        clear hk hal hm
        go_wp2_with fail
        refine (rgood _ g rest false wr Hr.out).mono ?_
        rintro e w' ⟨rfl, rfl⟩
        go_wp2_with fail
        refine HNU.out.mono ?_
        rintro e x1 ⟨rfl, hr5, ho5⟩
        have hrow : RowO x1 3 1 A1 acc.length c1 ((intsN acc).map iv) := by
          have h1 := HS.out.row.only ho5 (fun k hk e => by have := HS.out.new k hk; have := Hgl.out; omega)
          rw [intsN_length] at h1
          exact h1
        have Hrow := Lib.hid hrow
        have Hr5 := Lib.hid hr5
        have Ho5 := Lib.hid (Ho.out.trans ho5 (fun _ _ h => h))
        clear hrow hr5 ho5
        go_wp2_with (at_builtin
                     refine wpList_appO _ rfl (.tmp 16) (.tmp 19) _ rfl 3 _ 1 8 Tryz.underlying48 info_int rfl A1 _ c1 _ rfl (Hrow.out.alloc _) (some ⟨x1.heap.size, 0, none⟩) 1 1 [.int .i64 (x : Int)] rfl rfl (Rd.lit _ #[.int .i64 (x : Int)] _) ?_ ?_ hk2 hk3 ?_
                     · simp; rfl
                     · intro h; cases h
                     intro A3 c3 w3 hrow3 honly3 hA3
                     have hx1 : w.heap.size ≤ (x1.alloc (.cells #[.int .i64 (x : Int)] 3)).heap.size := by rw [World.size_alloc]; have := Ho5.out.size; omega
                     have hF3 : Fr w w3 A3 c3 (intsN (acc ++ [x])) := by
                       rw [intsN_append]
                       exact HS.out.grow (S := fun _ => True) hx1 (by rw [intsN_length]; exact hrow3) hA3
                     have hO3 := HS.out.only (Ho5.out.alloc (.cells #[.int .i64 (x : Int)] 3)) honly3
                     have hR3 : Rdr w3 f2 g rest' bd' := (Hr5.out.ext (ext_alloc (Below.refl _ _) _)).only honly3 (fun k hk hi => by have := HS.out.new k hi; have := Hf2.out k hk; omega)
                     have HF3 := Lib.hid hF3
                     have HO3 := Lib.hid hO3
                     have HR3 := Lib.hid hR3
                     clear hrow3 honly3 hA3 hx1 hF3 hO3 hR3)
        go_roundw
        case rel => exact ⟨k, acc ++ [x], rest', bd', A3, c3, rfl, by rw [List.length_append]; rfl, HRs, HR3.out, HF3.out, HO3.out⟩
        case measure => simp [intOf]; have := Hk.out; omega
end Go.Proofs.YtpjgkacekelkdaaGreatDoor

/-
  Sums in place; what was taken, unless it is laid otherwise (program). No statement of the seat is proved here.
-/
namespace Go.Proofs.YtpjgkacekelkdaaGreatDoor
open Go Go.RowKit
set_option maxRecDepth 100000

/-- behind so many steps -/
def addRow (l : List Int) (k : Nat) : List Int := addedTo l k ++ l.drop k
theorem addRow_len (l : List Int) (k : Nat) (h : k ≤ l.length) : (addRow l k).length = l.length := by unfold addRow; rw [List.length_append, addedTo_len, List.length_drop]; omega
theorem addRow_get (l : List Int) (k : Nat) (h : k < l.length) : (addRow l k)[k]? = some (l.getD k 0) := by
  unfold addRow
  rw [List.getElem?_append_right (by rw [addedTo_len]; omega), addedTo_len, Nat.sub_self, List.getElem?_drop, Nat.add_zero, List.getD_eq_getElem?_getD, List.getElem?_eq_getElem h]
  rfl
theorem addRow_set (l : List Int) (k : Nat) (h : k < l.length) : (addRow l k).set k (addK l (k + 1)) = addRow l (k + 1) := by
  unfold addRow
  rw [List.set_append, if_neg (by rw [addedTo_len]; omega), addedTo_len, Nat.sub_self, addedTo_succ, List.append_assoc]
  rw [List.drop_eq_getElem_cons h]
  rfl
theorem Fr.at_ {W w : World} {A : Option Addr} {c : Nat} {l : List Int} (h : Fr W w A c l) {k : Nat} (hk : k < l.length) : ∃ g o, A = some ⟨g, o, none⟩ ∧ w.cell? ⟨g, o + k, none⟩ = some (.int .i64 l[k]) := by
  obtain ⟨ad, e, hc⟩ := rd_int h.rd hk
  obtain ⟨g, o, rfl⟩ := h.row.flat ad e
  rw [Addr.add_mid] at hc
  exact ⟨g, o, e, hc⟩

set_option maxHeartbeats 4000000 in
theorem added_any (W : World) (A : Option Addr) (c : Nat) (l : List Int) (w : World) (h : Fr W w A c l) (hv : ∀ v ∈ l, 0 ≤ v ∧ v ≤ 4611686018427387904) (hl : l.length ≤ 1000000) :
    Calls Tryz.prog 70 #[.slice A l.length c] w fun e w' => e = .returned (.slice A l.length c) ∧ Fr W w' A c (addedP l) ∧ Only (inA A) w w' := by
  have hli : (l.length : Int) ≤ 1000000 := by omega
  have HV := Lib.hid hv
  have HE : Hid (addRow l l.length = addedP l) := Lib.hid (by unfold addRow addedP; rw [List.drop_length, List.append_nil])
  have HG := Lib.hid (addRow_get l)
  have HS := Lib.hid (addRow_set l)
  have HL := Lib.hid (addRow_len l)
  have H0 : addRow l 0 = l := by simp [addRow, addedTo]
  have Hb := Lib.hid (addK_bounds l)
  generalize addedP l = P at *
  have h' : Fr W w A c (addRow l 0) := by rw [H0]; exact h
  have H' := Lib.hid h'
  clear h h' hv H0
  go_enter Tryz.func70, Tryz.ntmps70
  go_wp2
  go_loopw [3, 8] (fun s i wr => ∃ (k : Nat), k ≤ l.length ∧ i = .int .i64 (k : Int) ∧ s = .int .i64 (addK l k) ∧ Fr W wr A c (addRow l k) ∧ Only (inA A) w wr) (fun _ i _ => l.length - (intOf i).toNat)
  case atStart => exact ⟨0, Nat.zero_le _, rfl, rfl, H'.out, Only.refl _ _⟩
  case round =>
    obtain ⟨k, hk, rfl, rfl, hF, ho⟩ := hrel
    by_cases hlt : k < l.length
    · have hki : (k : Int) < (l.length : Int) := by omega
      have hlt2 : k < (addRow l k).length := by rw [HL.out k hk]; exact hlt
      obtain ⟨g, o, rfl, hcell⟩ := hF.at_ hlt2
      have hg := HG.out k hlt
      rw [List.getElem?_eq_getElem hlt2] at hg
      injection hg with hg
      rw [hg] at hcell
      have hm := HV.out _ (getD_mem hlt)
      have hfr := hF.row.free (o + k)
      have hst := hF.row.set k (by rw [List.length_map]; exact hlt2) (iv (addK l (k + 1)))
      have hmp : ((addRow l k).map iv).set k (iv (addK l (k + 1))) = (addRow l (k + 1)).map iv := by rw [← HS.out k hlt, List.map_set]
      rw [hmp, HL.out k hk, ← HL.out (k + 1) (by omega)] at hst
      have HF2 : Hid (Fr W (wr.setCell ⟨g, o + k, none⟩ (.int .i64 (addK l (k + 1)))) (some ⟨g, o, none⟩) c (addRow l (k + 1))) := Lib.hid ⟨hst, hF.new⟩
      have HO2 : Hid (Only (inA (some ⟨g, o, none⟩)) w (wr.setCell ⟨g, o + k, none⟩ (.int .i64 (addK l (k + 1))))) := Lib.hid (ho.setCell (p := ⟨g, o + k, none⟩) (.inl ((inA_some _ _ _ _).2 rfl)) _)
      have HU := Lib.hid (unfolded_any (l.getD k 0) hm.1 hm.2 wr)
      have had : IntKind.i64.wrap (addK l k + unfP (l.getD k 0)) = addK l (k + 1) := rfl
      generalize hy : addK l (k + 1) = y at *
      have HY := Lib.hid hy
      clear hy
      generalize addK l k = x at *
      generalize l.getD k 0 = v at *
      generalize unfP v = uv at *
      clear hF ho hg hm hst hmp
      go_wp2_with fail
      refine HU.out.mono ?_
      rintro e w' ⟨rfl, rfl⟩
      go_wp2
      go_roundw
      case rel => exact ⟨k + 1, by omega, by go_num, by rw [HY.out], HF2.out, HO2.out⟩
      case measure => simp [intOf]; omega
    · obtain rfl : k = l.length := by omega
      rw [HE.out] at hF
      go_wp2
      go_ret
      exact ⟨rfl, hF, ho⟩

/-- what was taken from 'p', unless it is laid otherwise -/
def chkP (enc : List Int → List UInt8) (p : List UInt8) (l : List Int) : List Int × Int := if mayP l = true ∧ enc l = p then (l, 0) else ([], 2)
theorem chkP_eq (enc : List Int → List UInt8) (p : List UInt8) (l : List Int) : chkP enc p l = if (ansP l (enc l)).2 = 0 ∧ decide ((ansP l (enc l)).1 = p) = true then (l, 0) else ([], 2) := by
  unfold chkP ansP
  by_cases h : mayP l = true
  · simp [h]
  · simp [h]

set_option maxHeartbeats 2000000 in
theorem unless_plain (p : List UInt8) (A : Option Addr) (ca : Nat) (B : Option Addr) (cb : Nat) (l : List Int) (w : World) (hA : Rd w A (p.map bv)) (hB : Rd w B (l.map iv)) :
    Calls Tryz.prog 66 #[.slice A p.length ca, .func (.func 67) #[] #[], .slice B l.length cb] w fun e w' => ∃ B' c', e = .returned (.tuple #[.slice B' (chkP plainP p l).1.length c', .int .i64 (chkP plainP p l).2]) ∧ Rd w' B' ((chkP plainP p l).1.map iv) ∧ Below w.heap.size w w' := by
  have HLd := Lib.hid (laid_plain B cb l w hB)
  have hR := chkP_eq plainP p l
  have HA := Lib.hid hA
  have HB := Lib.hid hB
  generalize chkP plainP p l = R at *
  generalize ansP l (plainP l) = a at *
  obtain ⟨b, er⟩ := a
  simp only at HLd hR
  clear hA hB
  by_cases h0 : er = 0
  · subst h0
    go_enter Tryz.func66, Tryz.ntmps66
    go_wp2_with fail
    refine HLd.out.mono ?_
    rintro e w1 ⟨A1, c1, rfl, hn1, hb1⟩
    have HQ := Lib.hid (eqb_any A1 A c1 ca b p w1 hn1.rd (HA.out.ext hb1))
    have Hb1 := Lib.hid hb1
    clear hn1 hb1 HLd
    cases hd : decide (b = p) with
    | true =>
      rw [hd] at HQ hR
      rw [if_pos (by simp)] at hR
      have HR := Lib.hid hR
      clear hR hd
      go_wp2_with fail
      refine HQ.out.mono ?_
      rintro e w' ⟨rfl, rfl⟩
      go_wp2
      go_ret2
      rw [HR.out]
      exact ⟨B, cb, rfl, HB.out.ext Hb1.out, Hb1.out⟩
    | false =>
      rw [hd] at HQ hR
      rw [if_neg (by simp)] at hR
      have HR := Lib.hid hR
      clear hR hd
      go_wp2_with fail
      refine HQ.out.mono ?_
      rintro e w' ⟨rfl, rfl⟩
      go_wp2
      go_ret2
      rw [HR.out]
      exact ⟨none, 0, rfl, Rd.nil _ _, Hb1.out⟩
  · rw [if_neg (fun h => h0 h.1)] at hR
    have HR := Lib.hid hR
    have hne : (er != 0) = true := by simpa using h0
    clear hR
    go_enter Tryz.func66, Tryz.ntmps66
    go_wp2_with fail
    refine HLd.out.mono ?_
    rintro e w1 ⟨A1, c1, rfl, hn1, hb1⟩
    have Hb1 := Lib.hid hb1
    clear hn1 hb1 HLd
    go_wp2
    go_ret2
    rw [HR.out]
    exact ⟨none, 0, rfl, Rd.nil _ _, Hb1.out⟩

set_option maxHeartbeats 2000000 in
theorem unless_delta (p : List UInt8) (A : Option Addr) (ca : Nat) (B : Option Addr) (cb : Nat) (l : List Int) (w : World) (hA : Rd w A (p.map bv)) (hB : Rd w B (l.map iv)) :
    Calls Tryz.prog 66 #[.slice A p.length ca, .func (.func 69) #[] #[], .slice B l.length cb] w fun e w' => ∃ B' c', e = .returned (.tuple #[.slice B' (chkP deltaP p l).1.length c', .int .i64 (chkP deltaP p l).2]) ∧ Rd w' B' ((chkP deltaP p l).1.map iv) ∧ Below w.heap.size w w' := by
  have HLd := Lib.hid (laid_delta B cb l w hB)
  have hR := chkP_eq deltaP p l
  have HA := Lib.hid hA
  have HB := Lib.hid hB
  generalize chkP deltaP p l = R at *
  generalize ansP l (deltaP l) = a at *
  obtain ⟨b, er⟩ := a
  simp only at HLd hR
  clear hA hB
  by_cases h0 : er = 0
  · subst h0
    go_enter Tryz.func66, Tryz.ntmps66
    go_wp2_with fail
    refine HLd.out.mono ?_
    rintro e w1 ⟨A1, c1, rfl, hn1, hb1⟩
    have HQ := Lib.hid (eqb_any A1 A c1 ca b p w1 hn1.rd (HA.out.ext hb1))
    have Hb1 := Lib.hid hb1
    clear hn1 hb1 HLd
    cases hd : decide (b = p) with
    | true =>
      rw [hd] at HQ hR
      rw [if_pos (by simp)] at hR
      have HR := Lib.hid hR
      clear hR hd
      go_wp2_with fail
      refine HQ.out.mono ?_
      rintro e w' ⟨rfl, rfl⟩
      go_wp2
      go_ret2
      rw [HR.out]
      exact ⟨B, cb, rfl, HB.out.ext Hb1.out, Hb1.out⟩
    | false =>
      rw [hd] at HQ hR
      rw [if_neg (by simp)] at hR
      have HR := Lib.hid hR
      clear hR hd
      go_wp2_with fail
      refine HQ.out.mono ?_
      rintro e w' ⟨rfl, rfl⟩
      go_wp2
      go_ret2
      rw [HR.out]
      exact ⟨none, 0, rfl, Rd.nil _ _, Hb1.out⟩
  · rw [if_neg (fun h => h0 h.1)] at hR
    have HR := Lib.hid hR
    have hne : (er != 0) = true := by simpa using h0
    clear hR
    go_enter Tryz.func66, Tryz.ntmps66
    go_wp2_with fail
    refine HLd.out.mono ?_
    rintro e w1 ⟨A1, c1, rfl, hn1, hb1⟩
    have Hb1 := Lib.hid hb1
    clear hn1 hb1 HLd
    go_wp2
    go_ret2
    rw [HR.out]
    exact ⟨none, 0, rfl, Rd.nil _ _, Hb1.out⟩

set_option maxHeartbeats 2000000 in
theorem unless_runs (p : List UInt8) (A : Option Addr) (ca : Nat) (B : Option Addr) (cb : Nat) (l : List Int) (w : World) (hA : Rd w A (p.map bv)) (hB : Rd w B (l.map iv)) :
    Calls Tryz.prog 66 #[.slice A p.length ca, .func (.func 71) #[] #[], .slice B l.length cb] w fun e w' => ∃ B' c', e = .returned (.tuple #[.slice B' (chkP runsB p l).1.length c', .int .i64 (chkP runsB p l).2]) ∧ Rd w' B' ((chkP runsB p l).1.map iv) ∧ Below w.heap.size w w' := by
  have HLd := Lib.hid (laid_runs B cb l w hB)
  have hR := chkP_eq runsB p l
  have HA := Lib.hid hA
  have HB := Lib.hid hB
  generalize chkP runsB p l = R at *
  generalize ansP l (runsB l) = a at *
  obtain ⟨b, er⟩ := a
  simp only at HLd hR
  clear hA hB
  by_cases h0 : er = 0
  · subst h0
    go_enter Tryz.func66, Tryz.ntmps66
    go_wp2_with fail
    refine HLd.out.mono ?_
    rintro e w1 ⟨A1, c1, rfl, hn1, hb1⟩
    have HQ := Lib.hid (eqb_any A1 A c1 ca b p w1 hn1.rd (HA.out.ext hb1))
    have Hb1 := Lib.hid hb1
    clear hn1 hb1 HLd
    cases hd : decide (b = p) with
    | true =>
      rw [hd] at HQ hR
      rw [if_pos (by simp)] at hR
      have HR := Lib.hid hR
      clear hR hd
      go_wp2_with fail
      refine HQ.out.mono ?_
      rintro e w' ⟨rfl, rfl⟩
      go_wp2
      go_ret2
      rw [HR.out]
      exact ⟨B, cb, rfl, HB.out.ext Hb1.out, Hb1.out⟩
    | false =>
      rw [hd] at HQ hR
      rw [if_neg (by simp)] at hR
      have HR := Lib.hid hR
      clear hR hd
      go_wp2_with fail
      refine HQ.out.mono ?_
      rintro e w' ⟨rfl, rfl⟩
      go_wp2
      go_ret2
      rw [HR.out]
      exact ⟨none, 0, rfl, Rd.nil _ _, Hb1.out⟩
  · rw [if_neg (fun h => h0 h.1)] at hR
    have HR := Lib.hid hR
    have hne : (er != 0) = true := by simpa using h0
    clear hR
    go_enter Tryz.func66, Tryz.ntmps66
    go_wp2_with fail
    refine HLd.out.mono ?_
    rintro e w1 ⟨A1, c1, rfl, hn1, hb1⟩
    have Hb1 := Lib.hid hb1
    clear hn1 hb1 HLd
    go_wp2
    go_ret2
    rw [HR.out]
    exact ⟨none, 0, rfl, Rd.nil _ _, Hb1.out⟩
end Go.Proofs.YtpjgkacekelkdaaGreatDoor

/-
  Rows of elements of many cells that are written in place: append with room, copy, clear. No statement of the seat is proved here.
-/
namespace Go.Proofs.YtpjgkacekelkdaaGreatDoor
open Go Go.RowKit

/-- cells laid over a row from a place on -/
def spl (xs : List Value) (i : Nat) (vs : List Value) : List Value := xs.take i ++ (vs ++ xs.drop (i + vs.length))
theorem spl_len {xs vs : List Value} {i : Nat} (h : i + vs.length ≤ xs.length) : (spl xs i vs).length = xs.length := by simp [spl]; omega
theorem spl_at {xs vs : List Value} {i : Nat} (h : i + vs.length ≤ xs.length) (j : Nat) : (spl xs i vs)[j]? = if i ≤ j ∧ j < i + vs.length then vs[j - i]? else xs[j]? := by
  unfold spl
  have ht : (xs.take i).length = i := by rw [List.length_take]; omega
  by_cases h1 : j < i
  · rw [List.getElem?_append_left (by omega), List.getElem?_take, if_pos h1, if_neg (by omega)]
  · rw [List.getElem?_append_right (by omega), ht]
    by_cases h2 : j < i + vs.length
    · rw [List.getElem?_append_left (by omega), if_pos ⟨by omega, h2⟩]
    · rw [List.getElem?_append_right (by omega), List.getElem?_drop, if_neg (by omega), show i + vs.length + (j - i - vs.length) = j by omega]
theorem RowO.spl {w : World} {e : TypeId} {sz g off m c : Nat} {xs : List Value} (h : RowO w e sz (some ⟨g, off, none⟩) m c xs) (i : Nat) (vs : List Value) (hi : i + vs.length ≤ m * sz) :
    RowO (w.setCells g (off + i) vs) e sz (some ⟨g, off, none⟩) m c (spl xs i vs) := by
  have hl := h.1
  refine ⟨by rw [spl_len (by omega)]; exact hl, ?_⟩
  rcases h.2 with ⟨h1, _⟩ | ⟨g', o', cs, h1, h2, h3, h4, h5, h6⟩
  · cases h1
  · injection h1 with h1
    injection h1 with h1 h1' _
    subst h1 h1'
    have hmc : m * sz ≤ c * sz := Nat.mul_le_mul_right _ h2
    obtain ⟨cs', hb, hs, hin, hout⟩ := Blk.setCells vs (off + i) h4 (by omega)
    refine .inr ⟨g, off, cs', rfl, h2, h3, hb, by omega, fun j u hu => ?_⟩
    rw [spl_at (by omega)] at hu
    split at hu
    · rename_i hj
      have := hin _ u hu
      rwa [show off + i + (j - i) = off + j by omega] at this
    · rename_i hj
      rw [hout (off + j) (by omega)]
      exact h6 j u hu
theorem RowO.there {w : World} {e : TypeId} {sz g off m c : Nat} {xs : List Value} (h : RowO w e sz (some ⟨g, off, none⟩) m c xs) {j : Nat} (hj : j < m * sz) : (w.cell? ⟨g, off + j, none⟩).isSome = true ∧ w.frozen? ⟨g, off + j, none⟩ = false := by
  rcases h.2 with ⟨h1, _⟩ | ⟨g', o', cs, h1, h2, h3, h4, h5, h6⟩
  · cases h1
  · injection h1 with h1
    injection h1 with h1 h1' _
    subst h1 h1'
    have hmc : m * sz ≤ c * sz := Nat.mul_le_mul_right _ h2
    exact ⟨by rw [h4.cell]; simp; omega, h4.free _⟩

section
variable {P : Program} {w : World} {ops : Array Oper} {rest : List Oper} {o : Oper} {a : Act} {Q : Exit → Act → World → Prop}
/-- append where there is room -/
theorem wpList_app_room (hgd : o.guard = none) (s x : Operand) (t : TypeId) (ho : o.op = .call { callee := .builtin .append, args := #[s, x], argTypes := #[t, t] })
    (e : TypeId) (z : Value) (sz bytes : Nat) (ht : P.underlying t = some (.slice e)) (hi : (P.info? e).map (fun i => (i.zero, i.size, i.bytes)) = some (some z, sz, bytes))
    (g off n c M : Nat) (xs : List Value) (hs : a.eval s = .slice (some ⟨g, off, none⟩) n c) (hown : RowO w e sz (some ⟨g, off, none⟩) M c xs)
    (ad : Addr) (m c2 : Nat) (news : List Value) (hx : a.eval x = .slice (some ad) m c2) (hm : news.length = m * sz) (hr : Rd w (some ad) news) (h1 : ∀ u ∈ news, u.oneCell' = true) (hroom : n + m ≤ M)
    (h : ∀ w', RowO w' e sz (some ⟨g, off, none⟩) M c (spl xs (n * sz) news) → Only (fun k => k = g) w w' → wpList P ops Q rest (a.put o.dst (.slice (some ⟨g, off, none⟩) (n + m) c)) w') : wpList P ops Q (o :: rest) a w := by
  refine wpList_plain hgd fun K hK => ?_
  obtain ⟨i, hinf, hz, hsz, hby⟩ := info_parts hi
  clear hi
  subst hsz hby
  have hMm : (n + m) * i.size ≤ M * i.size := Nat.mul_le_mul_right _ hroom
  rw [Nat.add_mul] at hMm
  have src : Src P i.size t (.slice (some ad) m c2) m news w := Src.ofSlice w ht ad m c2 news hm (fun j u hu => by
    obtain ⟨ad', h, hc⟩ := hr j u hu
    injection h with h
    subst h
    exact hc) h1
  have hrun := run_append_room_src (P := P) w t t o.type e i ht hinf g off n c (.slice (some ad) m c2) m news src (by have := hown.le; omega) (fun j hj => by
    have := (hown.there (j := n * i.size + j) (by omega)).1
    rwa [← Nat.add_assoc] at this) (fun j hj => by
    have := (hown.there (j := n * i.size + j) (by omega)).2
    rwa [← Nat.add_assoc] at this)
  unfold Oper.wp execOp
  simp only [ho, resolve, invoke, builtin, Sem.run_bind, Sem.run_pure, Result.andThen_ok, List.map_toArray, List.map_cons, List.map_nil, hs, hx, hrun]
  exact hK _ _ (h _ (hown.spl (n * i.size) news (by omega)) ((Only.refl (fun k => k = g) w).setCells (.inl rfl) _ _))
theorem run_copyO (w : World) (dT sT ty elem : TypeId) (sz b o dLen dCap : Nat) (ad : Addr) (sLen sCap m : Nat) (cs : List Value)
    (hu : P.underlying dT = some (.slice elem)) (hs : (P.info? elem).map (·.size) = some sz) (hn : m = Nat.min sLen dLen) (hl : cs.length = m * sz)
    (hsrc : ∀ j v, cs[j]? = some v → w.cell? (ad.add j) = some v) (hc : ∀ j, j < cs.length → (w.cell? ⟨b, o + j, none⟩).isSome = true) (hf : ∀ j, j < cs.length → w.frozen? ⟨b, o + j, none⟩ = false) (h1 : ∀ v ∈ cs, v.oneCell' = true) :
    (Builtin.copy_ #[dT, sT] ty #[.slice (some ⟨b, o, none⟩) dLen dCap, .slice (some ad) sLen sCap]).run P w = .ok (goInt m) (w.setCells b o cs) := by
  have hfc := run_firstCells_some (P := P) w sz m ad sLen sCap cs hl hsrc
  have hst := run_storeCells_cells (P := P) b o cs 0 w (by simpa using hc) (by simpa using hf) h1
  simp only [Nat.add_zero] at hst
  cases hq : P.info? elem with
  | none => simp [hq] at hs
  | some i =>
    have hi : i.size = sz := by simpa [hq] using hs
    simp [Builtin.copy_, run_underlying hu, Builtin.lenOf, sizeOf, typeInfo, hq, hi, ← hn, hfc, hst]
/-- copy into a row -/
theorem wpList_copyO (hgd : o.guard = none) (d s : Operand) (dT sT : TypeId) (ho : o.op = .call { callee := .builtin .copy, args := #[d, s], argTypes := #[dT, sT] })
    (e : TypeId) (sz : Nat) (hu : P.underlying dT = some (.slice e)) (hsz : (P.info? e).map (·.size) = some sz)
    (g off M c : Nat) (xs : List Value) (hown : RowO w e sz (some ⟨g, off, none⟩) M c xs) (k b dLen dCap : Nat) (hb : b = off + k * sz) (hd : a.eval d = .slice (some ⟨g, b, none⟩) dLen dCap)
    (ad : Addr) (sLen sCap m : Nat) (cs : List Value) (hs : a.eval s = .slice (some ad) sLen sCap) (hn : m = Nat.min sLen dLen) (hl : cs.length = m * sz)
    (hsrc : ∀ j v, cs[j]? = some v → w.cell? (ad.add j) = some v) (hfit : k + m ≤ M) (h1 : ∀ v ∈ cs, v.oneCell' = true)
    (h : ∀ w', RowO w' e sz (some ⟨g, off, none⟩) M c (spl xs (k * sz) cs) → Only (fun k => k = g) w w' → wpList P ops Q rest (a.put o.dst (goInt m)) w') : wpList P ops Q (o :: rest) a w := by
  subst hb
  refine wpList_plain hgd fun K hK => ?_
  have hM : (k + m) * sz ≤ M * sz := Nat.mul_le_mul_right _ hfit
  rw [Nat.add_mul] at hM
  have hrun := run_copyO (P := P) w dT sT o.type e sz g (off + k * sz) dLen dCap ad sLen sCap m cs hu hsz hn hl hsrc (fun j hj => by
    have := (hown.there (j := k * sz + j) (by omega)).1
    rwa [← Nat.add_assoc] at this) (fun j hj => by
    have := (hown.there (j := k * sz + j) (by omega)).2
    rwa [← Nat.add_assoc] at this) h1
  unfold Oper.wp execOp
  simp only [ho, resolve, invoke, builtin, Sem.run_bind, Sem.run_pure, Result.andThen_ok, List.map_toArray, List.map_cons, List.map_nil, hd, hs, hrun]
  exact hK _ _ (h _ (hown.spl (k * sz) cs (by omega)) ((Only.refl (fun k => k = g) w).setCells (.inl rfl) _ _))
/-- copy into a row, at a step of a region that draws its order -/
theorem step_copyO {K : Act → World → Prop} {E : Prop} (hgd : o.guard = none) (d s : Operand) (dT sT : TypeId) (ho : o.op = .call { callee := .builtin .copy, args := #[d, s], argTypes := #[dT, sT] })
    (e : TypeId) (sz : Nat) (hu : P.underlying dT = some (.slice e)) (hsz : (P.info? e).map (·.size) = some sz)
    (g off M c : Nat) (xs : List Value) (hown : RowO w e sz (some ⟨g, off, none⟩) M c xs) (k b dLen dCap : Nat) (hb : b = off + k * sz) (hd : a.eval d = .slice (some ⟨g, b, none⟩) dLen dCap)
    (ad : Addr) (sLen sCap m : Nat) (cs : List Value) (hs : a.eval s = .slice (some ad) sLen sCap) (hn : m = Nat.min sLen dLen) (hl : cs.length = m * sz)
    (hsrc : ∀ j v, cs[j]? = some v → w.cell? (ad.add j) = some v) (hfit : k + m ≤ M) (h1 : ∀ v ∈ cs, v.oneCell' = true)
    (h : ∀ w', RowO w' e sz (some ⟨g, off, none⟩) M c (spl xs (k * sz) cs) → Only (fun k => k = g) w w' → K (a.put o.dst (goInt m)) w') :
    if Region.wanted o (yielded ops a.tmps) = true then Oper.wp P o a w K Q else E := by
  have hw : Region.wanted o (yielded ops a.tmps) = true := by simp [Region.wanted, hgd]
  rw [if_pos hw]
  subst hb
  have hM : (k + m) * sz ≤ M * sz := Nat.mul_le_mul_right _ hfit
  rw [Nat.add_mul] at hM
  have hrun := run_copyO (P := P) w dT sT o.type e sz g (off + k * sz) dLen dCap ad sLen sCap m cs hu hsz hn hl hsrc (fun j hj => by
    have := (hown.there (j := k * sz + j) (by omega)).1
    rwa [← Nat.add_assoc] at this) (fun j hj => by
    have := (hown.there (j := k * sz + j) (by omega)).2
    rwa [← Nat.add_assoc] at this) h1
  unfold Oper.wp execOp
  simp only [ho, resolve, invoke, builtin, Sem.run_bind, Sem.run_pure, Result.andThen_ok, List.map_toArray, List.map_cons, List.map_nil, hd, hs, hrun]
  exact h _ (hown.spl (k * sz) cs (by omega)) ((Only.refl (fun k => k = g) w).setCells (.inl rfl) _ _)
/-- clear of some elements of a row -/
theorem wpList_clearO (hgd : o.guard = none) (s : Operand) (t : TypeId) (ho : o.op = .call { callee := .builtin .clear, args := #[s], argTypes := #[t] })
    (e : TypeId) (sz : Nat) (z : Value) (ht : P.underlying t = some (.slice e)) (hv : ∀ w, (zeroValue e).run P w = .ok z w) (hzs : z.cells.size = sz) (hz1 : ∀ n, ∀ u ∈ (Builtin.zeroCells z.cells n).toList, u.oneCell' = true)
    (g off M c : Nat) (xs : List Value) (hown : RowO w e sz (some ⟨g, off, none⟩) M c xs) (k b n cap : Nat) (hb : b = off + k * sz) (hs : a.eval s = .slice (some ⟨g, b, none⟩) n cap) (hn : 0 < n) (hfit : k + n ≤ M)
    (h : ∀ w', RowO w' e sz (some ⟨g, off, none⟩) M c (spl xs (k * sz) (Builtin.zeroCells z.cells n).toList) → Only (fun k => k = g) w w' → wpList P ops Q rest (a.put o.dst (.tuple #[])) w') : wpList P ops Q (o :: rest) a w := by
  subst hb
  refine wpList_plain hgd fun K hK => ?_
  have hM : (k + n) * sz ≤ M * sz := Nat.mul_le_mul_right _ hfit
  rw [Nat.add_mul] at hM
  have hlen : (Builtin.zeroCells z.cells n).toList.length = n * sz := by rw [Array.length_toList, size_zeroCells, hzs]
  have hst := run_storeCells_cells (P := P) g (off + k * sz) (Builtin.zeroCells z.cells n).toList 0 w (fun j hj => by
    have := (hown.there (j := k * sz + j) (by omega)).1
    rw [← Nat.add_assoc] at this
    simpa using this) (fun j hj => by
    have := (hown.there (j := k * sz + j) (by omega)).2
    rw [← Nat.add_assoc] at this
    simpa using this) (hz1 n)
  simp only [Nat.add_zero] at hst
  obtain ⟨q, rfl⟩ : ∃ q, n = q + 1 := ⟨n - 1, by omega⟩
  have hrun : (Builtin.clear_ #[t] o.type #[.slice (some ⟨g, off + k * sz, none⟩) (q + 1) cap]).run P w = .ok (.tuple #[]) (w.setCells g (off + k * sz) (Builtin.zeroCells z.cells (q + 1)).toList) := by
    simp [Builtin.clear_, run_underlying ht, hv, hst]
  unfold Oper.wp execOp
  simp only [ho, resolve, invoke, builtin, Sem.run_bind, Sem.run_pure, Result.andThen_ok, List.map_toArray, List.map_cons, List.map_nil, hs, hrun]
  exact hK _ _ (h _ (hown.spl (k * sz) _ (by omega)) ((Only.refl (fun k => k = g) w).setCells (.inl rfl) _ _))
end
end Go.Proofs.YtpjgkacekelkdaaGreatDoor

/-
  A word of the hand walks of regions (region.py). No statement of the seat is proved here.
-/
namespace Go.Proofs.YtpjgkacekelkdaaGreatDoor
open Go Go.RowKit
theorem take_list {α : Type} {l r : List α} {i : Nat} {x : α} (h : l.drop i = x :: r) : (l.toArray)[i]? = some x := by
  have := congrArg List.head? h
  rw [List.head?_drop] at this
  simpa using this
/-- at a step of a region that draws its order: a conversion whose run is known -/
theorem step_convW {P : Program} {w : World} {ops : Array Oper} {o : Oper} {a : Act} {K : Act → World → Prop} {Q : Exit → Act → World → Prop} {E : Prop} (hgd : o.guard = none) (s t : TypeId) (x : Operand)
    (ho : o.op = .convert s t x) (v r : Value) (hx : a.eval x = v) (hrun : (convert s t v).run P w = .ok r w) (h : K (a.put o.dst r) w) :
    if Region.wanted o (yielded ops a.tmps) = true then Oper.wp P o a w K Q else E := by
  have hw : Region.wanted o (yielded ops a.tmps) = true := by simp [Region.wanted, hgd]
  rw [if_pos hw]
  unfold Oper.wp execOp
  simp only [ho, Sem.run_bind, Sem.run_pure, Result.andThen_ok, hx, hrun]
  exact h
/-- append, as a step of a region that draws its order -/
theorem step_appT {P : Program} {w : World} {fp : Nat → Prop} {ops : Array Oper} {o : Oper} {a : Act} {K : Act → World → Prop} {Q : Exit → Act → World → Prop} {E : Prop} (hgd : o.guard = none) (s x : Operand) (t : TypeId)
    (ho : o.op = .call { callee := .builtin .append, args := #[s, x], argTypes := #[t, t] })
    (e : TypeId) (z : Value) (bytes : Nat) (ht : P.underlying t = some (.slice e)) (hi : (P.info? e).map (fun i => (i.zero, i.size, i.bytes)) = some (some z, 1, bytes)) (hzs : z.cells.size = 1)
    (A : Option Addr) (n c : Nat) (xs : List Value) (hs : a.eval s = .slice A n c) (hn : n = xs.length) (hown : Own w fp e A c xs)
    (A2 : Option Addr) (m c2 : Nat) (news : List Value) (hx : a.eval x = .slice A2 m c2) (hm : m = news.length) (hr : Rd w A2 news) (h1 : ∀ u ∈ news, u.oneCell' = true)
    (h63 : n + m ≤ maxLen) (hbytes : (n + m) * bytes ≤ 140737488355328)
    (h : ∀ A' c' w', Own w' (More fp w w') e A' c' (xs ++ news) → Only fp w w' → K (a.put o.dst (.slice A' (n + m) c')) w') :
    if Region.wanted o (yielded ops a.tmps) = true then Oper.wp P o a w K Q else E := by
  have hw : Region.wanted o (yielded ops a.tmps) = true := by simp [Region.wanted, hgd]
  rw [if_pos hw]
  exact wp_app w s x t ho e z bytes ht hi hzs A n c xs hs hn hown A2 m c2 news hx hm hr h1 h63 hbytes h

end Go.Proofs.YtpjgkacekelkdaaGreatDoor

/-
  The order of texts. No Go here.
-/
namespace Go.Proofs.YtpjgkacekelkdaaGreatDoor
open Go

/-! ### the order of names -/
theorem lt_irr (a : List UInt8) : ¬ a < a := List.lt_irrefl a
theorem lt_tr {a b c : List UInt8} (h : a < b) (k : b < c) : a < c := List.lt_trans h k
theorem lt_or (a b : List UInt8) : a < b ∨ a = b ∨ b < a := by
  induction a generalizing b with
  | nil => cases b with
    | nil => exact .inr (.inl rfl)
    | cons y ys => exact .inl (List.nil_lt_cons y ys)
  | cons x xs ih => cases b with
    | nil => exact .inr (.inr (List.nil_lt_cons x xs))
    | cons y ys =>
      rw [List.cons_lt_cons_iff, List.cons_lt_cons_iff]
      rcases Nat.lt_trichotomy x.toNat y.toNat with h | h | h
      · exact .inl (.inl (UInt8.lt_iff_toNat_lt.2 h))
      · have : x = y := UInt8.toNat_inj.1 h
        subst this
        rcases ih ys with h | h | h
        · exact .inl (.inr ⟨rfl, h⟩)
        · exact .inr (.inl (by rw [h]))
        · exact .inr (.inr (.inr ⟨rfl, h⟩))
      · exact .inr (.inr (.inl (UInt8.lt_iff_toNat_lt.2 h)))
theorem lt_asy {a b : List UInt8} (h : a < b) : ¬ b < a := fun k => lt_irr a (lt_tr h k)
theorem lt_ne {a b : List UInt8} (h : a < b) : a ≠ b := fun e => lt_irr a (by rw [e] at h; rw [e]; exact h)
theorem not_lt_of {a b : List UInt8} (h : ¬ a < b) : a = b ∨ b < a := by
  rcases lt_or a b with k | k | k
  · exact absurd k h
  · exact .inl k
  · exact .inr k
end Go.Proofs.YtpjgkacekelkdaaGreatDoor

/-
  Numbers, raw bytes and rows, read back: mathematics. No statement of the seat is proved here.
-/
namespace Go.Proofs.YtpjgkacekelkdaaGreatDoor
open Go Go.RowKit
set_option maxRecDepth 100000

theorem stNum_digD (n : Nat) (r : List UInt8) (h : n ≤ 4611686018427387904) : stNum (dig n ++ r) false = (n, r, false) := by
  have e := num_dig n r h
  simp [stNum, e, resN, restOf, badOf]
theorem stRaw_at (xs r : List UInt8) : stRaw (xs ++ r) false (xs.length : Int) = (xs, r, false) := by
  unfold stRaw
  rw [if_neg (by simp; omega)]
  simp
theorem stBytes_row (xs r : List UInt8) (h : xs.length ≤ 4611686018427387904) : stBytes (dig xs.length ++ xs ++ r) false = (xs, r, false) := by
  unfold stBytes
  rw [List.append_assoc, stNum_digD _ _ h]
  exact stRaw_at xs r
/-- so many rows, as long as nothing errs -/
def takeR : Nat → List UInt8 → Bool → List (List UInt8) × List UInt8 × Bool
  | 0, bs, bad => ([], bs, bad)
  | k + 1, bs, bad => if bad = true then ([], bs, bad) else
    ((stBytes bs bad).1 :: (takeR k (stBytes bs bad).2.1 (stBytes bs bad).2.2).1, (takeR k (stBytes bs bad).2.1 (stBytes bs bad).2.2).2)
theorem takeR_bad (k : Nat) (bs : List UInt8) : takeR k bs true = ([], bs, true) := by cases k <;> simp [takeR]
theorem takeR_zero (bs : List UInt8) (bad : Bool) : takeR 0 bs bad = ([], bs, bad) := rfl
theorem takeR_succ (k : Nat) (bs : List UInt8) : takeR (k + 1) bs false = ((stBytes bs false).1 :: (takeR k (stBytes bs false).2.1 (stBytes bs false).2.2).1, (takeR k (stBytes bs false).2.1 (stBytes bs false).2.2).2) := by
  rw [takeR, if_neg (by simp)]
theorem takeR_rows : ∀ (l : List (List UInt8)) (r : List UInt8), (∀ s ∈ l, s.length ≤ 4611686018427387904) → takeR l.length (rowsB l ++ r) false = (l, r, false)
  | [], r, _ => by simp [takeR, rowsB]
  | s :: l, r, h => by
    have e : rowsB (s :: l) ++ r = dig s.length ++ s ++ (rowsB l ++ r) := by simp [rowsB]
    have h1 := h s (List.mem_cons_self ..)
    rw [List.length_cons, takeR_succ, e, stBytes_row _ _ h1, takeR_rows l r (fun t ht => h t (List.mem_cons_of_mem _ ht))]
theorem stNum_good {bs : List UInt8} (h : (stNum bs false).2.2 = false) : (stNum bs false).2.1.length + 1 ≤ bs.length := by
  unfold stNum at h ⊢
  rw [if_neg (by simp)] at h ⊢
  rcases hR : num? bs with _ | ⟨n, k⟩
  · rw [hR] at h; simp [badOf] at h
  · obtain ⟨h1, h2, _⟩ := num_bounds hR
    rw [hR] at h
    simp [restOf]
    omega
theorem stBytes_good {bs : List UInt8} (h : (stBytes bs false).2.2 = false) : (stBytes bs false).2.1.length + 1 ≤ bs.length := by
  unfold stBytes at h ⊢
  have h1 : (stNum bs false).2.2 = false := by
    cases hb : (stNum bs false).2.2 with
    | false => rfl
    | true => rw [hb] at h; simp [stRaw] at h
  have h2 := stNum_good h1
  have h3 := (stRaw_len (stNum bs false).2.1 (stNum bs false).2.2 ((stNum bs false).1 : Int)).1
  omega
theorem stBytes_bad {bs : List UInt8} {bad : Bool} (h : (stBytes bs bad).2.2 = true) : (stBytes bs bad).2.1 = [] := by
  unfold stBytes stRaw at h ⊢
  split at h
  · rename_i hc; rw [if_pos hc]
  · simp at h
end Go.Proofs.YtpjgkacekelkdaaGreatDoor

/-
  How a law's contract closes its statement; what an int's and a byte's datum says. No statement of the seat is proved here.
-/
namespace Go.Proofs.YtpjgkacekelkdaaGreatDoor
open Go Go.ChangeShapes Go.WideShapes Go.ChangeAt Go.RowKit

theorem own : ownKnob Tryz.prog.godebug = none := by kernel_rfl
theorem laidOut : laidOutB Tryz.prog = true := by kernel_rfl

theorem int_of_wf {v : Int} (h : (Lit.int .i64 v).wf = true) : isInt v := by
  have h1 : IntKind.i64.min = -9223372036854775808 := rfl
  have h2 : IntKind.i64.max = 9223372036854775807 := rfl
  simp only [Lit.wf, Bool.and_eq_true, decide_eq_true_eq] at h
  unfold isInt
  omega
theorem u8_of_wf {v : Int} (h : (Lit.int .u8 v).wf = true) : 0 ≤ v ∧ v ≤ 255 := by
  have h1 : IntKind.u8.min = 0 := rfl
  have h2 : IntKind.u8.max = 255 := rfl
  simp only [Lit.wf, Bool.and_eq_true, decide_eq_true_eq] at h
  omega

/-! ### How a contract closes a statement -/
section
variable {H : Type} {enc : TypeId × Value → H}
theorem below_trodAll {P : Program} (hl : laidOutB P = true) {W W' : World} (hb : Below W.heap.size W W') : ∀ {ts : List TypeId} {vs : List Value} {ds : List (DataW H)} {ps : List MemPlace},
    (∀ t ∈ ts, P.readableRec t = true ∧ t < P.types.size) → DataW.TrodAll enc P W 0 (fun _ => true) true ts vs ds ps → (∀ x ∈ ps, x.block < W.heap.size) → DataW.TrodAll enc P W' 0 (fun b => decide (b < W.heap.size)) true ts vs ds ps
  | [], [], [], _, _, h, _ => h
  | t :: ts, v :: vs, d :: ds, _, hr, h, hlt => by
    obtain ⟨p, q, h1, h2, rfl⟩ := h
    exact ⟨p, q, Below.trod hl (hr t (by simp)).1 (hr t (by simp)).2 h1 hb (fun x hx => hlt x (by simp [hx])), below_trodAll hl hb (fun t' ht => hr t' (by simp [ht])) h2 (fun x hx => hlt x (by simp [hx])), rfl⟩
  | [], [], _ :: _, _, _, h, _ => h.elim
  | [], _ :: _, _, _, _, h, _ => h.elim
  | _ :: _, [], _, _, _, h, _ => h.elim
  | _ :: _, _ :: _, [], _, _, h, _ => h.elim

/-- a law that returned true, and left all that was there as it was -/
theorem law_post {f : Func} {s : ChangeSpec} {W W' : World} {args : Array Value} {ds gs : List (DataW H)} {before : List MemPlace} (hvars : s.vars = []) (hf : f.resultTypes = #[4])
    (hread : f.params.toList.all (fun t => Tryz.prog.readableRec t && decide (t < Tryz.prog.types.size)) = true)
    (hs : (s.fn H ds).results = [.lit (.bool true)] ∧ (s.fn H ds).args = ds ∧ (s.fn H ds).vars = []) (hW : DataW.Whole enc Tryz.prog f.params.toList s.vars false W args.toList ds gs before) (hb : Below W.heap.size W W') :
    s.post enc Tryz.prog f false true false false W args (.bool true) W' := by
  have hW' := hW
  have hlt : ∀ x ∈ before, x.block < W.heap.size := fun x hx => by simpa using hW'.lt x hx
  obtain ⟨p, q, hA, hV, he, _, _⟩ := hW
  rw [hvars] at hV
  obtain ⟨hg, hq⟩ := trodVars_none hV
  have hx : ds ++ gs = ds := by rw [hg, List.append_nil]
  refine ⟨ds, gs, before, [] ++ [], p, [], hW', ?_, ?_, ?_, hb.frame _, fun h => by cases h⟩
  · rw [hx, hs.1, hf]
    exact trodAll_cons_mk (shut_bool Tryz.underlying4 _) trodAll_mk0
  · rw [hx, hs.2.1]
    refine below_trodAll laidOut hb (fun t ht => ?_) hA (fun x hx => hlt x (by rw [he]; simp [hx]))
    have := List.all_eq_true.1 hread t ht
    simpa using this
  · rw [hx, hs.2.2, hvars]
    rfl
end

/-- a world for the witness: the settled one -/
noncomputable def plainWorld (os : Os) : World := World.holding Tryz.prog os ⟨#[], #[], []⟩
end Go.Proofs.YtpjgkacekelkdaaGreatDoor

/-
  A text as an argument. No statement of the seat is proved here.
-/
namespace Go.Proofs.YtpjgkacekelkdaaGreatDoor
open Go Go.RowKit
theorem str_xs (s : ByteArray) (h : s.size ≤ maxLen) : ∃ xs : List UInt8, (.string s : Value) = strV xs ∧ xs.length ≤ maxLen := ⟨s.data.toList, by unfold strV; simp, by simpa using h⟩
end Go.Proofs.YtpjgkacekelkdaaGreatDoor
