/-
  Texts of this claim, joined (part 5): contracts and lemmas that the last text goes by. No statement of the seat is proved here.
-/
import Derived.Test.YthceajadgjnnmaaAll4
import Derived.Test.YthceajadgjnnmaaAll2
import Derived.Test.YthceajadgjnnmaaAll3
import Derived.Test.YthceajadgjnnmaaAll0
import Derived.Laws.IdiomStrings
set_option linter.unusedVariables false
set_option linter.unusedSimpArgs false
/-
  Is any text too long; a text sought in a rising row; the places of texts (program). No statement of the seat is proved here.
-/
namespace Go.Proofs.Ythceajadgjnnmaa
open Go Go.RowKit
set_option maxRecDepth 100000

theorem longD_any (s : List UInt8) (w : World) (hs : s.length ≤ maxLen) : Calls Try.prog 51 #[strV s] w fun e w' => e = .returned (.bool (longT s)) ∧ w = w' := by
  unfold maxLen at hs
  unfold strV
  have hsz : (⟨s.toArray⟩ : ByteArray).size = s.length := rfl
  obtain ⟨Z, hZ⟩ : ∃ Z : ByteArray, (⟨s.toArray⟩ : ByteArray) = Z := ⟨_, rfl⟩
  rw [hZ] at hsz ⊢
  have hd : Hid (longT s = decide ((4096 : Int) < (Z.size : Int))) := Lib.hid (by unfold longT; rw [hsz]; rw [decide_eq_decide]; omega)
  clear hZ hsz
  go_enter Try.func51, Try.ntmps51
  go_wp2
  go_ret
  exact ⟨by rw [hd.out]; rfl, rfl⟩
/-- where the first is -/
def idxD (l : List (List UInt8)) : Int := match l.findIdx? longT with | some k => (k : Int) | none => -1
theorem idxD_none {l : List (List UInt8)} (h : ∀ s ∈ l, longT s = false) : idxD l = -1 := by
  unfold idxD
  rw [List.findIdx?_eq_none_iff.2 h]
theorem idxD_some {l : List (List UInt8)} {k : Nat} (hk : k < l.length) (h1 : longT l[k] = true) (h2 : ∀ j (hj : j < k), longT (l[j]'(by omega)) = false) : idxD l = (k : Int) := by
  unfold idxD
  rw [List.findIdx?_eq_some_iff_getElem.2 ⟨hk, h1, fun j hj => by simp [h2 j hj]⟩]
theorem idxD_any (l : List (List UInt8)) : decide ((0 : Int) ≤ idxD l) = l.any longT := by
  unfold idxD
  cases h : l.findIdx? longT with
  | none =>
    rw [List.findIdx?_eq_none_iff] at h
    have : l.any longT = false := by rw [List.any_eq_false]; intro x hx; simp [h x hx]
    rw [this]; rfl
  | some k =>
    rw [List.findIdx?_eq_some_iff_getElem] at h
    obtain ⟨hk, h1, _⟩ := h
    have : l.any longT = true := List.any_eq_true.2 ⟨l[k], List.getElem_mem hk, h1⟩
    rw [this]
    exact decide_eq_true (by simp)

set_option maxHeartbeats 2000000 in
theorem indexD_any (A : Option Addr) (c : Nat) (l : List (List UInt8)) (w : World) (hA : Rd w A (l.map strV)) (hl : l.length ≤ 1000000) (hs : ∀ s ∈ l, s.length ≤ maxLen) :
    Calls Try.prog 81 #[.slice A l.length c, .func (.func 51) #[] #[]] w fun e w' => e = .returned (.int .i64 (idxD l)) ∧ w = w' := by
  have hli : (l.length : Int) ≤ 1000000 := by omega
  go_enter Try.func81, Try.ntmps81
  go_wp2
  go_loop [8] (fun i => ∃ k : Nat, k ≤ l.length ∧ i = .int .i64 (k : Int) ∧ ∀ j (hj : j < l.length), j < k → longT l[j] = false) (fun i => l.length - (intOf i).toNat)
  case atStart => exact ⟨0, Nat.zero_le _, rfl, fun j _ h => absurd h (by omega)⟩
  case round =>
    obtain ⟨k, hk, rfl, hno⟩ := hrel
    have Hno := Lib.hid hno
    by_cases hlt : k < l.length
    · have hki : (k : Int) < (l.length : Int) := by omega
      obtain ⟨ad, rfl, hcell⟩ := rd_str hA hlt
      have HL := Lib.hid (longD_any l[k] w (hs _ (List.getElem_mem hlt)))
      unfold strV at hcell HL
      obtain ⟨Z, hZ⟩ : ∃ Z : ByteArray, (⟨l[k].toArray⟩ : ByteArray) = Z := ⟨_, rfl⟩
      rw [hZ] at hcell HL
      have HI : Hid (longT l[k] = true → idxD l = (k : Int)) := Lib.hid (fun h => idxD_some hlt h (fun j hj => hno j (by omega) hj))
      have HF : Hid (longT l[k] = false → ∀ j (hj : j < l.length), j < k + 1 → longT l[j] = false) := Lib.hid (fun h j hj hj2 => by
        rcases Nat.lt_succ_iff_lt_or_eq.1 hj2 with h3 | rfl
        · exact hno j hj h3
        · exact h)
      clear hZ hno
      generalize longT l[k] = v at *
      go_wp2_with fail
      refine HL.out.mono ?_
      rintro e w' ⟨rfl, rfl⟩
      cases v with
      | true =>
        have Hi := Lib.hid (HI.out rfl)
        go_wp2
        go_ret
        exact ⟨by rw [Hi.out]; rfl, rfl⟩
      | false =>
        have Hf := Lib.hid (HF.out rfl)
        clear HF HI
        go_wp2
        go_round
        case rel => exact ⟨k + 1, by omega, by go_num, Hf.out⟩
        case measure => simp [intOf]; omega
    · obtain rfl : k = l.length := by omega
      have hi : idxD l = -1 := idxD_none (fun s hs => by
        obtain ⟨j, hj, rfl⟩ := List.mem_iff_getElem.1 hs
        exact hno j hj hj)
      have Hi := Lib.hid hi
      clear hno hi
      go_wp2
      go_ret
      exact ⟨by rw [Hi.out]; rfl, rfl⟩
theorem containsD_any (A : Option Addr) (c : Nat) (l : List (List UInt8)) (w : World) (hA : Rd w A (l.map strV)) (hl : l.length ≤ 1000000) (hs : ∀ s ∈ l, s.length ≤ maxLen) :
    Calls Try.prog 52 #[.slice A l.length c, .func (.func 51) #[] #[]] w fun e w' => e = .returned (.bool (l.any longT)) ∧ w = w' := by
  have HI := Lib.hid (indexD_any A c l w hA hl hs)
  have Hd := Lib.hid (idxD_any l)
  generalize idxD l = v at *
  go_enter Try.func52, Try.ntmps52
  go_wp2_with fail
  refine HI.out.mono ?_
  rintro e w' ⟨rfl, rfl⟩
  go_wp2
  go_ret
  exact ⟨by rw [← Hd.out]; rfl, rfl⟩


theorem flat_of_cellD {w : World} {a : Addr} {u : Value} (h : w.cell? (a.add 0) = some u) : ∃ g o, a = ⟨g, o, none⟩ := spot_none h
theorem search_place {w : World} (A : Option Addr) (c : Nat) (ns : List (List UInt8)) (x : List UInt8) (hr : Rd w A (ns.map strV)) (hs : CalmT ns) (hn : ns.length ≤ 1000000) :
    Calls Try.prog 82 #[.slice A ns.length c, strV x] w fun e w' => ∃ v : Bool, e = .returned (.tuple #[.int .i64 (placeT ns x : Int), .bool v]) ∧ ∃ q, w' = w.drewN q := by
  by_cases hne : ns = []
  · subst hne
    have h := Go.Proofs.Any2.slices_BinarySearch_string_empty Try.laySearch A c ⟨x.toArray⟩ w
    change Calls Try.prog 82 _ _ _ at h
    refine h.mono ?_
    rintro e w' ⟨rfl, rfl⟩
    exact ⟨false, rfl, 0, rfl⟩
  · have hpos : 0 < ns.length := List.length_pos_iff.2 hne
    obtain ⟨ad, rfl, hc0⟩ := rd_str hr hpos
    obtain ⟨g, o, rfl⟩ := flat_of_cellD hc0
    obtain ⟨Sx, hSx⟩ : ∃ Sx : Nat → ByteArray, Sx = fun j => ⟨(ns.getD j x).toArray⟩ := ⟨_, rfl⟩
    have hcell : ∀ j, j < ns.length → w.cell? ⟨g, o + j, none⟩ = some (.string (Sx j)) := fun j hj => by
      obtain ⟨ad', e', hc⟩ := rd_str hr hj
      injection e' with e'
      subst e'
      rw [Addr.add_mid] at hc
      rw [hc, hSx]
      simp only
      rw [List.getD_eq_getElem?_getD, List.getElem?_eq_getElem hj]; rfl
    have h := Go.Proofs.Any2.slices_BinarySearch_string Try.laySearch g o ns.length c Sx ⟨x.toArray⟩ w (by omega) hcell
    change Calls Try.prog 82 _ _ _ at h
    refine h.mono ?_
    rintro e w' ⟨rfl, q, rfl⟩
    have hless : ∀ t, Op.bytesLess (Sx t).toList (⟨x.toArray⟩ : ByteArray).toList = decide (ns.getD t x < x) := fun t => by
      rw [hSx, Go.Proofs.bytesLess_eq, ByteArray.toList_mk, ByteArray.toList_mk]
    obtain ⟨g1, g2⟩ := placeT_spec (s := x) hs
    have hle := placeT_le ns x
    have hgd : ∀ t (ht : t < ns.length), ns.getD t x = ns[t] := fun t ht => by rw [List.getD_eq_getElem?_getD, List.getElem?_eq_getElem ht]; rfl
    have hgo : Lib.bsGo (fun t => Op.bytesLess (Sx t).toList (⟨x.toArray⟩ : ByteArray).toList) ns.length 0 ns.length = placeT ns x :=
      Lib.bsGo_spec _ (placeT ns x) (fun t ht => by
        rw [hless]
        have htl : t < ns.length := by omega
        exact decide_eq_true (by rw [hgd t htl]; exact g1 t htl ht)) (fun t ht => by
        rw [hless]
        refine decide_eq_false ?_
        by_cases htl : t < ns.length
        · rw [hgd t htl]; exact g2 t htl ht
        · rw [List.getD_eq_getElem?_getD, List.getElem?_eq_none (by omega)]
          exact lt_irr _) _ _ _ (by omega) (Nat.zero_le _) hle
    rw [hgo]
    exact ⟨_, rfl, q, rfl⟩

/-! ### places -/
def plcR (W l : List (List UInt8)) (k : Nat) : List Value := ((l.take k).map fun s => iv (placeT W s : Int)) ++ List.replicate (l.length - k) (iv 0)
theorem plcR_len (W l : List (List UInt8)) (k : Nat) (h : k ≤ l.length) : (plcR W l k).length = l.length := by unfold plcR; simp; omega
theorem plcR_set (W l : List (List UInt8)) (k : Nat) (h : k < l.length) : (plcR W l k).set k (iv (placeT W l[k] : Int)) = plcR W l (k + 1) := by
  unfold plcR
  have e : l.length - k = (l.length - (k + 1)) + 1 := by omega
  have e2 : ((l.take k).map fun s => iv (placeT W s : Int)).length = k := by simp; omega
  rw [List.set_append, if_neg (by omega), e2, Nat.sub_self, e, List.replicate_succ, List.set_cons_zero, List.take_succ_eq_append_getElem h, List.map_append, List.append_assoc]
  rfl
theorem plcR_all (W l : List (List UInt8)) : plcR W l l.length = (l.map fun s => (placeT W s : Int)).map iv := by
  unfold plcR
  rw [List.take_length, Nat.sub_self, List.replicate_zero, List.append_nil, List.map_map]
  rfl
theorem plcR_zero (W l : List (List UInt8)) : plcR W l 0 = repR l.length 0 0 := by simp [plcR, repR]

set_option maxHeartbeats 4000000 in
theorem placesOf_any (A : Option Addr) (c : Nat) (l : List (List UInt8)) (B : Option Addr) (d : Nat) (W : List (List UInt8)) (w : World) (hA : Rd w A (l.map strV)) (hB : Rd w B (W.map strV)) (hs : CalmT W) (hl : l.length ≤ 32768) (hW : W.length ≤ 1000000) :
    Calls Try.prog 53 #[.slice A l.length c, .slice B W.length d] w fun e w' => ∃ G, e = .returned (.slice (some ⟨G, 0, none⟩) l.length l.length) ∧ Rd w' (some ⟨G, 0, none⟩) ((l.map fun s => (placeT W s : Int)).map iv) ∧ Below w.heap.size w w' := by
  have hli : (l.length : Int) ≤ 32768 := by omega
  have HA := Lib.hid hA
  have HB := Lib.hid hB
  have HS := Lib.hid (fun (x : List UInt8) (V : World) (hV : Rd V B (W.map strV)) => search_place B d W x hV hs hW)
  have HE := Lib.hid (plcR_all W l)
  have HLn := Lib.hid (plcR_len W l)
  have HSt := Lib.hid (plcR_set W l)
  have hmk := fun V => make_ints V l.length (by omega)
  rw [Nat.mul_one] at hmk
  have HR : Hid (RowO (w.alloc (.cells (madeCells #[.int .i64 0] l.length) 3)) 3 1 (some ⟨w.heap.size, 0, none⟩) l.length l.length (plcR W l 0)) := Lib.hid (by rw [plcR_zero]; exact row_made w l.length 0 (by omega))
  have Hb1 : Hid (Below w.heap.size w (w.alloc (.cells (madeCells #[.int .i64 0] l.length) 3))) := Lib.hid (ext_alloc (Below.refl _ _) _)
  obtain ⟨G, hG⟩ : ∃ G, w.heap.size = G := ⟨_, rfl⟩
  have HG := Lib.hid hG
  rw [hG] at HR
  obtain ⟨W1, hW1⟩ : ∃ W1, W1 = w.alloc (.cells (madeCells #[.int .i64 0] l.length) 3) := ⟨_, rfl⟩
  have hmk2 : (Instr.makeSlice 22 (.int .i64 (l.length : Int)) (.int .i64 (l.length : Int))).run Try.prog w = .ok (.slice (some ⟨G, 0, none⟩) l.length l.length) W1 := by rw [hW1, ← hG]; exact hmk w
  rw [← hW1] at HR Hb1
  clear hW1 hmk hG hA hB hs
  go_enter Try.func53, Try.ntmps53
  go_wp2
  go_loopw [13] (fun i wr => ∃ (k : Nat), k ≤ l.length ∧ i = .int .i64 (k : Int) ∧ Hid (RowO wr 3 1 (some ⟨G, 0, none⟩) l.length l.length (plcR W l k)) ∧ Hid (Below w.heap.size w wr)) (fun i _ => l.length - (intOf i).toNat)
  case atStart => exact ⟨0, Nat.zero_le _, rfl, HR, Hb1⟩
  case round =>
    obtain ⟨k, hk, rfl, HRr, Hbr⟩ := hrel
    by_cases hlt : k < l.length
    · have hki : (k : Int) < (l.length : Int) := by omega
      obtain ⟨ad, e, hcell⟩ := HRr.out.rd.at_ (k := k) (by rw [HLn.out k hk]; exact hlt)
      injection e with e
      subst e
      rw [Addr.add_mid] at hcell
      have hfr := HRr.out.free (0 + k)
      obtain ⟨ad2, hA2, hcell2⟩ := rd_str (HA.out.ext Hbr.out) hlt
      subst hA2
      have HSx := Lib.hid (HS.out l[k] wr (HB.out.ext Hbr.out))
      have HP : Hid (∀ q, RowO ((wr.drewN q).setCell ⟨G, 0 + k, none⟩ (iv (placeT W l[k] : Int))) 3 1 (some ⟨G, 0, none⟩) l.length l.length (plcR W l (k + 1)) ∧ Below w.heap.size w ((wr.drewN q).setCell ⟨G, 0 + k, none⟩ (iv (placeT W l[k] : Int)))) := Lib.hid (fun q => ⟨by
        have h := (HRr.out.drewN q).set k (by rw [HLn.out k hk]; exact hlt) (iv (placeT W l[k] : Int))
        rw [HSt.out k hlt] at h
        exact h, (ext_drewN Hbr.out q).setCell (p := ⟨G, 0 + k, none⟩) (Nat.le_of_eq HG.out) _⟩)
      unfold iv at HP
      obtain ⟨y, hy⟩ : ∃ y, (plcR W l k)[k]'(by rw [HLn.out k hk]; exact hlt) = y := ⟨_, rfl⟩
      rw [hy] at hcell
      rw [Nat.zero_add] at hcell hfr HP
      generalize placeT W l[k] = pl at *
      unfold strV at hcell2 HSx
      obtain ⟨Z, hZ⟩ : ∃ Z : ByteArray, (⟨l[k].toArray⟩ : ByteArray) = Z := ⟨_, rfl⟩
      rw [hZ] at hcell2 HSx
      clear hy hZ
      go_wp2_with fail
      refine HSx.out.mono ?_
      rintro e w' ⟨v, rfl, q, rfl⟩
      have hcell3 : (wr.drewN q).cell? ⟨G, k, none⟩ = some y := hcell
      have hfr3 : (wr.drewN q).frozen? ⟨G, k, none⟩ = false := hfr
      have Hp := Lib.hid (HP.out q)
      clear hcell hfr HP
      go_wp2
      go_roundw
      case rel => exact ⟨k + 1, by omega, by go_num, Lib.hid Hp.out.1, Lib.hid Hp.out.2⟩
      case measure => simp [intOf]; omega
    · obtain rfl : k = l.length := by omega
      have HRd : Hid (Rd wr (some ⟨G, 0, none⟩) ((l.map fun s => (placeT W s : Int)).map iv)) := Lib.hid (by rw [← HE.out]; exact HRr.out.rd)
      go_wp2
      go_ret
      exact ⟨G, rfl, HRd.out, Hbr.out⟩
end Go.Proofs.Ythceajadgjnnmaa

/-
  Encode (program). No statement of the seat is proved here.
-/
namespace Go.Proofs.Ythceajadgjnnmaa
open Go Go.RowKit
set_option maxRecDepth 100000

theorem rowsTo_lenD (l : List (List UInt8)) (h : ∀ s ∈ l, s.length ≤ 4096) : ∀ k, (rowsTo l k).length ≤ 4105 * k
  | 0 => by simp [rowsTo, rowsB]
  | k + 1 => by
    have ih := rowsTo_lenD l h k
    by_cases hk : k < l.length
    · rw [rowsTo_succ l k hk, List.length_append, List.length_append]
      have h1 := h _ (List.getElem_mem hk)
      have h2 : (dig l[k].length).length ≤ 9 := dig_len 9 _ (by have : (128 : Nat) ^ 9 = 9223372036854775808 := rfl; omega) (by omega)
      omega
    · have e : rowsTo l (k + 1) = rowsTo l k := by
        unfold rowsTo
        rw [List.take_of_length_le (by omega), List.take_of_length_le (by omega)]
      rw [e]
      omega
theorem rowsB_lenD (s : List UInt8) (h : s.length ≤ 2000000) : (rowsB [s]).length ≤ 2000009 := by
  rw [rowsB_sing, List.length_append]
  have h2 : (dig s.length).length ≤ 9 := dig_len 9 _ (by have : (128 : Nat) ^ 9 = 9223372036854775808 := rfl; omega) (by omega)
  omega
theorem mayD_len {l : List (List UInt8)} (h : ¬ l.length ≤ 32768) : mayD l = false := by unfold mayD; rw [decide_eq_false h]; rfl

set_option maxHeartbeats 8000000 in
theorem encodeD_any (A : Option Addr) (c : Nat) (l : List (List UInt8)) (w : World) (hA : Rd w A (l.map strV)) (h0 : A = none → c = 0) (hl : l.length ≤ 1000000) (hs : ∀ s ∈ l, s.length ≤ maxLen) :
    Calls Try.prog 26 #[.slice A l.length c] w fun e w' => ∃ A' c', e = .returned (.tuple #[.slice A' (ansD l).1.length c', .int .i64 (ansD l).2]) ∧ New w w' A' c' (ansD l).1 ∧ Below w.heap.size w w' := by
  by_cases h1 : l.length ≤ 32768
  case neg =>
    have h1i : (32768 : Int) < (l.length : Int) := by omega
    have HR : Hid (ansD l = ([], 1)) := Lib.hid (by unfold ansD; rw [mayD_len h1]; rfl)
    clear hA hs h0
    go_enter Try.func26, Try.ntmps26
    go_wp2
    go_ret2
    rw [HR.out]
    exact ⟨none, 0, rfl, Own.none_ _ _ _, Below.refl _ _⟩
  have h1i : ¬ (32768 : Int) < (l.length : Int) := by omega
  have HC := Lib.hid (containsD_any A c l w hA hl hs)
  cases hm : l.any longT with
  | true =>
    have HR : Hid (ansD l = ([], 1)) := Lib.hid (by unfold ansD mayD; rw [hm]; simp)
    rw [hm] at HC
    clear hA hs h0 hm
    go_enter Try.func26, Try.ntmps26
    go_wp2_with fail
    refine HC.out.mono ?_
    rintro e w1 ⟨rfl, rfl⟩
    go_wp2
    go_ret2
    rw [HR.out]
    exact ⟨none, 0, rfl, Own.none_ _ _ _, Below.refl _ _⟩
  | false =>
    have hmy : mayD l = true := by unfold mayD; rw [hm, decide_eq_true h1]; rfl
    have h4 := ((mayD_iff l).1 hmy).2
    have HR : Hid (ansD l = (encD l, 0)) := Lib.hid (by unfold ansD; rw [if_pos hmy])
    have HWd := Lib.hid (words_any A c l hA h0 hl)
    have HWl := Lib.hid (wordsT_len l)
    have H4 : Hid (∀ s ∈ wordsT l, s.length ≤ 4096) := Lib.hid (fun s hs => h4 s (wordsT_mem.1 hs))
    have HPl : Hid (∀ (B : Option Addr) (d : Nat) (W : World), Below w.heap.size w W → Rd W B ((wordsT l).map strV) → Calls Try.prog 53 #[.slice A l.length c, .slice B (wordsT l).length d] W fun e w' => ∃ G, e = .returned (.slice (some ⟨G, 0, none⟩) l.length l.length) ∧ Rd w' (some ⟨G, 0, none⟩) ((placesT l).map iv) ∧ Below W.heap.size W w') := Lib.hid (fun B d W hb hB => placesOf_any A c l B d (wordsT l) W (hA.ext hb) hB (wordsT_rises l).calm h1 (by have := wordsT_len l; omega))
    have HBs : Hid (∀ (G : Nat) (W : World), Rd W (some ⟨G, 0, none⟩) ((placesT l).map iv) → WayC 19 (some ⟨G, 0, none⟩) l.length l.length (bestP (placesT l)) W) := Lib.hid (fun G W hW => by
      have h := way_of (places_may h1) (bBest_any (some ⟨G, 0, none⟩) l.length (placesT l) W hW)
      rw [placesT_len] at h
      exact h)
    have HE : Hid (encD l = numsB [((wordsT l).length : Int)] ++ (rowsTo (wordsT l) (wordsT l).length ++ rowsB [bestP (placesT l)])) := Lib.hid (by rw [rowsTo_all]; rfl)
    have HBl : Hid ((bestP (placesT l)).length ≤ 2000000) := Lib.hid (best_len (places_may h1) (by rw [placesT_len]; omega))
    rw [hm] at HC
    unfold WayC at HBs
    generalize placesT l = PL at *
    generalize wordsT l = Wd at *
    generalize bestP PL = b at *
    have HL := Lib.hid (rowsTo_lenD Wd H4.out)
    have HN1 : Hid ((numsB [(Wd.length : Int)]).length ≤ 9) := Lib.hid (dig_nine _)
    have Hli : Hid ((Wd.length : Int) ≤ 32768) := Lib.hid (by have := HWl.out; omega)
    clear hA hs h0 hm hmy h4
    go_enter Try.func26, Try.ntmps26
    go_wp2_with fail
    refine HC.out.mono ?_
    rintro e w1 ⟨rfl, rfl⟩
    clear HC
    go_wp2_with fail
    refine HWd.out.mono ?_
    rintro e w1 ⟨A1, c1, rfl, hN⟩
    have HX := Lib.hid (HPl.out A1 c1 w1 hN.bel hN.rd)
    have Hb1 := Lib.hid hN.bel
    have Hr1 := Lib.hid hN.rd
    clear hN HPl HWd
    go_wp2_with fail
    refine HX.out.mono ?_
    rintro e w2 ⟨G, rfl, hr2, hb2⟩
    have HY := Lib.hid (HBs.out G w2 hr2)
    have Hb2 := Lib.hid (ext_trans Hb1.out hb2)
    have Hr2 := Lib.hid (Hr1.out.ext hb2)
    clear hr2 hb2 HX HBs
    go_wp2_with fail
    refine HY.out.mono ?_
    rintro e w3 ⟨A3, c3, rfl, hr3, hc3, hb3⟩
    have Hb3 := Lib.hid (ext_trans Hb2.out hb3)
    have Hr3 := Lib.hid (Hr2.out.ext hb3)
    have Hp3 := Lib.hid hr3
    have Hc3 := Lib.hid hc3
    clear hr3 hb3 hc3 HY Hr2 Hr1
    obtain ⟨W4, hW4⟩ : ∃ W4, W4 = w3.alloc (.cells #[.slice none 0 0] 73) := ⟨_, rfl⟩
    have HWr : Hid (Wr W4 (fun k => k = w3.heap.size) w3.heap.size []) := Lib.hid (by rw [hW4]; exact Wr.new w3 _ rfl)
    have HZ4 : Hid (W4.heap.size = w3.heap.size + 1) := Lib.hid (by rw [hW4, World.size_alloc])
    have Hb4 : Hid (Below w3.heap.size w3 W4) := Lib.hid (by rw [hW4]; exact ext_alloc (Below.refl _ _) _)
    have HW4 := Lib.hid hW4
    have hwi : isInt (Wd.length : Int) := ⟨by omega, by have := Hli.out; omega⟩
    have Hwi := Lib.hid hwi
    obtain ⟨g, hg⟩ : ∃ g, w3.heap.size = g := ⟨_, rfl⟩
    clear hW4 hwi
    go_wp2_with fail
    rw [← HW4.out]
    rw [hg] at HWr HZ4
    have Hg := Lib.hid hg
    clear hg
    refine (nums_any (fun k => k = g) g (some ⟨g + 1, 0, none⟩) 1 1 [(Wd.length : Int)] [] _ (HWr.out.alloc _) rfl (RdF.lit W4 #[.int .i64 (Wd.length : Int)] _ HZ4.out.symm (by omega)) (by
      intro v hv
      simp only [List.mem_cons, List.not_mem_nil, or_false] at hv
      subst hv
      exact Hwi.out) (by simp)).mono ?_
    rintro e w5 ⟨rfl, hr5, ho5⟩
    obtain ⟨Nb, hN⟩ : ∃ N, numsB [(Wd.length : Int)] = N := ⟨_, rfl⟩
    rw [hN] at hr5 HE HN1
    rw [List.nil_append] at hr5
    have hO5 : Only (fun k => k = g) W4 w5 := ((Only.refl _ _).alloc _).trans ho5 (fun _ _ h => h)
    have HR5 : Hid (Wr w5 (More (fun k => k = g) W4 w5) g (Nb.map bv)) := Lib.hid (wr_more (by simp) hr5)
    have HO5 := Lib.hid hO5
    have HK : Hid (∀ W, Only (fun k => k = g) W4 W → Below w3.heap.size w3 W) := Lib.hid (fun W ho => Hb4.out.trans (ho.below (fun i hi => by have := Hg.out; omega) Hb4.out.size))
    clear hN hr5 ho5 hO5
    have hli2 : (Wd.length : Int) ≤ 32768 := Hli.out
    go_wp2
    go_loopw [37] (fun i wr => ∃ k : Nat, k ≤ Wd.length ∧ i = .int .i64 (k : Int) ∧ Wr wr (More (fun k => k = g) W4 wr) g ((Nb ++ rowsTo Wd k).map bv) ∧ Only (fun k => k = g) W4 wr) (fun i _ => Wd.length - (intOf i).toNat)
    case atStart => exact ⟨0, Nat.zero_le _, rfl, by simpa [rowsTo, rowsB] using HR5.out, HO5.out⟩
    case round =>
      obtain ⟨k, hk, rfl, hr, ho⟩ := hrel
      have Hr := Lib.hid hr
      have Ho := Lib.hid ho
      have hll := HL.out k
      have hnl := HN1.out
      have hwl2 := HWl.out
      by_cases hlt : k < Wd.length
      · have hki : (k : Int) < (Wd.length : Int) := by omega
        obtain ⟨ad, hB, hcell⟩ := rd_str (Hr3.out.ext (HK.out wr ho)) hlt
        subst hB
        have Hsn : Hid (Nb ++ rowsTo Wd (k + 1) = (Nb ++ rowsTo Wd k) ++ rowsB [Wd[k]]) := Lib.hid (by rw [rowsTo_succ Wd k hlt, rowsB_sing]; simp)
        have Hll : Hid ((rowsB [Wd[k]]).length ≤ 2000009) := Lib.hid (rowsB_lenD _ (by have := H4.out _ (List.getElem_mem hlt); omega))
        have Hpre : Hid (Nb.length + (rowsTo Wd k).length ≤ 200000000) := Lib.hid (by omega)
        generalize Wd[k] = s at *
        obtain ⟨cc, wc, hcv, hcc, hrc, hbc, hzc⟩ := str_row wr s
        unfold strV at hcell
        have Hrc := Lib.hid hrc
        have Hbc := Lib.hid hbc
        have Hzc := Lib.hid hzc
        have Hcc := Lib.hid hcc
        clear hr ho hrc hbc hzc hll hnl hcc hwl2
        go_wp2_with fail
        refine (bytes_any (More (fun k => k = g) W4 wr) g _ 1 1 [s] ((Nb ++ rowsTo Wd k).map bv) _ ((Hr.out.ext Hbc.out).alloc _) rfl (RowsF.one ⟨Hrc.out, fun ad e _ hm => ?_⟩ Hcc.out _ rfl (fun hm => ?_)) (by simp only [List.length_map, List.length_append]; have := Hpre.out; have := Hll.out; omega) (by simp)).mono ?_
        · injection e with e
          subst e
          rcases hm with hm | hm
          · have h1 := Ho.out.size; have h2 := HZ4.out; simp at hm; omega
          · have := hm.2; simp at this
        · rcases hm with hm | hm
          · have h1 := Ho.out.size; have h2 := HZ4.out; have h3 := Hzc.out; omega
          · have := hm.2; have h3 := Hzc.out; omega
        rintro e w6 ⟨rfl, hr6, ho6⟩
        have hOb : Only (fun k => k = g) W4 (wc.alloc (.cells #[.slice (some ⟨wr.heap.size, 0, none⟩) s.length cc] 23)) := (Ho.out.trans (Only.of_ext Hbc.out) (fun _ _ h => h)).alloc _
        have hR6 : Wr w6 (More (fun k => k = g) W4 w6) g ((Nb ++ rowsTo Wd (k + 1)).map bv) := by
          rw [Hsn.out, List.map_append]
          exact Wr.join Ho.out.size (by rw [World.size_alloc, Hzc.out]; omega) ho6.size hr6
        have hO6 := hOb.join ho6
        have HR6 := Lib.hid hR6
        have HO6 := Lib.hid hO6
        clear hr6 ho6 hOb hR6 hO6
        go_wp2
        go_roundw
        case rel => exact ⟨k + 1, by omega, by go_num, HR6.out, HO6.out⟩
        case measure => simp [intOf]; omega
      · obtain rfl : k = Wd.length := by omega
        have Hpre : Hid (Nb.length + (rowsTo Wd Wd.length).length ≤ 200000000) := Lib.hid (by omega)
        have Hbl : Hid ((rowsB [b]).length ≤ 2000009) := Lib.hid (rowsB_lenD _ HBl.out)
        have Hpb : Hid (RdF (More (fun k => k = g) W4 wr) wr A3 (b.map bv)) := Lib.hid ⟨Hp3.out.ext (HK.out wr ho), fun ad e hne hm => by
          have hlt : ad.block < w3.heap.size := by
            rcases hb : b.map bv with _ | ⟨x, r⟩
            · exact absurd hb hne
            · obtain ⟨ad', e', hc⟩ := Hp3.out 0 x (by rw [hb]; rfl)
              rw [e] at e'
              injection e' with e'
              subst e'
              have := World.block_lt_of_cell? w3 _ hc
              rw [block_add] at this
              exact this
          have h1 := Hg.out
          have h2 := HZ4.out
          rcases hm with hm | hm
          · omega
          · have := hm.1; omega⟩
        have hsz := Ho.out.size
        have hz4 := HZ4.out
        have Hgw : Hid (¬ More (fun k => k = g) W4 wr wr.heap.size) := Lib.hid (fun hm => by
          rcases hm with hm | hm
          · omega
          · have := hm.2; omega)
        clear hr ho hll hnl hwl2 hsz hz4
        go_wp2_with fail
        refine (bytes_any (More (fun k => k = g) W4 wr) g _ 1 1 [b] ((Nb ++ rowsTo Wd Wd.length).map bv) _ (Hr.out.alloc _) rfl (RowsF.one Hpb.out Hc3.out _ rfl Hgw.out) (by simp only [List.length_map, List.length_append]; have := Hpre.out; have := Hbl.out; omega) (by simp)).mono ?_
        rintro e w6 ⟨rfl, hr6, ho6⟩
        have hR6 : Wr w6 (More (fun k => k = g) W4 w6) g (((Nb ++ rowsTo Wd Wd.length) ++ rowsB [b]).map bv) := by
          rw [List.map_append]
          exact Wr.join Ho.out.size (by rw [World.size_alloc]; omega) ho6.size hr6
        have hO6 := (Ho.out.alloc (.cells #[.slice A3 b.length c3] 23)).join ho6
        have HF := Lib.hid (out_any _ g ((Nb ++ rowsTo Wd Wd.length) ++ rowsB [b]) w6 hR6 (by rw [List.length_append, List.length_append]; have := Hpre.out; have := Hbl.out; omega))
        rw [List.append_assoc, ← HE.out] at HF
        have Hbw := Lib.hid (ext_trans Hb3.out (HK.out w6 hO6))
        clear hr6 ho6 hR6 hO6
        go_wp2_with fail
        refine HF.out.mono ?_
        rintro e w7 ⟨A7, c7, rfl, hn7, hb7⟩
        have Hn7 := Lib.hid (hn7.back Hbw.out.size)
        have Hb7 := Lib.hid (ext_trans Hbw.out hb7)
        clear hn7 hb7
        go_wp2
        go_ret2
        rw [HR.out]
        exact ⟨A7, c7, rfl, Hn7.out, Hb7.out⟩
end Go.Proofs.Ythceajadgjnnmaa

/-
  Texts taken, Decode (program). No statement of the seat is proved here.
-/
namespace Go.Proofs.Ythceajadgjnnmaa
open Go Go.RowKit
set_option maxRecDepth 100000

/-- a row of texts that was made since 'W' -/
structure FrS (W w : World) (A : Option Addr) (c : Nat) (l : List (List UInt8)) : Prop where
  row : RowO w 9 1 A l.length c (l.map strV)
  new : ∀ k, inA A k → W.heap.size ≤ k
theorem FrS.start (W w : World) : FrS W w none 0 [] := ⟨RowO.none_ _ _ _, fun k hk => absurd hk (inA_none k)⟩
theorem FrS.rd {W w : World} {A : Option Addr} {c : Nat} {l : List (List UInt8)} (h : FrS W w A c l) : Rd w A (l.map strV) := h.row.rd
theorem FrS.grow {W wr x x2 : World} {A A' : Option Addr} {c c' : Nat} {l m : List (List UInt8)} (h : FrS W wr A c l) (hW : W.heap.size ≤ x.heap.size)
    (hr : RowO x2 9 1 A' (l.length + m.length) c' (l.map strV ++ m.map strV)) (hA : ∀ k, inA A' k → inA A k ∨ (x.heap.size ≤ k ∧ k < x2.heap.size)) : FrS W x2 A' c' (l ++ m) :=
  ⟨by rw [List.length_append, List.map_append]; exact hr, fun k hk => by
    rcases hA k hk with hk | hk
    · exact h.new k hk
    · omega⟩
theorem FrS.only {W wr : World} {A : Option Addr} {c : Nat} {l : List (List UInt8)} {S : Nat → Prop} {x x2 : World} (h : FrS W wr A c l) (ho : Only S W x) (h2 : Only (inA A) x x2) : Only S W x2 :=
  ho.trans h2 fun k hk hi => by have := h.new k hi; omega
/-- texts in a list that is read -/
structure TxtAt (w : World) (A : Option Addr) (c : Nat) (l : List (List UInt8)) : Prop where
  rd : Rd w A (l.map strV)
  nil : A = none → c = 0
  cap : l.length ≤ c
theorem TxtAt.ext {w w' : World} {A : Option Addr} {c : Nat} {l : List (List UInt8)} (h : TxtAt w A c l) (hb : Below w.heap.size w w') : TxtAt w' A c l := ⟨h.rd.ext hb, h.nil, h.cap⟩
theorem TxtAt.of_row {w : World} {A : Option Addr} {m c : Nat} {l : List (List UInt8)} (h : RowO w 9 1 A m c (l.map strV)) (hm : m = l.length) : TxtAt w A c l := by
  subst hm
  refine ⟨h.rd, fun e => ?_, h.le⟩
  subst e
  rcases h.2 with ⟨_, _, h1⟩ | ⟨_, _, _, h1, _⟩
  · exact h1
  · cases h1
theorem TxtAt.none_ (w : World) : TxtAt w none 0 [] := ⟨Rd.nil _ _, fun _ => rfl, Nat.le_refl _⟩

/-- what the loop still reads, with what it has -/
structure Tkd (N : Nat) (b0 : List UInt8) (bad0 : Bool) (m : Nat) (acc : List (List UInt8)) (rest : List UInt8) (bad : Bool) : Prop where
  all : acc ++ (takeR m rest bad).1 = (takeR N b0 bad0).1
  st : (takeR m rest bad).2 = (takeR N b0 bad0).2
  len : acc.length + m ≤ N
  each : ∀ s ∈ acc, s.length ≤ b0.length
  short : rest.length ≤ b0.length
theorem Tkd.step {N : Nat} {b0 : List UInt8} {bad0 : Bool} {m : Nat} {acc : List (List UInt8)} {rest : List UInt8} (h : Tkd N b0 bad0 (m + 1) acc rest false) : Tkd N b0 bad0 m (acc ++ [(stBytes rest false).1]) (stBytes rest false).2.1 (stBytes rest false).2.2 := by
  have e := takeR_succ m rest
  have hl := stBytes_len rest false
  refine ⟨?_, ?_, ?_, fun s hs => ?_, Nat.le_trans hl.1 h.short⟩
  · rw [← h.all, e, List.append_assoc]; rfl
  · rw [← h.st, e]
  · rw [List.length_append]; have := h.len; simp; omega
  · rcases List.mem_append.1 hs with hs | hs
    · exact h.each s hs
    · simp at hs; rw [hs]; exact Nat.le_trans hl.2 h.short
theorem Tkd.end_ {N : Nat} {b0 : List UInt8} {bad0 : Bool} {m : Nat} {acc : List (List UInt8)} {rest : List UInt8} {bad : Bool} (h : Tkd N b0 bad0 m acc rest bad) (he : m = 0 ∨ bad = true) : takeR N b0 bad0 = (acc, rest, bad) := by
  have h1 := h.all
  have h2 := h.st
  rcases he with rfl | rfl
  · rw [takeR_zero, List.append_nil] at h1
    rw [takeR_zero] at h2
    exact Prod.ext h1.symm h2.symm
  · rw [takeR_bad, List.append_nil] at h1
    rw [takeR_bad] at h2
    exact Prod.ext h1.symm h2.symm
/-- what is taken: the texts, and whether all are there -/
noncomputable def takD (k : Nat) (p : List UInt8) : List (List UInt8) × Bool := match gotD k p with
  | some l => (l, true)
  | none => ([], false)
def pkD (W : List (List UInt8)) (v : Int) : List UInt8 := W.getD v.toNat []
theorem takD_of {N : Nat} {p b0 : List UInt8} {bad0 : Bool} {acc : List (List UInt8)} {rest : List UInt8} {bad : Bool} (h1 : (stNum p false).2 = (b0, bad0)) (h2 : takeR N b0 bad0 = (acc, rest, bad)) :
    takD N p = if (decR (stBytes rest bad).1).2 = 0 ∧ (decR (stBytes rest bad).1).1.all (inD acc) = true then ((decR (stBytes rest bad).1).1.map (pkD acc), true) else ([], false) := by
  unfold takD gotD plcD wrdD
  rw [h1, h2]
  by_cases he : (decR (stBytes rest bad).1).2 = 0
  · rw [if_pos he]
    unfold pickD
    by_cases ha : (decR (stBytes rest bad).1).1.all (inD acc) = true
    · rw [if_pos ha, if_pos ⟨he, ha⟩]
      rfl
    · rw [if_neg ha, if_neg (fun h => ha h.2)]
  · rw [if_neg he, if_neg (fun h => he h.1)]
theorem decR_snd (b : List UInt8) : (decR b).2 = 0 ∨ decR b = ([], 2) := by
  by_cases h : (decR b).2 = 0
  · exact .inl h
  · exact .inr (decR_no h)

set_option maxHeartbeats 16000000 in
theorem takenD_any (fp : Nat → Prop) (g : Nat) (p : List UInt8) (w : World) (h : Rdr w fp g p false) (hp : p.length ≤ 200000000) (Nx : Nat) (hNx : Nx = min (cntD p) 32769) (T : List (List UInt8)) (ok : Bool) (hTk : takD Nx p = (T, ok)) :
    Calls Try.prog 62 #[.pointer (some ⟨g, 0, none⟩)] w fun e w' => ∃ A' c', e = .returned (.tuple #[.slice A' T.length c', .bool ok]) ∧ TxtAt w' A' c' T ∧ (∀ s ∈ T, s.length ≤ 200000000) ∧ T.length ≤ 32768 ∧ Only (fun k => k = g) w w' := by
  have hgl : g < w.heap.size := by
    obtain ⟨_, _, _, _, hb, _⟩ := h
    exact hb.lt
  have Hgl := Lib.hid hgl
  obtain ⟨f2, H, Hf2⟩ : ∃ f2 : Nat → Prop, Hid (Rdr w f2 g p false) ∧ Hid (∀ k, f2 k → k < w.heap.size) := ⟨fun k => fp k ∧ k < w.heap.size, Lib.hid (h.mono fun _ a b => ⟨a, b⟩), Lib.hid fun _ h => h.2⟩
  have hle := stNum_le p false
  have hsl := stNum_len p false
  have HT : Hid (∀ acc rest bad, takeR Nx (stNum p false).2.1 (stNum p false).2.2 = (acc, rest, bad) → (T, ok) = if (decR (stBytes rest bad).1).2 = 0 ∧ (decR (stBytes rest bad).1).1.all (inD acc) = true then ((decR (stBytes rest bad).1).1.map (pkD acc), true) else ([], false)) := Lib.hid (fun acc rest bad h2 => by rw [← hTk]; exact takD_of rfl h2)
  have HNx : Hid (Nx = min (stNum p false).1 32769) := Lib.hid hNx
  clear h hgl hTk hNx
  go_enter Try.func62, Try.ntmps62
  go_wp2_with fail
  refine (rnum_st f2 g p false w H.out (by omega)).mono ?_
  rintro e w1 ⟨rfl, hr1, ho1⟩
  generalize stNum p false = q at *
  obtain ⟨n, bs1, bad1⟩ := q
  simp only at HT HNx hr1 hle hsl ⊢
  have hcase : (n ≤ 32769 ∧ Nx = n) ∨ (32769 < n ∧ Nx = 32769) := by have := HNx.out; omega
  have HN : Hid (Nx ≤ 32769) := Lib.hid (by have := HNx.out; omega)
  have Hr1 := Lib.hid hr1
  have Ho1 := Lib.hid ho1
  have Hbl : Hid (bs1.length ≤ 200000000) := Lib.hid (by omega)
  clear hr1 ho1 hsl hp HNx
  rcases hcase with ⟨hq, rfl⟩ | ⟨hq, rfl⟩
  · have hqi : (Nx : Int) ≤ 32769 := by omega
    have hmin : min (Nx : Int) 32769 = (Nx : Int) := by omega
    go_wp2_with fail
    go_loopw [4, 6] (fun s i wr => ∃ (m : Nat) (acc : List (List UInt8)) (rest : List UInt8) (bd : Bool) (A1 : Option Addr) (c1 : Nat), i = .int .i64 (m : Int) ∧ s = .slice A1 acc.length c1 ∧ Hid (Tkd Nx bs1 bad1 m acc rest bd) ∧ Rdr wr f2 g rest bd ∧ FrS w wr A1 c1 acc ∧ Only (fun k => k = g) w wr) (fun _ i _ => (intOf i).toNat)
    case atStart => exact ⟨Nx, [], bs1, bad1, none, 0, rfl, rfl, Lib.hid ⟨rfl, rfl, by simp, by simp, Nat.le_refl _⟩, Hr1.out, FrS.start _ _, Ho1.out⟩
    case round =>
      obtain ⟨m, acc, rest, bd, A1, c1, rfl, rfl, Hrd, hr, hS, ho⟩ := hrel
      have Hr := Lib.hid hr
      have HS := Lib.hid hS
      have Ho := Lib.hid ho
      have Hen : Hid (acc.length ≤ 32769) := Lib.hid (by have := Hrd.out.len; have := HN.out; omega)
      have Hea : Hid (∀ s ∈ acc, s.length ≤ 200000000) := Lib.hid (fun s hs => Nat.le_trans (Hrd.out.each s hs) Hbl.out)
      have Hrs : Hid (rest.length ≤ 200000000) := Lib.hid (Nat.le_trans Hrd.out.short Hbl.out)
      clear hr hS ho
      have HEX : Hid ((m = 0 ∨ bd = true) → (T, ok) = if (decR (stBytes rest bd).1).2 = 0 ∧ (decR (stBytes rest bd).1).1.all (inD acc) = true then ((decR (stBytes rest bd).1).1.map (pkD acc), true) else ([], false)) := Lib.hid (fun he => HT.out acc rest bd (Hrd.out.end_ he))
      have HBY := Lib.hid (rbytes_st f2 g rest bd wr Hr.out (by have := Hrs.out; omega))
      by_cases hm : m = 0
      · subst hm
        have HC := Lib.hid (HEX.out (.inl rfl))
        clear HEX
        obtain ⟨B, hB⟩ : ∃ B, (stBytes rest bd).1 = B := ⟨_, rfl⟩
        have hBl : B.length ≤ 200000000 := by rw [← hB]; exact Nat.le_trans (stBytes_len rest bd).2 Hrs.out
        rw [hB] at HC HBY
        have HDe := Lib.hid (fun (A : Option Addr) (c : Nat) (W : World) (hW : Rd W A (B.map bv)) (hc : B.length ≤ c) => decode_any B A c W hW hc (by omega))
        have hRl := decR_len B
        have hRe := decR_snd B
        have hRv : ∀ v ∈ (decR B).1, 0 ≤ v ∧ v ≤ 1099511627776 := by
          rcases hRe with h | h
          · exact ((mayP_iff _).1 (decR_ok h)).2
          · rw [h]; simp
        obtain ⟨pl, er, hR⟩ : ∃ pl er, decR B = (pl, er) := ⟨_, _, rfl⟩
        rw [hR] at HC hRl hRe hRv
        simp only [hR] at HDe
        simp only at HC hRl hRe hRv
        have HRl := Lib.hid hRl
        have HRe : Hid (er = 0 ∨ (pl = [] ∧ er = 2)) := Lib.hid (by
          rcases hRe with h | h
          · exact .inl h
          · injection h with h1 h2; exact .inr ⟨h1, h2⟩)
        have HRv := Lib.hid hRv
        have HBl := Lib.hid hBl
        have hpli : (pl.length : Int) ≤ 32768 := by omega
        clear hB hBl hRl hRe hRv hR
        go_wp2_with fail
        refine HBY.out.mono ?_
        rintro e x1 ⟨A2, c2, rfl, hn2, hr2, ho2⟩
        have hc2 : B.length ≤ c2 := by have := Own.cap hn2; simpa using this
        have HD2 := Lib.hid (HDe.out A2 c2 x1 hn2.rd hc2)
        have Ho2 := Lib.hid (Ho.out.trans ho2 (fun _ _ h => h))
        have hrow : RowO x1 9 1 A1 acc.length c1 (acc.map strV) := HS.out.row.only ho2 (fun k hk e => by have := HS.out.new k hk; have := Hgl.out; omega)
        have Hrow := Lib.hid hrow.rd
        clear hn2 hr2 ho2 hc2 hrow HDe HBY
        go_wp2_with fail
        refine HD2.out.mono ?_
        rintro e x2 ⟨A5, c5, rfl, hr5, hb5⟩
        have Hr5 := Lib.hid hr5
        have Hw5 := Lib.hid (Hrow.out.ext hb5)
        have Ho5 : Hid (Only (fun k => k = g) w x2) := Lib.hid (Ho2.out.trans (Only.of_ext (S := fun k => k = g) hb5) (fun _ _ h => h))
        clear hr5 hb5 HD2
        go_wp2
        go_loopw [5, 36] (fun s i wr2 => ∃ (k : Nat) (A6 : Option Addr) (c6 : Nat), k ≤ pl.length ∧ i = .int .i64 (k : Int) ∧ s = .slice A6 k c6 ∧ Hid (∀ j (hj : j < pl.length), j < k → inD acc pl[j] = true) ∧ Hid (NewO x2 wr2 9 1 A6 k c6 (((pl.take k).map (pkD acc)).map strV))) (fun _ i _ => pl.length - (intOf i).toNat)
        case atStart => exact ⟨0, none, 0, Nat.zero_le _, rfl, rfl, Lib.hid (fun j _ h => absurd h (by omega)), Lib.hid (NewO.start _ _ _)⟩
        case round =>
          obtain ⟨k, A6, c6, hk, rfl, rfl, Hno, HN6⟩ := hrel
          by_cases hlt : k < pl.length
          · have hki : (k : Int) < (pl.length : Int) := by omega
            obtain ⟨ad, hB, hcell⟩ := rd_int (Hr5.out.ext HN6.out.bel) hlt
            subst hB
            have hv := HRv.out _ (List.getElem_mem hlt)
            by_cases hin : pl[k] < (acc.length : Int)
            · obtain ⟨v, hvn⟩ : ∃ v : Nat, pl[k] = (v : Int) := ⟨pl[k].toNat, by omega⟩
              have hva : v < acc.length := by omega
              obtain ⟨ad2, hA, hcell2⟩ := rd_str (Hw5.out.ext HN6.out.bel) hva
              subst hA
              have Hsn : Hid (((pl.take (k + 1)).map (pkD acc)).map strV = ((pl.take k).map (pkD acc)).map strV ++ [strV acc[v]]) := Lib.hid (by
                rw [List.take_succ_eq_append_getElem hlt, List.map_append, List.map_append, List.map_singleton, List.map_singleton, hvn]
                unfold pkD
                rw [Int.toNat_natCast, List.getD_eq_getElem?_getD, List.getElem?_eq_getElem hva]
                rfl)
              have Hno2 : Hid (∀ j (hj : j < pl.length), j < k + 1 → inD acc pl[j] = true) := Lib.hid (fun j hj hj2 => by
                rcases Nat.lt_succ_iff_lt_or_eq.1 hj2 with h3 | rfl
                · exact Hno.out j hj h3
                · exact decide_eq_true hin)
              have hge : ¬ (acc.length : Int) ≤ (v : Int) := by omega
              have hgen : decide (acc.length ≤ v) = false := decide_eq_false (by omega)
              have hvi : (v : Int) < (acc.length : Int) := by omega
              have hk2 : k + 1 ≤ maxLen := by unfold maxLen; have := HRl.out; omega
              have hk3 : (k + 1) * 16 ≤ 140737488355328 := by have := HRl.out; omega
              rw [hvn] at hcell
              obtain ⟨Z, hu⟩ : ∃ Z : ByteArray, strV acc[v] = .string Z := ⟨_, rfl⟩
              rw [hu] at hcell2 Hsn
              have Hva := Lib.hid hva
              clear hvn hin hv hu hva
              go_wp2_with (at_builtin
                           refine wpList_app_new rfl (.tmp 44) (.tmp 49) _ rfl 9 _ 1 16 Try.underlying40 info_str rfl A6 _ c6 _ HN6.out (ext_alloc (Below.refl _ _) _) rfl ⟨wr.heap.size, 0, none⟩ 1 [.string Z] rfl rfl (Rd.lit _ #[.string Z] _) ?_ hk2 hk3 ?_
                           · intro x hx; simp at hx; rw [hx]; rfl
                           intro A7 c7 w7 hN7 hb7
                           rw [← Hsn.out] at hN7
                           have HN7 := Lib.hid hN7
                           clear hN7 hb7)
              go_roundw
              case rel => exact ⟨k + 1, A7, c7, by omega, by go_num, rfl, Hno2, HN7⟩
              case measure => simp [intOf]; omega
            · have Hst : Hid (T = [] ∧ ok = false) := Lib.hid (by
                have h := HC.out
                rw [if_neg (fun hx => hin (by
                  have := List.all_eq_true.1 hx.2 _ (List.getElem_mem hlt)
                  simpa [inD] using this))] at h
                injection h with h1 h2
                exact ⟨h1, h2⟩)
              obtain ⟨v, hvn⟩ : ∃ v : Nat, pl[k] = (v : Int) := ⟨pl[k].toNat, by omega⟩
              have hge : (acc.length : Int) ≤ (v : Int) := by omega
              have hgen : decide (acc.length ≤ v) = true := decide_eq_true (by omega)
              rw [hvn] at hcell
              clear hvn hin hv
              go_wp2
              go_ret2
              obtain ⟨rfl, rfl⟩ := Hst.out
              exact ⟨none, 0, rfl, TxtAt.none_ _, by simp, by simp, Ho5.out.trans (Only.of_ext (S := fun k => k = g) HN6.out.bel) (fun _ _ h => h)⟩
          · obtain rfl : k = pl.length := by omega
            have Hst : Hid (T = pl.map (pkD acc) ∧ ok = decide (er = 0)) := Lib.hid (by
              have h := HC.out
              rcases HRe.out with he | ⟨he, he2⟩
              · rw [if_pos ⟨he, List.all_eq_true.2 fun v hv => by
                  obtain ⟨j, hj, rfl⟩ := List.mem_iff_getElem.1 hv
                  exact Hno.out j hj hj⟩] at h
                injection h with h1 h2
                exact ⟨h1, by rw [h2, decide_eq_true he]⟩
              · rw [if_neg (fun hx => by rw [he2] at hx; exact absurd hx.1 (by decide))] at h
                injection h with h1 h2
                exact ⟨by rw [h1, he]; rfl, by rw [h2, he2]; rfl⟩)
            have hTx := HN6.out
            rw [List.take_length, ← Hst.out.1] at hTx
            have HTl : Hid (T.length = pl.length) := Lib.hid (by rw [Hst.out.1, List.length_map])
            have HTx := Lib.hid (TxtAt.of_row hTx.row HTl.out.symm)
            have HTe : Hid (∀ s ∈ T, s.length ≤ 200000000) := Lib.hid (fun s hs => by
              rw [Hst.out.1] at hs
              obtain ⟨v, hv, rfl⟩ := List.mem_map.1 hs
              unfold pkD
              by_cases hx : v.toNat < acc.length
              · rw [List.getD_eq_getElem?_getD, List.getElem?_eq_getElem hx]
                exact Hea.out _ (List.getElem_mem hx)
              · rw [List.getD_eq_getElem?_getD, List.getElem?_eq_none (by omega)]
                simp)
            have Hok : Hid (ok = decide (er = 0)) := Lib.hid Hst.out.2
            have Hbz := Lib.hid HN6.out.bel
            have hie : (decide (er = 0)) = (er == 0) := by simp [BEq.beq]
            clear hTx Hst HC
            go_wp2
            go_ret2
            exact ⟨A6, c6, by rw [HTl.out, Hok.out]; rfl, HTx.out, HTe.out, by rw [HTl.out]; exact HRl.out, Ho5.out.trans (Only.of_ext (S := fun k => k = g) Hbz.out) (fun _ _ h => h)⟩
      have hmi : (0 : Int) < (m : Int) := by omega
      have hmd : decide ((0 : Int) < (m : Int)) = true := decide_eq_true hmi
      have hmn : decide (0 < m) = true := decide_eq_true (by omega)
      cases bd with
      | true =>
        have HC := Lib.hid (HEX.out (.inr rfl))
        clear HEX hm
        go_wp2_with fail
        refine (rgood _ g rest true wr Hr.out).mono ?_
        rintro e w' ⟨rfl, rfl⟩
        obtain ⟨B, hB⟩ : ∃ B, (stBytes rest true).1 = B := ⟨_, rfl⟩
        have hBl : B.length ≤ 200000000 := by rw [← hB]; exact Nat.le_trans (stBytes_len rest true).2 Hrs.out
        rw [hB] at HC HBY
        have HDe := Lib.hid (fun (A : Option Addr) (c : Nat) (W : World) (hW : Rd W A (B.map bv)) (hc : B.length ≤ c) => decode_any B A c W hW hc (by omega))
        have hRl := decR_len B
        have hRe := decR_snd B
        have hRv : ∀ v ∈ (decR B).1, 0 ≤ v ∧ v ≤ 1099511627776 := by
          rcases hRe with h | h
          · exact ((mayP_iff _).1 (decR_ok h)).2
          · rw [h]; simp
        obtain ⟨pl, er, hR⟩ : ∃ pl er, decR B = (pl, er) := ⟨_, _, rfl⟩
        rw [hR] at HC hRl hRe hRv
        simp only [hR] at HDe
        simp only at HC hRl hRe hRv
        have HRl := Lib.hid hRl
        have HRe : Hid (er = 0 ∨ (pl = [] ∧ er = 2)) := Lib.hid (by
          rcases hRe with h | h
          · exact .inl h
          · injection h with h1 h2; exact .inr ⟨h1, h2⟩)
        have HRv := Lib.hid hRv
        have HBl := Lib.hid hBl
        have hpli : (pl.length : Int) ≤ 32768 := by omega
        clear hB hBl hRl hRe hRv hR
        go_wp2_with fail
        refine HBY.out.mono ?_
        rintro e x1 ⟨A2, c2, rfl, hn2, hr2, ho2⟩
        have hc2 : B.length ≤ c2 := by have := Own.cap hn2; simpa using this
        have HD2 := Lib.hid (HDe.out A2 c2 x1 hn2.rd hc2)
        have Ho2 := Lib.hid (Ho.out.trans ho2 (fun _ _ h => h))
        have hrow : RowO x1 9 1 A1 acc.length c1 (acc.map strV) := HS.out.row.only ho2 (fun k hk e => by have := HS.out.new k hk; have := Hgl.out; omega)
        have Hrow := Lib.hid hrow.rd
        clear hn2 hr2 ho2 hc2 hrow HDe HBY
        go_wp2_with fail
        refine HD2.out.mono ?_
        rintro e x2 ⟨A5, c5, rfl, hr5, hb5⟩
        have Hr5 := Lib.hid hr5
        have Hw5 := Lib.hid (Hrow.out.ext hb5)
        have Ho5 : Hid (Only (fun k => k = g) w x2) := Lib.hid (Ho2.out.trans (Only.of_ext (S := fun k => k = g) hb5) (fun _ _ h => h))
        clear hr5 hb5 HD2
        go_wp2
        go_loopw [5, 36] (fun s i wr2 => ∃ (k : Nat) (A6 : Option Addr) (c6 : Nat), k ≤ pl.length ∧ i = .int .i64 (k : Int) ∧ s = .slice A6 k c6 ∧ Hid (∀ j (hj : j < pl.length), j < k → inD acc pl[j] = true) ∧ Hid (NewO x2 wr2 9 1 A6 k c6 (((pl.take k).map (pkD acc)).map strV))) (fun _ i _ => pl.length - (intOf i).toNat)
        case atStart => exact ⟨0, none, 0, Nat.zero_le _, rfl, rfl, Lib.hid (fun j _ h => absurd h (by omega)), Lib.hid (NewO.start _ _ _)⟩
        case round =>
          obtain ⟨k, A6, c6, hk, rfl, rfl, Hno, HN6⟩ := hrel
          by_cases hlt : k < pl.length
          · have hki : (k : Int) < (pl.length : Int) := by omega
            obtain ⟨ad, hB, hcell⟩ := rd_int (Hr5.out.ext HN6.out.bel) hlt
            subst hB
            have hv := HRv.out _ (List.getElem_mem hlt)
            by_cases hin : pl[k] < (acc.length : Int)
            · obtain ⟨v, hvn⟩ : ∃ v : Nat, pl[k] = (v : Int) := ⟨pl[k].toNat, by omega⟩
              have hva : v < acc.length := by omega
              obtain ⟨ad2, hA, hcell2⟩ := rd_str (Hw5.out.ext HN6.out.bel) hva
              subst hA
              have Hsn : Hid (((pl.take (k + 1)).map (pkD acc)).map strV = ((pl.take k).map (pkD acc)).map strV ++ [strV acc[v]]) := Lib.hid (by
                rw [List.take_succ_eq_append_getElem hlt, List.map_append, List.map_append, List.map_singleton, List.map_singleton, hvn]
                unfold pkD
                rw [Int.toNat_natCast, List.getD_eq_getElem?_getD, List.getElem?_eq_getElem hva]
                rfl)
              have Hno2 : Hid (∀ j (hj : j < pl.length), j < k + 1 → inD acc pl[j] = true) := Lib.hid (fun j hj hj2 => by
                rcases Nat.lt_succ_iff_lt_or_eq.1 hj2 with h3 | rfl
                · exact Hno.out j hj h3
                · exact decide_eq_true hin)
              have hge : ¬ (acc.length : Int) ≤ (v : Int) := by omega
              have hgen : decide (acc.length ≤ v) = false := decide_eq_false (by omega)
              have hvi : (v : Int) < (acc.length : Int) := by omega
              have hk2 : k + 1 ≤ maxLen := by unfold maxLen; have := HRl.out; omega
              have hk3 : (k + 1) * 16 ≤ 140737488355328 := by have := HRl.out; omega
              rw [hvn] at hcell
              obtain ⟨Z, hu⟩ : ∃ Z : ByteArray, strV acc[v] = .string Z := ⟨_, rfl⟩
              rw [hu] at hcell2 Hsn
              have Hva := Lib.hid hva
              clear hvn hin hv hu hva
              go_wp2_with (at_builtin
                           refine wpList_app_new rfl (.tmp 44) (.tmp 49) _ rfl 9 _ 1 16 Try.underlying40 info_str rfl A6 _ c6 _ HN6.out (ext_alloc (Below.refl _ _) _) rfl ⟨wr.heap.size, 0, none⟩ 1 [.string Z] rfl rfl (Rd.lit _ #[.string Z] _) ?_ hk2 hk3 ?_
                           · intro x hx; simp at hx; rw [hx]; rfl
                           intro A7 c7 w7 hN7 hb7
                           rw [← Hsn.out] at hN7
                           have HN7 := Lib.hid hN7
                           clear hN7 hb7)
              go_roundw
              case rel => exact ⟨k + 1, A7, c7, by omega, by go_num, rfl, Hno2, HN7⟩
              case measure => simp [intOf]; omega
            · have Hst : Hid (T = [] ∧ ok = false) := Lib.hid (by
                have h := HC.out
                rw [if_neg (fun hx => hin (by
                  have := List.all_eq_true.1 hx.2 _ (List.getElem_mem hlt)
                  simpa [inD] using this))] at h
                injection h with h1 h2
                exact ⟨h1, h2⟩)
              obtain ⟨v, hvn⟩ : ∃ v : Nat, pl[k] = (v : Int) := ⟨pl[k].toNat, by omega⟩
              have hge : (acc.length : Int) ≤ (v : Int) := by omega
              have hgen : decide (acc.length ≤ v) = true := decide_eq_true (by omega)
              rw [hvn] at hcell
              clear hvn hin hv
              go_wp2
              go_ret2
              obtain ⟨rfl, rfl⟩ := Hst.out
              exact ⟨none, 0, rfl, TxtAt.none_ _, by simp, by simp, Ho5.out.trans (Only.of_ext (S := fun k => k = g) HN6.out.bel) (fun _ _ h => h)⟩
          · obtain rfl : k = pl.length := by omega
            have Hst : Hid (T = pl.map (pkD acc) ∧ ok = decide (er = 0)) := Lib.hid (by
              have h := HC.out
              rcases HRe.out with he | ⟨he, he2⟩
              · rw [if_pos ⟨he, List.all_eq_true.2 fun v hv => by
                  obtain ⟨j, hj, rfl⟩ := List.mem_iff_getElem.1 hv
                  exact Hno.out j hj hj⟩] at h
                injection h with h1 h2
                exact ⟨h1, by rw [h2, decide_eq_true he]⟩
              · rw [if_neg (fun hx => by rw [he2] at hx; exact absurd hx.1 (by decide))] at h
                injection h with h1 h2
                exact ⟨by rw [h1, he]; rfl, by rw [h2, he2]; rfl⟩)
            have hTx := HN6.out
            rw [List.take_length, ← Hst.out.1] at hTx
            have HTl : Hid (T.length = pl.length) := Lib.hid (by rw [Hst.out.1, List.length_map])
            have HTx := Lib.hid (TxtAt.of_row hTx.row HTl.out.symm)
            have HTe : Hid (∀ s ∈ T, s.length ≤ 200000000) := Lib.hid (fun s hs => by
              rw [Hst.out.1] at hs
              obtain ⟨v, hv, rfl⟩ := List.mem_map.1 hs
              unfold pkD
              by_cases hx : v.toNat < acc.length
              · rw [List.getD_eq_getElem?_getD, List.getElem?_eq_getElem hx]
                exact Hea.out _ (List.getElem_mem hx)
              · rw [List.getD_eq_getElem?_getD, List.getElem?_eq_none (by omega)]
                simp)
            have Hok : Hid (ok = decide (er = 0)) := Lib.hid Hst.out.2
            have Hbz := Lib.hid HN6.out.bel
            have hie : (decide (er = 0)) = (er == 0) := by simp [BEq.beq]
            clear hTx Hst HC
            go_wp2
            go_ret2
            exact ⟨A6, c6, by rw [HTl.out, Hok.out]; rfl, HTx.out, HTe.out, by rw [HTl.out]; exact HRl.out, Ho5.out.trans (Only.of_ext (S := fun k => k = g) Hbz.out) (fun _ _ h => h)⟩
      | false =>
        clear HEX
        obtain ⟨k, hk⟩ : ∃ k, m = k + 1 := ⟨m - 1, by omega⟩
        have hk1 : IntKind.i64.wrap ((m : Int) - 1) = (k : Int) := by rw [show (m : Int) - 1 = (k : Int) by omega]; exact IntWalk.i64_in _ (by have := Hrd.out.len; have := HN.out; omega)
        have HRs := Lib.hid (Tkd.step (by rw [← hk]; exact Hrd.out))
        have hk2 : acc.length + 1 ≤ maxLen := by unfold maxLen; have := Hen.out; omega
        have hk3 : (acc.length + 1) * 16 ≤ 140737488355328 := by have := Hen.out; omega
        generalize stBytes rest false = q at *
        obtain ⟨bs, rest', bd'⟩ := q
        simp only at HRs HBY
        have Hk := Lib.hid hk
        clear hk hm
        go_wp2_with fail
        refine (rgood _ g rest false wr Hr.out).mono ?_
        rintro e w' ⟨rfl, rfl⟩
        go_wp2_with fail
        refine HBY.out.mono ?_
        rintro e x1 ⟨A2, c2, rfl, hn2, hr2, ho2⟩
        have hcv := conv_bytes x1 A2 bs.length c2 bs rfl hn2.rd
        have hrow : RowO x1 9 1 A1 acc.length c1 (acc.map strV) := HS.out.row.only ho2 (fun k hk e => by have := HS.out.new k hk; have := Hgl.out; omega)
        have Hrow := Lib.hid hrow
        have Hr2 := Lib.hid hr2
        have Ho2 := Lib.hid (Ho.out.trans ho2 (fun _ _ h => h))
        have hsv : (.string ⟨bs.toArray⟩ : Value) = strV bs := rfl
        rw [hsv] at hcv
        obtain ⟨Z, hv⟩ : ∃ Z : ByteArray, strV bs = .string Z := ⟨_, rfl⟩
        rw [hv] at hcv
        have Hv := Lib.hid hv
        clear hrow hr2 ho2 hn2 hv hsv
        go_wp2_with (at_builtin
                     refine wpList_appO _ rfl (.tmp 22) (.tmp 26) _ rfl 9 _ 1 16 Try.underlying40 info_str rfl A1 _ c1 _ rfl (Hrow.out.alloc _) (some ⟨x1.heap.size, 0, none⟩) 1 1 [.string Z] rfl rfl (Rd.lit _ #[.string Z] _) ?_ ?_ hk2 hk3 ?_
                     · intro u hu; simp at hu; rw [hu]; rfl
                     · intro h; cases h
                     intro A3 c3 w3 hrow3 honly3 hA3
                     rw [← Hv.out] at hrow3 honly3
                     have hx1 : w.heap.size ≤ (x1.alloc (.cells #[.string Z] 9)).heap.size := by rw [World.size_alloc]; have := Ho2.out.size; omega
                     have hF3 : FrS w w3 A3 c3 (acc ++ [bs]) := HS.out.grow hx1 hrow3 (by rw [← Hv.out] at hx1; rw [← Hv.out] at hA3; rw [← Hv.out]; exact hA3)
                     have hO3 := HS.out.only (Ho2.out.alloc (.cells #[strV bs] 9)) honly3
                     have hR3 : Rdr w3 f2 g rest' bd' := (Hr2.out.ext (ext_alloc (Below.refl _ _) _)).only honly3 (fun k hk hi => by have := HS.out.new k hi; have := Hf2.out k hk; omega)
                     have HF3 := Lib.hid hF3
                     have HO3 := Lib.hid hO3
                     have HR3 := Lib.hid hR3
                     clear hrow3 honly3 hA3 hx1 hF3 hO3 hR3)
        go_roundw
        case rel => exact ⟨k, acc ++ [bs], rest', bd', A3, c3, rfl, by rw [List.length_append]; rfl, HRs, HR3.out, HF3.out, HO3.out⟩
        case measure => simp [intOf]; have := Hk.out; omega
  · have hqi : (32769 : Int) < (n : Int) := by omega
    have hmin : min (n : Int) 32769 = 32769 := by omega
    go_wp2_with fail
    go_loopw [4, 6] (fun s i wr => ∃ (m : Nat) (acc : List (List UInt8)) (rest : List UInt8) (bd : Bool) (A1 : Option Addr) (c1 : Nat), i = .int .i64 (m : Int) ∧ s = .slice A1 acc.length c1 ∧ Hid (Tkd 32769 bs1 bad1 m acc rest bd) ∧ Rdr wr f2 g rest bd ∧ FrS w wr A1 c1 acc ∧ Only (fun k => k = g) w wr) (fun _ i _ => (intOf i).toNat)
    case atStart => exact ⟨32769, [], bs1, bad1, none, 0, rfl, rfl, Lib.hid ⟨rfl, rfl, by simp, by simp, Nat.le_refl _⟩, Hr1.out, FrS.start _ _, Ho1.out⟩
    case round =>
      obtain ⟨m, acc, rest, bd, A1, c1, rfl, rfl, Hrd, hr, hS, ho⟩ := hrel
      have Hr := Lib.hid hr
      have HS := Lib.hid hS
      have Ho := Lib.hid ho
      have Hen : Hid (acc.length ≤ 32769) := Lib.hid (by have := Hrd.out.len; have := HN.out; omega)
      have Hea : Hid (∀ s ∈ acc, s.length ≤ 200000000) := Lib.hid (fun s hs => Nat.le_trans (Hrd.out.each s hs) Hbl.out)
      have Hrs : Hid (rest.length ≤ 200000000) := Lib.hid (Nat.le_trans Hrd.out.short Hbl.out)
      clear hr hS ho
      have HEX : Hid ((m = 0 ∨ bd = true) → (T, ok) = if (decR (stBytes rest bd).1).2 = 0 ∧ (decR (stBytes rest bd).1).1.all (inD acc) = true then ((decR (stBytes rest bd).1).1.map (pkD acc), true) else ([], false)) := Lib.hid (fun he => HT.out acc rest bd (Hrd.out.end_ he))
      have HBY := Lib.hid (rbytes_st f2 g rest bd wr Hr.out (by have := Hrs.out; omega))
      by_cases hm : m = 0
      · subst hm
        have HC := Lib.hid (HEX.out (.inl rfl))
        clear HEX
        obtain ⟨B, hB⟩ : ∃ B, (stBytes rest bd).1 = B := ⟨_, rfl⟩
        have hBl : B.length ≤ 200000000 := by rw [← hB]; exact Nat.le_trans (stBytes_len rest bd).2 Hrs.out
        rw [hB] at HC HBY
        have HDe := Lib.hid (fun (A : Option Addr) (c : Nat) (W : World) (hW : Rd W A (B.map bv)) (hc : B.length ≤ c) => decode_any B A c W hW hc (by omega))
        have hRl := decR_len B
        have hRe := decR_snd B
        have hRv : ∀ v ∈ (decR B).1, 0 ≤ v ∧ v ≤ 1099511627776 := by
          rcases hRe with h | h
          · exact ((mayP_iff _).1 (decR_ok h)).2
          · rw [h]; simp
        obtain ⟨pl, er, hR⟩ : ∃ pl er, decR B = (pl, er) := ⟨_, _, rfl⟩
        rw [hR] at HC hRl hRe hRv
        simp only [hR] at HDe
        simp only at HC hRl hRe hRv
        have HRl := Lib.hid hRl
        have HRe : Hid (er = 0 ∨ (pl = [] ∧ er = 2)) := Lib.hid (by
          rcases hRe with h | h
          · exact .inl h
          · injection h with h1 h2; exact .inr ⟨h1, h2⟩)
        have HRv := Lib.hid hRv
        have HBl := Lib.hid hBl
        have hpli : (pl.length : Int) ≤ 32768 := by omega
        clear hB hBl hRl hRe hRv hR
        go_wp2_with fail
        refine HBY.out.mono ?_
        rintro e x1 ⟨A2, c2, rfl, hn2, hr2, ho2⟩
        have hc2 : B.length ≤ c2 := by have := Own.cap hn2; simpa using this
        have HD2 := Lib.hid (HDe.out A2 c2 x1 hn2.rd hc2)
        have Ho2 := Lib.hid (Ho.out.trans ho2 (fun _ _ h => h))
        have hrow : RowO x1 9 1 A1 acc.length c1 (acc.map strV) := HS.out.row.only ho2 (fun k hk e => by have := HS.out.new k hk; have := Hgl.out; omega)
        have Hrow := Lib.hid hrow.rd
        clear hn2 hr2 ho2 hc2 hrow HDe HBY
        go_wp2_with fail
        refine HD2.out.mono ?_
        rintro e x2 ⟨A5, c5, rfl, hr5, hb5⟩
        have Hr5 := Lib.hid hr5
        have Hw5 := Lib.hid (Hrow.out.ext hb5)
        have Ho5 : Hid (Only (fun k => k = g) w x2) := Lib.hid (Ho2.out.trans (Only.of_ext (S := fun k => k = g) hb5) (fun _ _ h => h))
        clear hr5 hb5 HD2
        go_wp2
        go_loopw [5, 36] (fun s i wr2 => ∃ (k : Nat) (A6 : Option Addr) (c6 : Nat), k ≤ pl.length ∧ i = .int .i64 (k : Int) ∧ s = .slice A6 k c6 ∧ Hid (∀ j (hj : j < pl.length), j < k → inD acc pl[j] = true) ∧ Hid (NewO x2 wr2 9 1 A6 k c6 (((pl.take k).map (pkD acc)).map strV))) (fun _ i _ => pl.length - (intOf i).toNat)
        case atStart => exact ⟨0, none, 0, Nat.zero_le _, rfl, rfl, Lib.hid (fun j _ h => absurd h (by omega)), Lib.hid (NewO.start _ _ _)⟩
        case round =>
          obtain ⟨k, A6, c6, hk, rfl, rfl, Hno, HN6⟩ := hrel
          by_cases hlt : k < pl.length
          · have hki : (k : Int) < (pl.length : Int) := by omega
            obtain ⟨ad, hB, hcell⟩ := rd_int (Hr5.out.ext HN6.out.bel) hlt
            subst hB
            have hv := HRv.out _ (List.getElem_mem hlt)
            by_cases hin : pl[k] < (acc.length : Int)
            · obtain ⟨v, hvn⟩ : ∃ v : Nat, pl[k] = (v : Int) := ⟨pl[k].toNat, by omega⟩
              have hva : v < acc.length := by omega
              obtain ⟨ad2, hA, hcell2⟩ := rd_str (Hw5.out.ext HN6.out.bel) hva
              subst hA
              have Hsn : Hid (((pl.take (k + 1)).map (pkD acc)).map strV = ((pl.take k).map (pkD acc)).map strV ++ [strV acc[v]]) := Lib.hid (by
                rw [List.take_succ_eq_append_getElem hlt, List.map_append, List.map_append, List.map_singleton, List.map_singleton, hvn]
                unfold pkD
                rw [Int.toNat_natCast, List.getD_eq_getElem?_getD, List.getElem?_eq_getElem hva]
                rfl)
              have Hno2 : Hid (∀ j (hj : j < pl.length), j < k + 1 → inD acc pl[j] = true) := Lib.hid (fun j hj hj2 => by
                rcases Nat.lt_succ_iff_lt_or_eq.1 hj2 with h3 | rfl
                · exact Hno.out j hj h3
                · exact decide_eq_true hin)
              have hge : ¬ (acc.length : Int) ≤ (v : Int) := by omega
              have hgen : decide (acc.length ≤ v) = false := decide_eq_false (by omega)
              have hvi : (v : Int) < (acc.length : Int) := by omega
              have hk2 : k + 1 ≤ maxLen := by unfold maxLen; have := HRl.out; omega
              have hk3 : (k + 1) * 16 ≤ 140737488355328 := by have := HRl.out; omega
              rw [hvn] at hcell
              obtain ⟨Z, hu⟩ : ∃ Z : ByteArray, strV acc[v] = .string Z := ⟨_, rfl⟩
              rw [hu] at hcell2 Hsn
              have Hva := Lib.hid hva
              clear hvn hin hv hu hva
              go_wp2_with (at_builtin
                           refine wpList_app_new rfl (.tmp 44) (.tmp 49) _ rfl 9 _ 1 16 Try.underlying40 info_str rfl A6 _ c6 _ HN6.out (ext_alloc (Below.refl _ _) _) rfl ⟨wr.heap.size, 0, none⟩ 1 [.string Z] rfl rfl (Rd.lit _ #[.string Z] _) ?_ hk2 hk3 ?_
                           · intro x hx; simp at hx; rw [hx]; rfl
                           intro A7 c7 w7 hN7 hb7
                           rw [← Hsn.out] at hN7
                           have HN7 := Lib.hid hN7
                           clear hN7 hb7)
              go_roundw
              case rel => exact ⟨k + 1, A7, c7, by omega, by go_num, rfl, Hno2, HN7⟩
              case measure => simp [intOf]; omega
            · have Hst : Hid (T = [] ∧ ok = false) := Lib.hid (by
                have h := HC.out
                rw [if_neg (fun hx => hin (by
                  have := List.all_eq_true.1 hx.2 _ (List.getElem_mem hlt)
                  simpa [inD] using this))] at h
                injection h with h1 h2
                exact ⟨h1, h2⟩)
              obtain ⟨v, hvn⟩ : ∃ v : Nat, pl[k] = (v : Int) := ⟨pl[k].toNat, by omega⟩
              have hge : (acc.length : Int) ≤ (v : Int) := by omega
              have hgen : decide (acc.length ≤ v) = true := decide_eq_true (by omega)
              rw [hvn] at hcell
              clear hvn hin hv
              go_wp2
              go_ret2
              obtain ⟨rfl, rfl⟩ := Hst.out
              exact ⟨none, 0, rfl, TxtAt.none_ _, by simp, by simp, Ho5.out.trans (Only.of_ext (S := fun k => k = g) HN6.out.bel) (fun _ _ h => h)⟩
          · obtain rfl : k = pl.length := by omega
            have Hst : Hid (T = pl.map (pkD acc) ∧ ok = decide (er = 0)) := Lib.hid (by
              have h := HC.out
              rcases HRe.out with he | ⟨he, he2⟩
              · rw [if_pos ⟨he, List.all_eq_true.2 fun v hv => by
                  obtain ⟨j, hj, rfl⟩ := List.mem_iff_getElem.1 hv
                  exact Hno.out j hj hj⟩] at h
                injection h with h1 h2
                exact ⟨h1, by rw [h2, decide_eq_true he]⟩
              · rw [if_neg (fun hx => by rw [he2] at hx; exact absurd hx.1 (by decide))] at h
                injection h with h1 h2
                exact ⟨by rw [h1, he]; rfl, by rw [h2, he2]; rfl⟩)
            have hTx := HN6.out
            rw [List.take_length, ← Hst.out.1] at hTx
            have HTl : Hid (T.length = pl.length) := Lib.hid (by rw [Hst.out.1, List.length_map])
            have HTx := Lib.hid (TxtAt.of_row hTx.row HTl.out.symm)
            have HTe : Hid (∀ s ∈ T, s.length ≤ 200000000) := Lib.hid (fun s hs => by
              rw [Hst.out.1] at hs
              obtain ⟨v, hv, rfl⟩ := List.mem_map.1 hs
              unfold pkD
              by_cases hx : v.toNat < acc.length
              · rw [List.getD_eq_getElem?_getD, List.getElem?_eq_getElem hx]
                exact Hea.out _ (List.getElem_mem hx)
              · rw [List.getD_eq_getElem?_getD, List.getElem?_eq_none (by omega)]
                simp)
            have Hok : Hid (ok = decide (er = 0)) := Lib.hid Hst.out.2
            have Hbz := Lib.hid HN6.out.bel
            have hie : (decide (er = 0)) = (er == 0) := by simp [BEq.beq]
            clear hTx Hst HC
            go_wp2
            go_ret2
            exact ⟨A6, c6, by rw [HTl.out, Hok.out]; rfl, HTx.out, HTe.out, by rw [HTl.out]; exact HRl.out, Ho5.out.trans (Only.of_ext (S := fun k => k = g) Hbz.out) (fun _ _ h => h)⟩
      have hmi : (0 : Int) < (m : Int) := by omega
      have hmd : decide ((0 : Int) < (m : Int)) = true := decide_eq_true hmi
      have hmn : decide (0 < m) = true := decide_eq_true (by omega)
      cases bd with
      | true =>
        have HC := Lib.hid (HEX.out (.inr rfl))
        clear HEX hm
        go_wp2_with fail
        refine (rgood _ g rest true wr Hr.out).mono ?_
        rintro e w' ⟨rfl, rfl⟩
        obtain ⟨B, hB⟩ : ∃ B, (stBytes rest true).1 = B := ⟨_, rfl⟩
        have hBl : B.length ≤ 200000000 := by rw [← hB]; exact Nat.le_trans (stBytes_len rest true).2 Hrs.out
        rw [hB] at HC HBY
        have HDe := Lib.hid (fun (A : Option Addr) (c : Nat) (W : World) (hW : Rd W A (B.map bv)) (hc : B.length ≤ c) => decode_any B A c W hW hc (by omega))
        have hRl := decR_len B
        have hRe := decR_snd B
        have hRv : ∀ v ∈ (decR B).1, 0 ≤ v ∧ v ≤ 1099511627776 := by
          rcases hRe with h | h
          · exact ((mayP_iff _).1 (decR_ok h)).2
          · rw [h]; simp
        obtain ⟨pl, er, hR⟩ : ∃ pl er, decR B = (pl, er) := ⟨_, _, rfl⟩
        rw [hR] at HC hRl hRe hRv
        simp only [hR] at HDe
        simp only at HC hRl hRe hRv
        have HRl := Lib.hid hRl
        have HRe : Hid (er = 0 ∨ (pl = [] ∧ er = 2)) := Lib.hid (by
          rcases hRe with h | h
          · exact .inl h
          · injection h with h1 h2; exact .inr ⟨h1, h2⟩)
        have HRv := Lib.hid hRv
        have HBl := Lib.hid hBl
        have hpli : (pl.length : Int) ≤ 32768 := by omega
        clear hB hBl hRl hRe hRv hR
        go_wp2_with fail
        refine HBY.out.mono ?_
        rintro e x1 ⟨A2, c2, rfl, hn2, hr2, ho2⟩
        have hc2 : B.length ≤ c2 := by have := Own.cap hn2; simpa using this
        have HD2 := Lib.hid (HDe.out A2 c2 x1 hn2.rd hc2)
        have Ho2 := Lib.hid (Ho.out.trans ho2 (fun _ _ h => h))
        have hrow : RowO x1 9 1 A1 acc.length c1 (acc.map strV) := HS.out.row.only ho2 (fun k hk e => by have := HS.out.new k hk; have := Hgl.out; omega)
        have Hrow := Lib.hid hrow.rd
        clear hn2 hr2 ho2 hc2 hrow HDe HBY
        go_wp2_with fail
        refine HD2.out.mono ?_
        rintro e x2 ⟨A5, c5, rfl, hr5, hb5⟩
        have Hr5 := Lib.hid hr5
        have Hw5 := Lib.hid (Hrow.out.ext hb5)
        have Ho5 : Hid (Only (fun k => k = g) w x2) := Lib.hid (Ho2.out.trans (Only.of_ext (S := fun k => k = g) hb5) (fun _ _ h => h))
        clear hr5 hb5 HD2
        go_wp2
        go_loopw [5, 36] (fun s i wr2 => ∃ (k : Nat) (A6 : Option Addr) (c6 : Nat), k ≤ pl.length ∧ i = .int .i64 (k : Int) ∧ s = .slice A6 k c6 ∧ Hid (∀ j (hj : j < pl.length), j < k → inD acc pl[j] = true) ∧ Hid (NewO x2 wr2 9 1 A6 k c6 (((pl.take k).map (pkD acc)).map strV))) (fun _ i _ => pl.length - (intOf i).toNat)
        case atStart => exact ⟨0, none, 0, Nat.zero_le _, rfl, rfl, Lib.hid (fun j _ h => absurd h (by omega)), Lib.hid (NewO.start _ _ _)⟩
        case round =>
          obtain ⟨k, A6, c6, hk, rfl, rfl, Hno, HN6⟩ := hrel
          by_cases hlt : k < pl.length
          · have hki : (k : Int) < (pl.length : Int) := by omega
            obtain ⟨ad, hB, hcell⟩ := rd_int (Hr5.out.ext HN6.out.bel) hlt
            subst hB
            have hv := HRv.out _ (List.getElem_mem hlt)
            by_cases hin : pl[k] < (acc.length : Int)
            · obtain ⟨v, hvn⟩ : ∃ v : Nat, pl[k] = (v : Int) := ⟨pl[k].toNat, by omega⟩
              have hva : v < acc.length := by omega
              obtain ⟨ad2, hA, hcell2⟩ := rd_str (Hw5.out.ext HN6.out.bel) hva
              subst hA
              have Hsn : Hid (((pl.take (k + 1)).map (pkD acc)).map strV = ((pl.take k).map (pkD acc)).map strV ++ [strV acc[v]]) := Lib.hid (by
                rw [List.take_succ_eq_append_getElem hlt, List.map_append, List.map_append, List.map_singleton, List.map_singleton, hvn]
                unfold pkD
                rw [Int.toNat_natCast, List.getD_eq_getElem?_getD, List.getElem?_eq_getElem hva]
                rfl)
              have Hno2 : Hid (∀ j (hj : j < pl.length), j < k + 1 → inD acc pl[j] = true) := Lib.hid (fun j hj hj2 => by
                rcases Nat.lt_succ_iff_lt_or_eq.1 hj2 with h3 | rfl
                · exact Hno.out j hj h3
                · exact decide_eq_true hin)
              have hge : ¬ (acc.length : Int) ≤ (v : Int) := by omega
              have hgen : decide (acc.length ≤ v) = false := decide_eq_false (by omega)
              have hvi : (v : Int) < (acc.length : Int) := by omega
              have hk2 : k + 1 ≤ maxLen := by unfold maxLen; have := HRl.out; omega
              have hk3 : (k + 1) * 16 ≤ 140737488355328 := by have := HRl.out; omega
              rw [hvn] at hcell
              obtain ⟨Z, hu⟩ : ∃ Z : ByteArray, strV acc[v] = .string Z := ⟨_, rfl⟩
              rw [hu] at hcell2 Hsn
              have Hva := Lib.hid hva
              clear hvn hin hv hu hva
              go_wp2_with (at_builtin
                           refine wpList_app_new rfl (.tmp 44) (.tmp 49) _ rfl 9 _ 1 16 Try.underlying40 info_str rfl A6 _ c6 _ HN6.out (ext_alloc (Below.refl _ _) _) rfl ⟨wr.heap.size, 0, none⟩ 1 [.string Z] rfl rfl (Rd.lit _ #[.string Z] _) ?_ hk2 hk3 ?_
                           · intro x hx; simp at hx; rw [hx]; rfl
                           intro A7 c7 w7 hN7 hb7
                           rw [← Hsn.out] at hN7
                           have HN7 := Lib.hid hN7
                           clear hN7 hb7)
              go_roundw
              case rel => exact ⟨k + 1, A7, c7, by omega, by go_num, rfl, Hno2, HN7⟩
              case measure => simp [intOf]; omega
            · have Hst : Hid (T = [] ∧ ok = false) := Lib.hid (by
                have h := HC.out
                rw [if_neg (fun hx => hin (by
                  have := List.all_eq_true.1 hx.2 _ (List.getElem_mem hlt)
                  simpa [inD] using this))] at h
                injection h with h1 h2
                exact ⟨h1, h2⟩)
              obtain ⟨v, hvn⟩ : ∃ v : Nat, pl[k] = (v : Int) := ⟨pl[k].toNat, by omega⟩
              have hge : (acc.length : Int) ≤ (v : Int) := by omega
              have hgen : decide (acc.length ≤ v) = true := decide_eq_true (by omega)
              rw [hvn] at hcell
              clear hvn hin hv
              go_wp2
              go_ret2
              obtain ⟨rfl, rfl⟩ := Hst.out
              exact ⟨none, 0, rfl, TxtAt.none_ _, by simp, by simp, Ho5.out.trans (Only.of_ext (S := fun k => k = g) HN6.out.bel) (fun _ _ h => h)⟩
          · obtain rfl : k = pl.length := by omega
            have Hst : Hid (T = pl.map (pkD acc) ∧ ok = decide (er = 0)) := Lib.hid (by
              have h := HC.out
              rcases HRe.out with he | ⟨he, he2⟩
              · rw [if_pos ⟨he, List.all_eq_true.2 fun v hv => by
                  obtain ⟨j, hj, rfl⟩ := List.mem_iff_getElem.1 hv
                  exact Hno.out j hj hj⟩] at h
                injection h with h1 h2
                exact ⟨h1, by rw [h2, decide_eq_true he]⟩
              · rw [if_neg (fun hx => by rw [he2] at hx; exact absurd hx.1 (by decide))] at h
                injection h with h1 h2
                exact ⟨by rw [h1, he]; rfl, by rw [h2, he2]; rfl⟩)
            have hTx := HN6.out
            rw [List.take_length, ← Hst.out.1] at hTx
            have HTl : Hid (T.length = pl.length) := Lib.hid (by rw [Hst.out.1, List.length_map])
            have HTx := Lib.hid (TxtAt.of_row hTx.row HTl.out.symm)
            have HTe : Hid (∀ s ∈ T, s.length ≤ 200000000) := Lib.hid (fun s hs => by
              rw [Hst.out.1] at hs
              obtain ⟨v, hv, rfl⟩ := List.mem_map.1 hs
              unfold pkD
              by_cases hx : v.toNat < acc.length
              · rw [List.getD_eq_getElem?_getD, List.getElem?_eq_getElem hx]
                exact Hea.out _ (List.getElem_mem hx)
              · rw [List.getD_eq_getElem?_getD, List.getElem?_eq_none (by omega)]
                simp)
            have Hok : Hid (ok = decide (er = 0)) := Lib.hid Hst.out.2
            have Hbz := Lib.hid HN6.out.bel
            have hie : (decide (er = 0)) = (er == 0) := by simp [BEq.beq]
            clear hTx Hst HC
            go_wp2
            go_ret2
            exact ⟨A6, c6, by rw [HTl.out, Hok.out]; rfl, HTx.out, HTe.out, by rw [HTl.out]; exact HRl.out, Ho5.out.trans (Only.of_ext (S := fun k => k = g) Hbz.out) (fun _ _ h => h)⟩
      | false =>
        clear HEX
        obtain ⟨k, hk⟩ : ∃ k, m = k + 1 := ⟨m - 1, by omega⟩
        have hk1 : IntKind.i64.wrap ((m : Int) - 1) = (k : Int) := by rw [show (m : Int) - 1 = (k : Int) by omega]; exact IntWalk.i64_in _ (by have := Hrd.out.len; have := HN.out; omega)
        have HRs := Lib.hid (Tkd.step (by rw [← hk]; exact Hrd.out))
        have hk2 : acc.length + 1 ≤ maxLen := by unfold maxLen; have := Hen.out; omega
        have hk3 : (acc.length + 1) * 16 ≤ 140737488355328 := by have := Hen.out; omega
        generalize stBytes rest false = q at *
        obtain ⟨bs, rest', bd'⟩ := q
        simp only at HRs HBY
        have Hk := Lib.hid hk
        clear hk hm
        go_wp2_with fail
        refine (rgood _ g rest false wr Hr.out).mono ?_
        rintro e w' ⟨rfl, rfl⟩
        go_wp2_with fail
        refine HBY.out.mono ?_
        rintro e x1 ⟨A2, c2, rfl, hn2, hr2, ho2⟩
        have hcv := conv_bytes x1 A2 bs.length c2 bs rfl hn2.rd
        have hrow : RowO x1 9 1 A1 acc.length c1 (acc.map strV) := HS.out.row.only ho2 (fun k hk e => by have := HS.out.new k hk; have := Hgl.out; omega)
        have Hrow := Lib.hid hrow
        have Hr2 := Lib.hid hr2
        have Ho2 := Lib.hid (Ho.out.trans ho2 (fun _ _ h => h))
        have hsv : (.string ⟨bs.toArray⟩ : Value) = strV bs := rfl
        rw [hsv] at hcv
        obtain ⟨Z, hv⟩ : ∃ Z : ByteArray, strV bs = .string Z := ⟨_, rfl⟩
        rw [hv] at hcv
        have Hv := Lib.hid hv
        clear hrow hr2 ho2 hn2 hv hsv
        go_wp2_with (at_builtin
                     refine wpList_appO _ rfl (.tmp 22) (.tmp 26) _ rfl 9 _ 1 16 Try.underlying40 info_str rfl A1 _ c1 _ rfl (Hrow.out.alloc _) (some ⟨x1.heap.size, 0, none⟩) 1 1 [.string Z] rfl rfl (Rd.lit _ #[.string Z] _) ?_ ?_ hk2 hk3 ?_
                     · intro u hu; simp at hu; rw [hu]; rfl
                     · intro h; cases h
                     intro A3 c3 w3 hrow3 honly3 hA3
                     rw [← Hv.out] at hrow3 honly3
                     have hx1 : w.heap.size ≤ (x1.alloc (.cells #[.string Z] 9)).heap.size := by rw [World.size_alloc]; have := Ho2.out.size; omega
                     have hF3 : FrS w w3 A3 c3 (acc ++ [bs]) := HS.out.grow hx1 hrow3 (by rw [← Hv.out] at hx1; rw [← Hv.out] at hA3; rw [← Hv.out]; exact hA3)
                     have hO3 := HS.out.only (Ho2.out.alloc (.cells #[strV bs] 9)) honly3
                     have hR3 : Rdr w3 f2 g rest' bd' := (Hr2.out.ext (ext_alloc (Below.refl _ _) _)).only honly3 (fun k hk hi => by have := HS.out.new k hi; have := Hf2.out k hk; omega)
                     have HF3 := Lib.hid hF3
                     have HO3 := Lib.hid hO3
                     have HR3 := Lib.hid hR3
                     clear hrow3 honly3 hA3 hx1 hF3 hO3 hR3)
        go_roundw
        case rel => exact ⟨k, acc ++ [bs], rest', bd', A3, c3, rfl, by rw [List.length_append]; rfl, HRs, HR3.out, HF3.out, HO3.out⟩
        case measure => simp [intOf]; have := Hk.out; omega

end Go.Proofs.Ythceajadgjnnmaa

/-
  Decode (program). No statement of the seat is proved here.
-/
namespace Go.Proofs.Ythceajadgjnnmaa
open Go Go.RowKit
set_option maxRecDepth 100000

theorem dec_take {p : List UInt8} {k : Nat} (hk : k = cntD p ∨ k = min (cntD p) 32769) {T : List (List UInt8)} {ok : Bool} (h : takD k p = (T, ok)) :
    decD p = if ok = true ∧ (ansD T).2 = 0 ∧ decide ((ansD T).1 = p) = true then (T, 0) else ([], 2) := by
  rw [dec_got p hk]
  unfold takD at h
  cases hg : gotD k p with
  | none =>
    rw [hg] at h
    injection h with h1 h2
    subst h1 h2
    rw [if_neg (by simp)]
    rfl
  | some l =>
    rw [hg] at h
    injection h with h1 h2
    subst h1 h2
    unfold chkD ansD
    simp only
    by_cases hm : mayD l = true
    · simp [hm]
    · simp [hm]

set_option maxHeartbeats 4000000 in
theorem decodeD_any (p : List UInt8) (A : Option Addr) (ca : Nat) (w : World) (hA : Rd w A (p.map bv)) (hc : p.length ≤ ca) (hp : p.length ≤ 200000000) :
    Calls Try.prog 32 #[.slice A p.length ca] w fun e w' => ∃ A' c', e = .returned (.tuple #[.slice A' (decD p).1.length c', .int .i64 (decD p).2]) ∧ TxtAt w' A' c' (decD p).1 ∧ Below w.heap.size w w' := by
  obtain ⟨T, ok, hT⟩ : ∃ T ok, takD (min (cntD p) 32769) p = (T, ok) := ⟨_, _, rfl⟩
  have HR := Lib.hid (dec_take (.inr rfl) hT)
  have HTk := Lib.hid (fun fp g W h => takenD_any fp g p W h hp _ rfl T ok hT)
  generalize decD p = R at *
  have HA := Lib.hid hA
  clear hA hT
  go_enter Try.func32, Try.ntmps32
  go_wp2_with fail
  refine (newreader A p.length ca p w rfl hc HA.out (by omega)).mono ?_
  rintro e w2 ⟨g, rfl, hr2, hb2⟩
  have HX := Lib.hid (HTk.out _ g w2 hr2)
  have Hgl : Hid (w.heap.size ≤ g ∧ g < w2.heap.size) := Lib.hid hr2.1
  have Hb2 := Lib.hid hb2
  clear hr2 hb2 HTk
  go_wp2_with fail
  refine HX.out.mono ?_
  rintro e w3 ⟨A3, c3, rfl, htx, hte, htl, ho3⟩
  have Hb3 : Hid (Below w.heap.size w w3) := Lib.hid (Hb2.out.trans (ho3.below (fun i hi => by have := Hgl.out; omega) Hb2.out.size))
  have Htx := Lib.hid htx
  have HE := Lib.hid (encodeD_any A3 c3 T w3 htx.rd htx.nil (by omega) (fun s hs => by have := hte s hs; unfold maxLen; omega))
  clear htx hte htl ho3 HX
  cases ok with
  | false =>
    have HR2 : Hid (R = ([], 2)) := Lib.hid (by rw [HR.out, if_neg (by simp)])
    clear HR
    go_wp2
    go_ret2
    rw [HR2.out]
    exact ⟨none, 0, rfl, TxtAt.none_ _, Hb3.out⟩
  | true =>
    obtain ⟨b, er, ha⟩ : ∃ b er, ansD T = (b, er) := ⟨_, _, rfl⟩
    rw [ha] at HE HR
    simp only at HE HR
    clear ha
    go_wp2_with fail
    refine HE.out.mono ?_
    rintro e w4 ⟨A4, c4, rfl, hn4, hb4⟩
    have HQ := Lib.hid (eqb_any A4 A c4 ca b p w4 hn4.rd (HA.out.ext (ext_trans Hb3.out hb4)))
    have Hb4 := Lib.hid hb4
    clear hn4 hb4 HE
    by_cases h0 : er = 0
    · subst h0
      cases hd : decide (b = p) with
      | true =>
        have HR2 : Hid (R = (T, 0)) := Lib.hid (by rw [HR.out, if_pos (by simpa using hd)])
        rw [hd] at HQ
        clear HR hd
        go_wp2_with fail
        refine HQ.out.mono ?_
        rintro e w' ⟨rfl, rfl⟩
        go_wp2
        go_ret2
        rw [HR2.out]
        exact ⟨A3, c3, rfl, Htx.out.ext Hb4.out, ext_trans Hb3.out Hb4.out⟩
      | false =>
        have HR2 : Hid (R = ([], 2)) := Lib.hid (by rw [HR.out, if_neg (by rw [hd]; simp)])
        rw [hd] at HQ
        clear HR hd
        go_wp2_with fail
        refine HQ.out.mono ?_
        rintro e w' ⟨rfl, rfl⟩
        go_wp2
        go_ret2
        rw [HR2.out]
        exact ⟨none, 0, rfl, TxtAt.none_ _, ext_trans Hb3.out Hb4.out⟩
    · have HR2 : Hid (R = ([], 2)) := Lib.hid (by rw [HR.out, if_neg (fun h => h0 h.2.1)])
      have hne : (er != 0) = true := by simpa using h0
      clear HR HQ
      go_wp2
      go_ret2
      rw [HR2.out]
      exact ⟨none, 0, rfl, TxtAt.none_ _, ext_trans Hb3.out Hb4.out⟩
end Go.Proofs.Ythceajadgjnnmaa
