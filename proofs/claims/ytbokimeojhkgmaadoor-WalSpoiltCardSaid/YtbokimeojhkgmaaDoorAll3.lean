/-
  Texts of this claim, joined (part 3): contracts and lemmas that the last text goes by. No statement of the seat is proved here.
-/
import Derived.Test.YtbokimeojhkgmaaDoorAll2
import Derived.Test.YtbokimeojhkgmaaDoorAll0
import Derived.Test.YtbokimeojhkgmaaDoorAll1
import Derived.Laws.IdiomStrings
import Derived.Test.YtbokimeojhkgmaaDoorRows
import Derived.Lib.BufferRead
import Derived.Lib.LaidTab
import Derived.Stop.LaidErr
import Derived.Test.YtbokimeojhkgmaaDoorCards
import Derived.Test.YtbokimeojhkgmaaDoorTie
set_option linter.unusedVariables false
set_option linter.unusedSimpArgs false
/-
  May a batch be? (program, reference); what was laid, and its sum. No statement of the seat is proved here.
-/
namespace Go.Proofs.YtbokimeojhkgmaaDoor
open Go Go.RowKit
set_option maxRecDepth 100000

def tooLong (s : List UInt8) : Bool := decide (256 < s.length)
theorem long1_any (s : List UInt8) (w : World) (hs : s.length ≤ maxLen) : Calls Tryd.prog 43 #[strV s] w fun e w' => e = .returned (.bool (tooLong s)) ∧ w = w' := by
  unfold maxLen at hs
  unfold strV
  have hsz : (⟨s.toArray⟩ : ByteArray).size = s.length := rfl
  obtain ⟨Z, hZ⟩ : ∃ Z : ByteArray, (⟨s.toArray⟩ : ByteArray) = Z := ⟨_, rfl⟩
  rw [hZ] at hsz ⊢
  have hd : Hid (tooLong s = decide ((256 : Int) < (Z.size : Int))) := Lib.hid (by unfold tooLong; rw [hsz]; rw [decide_eq_decide]; omega)
  clear hZ hsz
  go_enter Tryd.func43, Tryd.ntmps43
  go_wp2
  go_ret
  exact ⟨by rw [hd.out]; rfl, rfl⟩
/-- where the first is -/
def idxL (l : List (List UInt8)) : Int := match l.findIdx? tooLong with | some k => (k : Int) | none => -1
theorem idxL_none {l : List (List UInt8)} (h : ∀ s ∈ l, tooLong s = false) : idxL l = -1 := by
  unfold idxL
  rw [List.findIdx?_eq_none_iff.2 h]
theorem idxL_some {l : List (List UInt8)} {k : Nat} (hk : k < l.length) (h1 : tooLong l[k] = true) (h2 : ∀ j (hj : j < k), tooLong (l[j]'(by omega)) = false) : idxL l = (k : Int) := by
  unfold idxL
  rw [List.findIdx?_eq_some_iff_getElem.2 ⟨hk, h1, fun j hj => by simp [h2 j hj]⟩]
theorem idxL_any (l : List (List UInt8)) : decide ((0 : Int) ≤ idxL l) = l.any tooLong := by
  unfold idxL
  cases h : l.findIdx? tooLong with
  | none =>
    rw [List.findIdx?_eq_none_iff] at h
    have : l.any tooLong = false := by rw [List.any_eq_false]; intro x hx; simp [h x hx]
    rw [this]; rfl
  | some k =>
    rw [List.findIdx?_eq_some_iff_getElem] at h
    obtain ⟨hk, h1, _⟩ := h
    have : l.any tooLong = true := List.any_eq_true.2 ⟨l[k], List.getElem_mem hk, h1⟩
    rw [this]
    exact decide_eq_true (by simp)

set_option maxHeartbeats 2000000 in
theorem index_any (A : Option Addr) (c : Nat) (l : List (List UInt8)) (w : World) (hA : Rd w A (l.map strV)) (hl : l.length ≤ 1000000) (hs : ∀ s ∈ l, s.length ≤ maxLen) :
    Calls Tryd.prog 60 #[.slice A l.length c, .func (.func 43) #[] #[]] w fun e w' => e = .returned (.int .i64 (idxL l)) ∧ w = w' := by
  have hli : (l.length : Int) ≤ 1000000 := by omega
  go_enter Tryd.func60, Tryd.ntmps60
  go_wp2
  go_loop [8] (fun i => ∃ k : Nat, k ≤ l.length ∧ i = .int .i64 (k : Int) ∧ ∀ j (hj : j < l.length), j < k → tooLong l[j] = false) (fun i => l.length - (intOf i).toNat)
  case atStart => exact ⟨0, Nat.zero_le _, rfl, fun j _ h => absurd h (by omega)⟩
  case round =>
    obtain ⟨k, hk, rfl, hno⟩ := hrel
    have Hno := Lib.hid hno
    by_cases hlt : k < l.length
    · have hki : (k : Int) < (l.length : Int) := by omega
      obtain ⟨ad, rfl, hcell⟩ := rd_str hA hlt
      have HL := Lib.hid (long1_any l[k] w (hs _ (List.getElem_mem hlt)))
      unfold strV at hcell HL
      obtain ⟨Z, hZ⟩ : ∃ Z : ByteArray, (⟨l[k].toArray⟩ : ByteArray) = Z := ⟨_, rfl⟩
      rw [hZ] at hcell HL
      have HI : Hid (tooLong l[k] = true → idxL l = (k : Int)) := Lib.hid (fun h => idxL_some hlt h (fun j hj => hno j (by omega) hj))
      have HF : Hid (tooLong l[k] = false → ∀ j (hj : j < l.length), j < k + 1 → tooLong l[j] = false) := Lib.hid (fun h j hj hj2 => by
        rcases Nat.lt_succ_iff_lt_or_eq.1 hj2 with h3 | rfl
        · exact hno j hj h3
        · exact h)
      clear hZ hno
      generalize tooLong l[k] = v at *
      go_wp2_with fail
      refine HL.out.mono ?_
      rintro e w' ⟨rfl, rfl⟩
      cases v with
      | true =>
        have Hi := Lib.hid (HI.out rfl)
        go_wp2
        go_ret
        exact ⟨by rw [Hi.out]; rfl, rfl⟩
      | false =>
        have Hf := Lib.hid (HF.out rfl)
        clear HF HI
        go_wp2
        go_round
        case rel => exact ⟨k + 1, by omega, by go_num, Hf.out⟩
        case measure => simp [intOf]; omega
    · obtain rfl : k = l.length := by omega
      have hi : idxL l = -1 := idxL_none (fun s hs => by
        obtain ⟨j, hj, rfl⟩ := List.mem_iff_getElem.1 hs
        exact hno j hj hj)
      have Hi := Lib.hid hi
      clear hno hi
      go_wp2
      go_ret
      exact ⟨by rw [Hi.out]; rfl, rfl⟩
theorem contains_any (A : Option Addr) (c : Nat) (l : List (List UInt8)) (w : World) (hA : Rd w A (l.map strV)) (hl : l.length ≤ 1000000) (hs : ∀ s ∈ l, s.length ≤ maxLen) :
    Calls Tryd.prog 44 #[.slice A l.length c, .func (.func 43) #[] #[]] w fun e w' => e = .returned (.bool (l.any tooLong)) ∧ w = w' := by
  have HI := Lib.hid (index_any A c l w hA hl hs)
  have Hd := Lib.hid (idxL_any l)
  generalize idxL l = v at *
  go_enter Tryd.func44, Tryd.ntmps44
  go_wp2_with fail
  refine HI.out.mono ?_
  rintro e w' ⟨rfl, rfl⟩
  go_wp2
  go_ret
  exact ⟨by rw [← Hd.out]; rfl, rfl⟩

/-- a batch as a value, in memory -/
def btV (b : Bt) (B : Option Addr) (c : Nat) : Value := .agg #[.int .i64 b.first, .slice B b.lines.length c]
structure BtIn (w : World) (b : Bt) (B : Option Addr) (c : Nat) : Prop where
  int : isInt b.first
  le : b.lines.length ≤ c
  cap : c ≤ maxLen
  rd : Rd w B (b.lines.map strV)
  each : ∀ s ∈ b.lines, s.length ≤ maxLen
theorem BtIn.ext {w w' : World} {b : Bt} {B : Option Addr} {c : Nat} (h : BtIn w b B c) (hb : Below w.heap.size w w') : BtIn w' b B c := ⟨h.int, h.le, h.cap, h.rd.ext hb, h.each⟩

set_option maxHeartbeats 4000000 in
theorem may_any (b : Bt) (B : Option Addr) (c : Nat) (w : World) (h : BtIn w b B c) :
    Calls Tryd.prog 24 #[btV b B c] w fun e w' => e = .returned (.bool (isB b)) ∧ Below w.heap.size w w' := by
  have hx : Below w.heap.size w (w.alloc (.cells #[.int .i64 b.first, .slice B b.lines.length c] 24)) := (Below.refl _ _).alloc (Nat.le_refl _) _
  have hl := Nat.le_trans h.le h.cap
  unfold maxLen at hl
  have hli : (b.lines.length : Int) ≤ 9223372036854775807 := by omega
  obtain ⟨i1, i2⟩ := h.int
  have HC := Lib.hid (fun (hn : b.lines.length ≤ 64) => contains_any B c b.lines _ (h.rd.ext hx) (by omega) h.each)
  have Hx := Lib.hid hx
  have HB : Hid (isB b = (decide (0 ≤ b.first ∧ b.first ≤ 34359738368 ∧ 1 ≤ b.lines.length ∧ b.lines.length ≤ 64) && !(b.lines.any tooLong))) := Lib.hid rfl
  unfold btV
  generalize isB b = r at *
  generalize b.lines.any tooLong = q at *
  generalize b.first = f at *
  generalize b.lines.length = n at *
  clear hx hl h
  by_cases h1 : 0 ≤ f
  · by_cases h2 : f ≤ 34359738368
    · have d1 : decide (0 ≤ f) = true := decide_eq_true h1
      have d2 : decide (f ≤ 34359738368) = true := decide_eq_true h2
      by_cases h3 : 1 ≤ n
      · have d3 : decide (1 ≤ (n : Int)) = true := decide_eq_true (by omega)
        by_cases h4 : n ≤ 64
        · have d4 : decide ((n : Int) ≤ 64) = true := decide_eq_true (by omega)
          have Hr : Hid (r = !q) := Lib.hid (by rw [HB.out, decide_eq_true (show _ ∧ _ ∧ _ ∧ _ from ⟨h1, h2, h3, h4⟩)]; simp)
          have HC2 := Lib.hid (HC.out h4)
          clear HB HC h1 h2 h3 h4
          go_enter Tryd.func24, Tryd.ntmps24
          go_wp2_with fail
          refine HC2.out.mono ?_
          rintro e w' ⟨rfl, rfl⟩
          go_wp2
          go_ret
          exact ⟨by rw [Hr.out]; cases q <;> rfl, Hx.out⟩
        · have d4 : decide ((n : Int) ≤ 64) = false := decide_eq_false (by omega)
          have Hr : Hid (r = false) := Lib.hid (by rw [HB.out, decide_eq_false (show ¬ (_ ∧ _ ∧ _ ∧ _) from fun h => h4 h.2.2.2)]; simp)
          clear HB HC h1 h2 h3 h4
          go_enter Tryd.func24, Tryd.ntmps24
          go_wp2
          go_ret
          exact ⟨by rw [Hr.out]; rfl, Hx.out⟩
      · have d3 : decide (1 ≤ (n : Int)) = false := decide_eq_false (by omega)
        have Hr : Hid (r = false) := Lib.hid (by rw [HB.out, decide_eq_false (show ¬ (_ ∧ _ ∧ _ ∧ _) from fun h => h3 h.2.2.1)]; simp)
        clear HB HC h1 h2 h3
        go_enter Tryd.func24, Tryd.ntmps24
        go_wp2
        go_ret
        exact ⟨by rw [Hr.out]; rfl, Hx.out⟩
    · have d1 : decide (0 ≤ f) = true := decide_eq_true h1
      have d2 : decide (f ≤ 34359738368) = false := decide_eq_false h2
      have Hr : Hid (r = false) := Lib.hid (by rw [HB.out, decide_eq_false (show ¬ (_ ∧ _ ∧ _ ∧ _) from fun h => h2 h.2.1)]; simp)
      clear HB HC h1 h2
      go_enter Tryd.func24, Tryd.ntmps24
      go_wp2
      go_ret
      exact ⟨by rw [Hr.out]; rfl, Hx.out⟩
  · have d1 : decide (0 ≤ f) = false := decide_eq_false h1
    have Hr : Hid (r = false) := Lib.hid (by rw [HB.out, decide_eq_false (show ¬ (_ ∧ _ ∧ _ ∧ _) from fun h => h1 h.1)]; simp)
    clear HB HC h1
    go_enter Tryd.func24, Tryd.ntmps24
    go_wp2
    go_ret
    exact ⟨by rw [Hr.out]; rfl, Hx.out⟩
end Go.Proofs.YtbokimeojhkgmaaDoor

/-
  A text as a row of bytes in new memory; what was laid, and its sum (package exact). No statement of the seat is proved here.
-/
namespace Go.Proofs.YtbokimeojhkgmaaDoor
open Go Go.RowKit
set_option maxRecDepth 100000

theorem str_row (w : World) (bs : List UInt8) : ∃ c w1, (convert 9 26 (.string ⟨bs.toArray⟩)).run Tryd.prog w = .ok (.slice (some ⟨w.heap.size, 0, none⟩) bs.length c) w1 ∧ bs.length ≤ c ∧ Rd w1 (some ⟨w.heap.size, 0, none⟩) (bs.map bv) ∧ Below w.heap.size w w1 ∧ w1.heap.size = w.heap.size + 1 := by
  have h := run_bytes_of_string (P := Tryd.prog) w 9 26 5 ⟨bs.toArray⟩ Tryd.underlying9 Tryd.underlying26 Tryd.underlying5
  refine ⟨_, _, h, ?_, ?_, ?_, ?_⟩
  · exact grownCap_ge w bs.length 0 5
  · intro j u hu
    refine ⟨_, rfl, ?_⟩
    refine World.news_of_block (heap_alloc_new w.drew _) j u ?_
    unfold bytesRow
    have hj : j < bs.length := by have := (List.getElem?_eq_some_iff.1 hu).1; simpa using this
    rw [Array.getElem?_toList, Array.getElem?_append_left (by simpa using hj), Array.getElem?_map]
    simp only [List.getElem?_map] at hu
    simpa [bv] using hu
  · exact ((Below.refl _ _).drew).alloc (Nat.le_refl _) _
  · simp
end Go.Proofs.YtbokimeojhkgmaaDoor

/-
  Encode (program). No statement of the seat is proved here.
-/
namespace Go.Proofs.YtbokimeojhkgmaaDoor
open Go Go.RowKit
set_option maxRecDepth 100000

theorem rowsTo_len (l : List (List UInt8)) (h : ∀ s ∈ l, s.length ≤ 256) : ∀ k, (rowsTo l k).length ≤ 265 * k
  | 0 => by simp [rowsTo, rowsB]
  | k + 1 => by
    have ih := rowsTo_len l h k
    by_cases hk : k < l.length
    · rw [rowsTo_succ l k hk, List.length_append, List.length_append]
      have h1 := h _ (List.getElem_mem hk)
      have h2 := dig_len 9 l[k].length (by have : (128 : Nat) ^ 9 = 9223372036854775808 := rfl; omega) (by omega)
      omega
    · have e : rowsTo l (k + 1) = rowsTo l k := by unfold rowsTo; rw [List.take_of_length_le (by omega), List.take_of_length_le (by omega)]
      rw [e]; omega
theorem rowsB_one (s : List UInt8) : rowsB [s] = dig s.length ++ s := by simp [rowsB]
theorem ints_two (a b : Int) : [a, b].map iv = [Value.int .i64 a, .int .i64 b] := rfl
/-- an Encode's answer -/
def encR (b : Bt) : List UInt8 × Int := if isB b = true then (encB b, 0) else ([], 1)

set_option maxHeartbeats 8000000 in
theorem encode_any (b : Bt) (B : Option Addr) (c : Nat) (w : World) (ht : Tab w) (h : BtIn w b B c) :
    Calls Tryd.prog 10 #[btV b B c] w fun e w' => ∃ A' c', e = .returned (.tuple #[.slice A' (encR b).1.length c', .int .i64 (encR b).2]) ∧ New w w' A' c' (encR b).1 ∧ Below w.heap.size w w' := by
  obtain ⟨w0, hw0⟩ : ∃ w0, w0 = w.alloc (.cells #[.int .i64 b.first, .slice B b.lines.length c] 24) := ⟨_, rfl⟩
  have hb0 : Below w.heap.size w w0 := by rw [hw0]; exact (Below.refl _ _).alloc (Nat.le_refl _) _
  have hB0 : Blk w0 w.heap.size 24 #[.int .i64 b.first, .slice B b.lines.length c] := by rw [hw0]; exact Blk.new _ _ _
  have HB0 := Lib.hid hB0
  have Hb0 := Lib.hid hb0
  have Hw0 := Lib.hid hw0
  have HM := Lib.hid (may_any b B c w0 (h.ext hb0))
  have H := Lib.hid h
  have Ht := Lib.hid ht
  have h0 := hB0.cell 0
  have h1 := hB0.cell 1
  simp only [List.getElem?_toArray, List.getElem?_cons_zero, List.getElem?_cons_succ] at h0 h1
  rw [hw0] at h0 h1
  cases hi : isB b with
  | false =>
    have HR : Hid (encR b = ([], 1)) := Lib.hid (by unfold encR; rw [hi]; rfl)
    rw [hi] at HM
    unfold btV at HM ⊢
    clear hi hw0 hb0 hB0 h ht
    go_enter Tryd.func10, Tryd.ntmps10
    go_wp2_with fail
    rw [← Hw0.out]
    refine HM.out.mono ?_
    rintro e w1 ⟨rfl, hb⟩
    have Hb1 := Lib.hid (ext_trans Hb0.out hb)
    clear hb
    go_wp2
    go_ret2
    rw [HR.out]
    exact ⟨none, 0, rfl, Own.none_ _ _ _, Hb1.out⟩
  | true =>
    obtain ⟨⟨i1, i2, i3, i4⟩, i5⟩ := (isB_iff b).1 hi
    have HR : Hid (encR b = (encB b, 0)) := Lib.hid (by unfold encR; rw [hi]; rfl)
    have HL := Lib.hid (rowsTo_len b.lines i5)
    have H5 := Lib.hid i5
    have HE : Hid (encB b = sealB (numsB [b.first, (b.lines.length : Int)] ++ rowsTo b.lines b.lines.length)) := Lib.hid (by rw [rowsTo_all]; rfl)
    have HN2 : Hid ((numsB [b.first, (b.lines.length : Int)]).length ≤ 18) := Lib.hid (by
      have := numsTo_len [b.first, (b.lines.length : Int)] 2
      rw [show numsTo [b.first, (b.lines.length : Int)] 2 = numsB [b.first, (b.lines.length : Int)] from numsTo_all _] at this
      exact this)
    have hn64 : (b.lines.length : Int) ≤ 64 := by omega
    rw [hi] at HM
    unfold btV at HM ⊢
    clear hi hw0 hb0 hB0 h ht i5
    go_enter Tryd.func10, Tryd.ntmps10
    go_wp2_with fail
    rw [← Hw0.out]
    refine HM.out.mono ?_
    rintro e w1 ⟨rfl, hb⟩
    have Hb1 := Lib.hid (ext_trans Hb0.out hb)
    have HB1 := Lib.hid (HB0.out.ext hb)
    clear hb HM h0 h1
    obtain ⟨W2, hW2⟩ : ∃ W2, W2 = w1.alloc (.cells #[.slice none 0 0] 55) := ⟨_, rfl⟩
    have hB2 : Blk W2 w.heap.size 24 #[.int .i64 b.first, .slice B b.lines.length c] := by rw [hW2]; exact HB1.out.alloc _
    have HWr : Hid (Wr W2 (fun k => k = w1.heap.size) w1.heap.size []) := Lib.hid (by rw [hW2]; exact Wr.new w1 _ rfl)
    have HZ2 : Hid (W2.heap.size = w1.heap.size + 1) := Lib.hid (by rw [hW2, World.size_alloc])
    have Hb2 : Hid (Below w.heap.size w W2) := Lib.hid (by rw [hW2]; exact ext_alloc Hb1.out _)
    have HB2 := Lib.hid hB2
    have h0 := hB2.cell 0
    have h1 := hB2.cell 1
    simp only [List.getElem?_toArray, List.getElem?_cons_zero, List.getElem?_cons_succ] at h0 h1
    rw [hW2] at h0 h1
    have HW2 := Lib.hid hW2
    clear hB2 hW2
    have Hgw : Hid (w.heap.size < w1.heap.size) := Lib.hid HB1.out.lt
    obtain ⟨g, hg⟩ : ∃ g, w1.heap.size = g := ⟨_, rfl⟩
    go_wp2_with fail
    rw [← HW2.out]
    rw [hg] at HWr HZ2 Hgw
    have Hg := Lib.hid hg
    clear hg h0 h1
    refine (nums_any (fun k => k = g) g (some ⟨g + 1, 0, none⟩) 2 2 [b.first, (b.lines.length : Int)] [] _ (HWr.out.alloc _) rfl (RdF.lit W2 #[.int .i64 b.first, .int .i64 (b.lines.length : Int)] _ HZ2.out.symm (by omega)) (by
      intro v hv
      simp only [List.mem_cons, List.not_mem_nil, or_false] at hv
      rcases hv with rfl | rfl
      · exact H.out.int
      · exact ⟨by omega, by omega⟩) (by simp)).mono ?_
    rintro e w3 ⟨rfl, hr3, ho3⟩
    obtain ⟨N, hN⟩ : ∃ N, numsB [b.first, (b.lines.length : Int)] = N := ⟨_, rfl⟩
    rw [hN] at hr3 HE HN2
    rw [List.nil_append] at hr3
    have hO3 : Only (fun k => k = g) W2 w3 := ((Only.refl _ _).alloc _).trans ho3 (fun _ _ h => h)
    have hR3 : Wr w3 (More (fun k => k = g) W2 w3) g (N.map bv) := hr3.mono (fun k hk _ => by
      rcases hk with hk | hk
      · exact .inl hk
      · exact .inr ⟨by have := hk.1; simp at this; omega, hk.2⟩)
    have HO3 := Lib.hid hO3
    have HR3 := Lib.hid hR3
    have HK : Hid (∀ W, Only (fun k => k = g) W2 W → Below w.heap.size w W ∧ Blk W w.heap.size 24 #[.int .i64 b.first, .slice B b.lines.length c]) := Lib.hid (fun W ho => ⟨Hb2.out.trans (ho.below (fun i hi => by have := Hgw.out; omega) Hb2.out.size), HB2.out.only ho (by have := Hgw.out; omega)⟩)
    clear hN hr3 ho3 hO3 hR3
    have h0 := (HK.out w3 HO3.out).2.cell 0
    have h1 := (HK.out w3 HO3.out).2.cell 1
    simp only [List.getElem?_toArray, List.getElem?_cons_zero, List.getElem?_cons_succ] at h0 h1
    go_wp2
    go_loopw [20] (fun i wr => ∃ k : Nat, k ≤ b.lines.length ∧ i = .int .i64 (k : Int) ∧ Wr wr (More (fun k => k = g) W2 wr) g ((N ++ rowsTo b.lines k).map bv) ∧ Only (fun k => k = g) W2 wr) (fun i _ => b.lines.length - (intOf i).toNat)
    case atStart => exact ⟨0, Nat.zero_le _, rfl, by simpa [rowsTo, rowsB] using HR3.out, HO3.out⟩
    case round =>
      obtain ⟨k, hk, rfl, hr, ho⟩ := hrel
      have Hr := Lib.hid hr
      have Ho := Lib.hid ho
      have hll := HL.out k
      have hnl := HN2.out
      by_cases hlt : k < b.lines.length
      · have hki : (k : Int) < (b.lines.length : Int) := by omega
        obtain ⟨ad, hB, hcell⟩ := rd_str (H.out.rd.ext (HK.out wr ho).1) hlt
        subst hB
        have Hsn : Hid (N ++ rowsTo b.lines (k + 1) = (N ++ rowsTo b.lines k) ++ rowsB [b.lines[k]]) := Lib.hid (by rw [rowsTo_succ b.lines k hlt, rowsB_one]; simp)
        have Hll : Hid ((rowsB [b.lines[k]]).length ≤ 265) := Lib.hid (by
          have h1 := HL.out 1
          have h2 := rowsTo_len [b.lines[k]] (fun s hs => by simp at hs; rw [hs]; exact H5.out _ (List.getElem_mem hlt)) 1
          rw [show rowsTo [b.lines[k]] 1 = rowsB [b.lines[k]] from rowsTo_all [b.lines[k]]] at h2
          exact h2)
        generalize b.lines[k] = s at *
        obtain ⟨cc, wc, hcv, hcc, hrc, hbc, hzc⟩ := str_row wr s
        unfold strV at hcell
        have Hrc := Lib.hid hrc
        have Hbc := Lib.hid hbc
        have Hzc := Lib.hid hzc
        have Hcc := Lib.hid hcc
        clear hr ho hrc hbc hzc hll hnl hcc
        go_wp2_with fail
        refine (bytes_any (More (fun k => k = g) W2 wr) g _ 1 1 [s] ((N ++ rowsTo b.lines k).map bv) _ ((Hr.out.ext Hbc.out).alloc _) rfl (RowsF.one ⟨Hrc.out, fun ad e _ hm => ?_⟩ Hcc.out _ rfl (fun hm => ?_)) (by simp only [List.length_map, List.length_append]; have := HL.out k; have := HN2.out; have := Hll.out; omega) (by simp)).mono ?_
        · injection e with e
          subst e
          rcases hm with hm | hm
          · have h1 := Ho.out.size; have h2 := HZ2.out; simp at hm; omega
          · have := hm.2; simp at this
        · rcases hm with hm | hm
          · have h1 := Ho.out.size; have h2 := HZ2.out; have h3 := Hzc.out; omega
          · have := hm.2; have h3 := Hzc.out; omega
        rintro e w4 ⟨rfl, hr4, ho4⟩
        have hOb : Only (fun k => k = g) W2 (wc.alloc (.cells #[.slice (some ⟨wr.heap.size, 0, none⟩) s.length cc] 26)) := (Ho.out.trans (Only.of_ext Hbc.out) (fun _ _ h => h)).alloc _
        have hR4 : Wr w4 (More (fun k => k = g) W2 w4) g ((N ++ rowsTo b.lines (k + 1)).map bv) := by
          rw [Hsn.out, List.map_append]
          exact Wr.join Ho.out.size (by rw [World.size_alloc, Hzc.out]; omega) ho4.size hr4
        have hO4 := hOb.join ho4
        have HR4 := Lib.hid hR4
        have HO4 := Lib.hid hO4
        clear hr4 ho4 hOb hR4 hO4
        go_wp2
        go_roundw
        case rel => exact ⟨k + 1, by omega, by go_num, HR4.out, HO4.out⟩
        case measure => simp [intOf]; omega
      · obtain rfl : k = b.lines.length := by omega
        have HF := Lib.hid (fun h2 => summed_any _ g (N ++ rowsTo b.lines b.lines.length) wr (Ht.out.ext (HK.out wr Ho.out).1) Hr.out h2)
        have hl : (N ++ rowsTo b.lines b.lines.length).length ≤ 1073741824 := by rw [List.length_append]; omega
        have HF2 := Lib.hid (HF.out hl)
        rw [← HE.out] at HF2
        have Hbw := Lib.hid (HK.out wr Ho.out).1
        clear hr ho hl hll hnl HF
        go_wp2_with fail
        refine HF2.out.mono ?_
        rintro e w5 ⟨A5, c5, rfl, hn5, hb5⟩
        have Hn5 := Lib.hid (hn5.back Hbw.out.size)
        have Hb5 := Lib.hid (ext_trans Hbw.out hb5)
        clear hn5 hb5
        go_wp2
        go_ret2
        rw [HR.out]
        exact ⟨A5, c5, rfl, Hn5.out, Hb5.out⟩
end Go.Proofs.YtbokimeojhkgmaaDoor

/-
  The contract of winnowerref1's Sum. No statement of the seat is proved here.
-/
namespace Go.Proofs.YtbokimeojhkgmaaDoor
open Go Go.RowKit

theorem odd_step (s : Nat) (h : s < 4294967296) (ho : s % 2 = 1) : bits .and .u32 (s : Int) 1 = 1 ∧ bits .xor .u32 ((s : Int) / 2) 3988292384 = (bit1 s : Int) := by
  constructor
  · have h2 := u32_and_nat s 1 h (by omega)
    rw [nat_mask1, ho] at h2
    exact h2
  · have h2 := u32_xor_nat (s / 2) 3988292384 (by omega) (by omega)
    rw [Int.natCast_ediv] at h2
    rw [show bit1 s = s / 2 ^^^ 3988292384 by unfold bit1; rw [if_pos ho]]
    exact h2
theorem even_step (s : Nat) (h : s < 4294967296) (ho : ¬ s % 2 = 1) : bits .and .u32 (s : Int) 1 = 0 ∧ (s : Int) / 2 = (bit1 s : Int) := by
  constructor
  · have h2 := u32_and_nat s 1 h (by omega)
    rw [nat_mask1, show s % 2 = 0 by omega] at h2
    exact h2
  · rw [show bit1 s = s / 2 by unfold bit1; rw [if_neg ho]]; omega

set_option maxRecDepth 100000 in
set_option maxHeartbeats 2000000 in
theorem refsum_any (A : Option Addr) (n c : Nat) (xs : List UInt8) (w : World) (hn : n = xs.length) (hr : Rd w A (xs.map bv)) (hb : xs.length ≤ 1099511627776) :
    Calls Tryd.prog 31 #[.slice A n c] w fun e w' => e = .returned (.int .u32 (sumOf xs : Int)) ∧ w = w' := by
  subst hn
  have hsg : IntKind.u32.signed = false := rfl
  go_enter Tryd.func31, Tryd.ntmps31
  go_wp2
  go_loop [3, 4] (fun s i => ∃ j : Nat, j ≤ xs.length ∧ i = .int .i64 (j : Int) ∧ s = .int .u32 (crcAt 4294967295 xs j : Int)) (fun _ i => xs.length - (intOf i).toNat)
  case atStart => exact ⟨0, Nat.zero_le _, rfl, rfl⟩
  case round =>
    obtain ⟨j, hj, rfl, rfl⟩ := hrel
    have hS : crcAt 4294967295 xs j < 4294967296 := crcL_lt _ (by omega)
    by_cases hjl : j < xs.length
    · obtain ⟨a1, rfl, hc1⟩ := hr.at_ (k := j) (by simpa using hjl)
      simp only [List.getElem_map, bv] at hc1
      have hnext := Lib.hid (crcAt_succ 4294967295 xs j hjl)
      generalize crcAt 4294967295 xs j = S at *
      generalize xs[j] = b at *
      obtain ⟨s1, e1, f1, l1⟩ := xor_step S hS b
      have hfin := Lib.hid (show crcB S b = bitN 8 s1 by rw [bitN_byte, f1]; rfl)
      clear f1
      go_wp2
      go_loop [3, 5] (fun s i => ∃ k : Nat, k ≤ 8 ∧ i = .int .i64 (k : Int) ∧ s = .int .u32 (bitN k s1 : Int)) (fun _ i => 8 - (intOf i).toNat)
      case atStart => exact ⟨0, Nat.zero_le _, rfl, rfl⟩
      case round =>
        obtain ⟨k, hk, rfl, rfl⟩ := hrel
        by_cases hkl : k < 8
        · have hl := bitN_lt k l1
          have hsucc := Lib.hid (bitN_succ k s1)
          generalize bitN k s1 = t at *
          by_cases ho : t % 2 = 1
          · obtain ⟨q1, q2⟩ := odd_step t hl ho
            obtain ⟨t2, ht2⟩ : ∃ t2, t2 = bit1 t := ⟨_, rfl⟩
            rw [← ht2] at q2
            have Ht2 := Lib.hid ht2
            clear ht2 ho
            go_wp2
            go_round
            case rel => exact ⟨k + 1, by omega, by go_num, by rw [hsucc.out, ← Ht2.out]⟩
            case measure => simp [intOf]; omega
          · obtain ⟨q1, q2⟩ := even_step t hl ho
            obtain ⟨t2, ht2⟩ : ∃ t2, t2 = bit1 t := ⟨_, rfl⟩
            rw [← ht2] at q2
            have Ht2 := Lib.hid ht2
            clear ht2 ho
            go_wp2
            go_round
            case rel => exact ⟨k + 1, by omega, by go_num, by rw [hsucc.out, ← Ht2.out]⟩
            case measure => simp [intOf]; omega
        · obtain rfl : k = 8 := by omega
          go_wp2
          go_round
          case rel => exact ⟨j + 1, by omega, by go_num, by rw [hnext.out, hfin.out]⟩
          case measure => simp [intOf]; omega
    · obtain rfl : j = xs.length := by omega
      have hall := crcAt_all 4294967295 xs
      rw [hall] at hS ⊢
      have hsum := Lib.hid (show bits .xor .u32 IntKind.u32.max (crcL 4294967295 xs : Int) = (sumOf xs : Int) from not_u32 _ hS)
      clear hall
      generalize crcL 4294967295 xs = s at *
      go_wp2
      go_ret
      exact ⟨by rw [hsum.out]; rfl, rfl⟩
end Go.Proofs.YtbokimeojhkgmaaDoor

/-
  Is and Encode (the reference). No statement of the seat is proved here.
-/
namespace Go.Proofs.YtbokimeojhkgmaaDoor
open Go Go.RowKit
set_option maxRecDepth 100000

theorem isB_no {b : Bt} {s : List UInt8} (hs : s ∈ b.lines) (h : 256 < s.length) : isB b = false := by
  cases hi : isB b with
  | false => rfl
  | true => have := ((isB_iff b).1 hi).2 s hs; omega
theorem isB_out {b : Bt} (h : ¬ (0 ≤ b.first ∧ b.first ≤ 34359738368 ∧ 1 ≤ b.lines.length ∧ b.lines.length ≤ 64)) : isB b = false := by
  cases hi : isB b with
  | false => rfl
  | true => exact absurd ((isB_iff b).1 hi).1 h

set_option maxHeartbeats 8000000 in
theorem is20_any (b : Bt) (B : Option Addr) (c : Nat) (w : World) (h : BtIn w b B c) :
    Calls Tryd.prog 16 #[btV b B c] w fun e w' => e = .returned (.bool (isB b)) ∧ Below w.heap.size w w' := by
  have hx : Below w.heap.size w (w.alloc (.cells #[.int .i64 b.first, .slice B b.lines.length c] 32)) := (Below.refl _ _).alloc (Nat.le_refl _) _
  have hl := Nat.le_trans h.le h.cap
  unfold maxLen at hl
  have hli : (b.lines.length : Int) ≤ 9223372036854775807 := by omega
  obtain ⟨i1, i2⟩ := h.int
  have Hx := Lib.hid hx
  have HO := Lib.hid (isB_out (b := b))
  have HN := Lib.hid (fun s hs h => isB_no (b := b) (s := s) hs h)
  have HY : Hid ((0 ≤ b.first ∧ b.first ≤ 34359738368 ∧ 1 ≤ b.lines.length ∧ b.lines.length ≤ 64) → (∀ s ∈ b.lines, s.length ≤ 256) → isB b = true) := Lib.hid (fun h1 h2 => (isB_iff b).2 ⟨h1, h2⟩)
  have HE := Lib.hid h.each
  have HR := Lib.hid (h.rd.ext hx)
  unfold btV
  generalize isB b = r at *
  clear hx hl
  by_cases h1 : 0 ≤ b.first
  · have d1 : decide (b.first < 0) = false := decide_eq_false (by omega)
    by_cases h2 : b.first ≤ 34359738368
    · have d2 : decide (34359738368 < b.first) = false := decide_eq_false (by omega)
      by_cases h3 : 1 ≤ b.lines.length
      · have d3 : decide ((b.lines.length : Int) < 1) = false := decide_eq_false (by omega)
        have d3n : decide (b.lines.length < 1) = false := decide_eq_false (by omega)
        by_cases h4 : b.lines.length ≤ 64
        · have d4 : decide (64 < (b.lines.length : Int)) = false := decide_eq_false (by omega)
          have HY2 := Lib.hid (HY.out ⟨h1, h2, h3, h4⟩)
          have h4i : (b.lines.length : Int) ≤ 64 := by omega
          clear HY HO h
          generalize b.first = f at *
          generalize b.lines = ls at *
          clear h1 h2
          go_enter Tryd.func16, Tryd.ntmps16
          go_wp2
          go_loop [3] (fun i => ∃ k : Nat, k ≤ ls.length ∧ i = .int .i64 (k : Int) ∧ ∀ j (hj : j < ls.length), j < k → ls[j].length ≤ 256) (fun i => ls.length - (intOf i).toNat)
          case atStart => exact ⟨0, Nat.zero_le _, rfl, fun j _ h => absurd h (by omega)⟩
          case round =>
            obtain ⟨k, hk, rfl, hno⟩ := hrel
            have Hno := Lib.hid hno
            by_cases hlt : k < ls.length
            · have hki : (k : Int) < (ls.length : Int) := by omega
              obtain ⟨ad, rfl, hcell⟩ := rd_str HR.out hlt
              have hsz : (⟨ls[k].toArray⟩ : ByteArray).size = ls[k].length := rfl
              unfold strV at hcell
              have HI : Hid (256 < ls[k].length → r = false) := Lib.hid (HN.out _ (List.getElem_mem hlt))
              have HF : Hid (ls[k].length ≤ 256 → ∀ j (hj : j < ls.length), j < k + 1 → ls[j].length ≤ 256) := Lib.hid (fun h j hj hj2 => by
                rcases Nat.lt_succ_iff_lt_or_eq.1 hj2 with h3 | rfl
                · exact hno j hj h3
                · exact h)
              obtain ⟨Z, hZ⟩ : ∃ Z : ByteArray, (⟨ls[k].toArray⟩ : ByteArray) = Z := ⟨_, rfl⟩
              rw [hZ] at hcell hsz
              rw [← hsz] at HI HF
              clear hZ hno hsz
              by_cases hb : 256 < Z.size
              · have hbi : (256 : Int) < (Z.size : Int) := by omega
                have Hr := Lib.hid (HI.out hb)
                clear HI HF hb
                go_wp2
                go_ret
                exact ⟨by rw [Hr.out]; rfl, Hx.out⟩
              · have hbi : (Z.size : Int) ≤ 256 := by omega
                have Hr := Lib.hid (HF.out (by omega))
                clear HI HF hb
                go_wp2
                go_round
                case rel => exact ⟨k + 1, by omega, by go_num, Hr.out⟩
                case measure => simp [intOf]; omega
            · obtain rfl : k = ls.length := by omega
              have hr : r = true := HY2.out (fun s hs => by
                obtain ⟨j, hj, rfl⟩ := List.mem_iff_getElem.1 hs
                exact hno j hj hj)
              have Hr := Lib.hid hr
              clear hno hr
              go_wp2
              go_ret
              exact ⟨by rw [Hr.out]; rfl, Hx.out⟩
        · have d4 : decide (64 < (b.lines.length : Int)) = true := decide_eq_true (by omega)
          have Hr := Lib.hid (HO.out (fun h => h4 h.2.2.2))
          clear HY HO HN h1 h2 h3 h4 h
          go_enter Tryd.func16, Tryd.ntmps16
          go_wp2
          go_ret
          exact ⟨by rw [Hr.out]; rfl, Hx.out⟩
      · have d3 : decide ((b.lines.length : Int) < 1) = true := decide_eq_true (by omega)
        have d3n : decide (b.lines.length < 1) = true := decide_eq_true (by omega)
        have Hr := Lib.hid (HO.out (fun h => h3 h.2.2.1))
        clear HY HO HN h1 h2 h3 h
        go_enter Tryd.func16, Tryd.ntmps16
        go_wp2
        go_ret
        exact ⟨by rw [Hr.out]; rfl, Hx.out⟩
    · have d2 : decide (34359738368 < b.first) = true := decide_eq_true (by omega)
      have Hr := Lib.hid (HO.out (fun h => h2 h.2.1))
      clear HY HO HN h1 h2 h
      go_enter Tryd.func16, Tryd.ntmps16
      go_wp2
      go_ret
      exact ⟨by rw [Hr.out]; rfl, Hx.out⟩
  · have d1 : decide (b.first < 0) = true := decide_eq_true (by omega)
    have Hr := Lib.hid (HO.out (fun h => h1 h.1))
    clear HY HO HN h1 h
    go_enter Tryd.func16, Tryd.ntmps16
    go_wp2
    go_ret
    exact ⟨by rw [Hr.out]; rfl, Hx.out⟩

set_option maxHeartbeats 8000000 in
theorem rencode_any (b : Bt) (B : Option Addr) (c : Nat) (w : World) (h : BtIn w b B c) :
    Calls Tryd.prog 11 #[btV b B c] w fun e w' => ∃ A' c', e = .returned (.tuple #[.slice A' (encR b).1.length c', .int .i64 (encR b).2]) ∧ New w w' A' c' (encR b).1 ∧ Below w.heap.size w w' := by
  obtain ⟨w0, hw0⟩ : ∃ w0, w0 = w.alloc (.cells #[.int .i64 b.first, .slice B b.lines.length c] 32) := ⟨_, rfl⟩
  have hb0 : Below w.heap.size w w0 := by rw [hw0]; exact (Below.refl _ _).alloc (Nat.le_refl _) _
  have hB0 : Blk w0 w.heap.size 32 #[.int .i64 b.first, .slice B b.lines.length c] := by rw [hw0]; exact Blk.new _ _ _
  have HB0 := Lib.hid hB0
  have Hb0 := Lib.hid hb0
  have Hw0 := Lib.hid hw0
  have HM := Lib.hid (is20_any b B c w0 (h.ext hb0))
  have H := Lib.hid h
  have h0 := hB0.cell 0
  have h1 := hB0.cell 1
  simp only [List.getElem?_toArray, List.getElem?_cons_zero, List.getElem?_cons_succ] at h0 h1
  rw [hw0] at h0 h1
  cases hi : isB b with
  | false =>
    have HR : Hid (encR b = ([], 1)) := Lib.hid (by unfold encR; rw [hi]; rfl)
    rw [hi] at HM
    unfold btV at HM ⊢
    clear hi hw0 hb0 hB0 h
    go_enter Tryd.func11, Tryd.ntmps11
    go_wp2_with fail
    rw [← Hw0.out]
    refine HM.out.mono ?_
    rintro e w1 ⟨rfl, hb⟩
    have Hb1 := Lib.hid (ext_trans Hb0.out hb)
    clear hb
    go_wp2
    go_ret2
    rw [HR.out]
    exact ⟨none, 0, rfl, Own.none_ _ _ _, Hb1.out⟩
  | true =>
    obtain ⟨⟨i1, i2, i3, i4⟩, i5⟩ := (isB_iff b).1 hi
    have HR : Hid (encR b = (encB b, 0)) := Lib.hid (by unfold encR; rw [hi]; rfl)
    have HL := Lib.hid (rowsTo_len b.lines i5)
    have H5 := Lib.hid i5
    have HE : Hid (encB b = sealB (numsB [b.first, (b.lines.length : Int)] ++ rowsTo b.lines b.lines.length)) := Lib.hid (by rw [rowsTo_all]; rfl)
    have HN2 : Hid ((numsB [b.first, (b.lines.length : Int)]).length ≤ 18) := Lib.hid (by
      have := numsTo_len [b.first, (b.lines.length : Int)] 2
      rw [show numsTo [b.first, (b.lines.length : Int)] 2 = numsB [b.first, (b.lines.length : Int)] from numsTo_all _] at this
      exact this)
    have hn64 : (b.lines.length : Int) ≤ 64 := by omega
    rw [hi] at HM
    unfold btV at HM ⊢
    clear hi hw0 hb0 hB0 h i5
    go_enter Tryd.func11, Tryd.ntmps11
    go_wp2_with fail
    rw [← Hw0.out]
    refine HM.out.mono ?_
    rintro e w1 ⟨rfl, hb⟩
    have Hb1 := Lib.hid hb
    have HB1 := Lib.hid (HB0.out.ext hb)
    clear hb HM h0 h1
    have h0 := HB1.out.cell 0
    have h1 := HB1.out.cell 1
    simp only [List.getElem?_toArray, List.getElem?_cons_zero, List.getElem?_cons_succ] at h0 h1
    obtain ⟨N, hN⟩ : ∃ N, numsB [b.first, (b.lines.length : Int)] = N := ⟨_, rfl⟩
    have HNN := Lib.hid hN
    rw [hN] at HE HN2
    clear hN
    go_wp2_with fail
    refine (refnums_any _ 2 2 [b.first, (b.lines.length : Int)] N _ rfl HNN.out (Rd.lit w1 #[.int .i64 b.first, .int .i64 (b.lines.length : Int)] _) (by
      intro v hv
      simp only [List.mem_cons, List.not_mem_nil, or_false] at hv
      rcases hv with rfl | rfl
      · exact H.out.int
      · exact ⟨by omega, by omega⟩) (by simp)).mono ?_
    rintro e w3 ⟨A3, c3, rfl, hn3, hb3⟩
    have Hb3 : Hid (Below w0.heap.size w0 w3) := Lib.hid (ext_trans (ext_alloc Hb1.out _) hb3)
    have HB3 := Lib.hid (HB0.out.ext Hb3.out)
    have Hn3 : Hid (New w0 w3 A3 c3 N) := Lib.hid (hn3.back (ext_alloc Hb1.out _).size)
    clear hn3 hb3 h0 h1
    go_wp2
    go_loopw [4, 5] (fun s i wr => ∃ (k : Nat) (ds : List UInt8) (A1 : Option Addr) (c1 : Nat), k ≤ b.lines.length ∧ i = .int .i64 (k : Int) ∧ s = .slice A1 ds.length c1 ∧ Hid (ds = N ++ rowsTo b.lines k) ∧ New w0 wr A1 c1 ds ∧ Below w0.heap.size w0 wr) (fun _ i _ => b.lines.length - (intOf i).toNat)
    case atStart => exact ⟨0, N, A3, c3, Nat.zero_le _, rfl, rfl, Lib.hid (by simp [rowsTo, rowsB]), Hn3.out, Hb3.out⟩
    case round =>
      obtain ⟨k, ds, A1, c1, hk, rfl, rfl, Hds, hn, hb⟩ := hrel
      have hB := HB0.out.ext hb
      have Hn := Lib.hid hn
      have HB := Lib.hid hB
      have Hb := Lib.hid hb
      have hdl : ds.length ≤ 18 + 265 * k := by
        rw [Hds.out, List.length_append]
        have := HL.out k
        have := HN2.out
        omega
      have h1 := hB.cell 1
      simp only [List.getElem?_toArray, List.getElem?_cons_zero, List.getElem?_cons_succ] at h1
      by_cases hlt : k < b.lines.length
      · have hki : (k : Int) < (b.lines.length : Int) := by omega
        obtain ⟨ad, hBa, hcell⟩ := rd_str (H.out.rd.ext (ext_trans Hb0.out hb)) hlt
        subst hBa
        have Hsn : Hid (N ++ rowsTo b.lines (k + 1) = (N ++ rowsTo b.lines k) ++ (dig b.lines[k].length ++ b.lines[k])) := Lib.hid (by rw [rowsTo_succ b.lines k hlt]; simp)
        have hs5 := H5.out _ (List.getElem_mem hlt)
        generalize b.lines[k] = s at *
        obtain ⟨Y, hY⟩ : ∃ Y, dig s.length ++ s = Y := ⟨_, rfl⟩
        have hyl : Y.length ≤ 265 := by
          have h2 := dig_len 9 s.length (by have : (128 : Nat) ^ 9 = 9223372036854775808 := rfl; omega) (by omega)
          rw [← hY, List.length_append]
          omega
        rw [hY] at Hsn
        have HY := Lib.hid hY
        obtain ⟨cc, wc, hcv, hcc, hrc, hbc, hzc⟩ := str_row wr s
        unfold strV at hcell
        have HC := Lib.hid (refbytes_any _ s.length cc s Y wc rfl hY hrc (by omega))
        have Hbc := Lib.hid hbc
        have hk1 : ds.length + Y.length ≤ maxLen := by unfold maxLen; omega
        have hk2 : (ds.length + Y.length) * 1 ≤ 140737488355328 := by omega
        clear hn hb hB hrc hbc hzc hcc hY hs5 hdl hyl
        go_wp2_with fail
        refine HC.out.mono ?_
        rintro e w4 ⟨A4, c4, rfl, hn4, hb4⟩
        have Hb4 := Lib.hid (ext_trans Hbc.out hb4)
        have Hn4 := Lib.hid hn4
        clear hn4 hb4
        go_wp2_with (at_builtin
                     refine wpList_app _ rfl (.tmp 23) (.tmp 30) _ rfl _ _ 1 Tryd.underlying26 info_u8 rfl A1 ds.length c1 (ds.map bv) rfl (by rw [List.length_map]) (Hn.out.ext Hb4.out) A4 Y.length c4 (Y.map bv) rfl (by rw [List.length_map]) Hn4.out.rd (bvs_one _) hk1 hk2 ?_
                     intro A5 c5 w5 hown5 honly5)
        go_roundw
        case rel =>
          obtain ⟨g1, g2⟩ := New.grow (ext_trans Hb.out Hb4.out) hown5 honly5
          exact ⟨k + 1, ds ++ Y, A5, c5, by omega, by go_num, by rw [List.length_append], Lib.hid (by rw [Hsn.out, Hds.out]), g1, g2⟩
        case measure => simp [intOf]; omega
      · obtain rfl : k = b.lines.length := by omega
        have hdm : ds.length ≤ 20000 := by omega
        have Hsd := Lib.hid hdm
        have hlt4 := sumOf_lt ds
        have HS := Lib.hid (refsum_any A1 ds.length c1 ds wr rfl hn.rd (by omega))
        have H4 := Lib.hid (four_any (sumOf ds) wr hlt4)
        have HEn : Hid (encB b = ds ++ lowB 4 (sumOf ds)) := Lib.hid (by rw [HE.out, ← Hds.out]; rfl)
        generalize sumOf ds = sm at *
        have hk1 : ds.length + 4 ≤ maxLen := by unfold maxLen; omega
        have hk2 : (ds.length + 4) * 1 ≤ 140737488355328 := by omega
        clear hn hb hB hdl hdm hlt4
        go_wp2_with fail
        refine HS.out.mono ?_
        rintro e w4 ⟨rfl, rfl⟩
        go_wp2_with fail
        refine H4.out.mono ?_
        rintro e w5 ⟨A5, c5, rfl, hn5, hb5⟩
        have Hn5 := Lib.hid hn5
        have Hb5 := Lib.hid hb5
        clear hn5 hb5
        have hl4 : (lowB 4 sm).length = 4 := lowB_length 4 sm
        have Hl4 := Lib.hid hl4
        generalize lowB 4 sm = q at *
        clear hl4
        go_wp2_with (at_builtin
                     refine wpList_app _ rfl (.tmp 32) (.tmp 35) _ rfl _ _ 1 Tryd.underlying26 info_u8 rfl A1 ds.length c1 (ds.map bv) rfl (by rw [List.length_map]) (Hn.out.ext Hb5.out) A5 4 c5 (q.map bv) rfl (by rw [List.length_map]; exact Hl4.out.symm) Hn5.out.rd (bvs_one _) hk1 hk2 ?_
                     intro A6 c6 w6 hown6 honly6)
        go_ret2
        obtain ⟨g1, g2⟩ := New.grow (ext_trans Hb.out Hb5.out) hown6 honly6
        rw [HR.out]
        refine ⟨A6, c6, ?_, ?_, ext_trans Hb0.out g2⟩
        · show _ = Ending.returned (.tuple #[.slice A6 (encB b).length c6, .int .i64 0])
          rw [HEn.out, List.length_append, Hl4.out]
          rfl
        · show New w w6 A6 c6 (encB b)
          rw [HEn.out]
          exact g1.back Hb0.out.size
end Go.Proofs.YtbokimeojhkgmaaDoor

/-
  Bytes as a string, as the laws compare them. No statement of the seat is proved here.
-/
namespace Go.Proofs.YtbokimeojhkgmaaDoor
open Go Go.RowKit

theorem conv_bytes (w : World) (A : Option Addr) (n c : Nat) (bs : List UInt8) (hn : n = bs.length) (hr : Rd w A (bs.map bv)) :
    (convert 26 9 (.slice A n c)).run Tryd.prog w = .ok (.string ⟨bs.toArray⟩) w := by
  subst hn
  rcases A with _ | ad
  · have hnil : bs = [] := by
      rcases bs with _ | ⟨b, r⟩
      · rfl
      · obtain ⟨ad, h0, _⟩ := hr 0 _ rfl
        cases h0
    subst hnil
    exact Lib.run_convert_nil_bytes w _ _ 5 c Tryd.underlying26 Tryd.underlying5 Tryd.underlying9
  · refine run_convert_bytes_back w _ _ 5 ad c bs Tryd.underlying26 Tryd.underlying5 Tryd.underlying9 (fun j hj => ?_)
    obtain ⟨ad', h1, h2⟩ := hr j (bv bs[j]) (by simp [hj])
    injection h1 with h1
    subst h1
    exact h2
end Go.Proofs.YtbokimeojhkgmaaDoor

/-
  The table of package octet out of 'laid', wherever it stands in the list. No statement of the seat is proved here.
-/
namespace Go.Proofs.YtbokimeojhkgmaaDoor
open Go Go.RowKit

theorem cells_u32 : Tryd.prog.cellsOf 63 = 1 := by kernel_rfl
theorem cells_tab : Tryd.prog.cellsOf 98 = 16 := by kernel_rfl
theorem gTab : Tryd.prog.globalNamed "winnower/octet.crcSteps" = some 0 := by kernel_rfl
theorem gTabType : (Tryd.prog.globals[0]?).map (·.type) = some 98 := by kernel_rfl


theorem tab_of_head {W : World} {rest : List (String × DataW Unit)} (h : laidMet Tryd.prog (("winnower/octet.crcSteps", Rows.laid_winnower_octet_crcSteps) :: rest) W) : Tab W := by
  have h1 : Lib.TabIs Tryd.prog W "winnower/octet.crcSteps" .u32 [0, 498536548, 997073096, 651767980, 1994146192, 1802195444, 1303535960, 1342533948, 3988292384, 4027552580, 3604390888, 3412177804, 2607071920, 2262029012, 2685067896, 3183342108] :=
    Lib.tabIs_of_head (rest := rest) gTab gTabType Tryd.underlying98 Tryd.underlying63 cells_u32 cells_tab h
  intro i hi
  have h2 := h1.cell gTab i (by simpa using hi)
  rw [h2]
  match i, hi with
  | 0, _ => rfl
  | 1, _ => rfl
  | 2, _ => rfl
  | 3, _ => rfl
  | 4, _ => rfl
  | 5, _ => rfl
  | 6, _ => rfl
  | 7, _ => rfl
  | 8, _ => rfl
  | 9, _ => rfl
  | 10, _ => rfl
  | 11, _ => rfl
  | 12, _ => rfl
  | 13, _ => rfl
  | 14, _ => rfl
  | 15, _ => rfl
  | n + 16, h => omega
end Go.Proofs.YtbokimeojhkgmaaDoor

/-
  A batch as an argument; WalEncodes' walk. No statement of the seat is proved in the part ahead of its closing.
-/
namespace Go.Proofs.YtbokimeojhkgmaaDoor
open Go Go.ChangeShapes Go.WideShapes Go.ChangeAt Go.RowKit
set_option maxRecDepth 100000

section
variable {H : Type} {enc : TypeId × Value → H} {W : World} {base : Nat}
theorem arg_batch {v : Value} {d : DataW H} {p : List MemPlace} (hv : Value.okWide Tryd.prog W .any base 24 v) (h : DataW.Trod enc Tryd.prog W 0 (fun _ => true) true 24 v d p) :
    ∃ (b : Bt) (B : Option Addr) (c : Nat), v = btV b B c ∧ (isInt b.first ∧ b.lines.length ≤ c ∧ c ≤ maxLen ∧ (B = none → c = 0) ∧ Rd W B (b.lines.map strV)) ∧ Told 24 d (lensB b) (bulkB b) := by
  obtain ⟨cs, rfl, hsz⟩ := okWide_struct Tryd.underlying24 hv
  rw [cells_bt] at hsz
  obtain ⟨fuel, hf⟩ := h
  obtain ⟨b, ⟨h0, B, c, e, h1, h2, h3, h4⟩, ht⟩ := read_bt (by simp [Value.cells, hsz]) hf
  refine ⟨b, B, c, ?_, ⟨h0, h1, h2, h3, h4⟩, ht⟩
  unfold btV
  have : cs = #[.int .i64 b.first, .slice B b.lines.length c] := by
    apply Array.toList_inj.1
    simpa [Value.cells] using e
  rw [this]
end
theorem BtIn.of {w : World} {b : Bt} {B : Option Addr} {c : Nat} (h : isInt b.first ∧ b.lines.length ≤ c ∧ c ≤ maxLen ∧ (B = none → c = 0) ∧ Rd w B (b.lines.map strV)) (hz : ∀ n ∈ lensB b, n ≤ 140737488355328) : BtIn w b B c :=
  ⟨h.1, h.2.1, h.2.2.1, h.2.2.2.2, fun s hs => by have := hz s.length (List.mem_map.2 ⟨s, hs, rfl⟩); unfold maxLen; omega⟩
theorem BtIn.row {w : World} {b : Bt} {B : Option Addr} {c : Nat} (h : isInt b.first ∧ b.lines.length ≤ c ∧ c ≤ maxLen ∧ (B = none → c = 0) ∧ Rd w B (b.lines.map strV)) {T : TypeId} {g : Nat} (hb : Blk w g T #[.int .i64 b.first, .slice B b.lines.length c]) : RowR IsBt 2 w (some ⟨g, 0, none⟩) [b] := fun k hk => by
  have hk0 : k = 0 := by simpa using hk
  subst hk0
  refine ⟨g, 0, [.int .i64 b.first, .slice B b.lines.length c], rfl, rfl, fun j u hu => ?_, ⟨h.1, B, c, rfl, h.2.1, h.2.2.1, h.2.2.2.1, h.2.2.2.2⟩⟩
  rw [Nat.zero_mul, Nat.zero_add, hb.cell]
  simpa using hu
/-- what a law asks of a batch that comes in: whether it is long -/
theorem long1b_any {w : World} {b : Bt} {B : Option Addr} {c : Nat} (h : isInt b.first ∧ b.lines.length ≤ c ∧ c ≤ maxLen ∧ (B = none → c = 0) ∧ Rd w B (b.lines.map strV)) (hz : ∀ n ∈ lensB b, n ≤ 140737488355328) {g : Nat} {T : TypeId} (hb : Blk w g T #[.int .i64 b.first, .slice B b.lines.length c]) :
    Calls Tryd.prog 9 #[.slice (some ⟨g, 0, none⟩) 1 1] w fun e w' => e = .returned (.bool (decide (9000 < cntL b.lines))) ∧ w = w' := by
  have := long_any (some ⟨g, 0, none⟩) 1 [b] (BtIn.row h hb) (by unfold maxLen; simp) (fun a ha s hs => by
    simp at ha
    subst ha
    exact hz _ (List.mem_map.2 ⟨s, hs, rfl⟩))
  have e : cntB [b] = cntL b.lines := by simp [cntB]
  rw [e] at this
  exact this

namespace WalEncodes
set_option maxHeartbeats 8000000 in
theorem encodes_any (b : Bt) (B : Option Addr) (c : Nat) (w : World) (ht : Tab w) (h : isInt b.first ∧ b.lines.length ≤ c ∧ c ≤ maxLen ∧ (B = none → c = 0) ∧ Rd w B (b.lines.map strV)) (hz : ∀ n ∈ lensB b, n ≤ 140737488355328) :
    Calls Tryd.prog 3 #[btV b B c] w fun e w' => e = .returned (.bool true) ∧ Below w.heap.size w w' := by
  obtain ⟨w1, hw1⟩ : ∃ w1, w1 = w.alloc (.cells #[.int .i64 b.first, .slice B b.lines.length c] 24) := ⟨_, rfl⟩
  have hb1 : Below w.heap.size w w1 := by rw [hw1]; exact (Below.refl _ _).alloc (Nat.le_refl _) _
  have hB1 : Blk w1 w.heap.size 24 #[.int .i64 b.first, .slice B b.lines.length c] := by rw [hw1]; exact Blk.new _ _ _
  obtain ⟨w2, hw2⟩ : ∃ w2, w2 = w1.alloc (.cells #[.int .i64 b.first, .slice B b.lines.length c] 24) := ⟨_, rfl⟩
  have hb2 : Below w.heap.size w w2 := by rw [hw2]; exact ext_alloc hb1 _
  have hB2 : Blk w2 w.heap.size 24 #[.int .i64 b.first, .slice B b.lines.length c] := by rw [hw2]; exact hB1.alloc _
  have hN2 : Blk w2 w1.heap.size 24 #[.int .i64 b.first, .slice B b.lines.length c] := by rw [hw2]; exact Blk.new _ _ _
  have h2 : isInt b.first ∧ b.lines.length ≤ c ∧ c ≤ maxLen ∧ (B = none → c = 0) ∧ Rd w2 B (b.lines.map strV) := ⟨h.1, h.2.1, h.2.2.1, h.2.2.2.1, h.2.2.2.2.ext hb2⟩
  have HL := Lib.hid (long1b_any h2 hz hN2)
  have hs1 : w1.heap.size = w.heap.size + 1 := by rw [hw1, World.size_alloc]
  rw [hs1] at HL
  have HI := Lib.hid (BtIn.of h hz)
  have HB2 := Lib.hid hB2
  have Hb2 := Lib.hid hb2
  have Hw1 := Lib.hid hw1
  have Hw2 := Lib.hid hw2
  have Ht := Lib.hid ht
  have HE := Lib.hid (fun W (hb : Below w.heap.size w W) => encode_any b B c W (Ht.out.ext hb) (HI.out.ext hb))
  have HF := Lib.hid (fun W (hb : Below w.heap.size w W) => rencode_any b B c W (HI.out.ext hb))
  have h0 := hB1.cell 0
  have h1 := hB1.cell 1
  simp only [List.getElem?_toArray, List.getElem?_cons_zero, List.getElem?_cons_succ] at h0 h1
  rw [hw1] at h0 h1
  unfold btV at HE HF ⊢
  generalize decide (9000 < cntL b.lines) = v at *
  generalize encR b = R at *
  obtain ⟨p, er⟩ := R
  simp only at HE HF
  clear h h2 hz hb1 hb2 hB1 hB2 hN2 hw1 hw2 ht hs1
  go_enter Tryd.func3, Tryd.ntmps3
  go_wp2_with fail
  rw [← Hw1.out, ← Hw2.out]
  refine HL.out.mono ?_
  rintro e w' ⟨rfl, rfl⟩
  clear h0 h1 HL
  cases v with
  | true =>
    go_wp2
    go_ret
    exact ⟨rfl, Hb2.out⟩
  | false =>
    have h0 := HB2.out.cell 0
    have h1 := HB2.out.cell 1
    simp only [List.getElem?_toArray, List.getElem?_cons_zero, List.getElem?_cons_succ] at h0 h1
    go_wp2_with fail
    refine (HE.out _ Hb2.out).mono ?_
    rintro e w3 ⟨A3, c3, rfl, hn3, hb3⟩
    have HB3 := Lib.hid (HB2.out.ext hb3)
    have Hb3 := Lib.hid (ext_trans Hb2.out hb3)
    have Hn3 := Lib.hid hn3
    clear hn3 hb3 h0 h1
    have h0 := HB3.out.cell 0
    have h1 := HB3.out.cell 1
    simp only [List.getElem?_toArray, List.getElem?_cons_zero, List.getElem?_cons_succ] at h0 h1
    go_wp2_with fail
    refine (HF.out _ Hb3.out).mono ?_
    rintro e w4 ⟨A4, c4, rfl, hn4, hb4⟩
    have hcv1 := conv_bytes w4 A3 p.length c3 p rfl (Hn3.out.rd.ext hb4)
    have hcv2 := conv_bytes w4 A4 p.length c4 p rfl hn4.rd
    have Hb4 := Lib.hid (ext_trans Hb3.out hb4)
    clear hn4 hb4 h0 h1
    obtain ⟨Z, hZ⟩ : ∃ Z : ByteArray, (⟨p.toArray⟩ : ByteArray) = Z := ⟨_, rfl⟩
    rw [hZ] at hcv1 hcv2
    clear hZ
    go_wp2_with fail
    refine (known20_any _).mono ?_
    rintro e w5 ⟨rfl, hb⟩
    have Hb5 := Lib.hid (ext_trans Hb4.out hb)
    clear hb
    go_wp2
    go_ret
    exact ⟨rfl, Hb5.out⟩
end WalEncodes
theorem tab_of_six {W : World} (h : laidMetH Tryd.prog [("math/bits.deBruijn32tab", Rows.laid_math_bits_deBruijn32tab), ("math/bits.deBruijn64tab", Rows.laid_math_bits_deBruijn64tab), ("internal/strconv.uint64pow10", Rows.laid_internal_strconv_uint64pow10), ("winnower/octet.crcSteps", Rows.laid_winnower_octet_crcSteps), ("strconv.ErrRange", Rows.laid_strconv_ErrRange), ("strconv.ErrSyntax", Rows.laid_strconv_ErrSyntax)] W) : Tab W :=
  tab_of_head (laidMet.tail (laidMet.tail (laidMet.tail h)))
end Go.Proofs.YtbokimeojhkgmaaDoor

/-
  bytes.Equal. No statement of the seat is proved here.
-/
namespace Go.Proofs.YtbokimeojhkgmaaDoor
open Go Go.RowKit

theorem eqb_any (A B : Option Addr) (c d : Nat) (xs ys : List UInt8) (w : World) (hx : Rd w A (xs.map bv)) (hy : Rd w B (ys.map bv)) :
    Calls Tryd.prog 54 #[.slice A xs.length c, .slice B ys.length d] w fun e w' => e = .returned (.bool (decide (xs = ys))) ∧ w = w' := by
  have h1 := conv_bytes w A xs.length c xs rfl hx
  have h2 := conv_bytes w B ys.length d ys rfl hy
  by_cases hxy : xs = ys
  · subst hxy
    generalize (⟨xs.toArray⟩ : ByteArray) = Z at h1 h2
    go_enter Tryd.func54, Tryd.ntmps54
    go_wp2
    go_ret
    exact ⟨by simp, rfl⟩
  · have hne : ((⟨xs.toArray⟩ : ByteArray).toList == (⟨ys.toArray⟩ : ByteArray).toList) = false := by
      rw [ByteArray.toList_mk, ByteArray.toList_mk]
      simpa using hxy
    have hfin : decide (xs = ys) = false := by simp [hxy]
    have Hfin := Lib.hid hfin
    clear hfin hxy
    generalize (⟨xs.toArray⟩ : ByteArray) = Z at *
    generalize (⟨ys.toArray⟩ : ByteArray) = Y at *
    go_enter Tryd.func54, Tryd.ntmps54
    go_wp2
    go_ret
    exact ⟨by rw [Hfin.out]; rfl, rfl⟩
end Go.Proofs.YtbokimeojhkgmaaDoor

/-
  exact's Taken at a batch. No statement of the seat is proved here.
-/
namespace Go.Proofs.YtbokimeojhkgmaaDoor
open Go Go.RowKit
set_option maxRecDepth 100000

theorem below_set {a w : World} {p : Addr} (h : Below a.heap.size a w) (hp : a.heap.size ≤ p.block) (v : Value) : Below a.heap.size a (w.setCell p v) := h.setCell hp v
open Classical in
/-- what is taken: it, or none -/
noncomputable def tak (p : List UInt8) (b : Bt) : Bt × Int := if AreB p b then (b, 0) else (⟨0, []⟩, 2)
theorem tak_yes {p : List UInt8} {b : Bt} (h : AreB p b) : tak p b = (b, 0) := if_pos h
theorem tak_no {p : List UInt8} {b : Bt} (h : ¬ AreB p b) : tak p b = (⟨0, []⟩, 2) := if_neg h

theorem BtIn.none_ (w : World) : BtIn w ⟨0, []⟩ none 0 := ⟨⟨by simp, by simp⟩, Nat.le_refl _, Nat.zero_le _, Rd.nil _ _, by simp⟩
set_option maxHeartbeats 8000000 in
theorem taken_any (p : List UInt8) (A : Option Addr) (ca : Nat) (b : Bt) (B : Option Addr) (c : Nat) (w : World) (ht : Tab w) (hA : Rd w A (p.map bv)) (hp : p.length ≤ 1000000) (h : BtIn w b B c) :
    Calls Tryd.prog 36 #[.slice A p.length ca, btV b B c, .func (.func 10) #[] #[]] w fun e w' => ∃ B' c', e = .returned (.tuple #[btV (tak p b).1 B' c', .int .i64 (tak p b).2]) ∧ BtIn w' (tak p b).1 B' c' ∧ ((tak p b).1.lines = [] ∨ B' = B) ∧ Below w.heap.size w w' := by
  obtain ⟨w1, hw1⟩ : ∃ w1, w1 = w.alloc (.cells #[.int .i64 b.first, .slice B b.lines.length c] 24) := ⟨_, rfl⟩
  have hB1 : Blk w1 w.heap.size 24 #[.int .i64 b.first, .slice B b.lines.length c] := by rw [hw1]; exact Blk.new _ _ _
  have hb1 : Below w.heap.size w w1 := by rw [hw1]; exact (Below.refl _ _).alloc (Nat.le_refl _) _
  have hs1 : w1.heap.size = w.heap.size + 1 := by rw [hw1, World.size_alloc]
  obtain ⟨w2, hw2⟩ : ∃ w2, w2 = w1.alloc (.cells #[.int .i64 0, .slice none 0 0] 24) := ⟨_, rfl⟩
  have hB2 : Blk w2 w.heap.size 24 #[.int .i64 b.first, .slice B b.lines.length c] := by rw [hw2]; exact hB1.alloc _
  have hR2 : Blk w2 (w.heap.size + 1) 24 #[.int .i64 0, .slice none 0 0] := by rw [hw2, ← hs1]; exact Blk.new _ _ _
  have hb2 : Below w.heap.size w w2 := by rw [hw2]; exact ext_alloc hb1 _
  have Hb2 := Lib.hid hb2
  have HB2 := Lib.hid hB2
  have HR2 := Lib.hid hR2
  have Hw1 := Lib.hid hw1
  have Hw2 := Lib.hid hw2
  have HE := Lib.hid (encode_any b B c w2 (ht.ext hb2) (h.ext hb2))
  have HA := Lib.hid hA
  have H := Lib.hid h
  have h0 := hB2.cell 0
  have h1 := hB2.cell 1
  simp only [List.getElem?_toArray, List.getElem?_cons_zero, List.getElem?_cons_succ] at h0 h1
  rw [hw2, hw1] at h0 h1
  obtain ⟨R, hR⟩ : ∃ R, encR b = R := ⟨_, rfl⟩
  obtain ⟨q, er⟩ := R
  rw [hR] at HE
  simp only at HE
  have hcase : (er = 1 ∧ tak p b = (⟨0, []⟩, 2)) ∨ (er = 0 ∧ q ≠ p ∧ tak p b = (⟨0, []⟩, 2)) ∨ (er = 0 ∧ q = p ∧ tak p b = (b, 0)) := by
    unfold encR at hR
    cases hi : isB b with
    | false =>
      rw [hi] at hR
      simp at hR
      exact .inl ⟨hR.2.symm, tak_no (fun h => by rw [h.1] at hi; cases hi)⟩
    | true =>
      rw [hi] at hR
      simp at hR
      by_cases he : q = p
      · exact .inr (.inr ⟨hR.2.symm, he, tak_yes ⟨hi, hR.1.trans he⟩⟩)
      · exact .inr (.inl ⟨hR.2.symm, he, tak_no (fun h => he (hR.1.symm.trans h.2))⟩)
  unfold btV at HE ⊢
  clear hB1 hb1 hB2 hR2 hb2 hw1 hw2 ht hA h hR hs1
  rcases hcase with ⟨rfl, ht⟩ | ⟨rfl, hne, ht⟩ | ⟨rfl, he, ht⟩
  · have HT := Lib.hid ht
    clear ht
    go_enter Tryd.func36, Tryd.ntmps36
    go_wp2_with fail
    rw [← Hw1.out, ← Hw2.out]
    refine HE.out.mono ?_
    rintro e w3 ⟨A3, c3, rfl, hn3, hb3⟩
    have HR3 := Lib.hid (HR2.out.ext hb3)
    have Hb3 := Lib.hid (ext_trans Hb2.out hb3)
    clear h0 h1 hn3 hb3
    have hX := HR3.out.alloc (.cells #[.int .i64 0, .slice none 0 0] 24)
    have k0 := hX.cell 0
    have k1 := hX.cell 1
    have f0 := hX.free 0
    have f1 := hX.free 1
    simp only [List.getElem?_toArray, List.getElem?_cons_zero, List.getElem?_cons_succ] at k0 k1
    have hY := hX.put 0 (.int .i64 0)
    have m0 := hY.cell 0
    have m1 := (hY.put 1 (.slice none 0 0)).cell 1
    simp only [List.getElem?_toArray, List.setIfInBounds_toArray, List.set_cons_zero, List.set_cons_succ, List.getElem?_cons_zero, List.getElem?_cons_succ] at m0 m1
    clear hX hY
    go_wp2
    refine bodyPost_ret (v := .tuple #[.agg #[.int .i64 0, .slice none 0 0], .int .i64 2]) (by simp [results, Tryd.results36, go_sem, m0, m1]) rfl ?_
    rw [HT.out]
    refine ⟨none, 0, rfl, BtIn.none_ _, .inl rfl, ?_⟩
    exact below_set (below_set (ext_alloc Hb3.out _) (by show _ ≤ w.heap.size + 1; omega) _) (by show _ ≤ w.heap.size + 1; omega) _
  · have HT := Lib.hid ht
    have hd : decide (q = p) = false := decide_eq_false hne
    clear ht hne
    go_enter Tryd.func36, Tryd.ntmps36
    go_wp2_with fail
    rw [← Hw1.out, ← Hw2.out]
    refine HE.out.mono ?_
    rintro e w3 ⟨A3, c3, rfl, hn3, hb3⟩
    have HR3 := Lib.hid (HR2.out.ext hb3)
    have Hb3 := Lib.hid (ext_trans Hb2.out hb3)
    have HQ := Lib.hid (eqb_any A3 A c3 ca q p w3 hn3.rd (HA.out.ext Hb3.out))
    rw [hd] at HQ
    clear h0 h1 hn3 hb3 hd
    go_wp2_with fail
    refine HQ.out.mono ?_
    rintro e w' ⟨rfl, rfl⟩
    have hX := HR3.out.alloc (.cells #[.int .i64 0, .slice none 0 0] 24)
    have k0 := hX.cell 0
    have k1 := hX.cell 1
    have f0 := hX.free 0
    have f1 := hX.free 1
    simp only [List.getElem?_toArray, List.getElem?_cons_zero, List.getElem?_cons_succ] at k0 k1
    have hY := hX.put 0 (.int .i64 0)
    have m0 := hY.cell 0
    have m1 := (hY.put 1 (.slice none 0 0)).cell 1
    simp only [List.getElem?_toArray, List.setIfInBounds_toArray, List.set_cons_zero, List.set_cons_succ, List.getElem?_cons_zero, List.getElem?_cons_succ] at m0 m1
    clear hX hY
    go_wp2
    refine bodyPost_ret (v := .tuple #[.agg #[.int .i64 0, .slice none 0 0], .int .i64 2]) (by simp [results, Tryd.results36, go_sem, m0, m1]) rfl ?_
    rw [HT.out]
    refine ⟨none, 0, rfl, BtIn.none_ _, .inl rfl, ?_⟩
    exact below_set (below_set (ext_alloc Hb3.out _) (by show _ ≤ w.heap.size + 1; omega) _) (by show _ ≤ w.heap.size + 1; omega) _
  · have HT := Lib.hid ht
    subst he
    clear ht
    go_enter Tryd.func36, Tryd.ntmps36
    go_wp2_with fail
    rw [← Hw1.out, ← Hw2.out]
    refine HE.out.mono ?_
    rintro e w3 ⟨A3, c3, rfl, hn3, hb3⟩
    have HR3 := Lib.hid (HR2.out.ext hb3)
    have HB3 := Lib.hid (HB2.out.ext hb3)
    have Hb3 := Lib.hid (ext_trans Hb2.out hb3)
    have HQ := Lib.hid (eqb_any A3 A c3 ca q q w3 hn3.rd (HA.out.ext Hb3.out))
    rw [show decide (q = q) = true from decide_eq_true rfl] at HQ
    clear h0 h1 hn3 hb3
    go_wp2_with fail
    refine HQ.out.mono ?_
    rintro e w' ⟨rfl, rfl⟩
    have hX := HR3.out
    have k0 := hX.cell 0
    have k1 := hX.cell 1
    have f0 := hX.free 0
    have f1 := hX.free 1
    have h0 := HB3.out.cell 0
    have h1 := HB3.out.cell 1
    simp only [List.getElem?_toArray, List.getElem?_cons_zero, List.getElem?_cons_succ] at k0 k1 h0 h1
    have hY := hX.put 0 (.int .i64 b.first)
    have m0 := hY.cell 0
    have m1 := (hY.put 1 (.slice B b.lines.length c)).cell 1
    simp only [List.getElem?_toArray, List.setIfInBounds_toArray, List.set_cons_zero, List.set_cons_succ, List.getElem?_cons_zero, List.getElem?_cons_succ] at m0 m1
    clear hX hY
    have Hbf : Hid (Below w.heap.size w ((w3.setCell ⟨w.heap.size + 1, 0, none⟩ (.int .i64 b.first)).setCell ⟨w.heap.size + 1, 1, none⟩ (.slice B b.lines.length c))) := Lib.hid (below_set (below_set Hb3.out (by show _ ≤ w.heap.size + 1; omega) _) (by show _ ≤ w.heap.size + 1; omega) _)
    go_wp2
    refine bodyPost_ret (v := .tuple #[.agg #[.int .i64 b.first, .slice B b.lines.length c], .int .i64 0]) (by simp [results, Tryd.results36, go_sem, m0, m1]) rfl ?_
    rw [HT.out]
    exact ⟨B, c, rfl, H.out.ext Hbf.out, .inr rfl, Hbf.out⟩
end Go.Proofs.YtbokimeojhkgmaaDoor
