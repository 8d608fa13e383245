/-
  Texts of this claim, joined (part 10): contracts and lemmas that the last text goes by. No statement of the seat is proved here.
-/
import Derived.Test.YtpjgkacekelkdaaGreatDoorAll9
import Derived.Test.YtpjgkacekelkdaaGreatDoorAll2
import Derived.Test.YtpjgkacekelkdaaGreatDoorAll3
set_option linter.unusedVariables false
set_option linter.unusedSimpArgs false
/-
  May a segment be (program). No statement of the seat is proved here.
-/
namespace Go.Proofs.YtpjgkacekelkdaaGreatDoor
open Go Go.RowKit
set_option maxRecDepth 100000

theorem longV_any (s : List UInt8) (w : World) (hs : s.length ≤ maxLen) : Calls Tryz.prog 61 #[strV s] w fun e w' => e = .returned (.bool (longV s)) ∧ w = w' := by
  unfold maxLen at hs
  unfold strV
  have hsz : (⟨s.toArray⟩ : ByteArray).size = s.length := rfl
  obtain ⟨Z, hZ⟩ : ∃ Z : ByteArray, (⟨s.toArray⟩ : ByteArray) = Z := ⟨_, rfl⟩
  rw [hZ] at hsz ⊢
  have hd : Hid (longV s = decide ((256 : Int) < (Z.size : Int))) := Lib.hid (by unfold longV; rw [hsz]; rw [decide_eq_decide]; omega)
  clear hZ hsz
  go_enter Tryz.func61, Tryz.ntmps61
  go_wp2
  go_ret
  exact ⟨by rw [hd.out]; rfl, rfl⟩
/-- where the first is -/
def idxV (l : List (List UInt8)) : Int := match l.findIdx? longV with | some k => (k : Int) | none => -1
theorem idxV_none {l : List (List UInt8)} (h : ∀ s ∈ l, longV s = false) : idxV l = -1 := by
  unfold idxV
  rw [List.findIdx?_eq_none_iff.2 h]
theorem idxV_some {l : List (List UInt8)} {k : Nat} (hk : k < l.length) (h1 : longV l[k] = true) (h2 : ∀ j (hj : j < k), longV (l[j]'(by omega)) = false) : idxV l = (k : Int) := by
  unfold idxV
  rw [List.findIdx?_eq_some_iff_getElem.2 ⟨hk, h1, fun j hj => by simp [h2 j hj]⟩]
theorem idxV_any (l : List (List UInt8)) : decide ((0 : Int) ≤ idxV l) = l.any longV := by
  unfold idxV
  cases h : l.findIdx? longV with
  | none =>
    rw [List.findIdx?_eq_none_iff] at h
    have : l.any longV = false := by rw [List.any_eq_false]; intro x hx; simp [h x hx]
    rw [this]; rfl
  | some k =>
    rw [List.findIdx?_eq_some_iff_getElem] at h
    obtain ⟨hk, h1, _⟩ := h
    have : l.any longV = true := List.any_eq_true.2 ⟨l[k], List.getElem_mem hk, h1⟩
    rw [this]
    exact decide_eq_true (by simp)

set_option maxHeartbeats 2000000 in
theorem indexV_any (A : Option Addr) (c : Nat) (l : List (List UInt8)) (w : World) (hA : Rd w A (l.map strV)) (hl : l.length ≤ 1000000) (hs : ∀ s ∈ l, s.length ≤ maxLen) :
    Calls Tryz.prog 86 #[.slice A l.length c, .func (.func 61) #[] #[]] w fun e w' => e = .returned (.int .i64 (idxV l)) ∧ w = w' := by
  have hli : (l.length : Int) ≤ 1000000 := by omega
  go_enter Tryz.func86, Tryz.ntmps86
  go_wp2
  go_loop [8] (fun i => ∃ k : Nat, k ≤ l.length ∧ i = .int .i64 (k : Int) ∧ ∀ j (hj : j < l.length), j < k → longV l[j] = false) (fun i => l.length - (intOf i).toNat)
  case atStart => exact ⟨0, Nat.zero_le _, rfl, fun j _ h => absurd h (by omega)⟩
  case round =>
    obtain ⟨k, hk, rfl, hno⟩ := hrel
    have Hno := Lib.hid hno
    by_cases hlt : k < l.length
    · have hki : (k : Int) < (l.length : Int) := by omega
      obtain ⟨ad, rfl, hcell⟩ := rd_str hA hlt
      have HL := Lib.hid (longV_any l[k] w (hs _ (List.getElem_mem hlt)))
      unfold strV at hcell HL
      obtain ⟨Z, hZ⟩ : ∃ Z : ByteArray, (⟨l[k].toArray⟩ : ByteArray) = Z := ⟨_, rfl⟩
      rw [hZ] at hcell HL
      have HI : Hid (longV l[k] = true → idxV l = (k : Int)) := Lib.hid (fun h => idxV_some hlt h (fun j hj => hno j (by omega) hj))
      have HF : Hid (longV l[k] = false → ∀ j (hj : j < l.length), j < k + 1 → longV l[j] = false) := Lib.hid (fun h j hj hj2 => by
        rcases Nat.lt_succ_iff_lt_or_eq.1 hj2 with h3 | rfl
        · exact hno j hj h3
        · exact h)
      clear hZ hno
      generalize longV l[k] = v at *
      go_wp2_with fail
      refine HL.out.mono ?_
      rintro e w' ⟨rfl, rfl⟩
      cases v with
      | true =>
        have Hi := Lib.hid (HI.out rfl)
        go_wp2
        go_ret
        exact ⟨by rw [Hi.out]; rfl, rfl⟩
      | false =>
        have Hf := Lib.hid (HF.out rfl)
        clear HF HI
        go_wp2
        go_round
        case rel => exact ⟨k + 1, by omega, by go_num, Hf.out⟩
        case measure => simp [intOf]; omega
    · obtain rfl : k = l.length := by omega
      have hi : idxV l = -1 := idxV_none (fun s hs => by
        obtain ⟨j, hj, rfl⟩ := List.mem_iff_getElem.1 hs
        exact hno j hj hj)
      have Hi := Lib.hid hi
      clear hno hi
      go_wp2
      go_ret
      exact ⟨by rw [Hi.out]; rfl, rfl⟩
theorem containsV_any (A : Option Addr) (c : Nat) (l : List (List UInt8)) (w : World) (hA : Rd w A (l.map strV)) (hl : l.length ≤ 1000000) (hs : ∀ s ∈ l, s.length ≤ maxLen) :
    Calls Tryz.prog 47 #[.slice A l.length c, .func (.func 61) #[] #[]] w fun e w' => e = .returned (.bool (l.any longV)) ∧ w = w' := by
  have HI := Lib.hid (indexV_any A c l w hA hl hs)
  have Hd := Lib.hid (idxV_any l)
  generalize idxV l = v at *
  go_enter Tryz.func47, Tryz.ntmps47
  go_wp2_with fail
  refine HI.out.mono ?_
  rintro e w' ⟨rfl, rfl⟩
  go_wp2
  go_ret
  exact ⟨by rw [← Hd.out]; rfl, rfl⟩


set_option maxHeartbeats 4000000 in
theorem wrongA_any (l : Ln) (B : Option Addr) (c : Nat) (w : World) (h : LnIn w l B c) (hs : ∀ v ∈ l.vars, v.length ≤ maxLen) :
    Calls Tryz.prog 29 #[lnV l B c] w fun e w' => e = .returned (.bool (wrongG l)) ∧ Below w.heap.size w w' := by
  have hx : Below w.heap.size w (w.alloc (.cells #[.int .i64 l.id, .slice B l.vars.length c] 47)) := (Below.refl _ _).alloc (Nat.le_refl _) _
  have hl := Nat.le_trans h.le h.cap
  unfold maxLen at hl
  have hli : (l.vars.length : Int) ≤ 9223372036854775807 := by omega
  obtain ⟨i1, i2⟩ := h.int
  have HC := Lib.hid (fun (hn : l.vars.length ≤ 64) => containsV_any B c l.vars _ (h.rd.ext hx) (by omega) hs)
  have Hx := Lib.hid hx
  have HB : Hid (wrongG l = (decide (l.id < 0) || (decide (64 ≤ l.id) || (decide (64 < l.vars.length) || l.vars.any longV)))) := Lib.hid rfl
  unfold lnV
  generalize wrongG l = r at *
  generalize l.vars.any longV = q at *
  generalize l.id = f at *
  generalize l.vars.length = n at *
  clear hx hl h hs
  by_cases h1 : f < 0
  · have d1 : decide (f < 0) = true := decide_eq_true h1
    have Hr : Hid (r = true) := Lib.hid (by rw [HB.out, d1]; rfl)
    clear HB HC h1
    go_enter Tryz.func29, Tryz.ntmps29
    go_wp2
    go_ret
    exact ⟨by rw [Hr.out]; rfl, Hx.out⟩
  · have d1 : decide (f < 0) = false := decide_eq_false h1
    by_cases h2 : 64 ≤ f
    · have d2 : decide (64 ≤ f) = true := decide_eq_true h2
      have Hr : Hid (r = true) := Lib.hid (by rw [HB.out, d1, d2]; rfl)
      clear HB HC h1 h2
      go_enter Tryz.func29, Tryz.ntmps29
      go_wp2
      go_ret
      exact ⟨by rw [Hr.out]; rfl, Hx.out⟩
    · have d2 : decide (64 ≤ f) = false := decide_eq_false h2
      by_cases h3 : 64 < n
      · have d3 : decide ((64 : Int) < (n : Int)) = true := decide_eq_true (by omega)
        have Hr : Hid (r = true) := Lib.hid (by rw [HB.out, d1, d2, decide_eq_true h3]; rfl)
        clear HB HC h1 h2 h3
        go_enter Tryz.func29, Tryz.ntmps29
        go_wp2
        go_ret
        exact ⟨by rw [Hr.out]; rfl, Hx.out⟩
      · have d3 : decide ((64 : Int) < (n : Int)) = false := decide_eq_false (by omega)
        have Hr : Hid (r = q) := Lib.hid (by rw [HB.out, d1, d2, decide_eq_false h3]; rfl)
        have HC2 := Lib.hid (HC.out (by omega))
        clear HB HC h1 h2 h3
        go_enter Tryz.func29, Tryz.ntmps29
        go_wp2_with fail
        refine HC2.out.mono ?_
        rintro e w' ⟨rfl, rfl⟩
        go_wp2
        go_ret
        exact ⟨by rw [Hr.out]; rfl, Hx.out⟩

def idxW (l : List Ln) : Int := match l.findIdx? wrongG with | some k => (k : Int) | none => -1
theorem idxW_none {l : List Ln} (h : ∀ s ∈ l, wrongG s = false) : idxW l = -1 := by
  unfold idxW
  rw [List.findIdx?_eq_none_iff.2 h]
theorem idxW_some {l : List Ln} {k : Nat} (hk : k < l.length) (h1 : wrongG l[k] = true) (h2 : ∀ j (hj : j < k), wrongG (l[j]'(by omega)) = false) : idxW l = (k : Int) := by
  unfold idxW
  rw [List.findIdx?_eq_some_iff_getElem.2 ⟨hk, h1, fun j hj => by simp [h2 j hj]⟩]
theorem idxW_any (l : List Ln) : decide ((0 : Int) ≤ idxW l) = l.any wrongG := by
  unfold idxW
  cases h : l.findIdx? wrongG with
  | none =>
    rw [List.findIdx?_eq_none_iff] at h
    have : l.any wrongG = false := by rw [List.any_eq_false]; intro x hx; simp [h x hx]
    rw [this]; rfl
  | some k =>
    rw [List.findIdx?_eq_some_iff_getElem] at h
    obtain ⟨hk, h1, _⟩ := h
    have : l.any wrongG = true := List.any_eq_true.2 ⟨l[k], List.getElem_mem hk, h1⟩
    rw [this]
    exact decide_eq_true (by simp)
/-- a line of a row, as the walk reads it -/
theorem row_ln {w : World} {A : Option Addr} {l : List Ln} (h : RowR IsLn 2 w A l) {k : Nat} (hk : k < l.length) : ∃ g o B c, A = some ⟨g, o, none⟩ ∧ w.cell? ⟨g, o + k * 2, none⟩ = some (.int .i64 l[k].id) ∧ w.cell? ⟨g, o + k * 2 + 1, none⟩ = some (.slice B l[k].vars.length c) ∧ LnIn w l[k] B c := by
  obtain ⟨g, o, cs, e, _, hc, B, c, rfl, hr⟩ := h k hk
  exact ⟨g, o, B, c, e, by have := hc 0 _ rfl; simpa using this, hc 1 _ rfl, hr⟩
set_option maxHeartbeats 4000000 in
theorem indexW_any (A : Option Addr) (c : Nat) (l : List Ln) (w : World) (hA : RowR IsLn 2 w A l) (hl : l.length ≤ 1000000) (hs : ∀ x ∈ l, ∀ v ∈ x.vars, v.length ≤ maxLen) :
    Calls Tryz.prog 60 #[.slice A l.length c, .func (.func 29) #[] #[]] w fun e w' => e = .returned (.int .i64 (idxW l)) ∧ Below w.heap.size w w' := by
  have hli : (l.length : Int) ≤ 1000000 := by omega
  have HA := Lib.hid hA
  have Hs := Lib.hid hs
  clear hA hs
  go_enter Tryz.func60, Tryz.ntmps60
  go_wp2
  go_loopw [8] (fun i wr => ∃ k : Nat, k ≤ l.length ∧ i = .int .i64 (k : Int) ∧ Hid (∀ j (hj : j < l.length), j < k → wrongG l[j] = false) ∧ Hid (Below w.heap.size w wr)) (fun i _ => l.length - (intOf i).toNat)
  case atStart => exact ⟨0, Nat.zero_le _, rfl, Lib.hid (fun j _ h => absurd h (by omega)), Lib.hid (Below.refl _ _)⟩
  case round =>
    obtain ⟨k, hk, rfl, Hno, Hb⟩ := hrel
    by_cases hlt : k < l.length
    · have hki : (k : Int) < (l.length : Int) := by omega
      obtain ⟨g, o, B, cb, e, c0, c1, hin⟩ := row_ln (HA.out.ext IsLn.lasts Hb.out) hlt
      subst e
      have HL := Lib.hid (wrongA_any l[k] B cb wr hin (Hs.out _ (List.getElem_mem hlt)))
      have HI : Hid (wrongG l[k] = true → idxW l = (k : Int)) := Lib.hid (fun h => idxW_some hlt h (fun j hj => Hno.out j (by omega) hj))
      have HF : Hid (wrongG l[k] = false → ∀ j (hj : j < l.length), j < k + 1 → wrongG l[j] = false) := Lib.hid (fun h j hj hj2 => by
        rcases Nat.lt_succ_iff_lt_or_eq.1 hj2 with h3 | rfl
        · exact Hno.out j hj h3
        · exact h)
      unfold lnV at HL
      clear hin
      generalize wrongG l[k] = v at *
      generalize l[k].id = f at *
      generalize l[k].vars.length = n at *
      go_wp2_with fail
      refine HL.out.mono ?_
      rintro e w' ⟨rfl, hb2⟩
      have Hb2 := Lib.hid (ext_trans Hb.out hb2)
      clear hb2 c0 c1
      cases v with
      | true =>
        have Hi := Lib.hid (HI.out rfl)
        go_wp2
        go_ret
        exact ⟨by rw [Hi.out]; rfl, Hb2.out⟩
      | false =>
        have Hf := Lib.hid (HF.out rfl)
        clear HF HI
        go_wp2
        go_roundw
        case rel => exact ⟨k + 1, by omega, by go_num, Hf, Hb2⟩
        case measure => simp [intOf]; omega
    · obtain rfl : k = l.length := by omega
      have hi : idxW l = -1 := idxW_none (fun s hs => by
        obtain ⟨j, hj, rfl⟩ := List.mem_iff_getElem.1 hs
        exact Hno.out j hj hj)
      have Hi := Lib.hid hi
      clear hi
      go_wp2
      go_ret
      exact ⟨by rw [Hi.out]; rfl, Hb.out⟩
theorem containsW_any (A : Option Addr) (c : Nat) (l : List Ln) (w : World) (hA : RowR IsLn 2 w A l) (hl : l.length ≤ 1000000) (hs : ∀ x ∈ l, ∀ v ∈ x.vars, v.length ≤ maxLen) :
    Calls Tryz.prog 28 #[.slice A l.length c, .func (.func 29) #[] #[]] w fun e w' => e = .returned (.bool (l.any wrongG)) ∧ Below w.heap.size w w' := by
  have HI := Lib.hid (indexW_any A c l w hA hl hs)
  have Hd := Lib.hid (idxW_any l)
  generalize idxW l = v at *
  go_enter Tryz.func28, Tryz.ntmps28
  go_wp2_with fail
  refine HI.out.mono ?_
  rintro e w' ⟨rfl, hb⟩
  have Hb := Lib.hid hb
  clear hb
  go_wp2
  go_ret
  exact ⟨by rw [← Hd.out]; rfl, Hb.out⟩

set_option maxHeartbeats 4000000 in
theorem isG_any (b : Sg) (B : Option Addr) (c : Nat) (w : World) (h : SgIn w b B c) (hs : ∀ x ∈ b.lines, ∀ v ∈ x.vars, v.length ≤ maxLen) :
    Calls Tryz.prog 9 #[sgV b B c] w fun e w' => e = .returned (.bool (isG b)) ∧ Below w.heap.size w w' := by
  have hx : Below w.heap.size w (w.alloc (.cells #[.int .i64 b.first, .slice B b.lines.length c] 24)) := (Below.refl _ _).alloc (Nat.le_refl _) _
  have hl := Nat.le_trans h.le h.cap
  unfold maxLen at hl
  have hli : (b.lines.length : Int) ≤ 9223372036854775807 := by omega
  obtain ⟨i1, i2⟩ := h.int
  have HC := Lib.hid (fun (hn : b.lines.length ≤ 512) => containsW_any B c b.lines _ (h.row.ext IsLn.lasts hx) (by omega) hs)
  have Hx := Lib.hid hx
  have HB : Hid (isG b = (decide (0 ≤ b.first ∧ b.first ≤ 34359738368 ∧ 1 ≤ b.lines.length ∧ b.lines.length ≤ 512) && !(b.lines.any wrongG))) := Lib.hid rfl
  unfold sgV
  generalize isG b = r at *
  generalize b.lines.any wrongG = q at *
  generalize b.first = f at *
  generalize b.lines.length = n at *
  clear hx hl h hs
  by_cases h1 : 0 ≤ f
  · by_cases h2 : f ≤ 34359738368
    · have d1 : decide (0 ≤ f) = true := decide_eq_true h1
      have d2 : decide (f ≤ 34359738368) = true := decide_eq_true h2
      by_cases h3 : 1 ≤ n
      · have d3 : decide (1 ≤ (n : Int)) = true := decide_eq_true (by omega)
        by_cases h4 : n ≤ 512
        · have d4 : decide ((n : Int) ≤ 512) = true := decide_eq_true (by omega)
          have Hr : Hid (r = !q) := Lib.hid (by rw [HB.out, decide_eq_true (show _ ∧ _ ∧ _ ∧ _ from ⟨h1, h2, h3, h4⟩)]; simp)
          have HC2 := Lib.hid (HC.out h4)
          clear HB HC h1 h2 h3 h4
          go_enter Tryz.func9, Tryz.ntmps9
          go_wp2_with fail
          refine HC2.out.mono ?_
          rintro e w' ⟨rfl, hb2⟩
          have Hb2 := Lib.hid (ext_trans Hx.out hb2)
          clear hb2
          go_wp2
          go_ret
          exact ⟨by rw [Hr.out]; cases q <;> rfl, Hb2.out⟩
        · have d4 : decide ((n : Int) ≤ 512) = false := decide_eq_false (by omega)
          have Hr : Hid (r = false) := Lib.hid (by rw [HB.out, decide_eq_false (show ¬ (_ ∧ _ ∧ _ ∧ _) from fun h => h4 h.2.2.2)]; simp)
          clear HB HC h1 h2 h3 h4
          go_enter Tryz.func9, Tryz.ntmps9
          go_wp2
          go_ret
          exact ⟨by rw [Hr.out]; rfl, Hx.out⟩
      · have d3 : decide (1 ≤ (n : Int)) = false := decide_eq_false (by omega)
        have Hr : Hid (r = false) := Lib.hid (by rw [HB.out, decide_eq_false (show ¬ (_ ∧ _ ∧ _ ∧ _) from fun h => h3 h.2.2.1)]; simp)
        clear HB HC h1 h2 h3
        go_enter Tryz.func9, Tryz.ntmps9
        go_wp2
        go_ret
        exact ⟨by rw [Hr.out]; rfl, Hx.out⟩
    · have d1 : decide (0 ≤ f) = true := decide_eq_true h1
      have d2 : decide (f ≤ 34359738368) = false := decide_eq_false h2
      have Hr : Hid (r = false) := Lib.hid (by rw [HB.out, decide_eq_false (show ¬ (_ ∧ _ ∧ _ ∧ _) from fun h => h2 h.2.1)]; simp)
      clear HB HC h1 h2
      go_enter Tryz.func9, Tryz.ntmps9
      go_wp2
      go_ret
      exact ⟨by rw [Hr.out]; rfl, Hx.out⟩
  · have d1 : decide (0 ≤ f) = false := decide_eq_false h1
    have Hr : Hid (r = false) := Lib.hid (by rw [HB.out, decide_eq_false (show ¬ (_ ∧ _ ∧ _ ∧ _) from fun h => h1 h.1)]; simp)
    clear HB HC h1
    go_enter Tryz.func9, Tryz.ntmps9
    go_wp2
    go_ret
    exact ⟨by rw [Hr.out]; rfl, Hx.out⟩
end Go.Proofs.YtpjgkacekelkdaaGreatDoor

/-
  Lines as columns (program). No statement of the seat is proved here.
-/
namespace Go.Proofs.YtpjgkacekelkdaaGreatDoor
open Go Go.RowKit
set_option maxRecDepth 100000

theorem RowO.ne_row {w : World} {e e' : TypeId} {sz sz' : Nat} {A B : Option Addr} {m m' c c' : Nat} {xs ys : List Value} (h : RowO w e sz A m c xs) (h' : RowO w e' sz' B m' c' ys) (ht : e ≠ e') : ∀ k, inA A k → ¬ inA B k := fun k hk hk' => by
  rcases h'.2 with ⟨rfl, _⟩ | ⟨g', off, cs', rfl, _, _, hb', _⟩
  · exact inA_none _ hk'
  · rw [inA_some] at hk'
    subst hk'
    exact h.ne_blk hb' ht hk
theorem NewO.apart {w wr w2 w3 : World} {e : TypeId} {sz : Nat} {A : Option Addr} {m c : Nat} {xs : List Value} {S : Nat → Prop} (h : NewO w wr e sz A m c xs) (hb : Below wr.heap.size wr w2) (ho : Only S w2 w3) (hn : ∀ k, inA A k → ¬ S k) (hB : Below w.heap.size w w3) : NewO w w3 e sz A m c xs := ⟨(h.row.ext hb).only ho hn, hB, h.2.2⟩
theorem NewO.far {w w1 : World} {e : TypeId} {sz : Nat} {A : Option Addr} {m c : Nat} {xs : List Value} (h : NewO w w1 e sz A m c xs) {p : Addr} (hp : ¬ inA A p.block) (hg : w.heap.size ≤ p.block) (v : Value) : NewO w (w1.setCell p v) e sz A m c xs :=
  ⟨h.row.keep fun k hk => Below.heap_setCell w1 p v k (fun e => hp (by rw [← e]; exact hk)), h.bel.setCell hg v, h.2.2⟩
theorem setCell_size (w : World) (p : Addr) (v : Value) : (w.setCell p v).heap.size = w.heap.size := by simp [World.setCell]

/-- columns that grow: three rows and the block that tells of them -/
structure Three (w wr : World) (g n m : Nat) (A : Option Addr) (a : Nat) (xs : List Value) (B : Option Addr) (b : Nat) (ys : List Value) (C : Option Addr) (c : Nat) (zs : List Value) (n2 : Nat) : Prop where
  ra : NewO w wr 3 1 A n a xs
  rb : NewO w wr 3 1 B n2 b ys
  rc : NewO w wr 9 1 C m c zs
  ab : ∀ k, inA A k → ¬ inA B k
  blk : Blk wr g 50 #[.slice A n a, .slice B n2 b, .slice C m c]
  hg : w.heap.size ≤ g
section
variable {w wr w2 w3 : World} {g n m n2 n' : Nat} {A A' B C : Option Addr} {a a' b c : Nat} {xs ys zs us : List Value}
theorem Three.ext (h : Three w wr g n m A a xs B b ys C c zs n2) (hb : Below wr.heap.size wr w2) : Three w w2 g n m A a xs B b ys C c zs n2 := ⟨h.ra.ext hb, h.rb.ext hb, h.rc.ext hb, h.ab, h.blk.ext hb, h.hg⟩
theorem Three.notA (h : Three w wr g n m A a xs B b ys C c zs n2) : ¬ inA A g := h.ra.row.ne_blk h.blk (by decide)
theorem Three.notB (h : Three w wr g n m A a xs B b ys C c zs n2) : ¬ inA B g := h.rb.row.ne_blk h.blk (by decide)
theorem Three.notC (h : Three w wr g n m A a xs B b ys C c zs n2) : ¬ inA C g := h.rc.row.ne_blk h.blk (by decide)
theorem Three.blkA (h : Three w wr g n m A a xs B b ys C c zs n2) (ho : Only (inA A) wr w3) : Blk w3 g 50 #[.slice A n a, .slice B n2 b, .slice C m c] := h.blk.only ho h.notA
theorem Three.blkB (h : Three w wr g n m A a xs B b ys C c zs n2) (ho : Only (inA B) wr w3) : Blk w3 g 50 #[.slice A n a, .slice B n2 b, .slice C m c] := h.blk.only ho h.notB
theorem Three.blkC (h : Three w wr g n m A a xs B b ys C c zs n2) (ho : Only (inA C) wr w3) : Blk w3 g 50 #[.slice A n a, .slice B n2 b, .slice C m c] := h.blk.only ho h.notC
theorem Three.growA (h : Three w wr g n m A a xs B b ys C c zs n2) (hr : RowO w3 3 1 A' n' a' us) (ho : Only (inA A) wr w3) (hA : ∀ k, inA A' k → inA A k ∨ (wr.heap.size ≤ k ∧ k < w3.heap.size)) :
    Three w (w3.setCell ⟨g, 0, none⟩ (.slice A' n' a')) g n' m A' a' us B b ys C c zs n2 := by
  have hN := h.ra.grow (Below.refl _ _) hr ho hA
  have hB := h.rb.apart (Below.refl _ _) ho (fun k hk hk' => h.ab k hk' hk) hN.bel
  have hC := h.rc.apart (Below.refl _ _) ho (h.rc.row.ne_row h.ra.row (by decide)) hN.bel
  have hk := h.blkA ho
  refine ⟨hN.far (hr.ne_blk hk (by decide)) h.hg _, hB.far h.notB h.hg _, hC.far h.notC h.hg _, fun k h1 h2 => ?_, hk.put 0 _, h.hg⟩
  rcases hA k h1 with h1 | ⟨h1, _⟩
  · exact h.ab k h1 h2
  · have := h.rb.row.lt h2
    omega
theorem Three.growB (h : Three w wr g n m A a xs B b ys C c zs n2) (hr : RowO w3 3 1 A' n' a' us) (ho : Only (inA B) wr w3) (hA : ∀ k, inA A' k → inA B k ∨ (wr.heap.size ≤ k ∧ k < w3.heap.size)) :
    Three w (w3.setCell ⟨g, 1, none⟩ (.slice A' n' a')) g n m A a xs A' a' us C c zs n' := by
  have hN := h.rb.grow (Below.refl _ _) hr ho hA
  have hB := h.ra.apart (Below.refl _ _) ho (fun k hk hk' => h.ab k hk hk') hN.bel
  have hC := h.rc.apart (Below.refl _ _) ho (h.rc.row.ne_row h.rb.row (by decide)) hN.bel
  have hk := h.blkB ho
  refine ⟨hB.far h.notA h.hg _, hN.far (hr.ne_blk hk (by decide)) h.hg _, hC.far h.notC h.hg _, fun k h1 h2 => ?_, hk.put 1 _, h.hg⟩
  rcases hA k h2 with h2 | ⟨h2, _⟩
  · exact h.ab k h1 h2
  · have := h.ra.row.lt h1
    omega
theorem Three.growC (h : Three w wr g n m A a xs B b ys C c zs n2) (hr : RowO w3 9 1 A' n' a' us) (ho : Only (inA C) wr w3) (hA : ∀ k, inA A' k → inA C k ∨ (wr.heap.size ≤ k ∧ k < w3.heap.size)) :
    Three w (w3.setCell ⟨g, 2, none⟩ (.slice A' n' a')) g n n' A a xs B b ys A' a' us n2 := by
  have hN := h.rc.grow (Below.refl _ _) hr ho hA
  have hB := h.ra.apart (Below.refl _ _) ho (h.ra.row.ne_row h.rc.row (by decide)) hN.bel
  have hC := h.rb.apart (Below.refl _ _) ho (h.rb.row.ne_row h.rc.row (by decide)) hN.bel
  have hk := h.blkC ho
  exact ⟨hB.far h.notA h.hg _, hC.far h.notB h.hg _, hN.far (hr.ne_blk hk (by decide)) h.hg _, h.ab, hk.put 2 _, h.hg⟩
end
theorem Three.res {w w0 wr : World} {e : TypeId} {sz : Nat} {A : Option Addr} {m c : Nat} {xs : List Value} {u v x : Value} (hb : Below w.heap.size w w0) (hz : w0.heap.size = w.heap.size + 1) (h : NewO w0 wr e sz A m c xs) :
    NewO w (((wr.setCell ⟨w.heap.size, 0, none⟩ u).setCell ⟨w.heap.size, 1, none⟩ v).setCell ⟨w.heap.size, 2, none⟩ x) e sz A m c xs := by
  have hn : ¬ inA A w.heap.size := fun hk => by have := h.2.2 _ hk; omega
  exact (((h.back hb).far (p := ⟨w.heap.size, 0, none⟩) hn (Nat.le_refl _) u).far (p := ⟨w.heap.size, 1, none⟩) hn (Nat.le_refl _) v).far (p := ⟨w.heap.size, 2, none⟩) hn (Nat.le_refl _) x
theorem info_gint : (Tryz.prog.info? 3).map (fun i => (i.zero, i.size, i.bytes)) = some (some (.int .i64 0), 1, 8) := by kernel_rfl
theorem info_gstr : (Tryz.prog.info? 9).map (fun i => (i.zero, i.size, i.bytes)) = some (some (.string ⟨#[]⟩), 1, 16) := by kernel_rfl
theorem strV_one (l : List (List UInt8)) : ∀ u ∈ l.map strV, u.oneCell' = true := fun u hu => by
  obtain ⟨s, _, rfl⟩ := List.mem_map.1 hu
  rfl

set_option maxHeartbeats 8000000 in
theorem columnsOf_any (A0 : Option Addr) (c0 : Nat) (l : List Ln) (w : World) (hA : RowR IsLn 2 w A0 l) (hl : l.length ≤ 512) (hv : ∀ x ∈ l, x.vars.length ≤ 64) :
    Calls Tryz.prog 16 #[.slice A0 l.length c0] w fun e w' => ∃ A a B b C c, e = .returned (.agg #[.slice A l.length a, .slice B l.length b, .slice C (varG l).length c]) ∧
      NewO w w' 3 1 A l.length a ((idsG l).map iv) ∧ NewO w w' 3 1 B l.length b ((cntG l).map iv) ∧ NewO w w' 9 1 C (varG l).length c ((varG l).map strV) := by
  have hli : (l.length : Int) ≤ 512 := by omega
  have HV := Lib.hid hv
  obtain ⟨w0, hw0⟩ : ∃ w0, w0 = w.alloc (.cells #[.slice none 0 0, .slice none 0 0, .slice none 0 0] 50) := ⟨_, rfl⟩
  have hb0 : Below w.heap.size w w0 := by rw [hw0]; exact ext_alloc (Below.refl _ _) _
  have hz0 : w0.heap.size = w.heap.size + 1 := by rw [hw0, World.size_alloc]
  have HB0 : Hid (Blk w0 w.heap.size 50 #[.slice none 0 0, .slice none 0 0, .slice none 0 0]) := Lib.hid (by rw [hw0]; exact Blk.new _ _ _)
  have Hb0 := Lib.hid hb0
  have HA := Lib.hid (hA.ext IsLn.lasts hb0)
  have HS : Hid (Three w0 (w0.alloc (.cells #[.slice none 0 0, .slice none 0 0, .slice none 0 0] 50)) (w.heap.size + 1) 0 0 none 0 [] none 0 [] none 0 [] 0) := by
    have hb := ext_alloc (Below.refl w0.heap.size w0) (.cells #[.slice none 0 0, .slice none 0 0, .slice none 0 0] 50)
    refine Lib.hid ⟨(NewO.start w0 _ _).ext hb, (NewO.start w0 _ _).ext hb, (NewO.start w0 _ _).ext hb, fun k hk => absurd hk (inA_none k), ?_, by omega⟩
    rw [← hz0]
    exact Blk.new _ _ _
  have Hws := Lib.hid hw0
  have Hgw : Hid (w0.heap.size = w.heap.size + 1) := Lib.hid hz0
  obtain ⟨g, hg⟩ : ∃ g, w.heap.size + 1 = g := ⟨_, rfl⟩
  clear hA hv hw0 hb0 hz0
  go_enter Tryz.func16, Tryz.ntmps16
  go_wp2
  go_loopw [8] (fun i wr => ∃ (k m : Nat) (A : Option Addr) (a : Nat) (B : Option Addr) (b : Nat) (C : Option Addr) (c : Nat), k ≤ l.length ∧ i = .int .i64 (k : Int) ∧ Hid (m = (varG (l.take k)).length) ∧ Hid (Three w0 wr g k m A a ((idsG (l.take k)).map iv) B b ((cntG (l.take k)).map iv) C c ((varG (l.take k)).map strV) k)) (fun i _ => l.length - (intOf i).toNat)
  case atStart =>
    rw [← Hws.out]
    refine ⟨0, 0, none, 0, none, 0, none, 0, Nat.zero_le _, rfl, Lib.hid rfl, Lib.hid ?_⟩
    have := HS.out
    rw [hg] at this
    exact this
  case round =>
    obtain ⟨k, m, A, a, B, b, C, c, hk, rfl, Hm, HT⟩ := hrel
    by_cases hlt : k < l.length
    · have hki : (k : Int) < (l.length : Int) := by omega
      obtain ⟨gA, oA, Bv, cv, e, y0, y1, hin⟩ := row_ln HA.out hlt
      subst e
      have x0 := cell_only y0 (Only.of_ext (S := fun _ => False) HT.out.ra.bel) (fun h => h)
      have x1 := cell_only y1 (Only.of_ext (S := fun _ => False) HT.out.ra.bel) (fun h => h)
      clear y0 y1
      have hnv := HV.out _ (List.getElem_mem hlt)
      have hml : m ≤ 64 * k := by
        rw [Hm.out]
        have h1 := varG_len (l.take k) (fun x hx => HV.out x (List.mem_of_mem_take hx))
        rw [List.length_take] at h1
        omega
      have hT := take_snoc l k hlt
      have HI : Hid ((idsG (l.take (k + 1))).map iv = (idsG (l.take k)).map iv ++ [iv l[k].id]) := Lib.hid (by unfold idsG; rw [hT, List.map_append, List.map_append]; rfl)
      have HC : Hid ((cntG (l.take (k + 1))).map iv = (cntG (l.take k)).map iv ++ [iv (l[k].vars.length : Int)]) := Lib.hid (by unfold cntG; rw [hT, List.map_append, List.map_append]; rfl)
      have HZ : Hid ((varG (l.take (k + 1))).map strV = (varG (l.take k)).map strV ++ l[k].vars.map strV) := Lib.hid (by unfold varG; rw [hT, List.flatMap_append, List.map_append]; simp)
      have HZl : Hid (m + l[k].vars.length = (varG (l.take (k + 1))).length) := Lib.hid (by rw [hT, Hm.out]; unfold varG; rw [List.flatMap_append, List.length_append]; simp)
      obtain ⟨hint, hle, hcap, hnil, hrd⟩ := hin
      have HR := Lib.hid hrd
      have Hnil := Lib.hid (show Bv = none → l[k].vars.length = 0 from fun h => by have := hnil h; omega)
      have H1 := Lib.hid (strV_one l[k].vars)
      have HLv : Hid ((l[k].vars.map strV).length = l[k].vars.length * 1) := Lib.hid (by simp)
      generalize (idsG (l.take k)).map iv = xs at *
      generalize (cntG (l.take k)).map iv = ys at *
      generalize (varG (l.take k)).map strV = zs at *
      generalize l[k].vars.map strV = us at *
      generalize l[k].vars.length = nv at *
      generalize l[k].id = idv at *
      clear hT hint hle hcap hnil hrd
      have hT2 : Three w0 ((wr.alloc (.cells #[.int .i64 idv, .slice Bv nv cv] 47)).alloc (.cells #[.int .i64 idv] 3)) g k m A a xs B b ys C c zs k := HT.out.ext (ext2 _ _ _)
      have HE2 : Hid (Blk ((wr.alloc (.cells #[.int .i64 idv, .slice Bv nv cv] 47)).alloc (.cells #[.int .i64 idv] 3)) wr.heap.size 47 #[.int .i64 idv, .slice Bv nv cv]) := Lib.hid ((Blk.new _ _ _).alloc _)
      have d0 := (HT.out.ext (ext_alloc (Below.refl _ _) (.cells #[.int .i64 idv, .slice Bv nv cv] 47))).blk.cell 0
      have HT2 := Lib.hid hT2
      have HGA : Hid (∀ j, inA A j ∨ inA B j ∨ inA C j → j ≠ wr.heap.size) := Lib.hid (fun j hj e => by
        subst e
        rcases hj with hj | hj | hj
        · have := HT.out.ra.row.lt hj; omega
        · have := HT.out.rb.row.lt hj; omega
        · have := HT.out.rc.row.lt hj; omega)
      have HGB : Hid (∀ j, inA B j → j ≠ wr.heap.size) := Lib.hid (fun j hj => HGA.out j (.inr (.inl hj)))
      have HgG : Hid (wr.heap.size ≠ g) := Lib.hid (by have := HT.out.blk.lt; omega)
      simp only [List.getElem?_toArray, List.getElem?_cons_zero, List.getElem?_cons_succ] at d0
      clear hT2
      go_wp2_with (first
                   | (at_builtin
                      refine wpList_appO _ rfl (.tmp 13) (.tmp 16) _ rfl _ _ 1 8 Tryz.underlying48 info_gint rfl A k a xs rfl HT2.out.ra.row (some ⟨wr.heap.size + 1, 0, none⟩) 1 1 [.int .i64 idv] rfl rfl (Rd.lit_at _ #[.int .i64 idv] _ (by rw [World.size_alloc])) (by intro u hu; simp at hu; subst hu; rfl) (by intro h; cases h) (by unfold maxLen; omega) (by omega) ?_
                      intro A3 c3 w3 hr3 ho3 hA3
                      have HT3 := Lib.hid (HT2.out.growA hr3 ho3 hA3)
                      have s0 := (HT2.out.blkA ho3).cell 0
                      have f0 := (HT2.out.blkA ho3).free 0
                      have d1 := HT3.out.blk.cell 1
                      have hE3 := (HE2.out.only ho3 (fun h => HGA.out _ (.inl h) rfl)).far (p := ⟨g, 0, none⟩) HgG.out (.slice A3 (k + 1) c3)
                      have e1 := hE3.cell 1
                      have HE3 := Lib.hid hE3
                      simp only [List.getElem?_toArray, List.getElem?_cons_zero, List.getElem?_cons_succ] at s0 d1 e1
                      clear hr3 ho3 hA3 d0 hE3)
                   | (at_builtin
                      have HT4 := Lib.hid (HT3.out.ext (ext_alloc (Below.refl _ _) (.cells #[.int .i64 (nv : Int)] 3)))
                      have HE4 := Lib.hid (HE3.out.alloc (.cells #[.int .i64 (nv : Int)] 3))
                      refine wpList_appO _ rfl (.tmp 20) (.tmp 24) _ rfl _ _ 1 8 Tryz.underlying48 info_gint rfl _ _ _ _ rfl HT4.out.rb.row (some ⟨_, 0, none⟩) 1 1 [.int .i64 (nv : Int)] rfl rfl (Rd.lit_at _ #[.int .i64 (nv : Int)] _ (setCell_size _ _ _).symm) (by intro u hu; simp at hu; subst hu; rfl) (by intro h; cases h) (by unfold maxLen; omega) (by omega) ?_
                      intro A5 c5 w5 hr5 ho5 hA5
                      have HT5 := Lib.hid (HT4.out.growB hr5 ho5 hA5)
                      have s1 := (HT4.out.blkB ho5).cell 1
                      have f1 := (HT4.out.blkB ho5).free 1
                      have d2 := HT5.out.blk.cell 2
                      have hE5 := (HE4.out.only ho5 (fun h => HGB.out _ h rfl)).far (p := ⟨g, 1, none⟩) HgG.out (.slice A5 (k + 1) c5)
                      have e2 := hE5.cell 1
                      simp only [List.getElem?_toArray, List.getElem?_cons_zero, List.getElem?_cons_succ] at s1 d2 e2
                      clear hr5 ho5 hA5 d1 e1 s0 f0 hE5)
                   | (at_builtin
                      refine wpList_appO _ rfl (.tmp 28) (.tmp 30) _ rfl _ _ 1 16 Tryz.underlying45 info_gstr rfl _ _ _ _ rfl HT5.out.rc.row Bv nv cv us rfl HLv.out (HR.out.ext HT5.out.ra.bel) H1.out Hnil.out (by unfold maxLen; omega) (by omega) ?_
                      intro A7 c7 w7 hr7 ho7 hA7
                      have HT7 := Lib.hid (HT5.out.growC hr7 ho7 hA7)
                      have s2 := (HT5.out.blkC ho7).cell 2
                      have f2 := (HT5.out.blkC ho7).free 2
                      simp only [List.getElem?_toArray, List.getElem?_cons_zero, List.getElem?_cons_succ] at s2
                      clear hr7 ho7 hA7 d2 e2 s1 f1))
      go_roundw
      case rel => exact ⟨k + 1, m + nv, A3, c3, A5, c5, A7, c7, by omega, by go_num, HZl, Lib.hid (by rw [HI.out, HC.out, HZ.out]; exact HT7.out)⟩
      case measure => simp [intOf]; omega
    · obtain rfl : k = l.length := by omega
      have hT := HT.out
      rw [List.take_length] at Hm hT
      have hm := Hm.out
      subst hm
      have d0 := hT.blk.cell 0
      have d1 := hT.blk.cell 1
      have d2 := hT.blk.cell 2
      simp only [List.getElem?_toArray, List.getElem?_cons_zero, List.getElem?_cons_succ] at d0 d1 d2
      have HT8 := Lib.hid hT
      have hR := HB0.out.ext hT.ra.bel
      have q0 := hR.cell 0
      have q1 := (hR.put 0 (.slice A l.length a)).cell 1
      have q2 := ((hR.put 0 (.slice A l.length a)).put 1 (.slice B l.length b)).cell 2
      have hR3 := ((hR.put 0 (.slice A l.length a)).put 1 (.slice B l.length b)).put 2 (.slice C (varG l).length c)
      have r0 := hR3.cell 0
      have r1 := hR3.cell 1
      have r2 := hR3.cell 2
      have g0 := hR.free 0
      have g1 := (hR.put 0 (.slice A l.length a)).free 1
      have g2 := ((hR.put 0 (.slice A l.length a)).put 1 (.slice B l.length b)).free 2
      simp only [List.getElem?_toArray, List.setIfInBounds_toArray, List.set_cons_zero, List.set_cons_succ, List.getElem?_cons_zero, List.getElem?_cons_succ] at q0 q1 q2 r0 r1 r2
      clear hT HT Hm hR hR3
      go_wp2
      refine bodyPost_ret (v := .agg #[.slice A l.length a, .slice B l.length b, .slice C (varG l).length c]) (by simp [results, Tryz.results16, go_sem, r0, r1, r2]) rfl ?_
      exact ⟨A, a, B, b, C, c, rfl, Three.res Hb0.out Hgw.out HT8.out.ra, Three.res Hb0.out Hgw.out HT8.out.rb, Three.res Hb0.out Hgw.out HT8.out.rc⟩
end Go.Proofs.YtpjgkacekelkdaaGreatDoor

/-
  A segment as bytes (program). No statement of the seat is proved here.
-/
namespace Go.Proofs.YtpjgkacekelkdaaGreatDoor
open Go Go.RowKit
set_option maxRecDepth 100000

theorem rowsF_three {fp : Nat → Prop} {w : World} {xs ys zs : List UInt8} {B D E : Option Addr} {c d e : Nat} (h : RdF fp w B (xs.map bv)) (hc : xs.length ≤ c) (h2 : RdF fp w D (ys.map bv)) (hd : ys.length ≤ d) (h3 : RdF fp w E (zs.map bv)) (he : zs.length ≤ e) (t : TypeId) {g : Nat} (hg : g = w.heap.size) (hf : ¬ fp g) :
    RowsF fp (w.alloc (.cells #[.slice B xs.length c, .slice D ys.length d, .slice E zs.length e] t)) (some ⟨g, 0, none⟩) [xs, ys, zs] := by
  subst hg
  refine ⟨[.slice B xs.length c, .slice D ys.length d, .slice E zs.length e], ⟨Rd.lit w #[.slice B xs.length c, .slice D ys.length d, .slice E zs.length e] t, fun ad e _ => by injection e with e; subst e; exact hf⟩, rfl, fun j v us hv hx => ?_⟩
  match j, hv, hx with
  | 0, hv, hx =>
    simp at hv hx
    subst hv hx
    exact ⟨B, c, rfl, hc, h.alloc _⟩
  | 1, hv, hx =>
    simp at hv hx
    subst hv hx
    exact ⟨D, d, rfl, hd, h2.alloc _⟩
  | 2, hv, hx =>
    simp at hv hx
    subst hv hx
    exact ⟨E, e, rfl, he, h3.alloc _⟩
theorem rdf_new {w3 w5 : World} {fp : Nat → Prop} {A : Option Addr} {xs : List Value} (h : Rd w3 A xs) (hb : Below w3.heap.size w3 w5) (hf : ∀ k, fp k → w3.heap.size ≤ k) : RdF fp w5 A xs := ⟨h.ext hb, (RdF.fresh h hf).2⟩
theorem RowO.nil_cap {w : World} {e : TypeId} {sz : Nat} {A : Option Addr} {m c : Nat} {xs : List Value} (h : RowO w e sz A m c xs) (hA : A = none) : c = 0 := by
  rcases h.2 with ⟨_, _, h3⟩ | ⟨g, off, cs, e1, _⟩
  · exact h3
  · rw [hA] at e1; cases e1

set_option maxHeartbeats 8000000 in
theorem encodeG_any (s : Sg) (B : Option Addr) (c : Nat) (w : World) (ht : Tab w) (h : SgIn w s B c) (hs : ∀ x ∈ s.lines, ∀ v ∈ x.vars, v.length ≤ maxLen) :
    Calls Tryz.prog 6 #[sgV s B c] w fun e w' => ∃ A' c', e = .returned (.tuple #[.slice A' (ansG s).1.length c', .int .i64 (ansG s).2]) ∧ New w w' A' c' (ansG s).1 ∧ Below w.heap.size w w' := by
  obtain ⟨w1, hw1⟩ : ∃ w1, w1 = w.alloc (.cells #[.int .i64 s.first, .slice B s.lines.length c] 24) := ⟨_, rfl⟩
  have hb1 : Below w.heap.size w w1 := by rw [hw1]; exact ext_alloc (Below.refl _ _) _
  have HB1 : Hid (Blk w1 w.heap.size 24 #[.int .i64 s.first, .slice B s.lines.length c]) := Lib.hid (by rw [hw1]; exact Blk.new _ _ _)
  have HI := Lib.hid (isG_any s B c w1 (h.ext hb1) hs)
  have Hb1 := Lib.hid hb1
  have Hw1 := Lib.hid hw1
  have Ht := Lib.hid ht
  cases hi : isG s with
  | false =>
    have HR : Hid (ansG s = ([], 1)) := Lib.hid (by unfold ansG; rw [hi]; rfl)
    rw [hi] at HI
    unfold sgV at HI ⊢
    clear hw1 hb1 ht h hs hi
    go_enter Tryz.func6, Tryz.ntmps6
    go_wp2_with fail
    rw [← Hw1.out]
    refine HI.out.mono ?_
    rintro e w2 ⟨rfl, hb2⟩
    have Hb2 := Lib.hid (ext_trans Hb1.out hb2)
    clear hb2
    go_wp2
    go_ret2
    rw [HR.out]
    exact ⟨none, 0, rfl, Own.none_ _ _ _, Hb2.out⟩
  | true =>
    obtain ⟨⟨f1, f2, f3, f4⟩, f5⟩ := (isG_iff s).1 hi
    have HR : Hid (ansG s = (encG s, 0)) := Lib.hid (by unfold ansG; rw [if_pos hi])
    have hm1 := ids_may f4 (fun x hx => ⟨(f5 x hx).1, (f5 x hx).2.1⟩)
    have hm2 := cnt_may f4 (fun x hx => (f5 x hx).2.2.1)
    have hm3 := var_may f4 (fun x hx => (f5 x hx).2.2)
    have hml := ((mayD_iff _).1 hm3)
    have HC := Lib.hid (fun (W : World) (hb : Below w.heap.size w W) => columnsOf_any B c s.lines W (h.row.ext IsLn.lasts hb) f4 (fun x hx => (f5 x hx).2.2.1))
    have HP1 : Hid (∀ (A : Option Addr) (a : Nat) (W : World), Rd W A ((idsG s.lines).map iv) → WayC 17 A s.lines.length a (bestP (idsG s.lines)) W) := Lib.hid (fun A a W hW => by
      have h := way_of hm1 (bBest_any A a (idsG s.lines) W hW)
      rw [show (idsG s.lines).length = s.lines.length by simp [idsG]] at h
      exact h)
    have HP2 : Hid (∀ (A : Option Addr) (a : Nat) (W : World), Rd W A ((cntG s.lines).map iv) → WayC 17 A s.lines.length a (bestP (cntG s.lines)) W) := Lib.hid (fun A a W hW => by
      have h := way_of hm2 (bBest_any A a (cntG s.lines) W hW)
      rw [show (cntG s.lines).length = s.lines.length by simp [cntG]] at h
      exact h)
    have HD : Hid (∀ (A : Option Addr) (a : Nat) (W : World), Rd W A ((varG s.lines).map strV) → (A = none → a = 0) → Calls Tryz.prog 18 #[.slice A (varG s.lines).length a] W fun e w' => ∃ A' c', e = .returned (.tuple #[.slice A' (encD (varG s.lines)).length c', .int .i64 0]) ∧ New W w' A' c' (encD (varG s.lines)) ∧ Below W.heap.size W w') := Lib.hid (fun A a W hW h0 => by
      have h := encodeD_any A a (varG s.lines) W hW h0 (by omega) (fun v hv => by have := hml.2 v hv; unfold maxLen; omega)
      rw [show ansD (varG s.lines) = (encD (varG s.lines), 0) by unfold ansD; rw [if_pos hm3]] at h
      exact h)
    have HL := Lib.hid (bodyG_len hi)
    have HE : Hid (encG s = sealB (numsB [s.first] ++ rowsB [bestP (idsG s.lines), bestP (cntG s.lines), encD (varG s.lines)])) := Lib.hid rfl
    have HN1 : Hid ((numsB [s.first]).length ≤ 9) := Lib.hid (dig_nine _)
    have HLr : Hid ((rowsB [bestP (idsG s.lines), bestP (cntG s.lines), encD (varG s.lines)]).length ≤ 300000000) := Lib.hid (by have := HL.out; unfold bodyG at this; rw [List.length_append] at this; omega)
    have Hfi : Hid (isInt s.first) := Lib.hid h.int
    rw [hi] at HI
    unfold sgV at HI ⊢
    unfold WayC at HP1 HP2
    rw [HR.out, HE.out]
    clear hw1 hb1 ht h hs hi HR HE HL hm1 hm2 hm3 hml f5
    generalize idsG s.lines = ids at *
    generalize cntG s.lines = cnt at *
    generalize varG s.lines = vars at *
    generalize bestP ids = b1 at *
    generalize bestP cnt = b2 at *
    generalize encD vars = b3 at *
    generalize s.lines.length = n at *
    generalize s.first = f at *
    obtain ⟨Nb, hN⟩ : ∃ N, numsB [f] = N := ⟨_, rfl⟩
    rw [hN] at HN1 ⊢
    have HNb := Lib.hid hN
    clear hN
    go_enter Tryz.func6, Tryz.ntmps6
    go_wp2_with fail
    rw [← Hw1.out]
    refine HI.out.mono ?_
    rintro e w2 ⟨rfl, hb2⟩
    have hB2 := HB1.out.ext hb2
    have k1 := hB2.cell 1
    simp only [List.getElem?_toArray, List.getElem?_cons_zero, List.getElem?_cons_succ] at k1
    have Hb2 := Lib.hid (ext_trans Hb1.out hb2)
    have HB2 := Lib.hid hB2
    have HC2 := Lib.hid (HC.out w2 Hb2.out)
    clear hb2 hB2 HI HC HB1
    go_wp2_with fail
    refine HC2.out.mono ?_
    rintro e w3 ⟨A1, a1, A2, a2, A3, a3, rfl, hn1, hn2, hn3⟩
    have Hb3 : Hid (Below w2.heap.size w2 w3) := Lib.hid hn1.bel
    have Hr1 := Lib.hid hn1.rd
    have Hr2 := Lib.hid hn2.rd
    have Hr3 := Lib.hid hn3.rd
    have H30 := Lib.hid (fun h => hn3.row.nil_cap h)
    have hb4 := ext_alloc (Below.refl w3.heap.size w3) (.cells #[.slice A1 n a1, .slice A2 n a2, .slice A3 vars.length a3] 50)
    have HY := Lib.hid (HP1.out A1 a1 _ (Hr1.out.ext hb4))
    clear hn1 hn2 hn3 hb4 k1 HC2 HP1
    go_wp2_with fail
    refine HY.out.mono ?_
    rintro e w5 ⟨B1, d1, rfl, hr5, hc5, hb5⟩
    have hb35 : Below w3.heap.size w3 w5 := ext_trans (ext_alloc (Below.refl _ _) _) hb5
    have hK5 : Blk w5 w3.heap.size 50 #[.slice A1 n a1, .slice A2 n a2, .slice A3 vars.length a3] := (Blk.new _ _ _).ext hb5
    have k1 := hK5.cell 1
    simp only [List.getElem?_toArray, List.getElem?_cons_zero, List.getElem?_cons_succ] at k1
    have HY2 := Lib.hid (HP2.out A2 a2 w5 (Hr2.out.ext hb35))
    have HK5 := Lib.hid hK5
    have Hb35 := Lib.hid hb35
    have Hp5 := Lib.hid hr5
    have Hc5 := Lib.hid hc5
    clear hr5 hc5 hb5 hb35 hK5 HY HP2
    go_wp2_with fail
    refine HY2.out.mono ?_
    rintro e w6 ⟨B2, d2, rfl, hr6, hc6, hb6⟩
    have hK6 := HK5.out.ext hb6
    have k2 := hK6.cell 2
    simp only [List.getElem?_toArray, List.getElem?_cons_zero, List.getElem?_cons_succ] at k2
    have hb36 := ext_trans Hb35.out hb6
    have HY3 := Lib.hid (HD.out A3 a3 w6 (Hr3.out.ext hb36) H30.out)
    have Hb36 := Lib.hid hb36
    have Hp6 := Lib.hid hr6
    have Hq6 := Lib.hid (Hp5.out.ext hb6)
    have Hc6 := Lib.hid hc6
    clear hr6 hc6 hb6 hb36 hK6 k1 HY2 HD
    go_wp2_with fail
    refine HY3.out.mono ?_
    rintro e w7 ⟨B3, d3, rfl, hn7, hb7⟩
    have hb27 : Below w2.heap.size w2 w7 := ext_trans Hb3.out (ext_trans Hb36.out hb7)
    have Hb7 := Lib.hid (ext_trans Hb2.out hb27)
    have hB7 := HB2.out.ext hb27
    have Hp7 := Lib.hid hn7.rd
    have Hc7 : Hid (b3.length ≤ d3) := Lib.hid (by have := Own.cap hn7; simpa using this)
    have Hq7 := Lib.hid (Hq6.out.ext hb7)
    have Hs7 := Lib.hid (Hp6.out.ext hb7)
    obtain ⟨W8, hW8⟩ : ∃ W8, W8 = w7.alloc (.cells #[.slice none 0 0] 55) := ⟨_, rfl⟩
    have HWr : Hid (Wr W8 (fun k => k = w7.heap.size) w7.heap.size []) := Lib.hid (by rw [hW8]; exact Wr.new w7 _ rfl)
    have HZ8 : Hid (W8.heap.size = w7.heap.size + 1) := Lib.hid (by rw [hW8, World.size_alloc])
    have hb8 : Below w7.heap.size w7 W8 := by rw [hW8]; exact ext_alloc (Below.refl _ _) _
    have k0 := (hB7.ext hb8).cell 0
    simp only [List.getElem?_toArray, List.getElem?_cons_zero, List.getElem?_cons_succ] at k0
    rw [hW8] at k0
    have Hb8 := Lib.hid hb8
    have HW8 := Lib.hid hW8
    clear hn7 hb7 hb27 hB7 k2 HY3 hW8 hb8 Hp5 Hp6 Hq6 Hr1 Hr2 Hr3 HK5 HB2
    go_wp2_with fail
    rw [← HW8.out]
    obtain ⟨g, hg⟩ : ∃ g, w7.heap.size = g := ⟨_, rfl⟩
    have Hg := Lib.hid hg
    rw [hg] at HWr HZ8 ⊢
    clear hg k0
    refine (nums_any (fun k => k = g) g (some ⟨g + 1, 0, none⟩) 1 1 [f] [] _ (HWr.out.alloc _) rfl (RdF.lit W8 #[.int .i64 f] _ HZ8.out.symm (by omega)) (by
      intro v hv
      simp only [List.mem_cons, List.not_mem_nil, or_false] at hv
      subst hv
      exact Hfi.out) (by simp)).mono ?_
    rintro e w9 ⟨rfl, hr9, ho9⟩
    rw [HNb.out, List.nil_append] at hr9
    have hO9 : Only (fun k => k = g) W8 w9 := ((Only.refl _ _).alloc _).trans ho9 (fun _ _ h => h)
    have HR9 : Hid (Wr w9 (More (fun k => k = g) W8 w9) g (Nb.map bv)) := Lib.hid (wr_more (by simp) hr9)
    have HO9 := Lib.hid hO9
    have HK : Hid (∀ W, Only (fun k => k = g) W8 W → Below w7.heap.size w7 W) := Lib.hid (fun W ho => Hb8.out.trans (ho.below (fun i hi => by have := Hg.out; omega) Hb8.out.size))
    have hmf : ∀ k, More (fun k => k = g) W8 w9 k → w7.heap.size ≤ k := fun k hk => by
      have h1 := Hg.out
      have h2 := HZ8.out
      rcases hk with hk | hk
      · omega
      · have := hk.1; omega
    have HF1 := Lib.hid (rdf_new (fp := More (fun k => k = g) W8 w9) Hq7.out (HK.out w9 hO9) hmf)
    have HF2 := Lib.hid (rdf_new (fp := More (fun k => k = g) W8 w9) Hs7.out (HK.out w9 hO9) hmf)
    have HF3 := Lib.hid (rdf_new (fp := More (fun k => k = g) W8 w9) Hp7.out (HK.out w9 hO9) hmf)
    have Hgw : Hid (¬ More (fun k => k = g) W8 w9 w9.heap.size) := Lib.hid (fun hm => by
      have h1 := hO9.size
      have h2 := HZ8.out
      rcases hm with hm | hm
      · omega
      · have := hm.2; omega)
    clear hr9 ho9 hO9 hmf Hq7 Hs7 Hp7
    go_wp2_with fail
    refine (bytes_any (More (fun k => k = g) W8 w9) g _ 3 3 [b1, b2, b3] (Nb.map bv) _ (HR9.out.alloc _) rfl (rowsF_three HF1.out Hc5.out HF2.out Hc6.out HF3.out Hc7.out _ rfl Hgw.out) (by simp only [List.length_map]; have := HN1.out; have := HLr.out; omega) (by simp)).mono ?_
    rintro e w10 ⟨rfl, hr10, ho10⟩
    have hR10 : Wr w10 (More (fun k => k = g) W8 w10) g ((Nb ++ rowsB [b1, b2, b3]).map bv) := by
      rw [List.map_append]
      exact Wr.join HO9.out.size (by rw [World.size_alloc]; omega) ho10.size hr10
    have hO10 := (HO9.out.alloc (.cells #[.slice B1 b1.length d1, .slice B2 b2.length d2, .slice B3 b3.length d3] 26)).join ho10
    have Hbw := Lib.hid (ext_trans Hb7.out (HK.out w10 hO10))
    have HS := Lib.hid (summed_any _ g (Nb ++ rowsB [b1, b2, b3]) w10 (Ht.out.ext Hbw.out) hR10 (by rw [List.length_append]; have := HN1.out; have := HLr.out; omega))
    clear hr10 ho10 hR10 hO10
    go_wp2_with fail
    refine HS.out.mono ?_
    rintro e w11 ⟨A11, c11, rfl, hn11, hb11⟩
    have Hn11 := Lib.hid (hn11.back Hbw.out.size)
    have Hb11 := Lib.hid (ext_trans Hbw.out hb11)
    clear hn11 hb11
    go_wp2
    go_ret2
    exact ⟨A11, c11, rfl, Hn11.out, Hb11.out⟩
end Go.Proofs.YtpjgkacekelkdaaGreatDoor

/-
  exact's Taken at a segment. No statement of the seat is proved here.
-/
namespace Go.Proofs.YtpjgkacekelkdaaGreatDoor
open Go Go.RowKit
set_option maxRecDepth 100000

theorem below_setG {a w : World} {p : Addr} (h : Below a.heap.size a w) (hp : a.heap.size ≤ p.block) (v : Value) : Below a.heap.size a (w.setCell p v) := h.setCell hp v
open Classical in
/-- what is taken: it, or none -/
noncomputable def takG (p : List UInt8) (b : Sg) : Sg × Int := if AreG p b then (b, 0) else (⟨0, []⟩, 2)
theorem takG_yes {p : List UInt8} {b : Sg} (h : AreG p b) : takG p b = (b, 0) := if_pos h
theorem takG_no {p : List UInt8} {b : Sg} (h : ¬ AreG p b) : takG p b = (⟨0, []⟩, 2) := if_neg h

set_option maxHeartbeats 8000000 in
theorem takenG_any (p : List UInt8) (A : Option Addr) (ca : Nat) (b : Sg) (B : Option Addr) (c : Nat) (w : World) (ht : Tab w) (hA : Rd w A (p.map bv)) (hp : p.length ≤ 400000000) (h : SgIn w b B c) (hs : ∀ x ∈ b.lines, ∀ v ∈ x.vars, v.length ≤ maxLen) :
    Calls Tryz.prog 39 #[.slice A p.length ca, sgV b B c, .func (.func 6) #[] #[]] w fun e w' => ∃ B' c', e = .returned (.tuple #[sgV (takG p b).1 B' c', .int .i64 (takG p b).2]) ∧ SgIn w' (takG p b).1 B' c' ∧ ((takG p b).1.lines = [] ∨ B' = B) ∧ Below w.heap.size w w' := by
  obtain ⟨w1, hw1⟩ : ∃ w1, w1 = w.alloc (.cells #[.int .i64 b.first, .slice B b.lines.length c] 24) := ⟨_, rfl⟩
  have hB1 : Blk w1 w.heap.size 24 #[.int .i64 b.first, .slice B b.lines.length c] := by rw [hw1]; exact Blk.new _ _ _
  have hb1 : Below w.heap.size w w1 := by rw [hw1]; exact (Below.refl _ _).alloc (Nat.le_refl _) _
  have hs1 : w1.heap.size = w.heap.size + 1 := by rw [hw1, World.size_alloc]
  obtain ⟨w2, hw2⟩ : ∃ w2, w2 = w1.alloc (.cells #[.int .i64 0, .slice none 0 0] 24) := ⟨_, rfl⟩
  have hB2 : Blk w2 w.heap.size 24 #[.int .i64 b.first, .slice B b.lines.length c] := by rw [hw2]; exact hB1.alloc _
  have hR2 : Blk w2 (w.heap.size + 1) 24 #[.int .i64 0, .slice none 0 0] := by rw [hw2, ← hs1]; exact Blk.new _ _ _
  have hb2 : Below w.heap.size w w2 := by rw [hw2]; exact ext_alloc hb1 _
  have Hb2 := Lib.hid hb2
  have HB2 := Lib.hid hB2
  have HR2 := Lib.hid hR2
  have Hw1 := Lib.hid hw1
  have Hw2 := Lib.hid hw2
  have HE := Lib.hid (encodeG_any b B c w2 (ht.ext hb2) (h.ext hb2) hs)
  have HA := Lib.hid hA
  have H := Lib.hid h
  have h0 := hB2.cell 0
  have h1 := hB2.cell 1
  simp only [List.getElem?_toArray, List.getElem?_cons_zero, List.getElem?_cons_succ] at h0 h1
  rw [hw2, hw1] at h0 h1
  obtain ⟨R, hR⟩ : ∃ R, ansG b = R := ⟨_, rfl⟩
  obtain ⟨q, er⟩ := R
  rw [hR] at HE
  simp only at HE
  have hcase : (er = 1 ∧ takG p b = (⟨0, []⟩, 2)) ∨ (er = 0 ∧ q ≠ p ∧ takG p b = (⟨0, []⟩, 2)) ∨ (er = 0 ∧ q = p ∧ takG p b = (b, 0)) := by
    unfold ansG at hR
    cases hi : isG b with
    | false =>
      rw [hi] at hR
      simp at hR
      exact .inl ⟨hR.2.symm, takG_no (fun h => by rw [h.1] at hi; cases hi)⟩
    | true =>
      rw [hi] at hR
      simp at hR
      by_cases he : q = p
      · exact .inr (.inr ⟨hR.2.symm, he, takG_yes ⟨hi, hR.1.trans he⟩⟩)
      · exact .inr (.inl ⟨hR.2.symm, he, takG_no (fun h => he (hR.1.symm.trans h.2))⟩)
  unfold sgV at HE ⊢
  clear hB1 hb1 hB2 hR2 hb2 hw1 hw2 ht hA h hR hs1
  rcases hcase with ⟨rfl, ht⟩ | ⟨rfl, hne, ht⟩ | ⟨rfl, he, ht⟩
  · have HT := Lib.hid ht
    clear ht
    go_enter Tryz.func39, Tryz.ntmps39
    go_wp2_with fail
    rw [← Hw1.out, ← Hw2.out]
    refine HE.out.mono ?_
    rintro e w3 ⟨A3, c3, rfl, hn3, hb3⟩
    have HR3 := Lib.hid (HR2.out.ext hb3)
    have Hb3 := Lib.hid (ext_trans Hb2.out hb3)
    clear h0 h1 hn3 hb3
    have hX := HR3.out.alloc (.cells #[.int .i64 0, .slice none 0 0] 24)
    have k0 := hX.cell 0
    have k1 := hX.cell 1
    have f0 := hX.free 0
    have f1 := hX.free 1
    simp only [List.getElem?_toArray, List.getElem?_cons_zero, List.getElem?_cons_succ] at k0 k1
    have hY := hX.put 0 (.int .i64 0)
    have m0 := hY.cell 0
    have m1 := (hY.put 1 (.slice none 0 0)).cell 1
    simp only [List.getElem?_toArray, List.setIfInBounds_toArray, List.set_cons_zero, List.set_cons_succ, List.getElem?_cons_zero, List.getElem?_cons_succ] at m0 m1
    clear hX hY
    go_wp2
    refine bodyPost_ret (v := .tuple #[.agg #[.int .i64 0, .slice none 0 0], .int .i64 2]) (by simp [results, Tryz.results39, go_sem, m0, m1]) rfl ?_
    rw [HT.out]
    refine ⟨none, 0, rfl, SgIn.none_ _, .inl rfl, ?_⟩
    exact below_setG (below_setG (ext_alloc Hb3.out _) (by show _ ≤ w.heap.size + 1; omega) _) (by show _ ≤ w.heap.size + 1; omega) _
  · have HT := Lib.hid ht
    have hd : decide (q = p) = false := decide_eq_false hne
    clear ht hne
    go_enter Tryz.func39, Tryz.ntmps39
    go_wp2_with fail
    rw [← Hw1.out, ← Hw2.out]
    refine HE.out.mono ?_
    rintro e w3 ⟨A3, c3, rfl, hn3, hb3⟩
    have HR3 := Lib.hid (HR2.out.ext hb3)
    have Hb3 := Lib.hid (ext_trans Hb2.out hb3)
    have HQ := Lib.hid (eqb_any A3 A c3 ca q p w3 hn3.rd (HA.out.ext Hb3.out))
    rw [hd] at HQ
    clear h0 h1 hn3 hb3 hd
    go_wp2_with fail
    refine HQ.out.mono ?_
    rintro e w' ⟨rfl, rfl⟩
    have hX := HR3.out.alloc (.cells #[.int .i64 0, .slice none 0 0] 24)
    have k0 := hX.cell 0
    have k1 := hX.cell 1
    have f0 := hX.free 0
    have f1 := hX.free 1
    simp only [List.getElem?_toArray, List.getElem?_cons_zero, List.getElem?_cons_succ] at k0 k1
    have hY := hX.put 0 (.int .i64 0)
    have m0 := hY.cell 0
    have m1 := (hY.put 1 (.slice none 0 0)).cell 1
    simp only [List.getElem?_toArray, List.setIfInBounds_toArray, List.set_cons_zero, List.set_cons_succ, List.getElem?_cons_zero, List.getElem?_cons_succ] at m0 m1
    clear hX hY
    go_wp2
    refine bodyPost_ret (v := .tuple #[.agg #[.int .i64 0, .slice none 0 0], .int .i64 2]) (by simp [results, Tryz.results39, go_sem, m0, m1]) rfl ?_
    rw [HT.out]
    refine ⟨none, 0, rfl, SgIn.none_ _, .inl rfl, ?_⟩
    exact below_setG (below_setG (ext_alloc Hb3.out _) (by show _ ≤ w.heap.size + 1; omega) _) (by show _ ≤ w.heap.size + 1; omega) _
  · have HT := Lib.hid ht
    subst he
    clear ht
    go_enter Tryz.func39, Tryz.ntmps39
    go_wp2_with fail
    rw [← Hw1.out, ← Hw2.out]
    refine HE.out.mono ?_
    rintro e w3 ⟨A3, c3, rfl, hn3, hb3⟩
    have HR3 := Lib.hid (HR2.out.ext hb3)
    have HB3 := Lib.hid (HB2.out.ext hb3)
    have Hb3 := Lib.hid (ext_trans Hb2.out hb3)
    have HQ := Lib.hid (eqb_any A3 A c3 ca q q w3 hn3.rd (HA.out.ext Hb3.out))
    rw [show decide (q = q) = true from decide_eq_true rfl] at HQ
    clear h0 h1 hn3 hb3
    go_wp2_with fail
    refine HQ.out.mono ?_
    rintro e w' ⟨rfl, rfl⟩
    have hX := HR3.out
    have k0 := hX.cell 0
    have k1 := hX.cell 1
    have f0 := hX.free 0
    have f1 := hX.free 1
    have h0 := HB3.out.cell 0
    have h1 := HB3.out.cell 1
    simp only [List.getElem?_toArray, List.getElem?_cons_zero, List.getElem?_cons_succ] at k0 k1 h0 h1
    have hY := hX.put 0 (.int .i64 b.first)
    have m0 := hY.cell 0
    have m1 := (hY.put 1 (.slice B b.lines.length c)).cell 1
    simp only [List.getElem?_toArray, List.setIfInBounds_toArray, List.set_cons_zero, List.set_cons_succ, List.getElem?_cons_zero, List.getElem?_cons_succ] at m0 m1
    clear hX hY
    have Hbf : Hid (Below w.heap.size w ((w3.setCell ⟨w.heap.size + 1, 0, none⟩ (.int .i64 b.first)).setCell ⟨w.heap.size + 1, 1, none⟩ (.slice B b.lines.length c))) := Lib.hid (below_setG (below_setG Hb3.out (by show _ ≤ w.heap.size + 1; omega) _) (by show _ ≤ w.heap.size + 1; omega) _)
    go_wp2
    refine bodyPost_ret (v := .tuple #[.agg #[.int .i64 b.first, .slice B b.lines.length c], .int .i64 0]) (by simp [results, Tryz.results39, go_sem, m0, m1]) rfl ?_
    rw [HT.out]
    exact ⟨B, c, rfl, H.out.ext Hbf.out, .inr rfl, Hbf.out⟩
end Go.Proofs.YtpjgkacekelkdaaGreatDoor
