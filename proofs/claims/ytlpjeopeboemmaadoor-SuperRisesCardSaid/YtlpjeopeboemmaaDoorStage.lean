/-
  Sectors that wait, in order; the stages of a flush and of a crash; what Write, Flush, Crash make of sectors. Numbers and lists alone: no statement of the seat is proved here.
-/
import Derived.Test.YtlpjeopeboemmaaDoorRow
namespace Go.Proofs.YtlpjeopeboemmaaDoor

abbrev Sec := List (List (List UInt8))

/-! ### The numbers below n of which p holds, in order -/
def wl (p : Nat → Bool) (n : Nat) : List Nat := (List.range n).filter p
def rk (p : Nat → Bool) (i : Nat) : Nat := (wl p i).length
theorem wl_zero (p : Nat → Bool) : wl p 0 = [] := rfl
theorem wl_succ (p : Nat → Bool) (n : Nat) : wl p (n + 1) = wl p n ++ if p n then [n] else [] := by
  unfold wl
  rw [List.range_succ, List.filter_append]
  congr 1
  cases h : p n <;> simp [h]
theorem rk_le (p : Nat → Bool) : ∀ n, rk p n ≤ n
  | 0 => Nat.le_refl _
  | n + 1 => by
    have := rk_le p n
    unfold rk at *
    rw [wl_succ, List.length_append]
    split <;> simp <;> omega
theorem rk_succ (p : Nat → Bool) (n : Nat) : rk p (n + 1) = rk p n + if p n then 1 else 0 := by
  unfold rk
  rw [wl_succ, List.length_append]
  cases p n <;> simp
theorem rk_mono (p : Nat → Bool) {i j : Nat} (h : i ≤ j) : rk p i ≤ rk p j := by
  induction j with
  | zero => obtain rfl : i = 0 := by omega
            exact Nat.le_refl _
  | succ j ih =>
    rcases Nat.lt_or_ge i (j + 1) with hi | hi
    · have := ih (by omega)
      rw [rk_succ]; omega
    · obtain rfl : i = j + 1 := by omega
      exact Nat.le_refl _
/-- number k of them -/
theorem wl_at (p : Nat → Bool) : ∀ (n k i : Nat), (wl p n)[k]? = some i → i < n ∧ p i = true ∧ rk p i = k
  | 0, k, i, h => by simp [wl_zero] at h
  | n + 1, k, i, h => by
    rw [wl_succ, List.getElem?_append] at h
    split at h
    · obtain ⟨h1, h2, h3⟩ := wl_at p n k i h
      exact ⟨by omega, h2, h3⟩
    · rename_i hk
      cases hp : p n with
      | false => rw [hp] at h; simp at h
      | true =>
        rw [hp] at h
        simp only [if_true] at h
        have h0 : k - (wl p n).length = 0 := by
          have := (List.getElem?_eq_some_iff.1 h).1
          simp at this; omega
        rw [h0] at h
        simp at h
        subst h
        exact ⟨by omega, hp, by unfold rk; omega⟩
theorem rk_inj (p : Nat → Bool) {i j : Nat} (hi : p i = true) (hj : p j = true) (h : rk p i = rk p j) : i = j := by
  rcases Nat.lt_trichotomy i j with hl | hl | hl
  · have := rk_mono p (i := i + 1) (j := j) hl
    rw [rk_succ, hi] at this; simp at this; omega
  · exact hl
  · have := rk_mono p (i := j + 1) (j := i) hl
    rw [rk_succ, hj] at this; simp at this; omega
theorem rk_lt (p : Nat → Bool) {i n : Nat} (hi : p i = true) (h : i < n) : rk p i < rk p n := by
  have := rk_mono p (i := i + 1) (j := n) h
  rw [rk_succ, hi] at this; simp at this; omega

/-! ### What waits -/
def pw (S : Sec) (i : Nat) : Bool := decide (1 < (S.getD i []).length)
def waiting (S : Sec) : List Nat := wl (pw S) S.length
theorem pw_eq {S : Sec} {i : Nat} (h : i < S.length) : pw S i = decide (1 < S[i].length) := by unfold pw; rw [List.getD_eq_getElem?_getD, List.getElem?_eq_getElem h]; rfl

/-- the first k of what waits have become one version each: F tells which -/
def stage (S : Sec) (F : Nat → List UInt8) (k : Nat) : Sec := S.mapIdx fun i vs => if 1 < vs.length ∧ rk (pw S) i < k then [F i] else vs
theorem stage_length (S : Sec) (F : Nat → List UInt8) (k : Nat) : (stage S F k).length = S.length := by simp [stage]
theorem stage_zero (S : Sec) (F : Nat → List UInt8) : stage S F 0 = S := by
  refine List.ext_getElem (stage_length S F 0) fun i h1 h2 => ?_
  simp [stage]
theorem stage_get (S : Sec) (F : Nat → List UInt8) (k i : Nat) (h : i < S.length) (h' : i < (stage S F k).length) : (stage S F k)[i] = if 1 < S[i].length ∧ rk (pw S) i < k then [F i] else S[i] := by
  simp [stage]
theorem stage_at (S : Sec) (F : Nat → List UInt8) {k i : Nat} (h : (waiting S)[k]? = some i) (hi : i < S.length) (h' : i < (stage S F k).length) : (stage S F k)[i] = S[i] := by
  obtain ⟨h1, h2, h3⟩ := wl_at _ _ _ _ h
  rw [stage_get S F k i hi h', if_neg (by omega)]
theorem stage_succ (S : Sec) (F : Nat → List UInt8) {k i : Nat} (h : (waiting S)[k]? = some i) : stage S F (k + 1) = (stage S F k).set i [F i] := by
  obtain ⟨h1, h2, h3⟩ := wl_at _ _ _ _ h
  refine List.ext_getElem (by simp [stage_length]) fun j h4 h5 => ?_
  have hj : j < S.length := by simpa [stage_length] using h4
  rw [stage_get S F (k + 1) j hj, List.getElem_set]
  by_cases e : i = j
  · subst e
    rw [pw_eq h1] at h2
    rw [if_pos rfl, if_pos ⟨by simpa using h2, by omega⟩]
  · rw [if_neg e, stage_get S F k j hj]
    by_cases h6 : 1 < S[j].length
    · have hne : rk (pw S) j ≠ k := fun h7 => e (rk_inj (pw S) h2 (by rw [pw_eq hj]; simpa using h6) (by omega))
      by_cases h8 : rk (pw S) j < k
      · rw [if_pos ⟨h6, by omega⟩, if_pos ⟨h6, h8⟩]
      · rw [if_neg (by omega), if_neg (by omega)]
    · rw [if_neg (fun x => h6 x.1), if_neg (fun x => h6 x.1)]
theorem stage_all (S : Sec) (F : Nat → List UInt8) : stage S F (waiting S).length = S.mapIdx fun i vs => if 1 < vs.length then [F i] else vs := by
  refine List.ext_getElem (by simp [stage]) fun i h1 h2 => ?_
  have hi : i < S.length := by simpa [stage] using h1
  rw [stage_get S F _ i hi]
  simp only [List.getElem_mapIdx]
  by_cases h : 1 < S[i].length
  · rw [if_pos ⟨h, rk_lt (pw S) (by rw [pw_eq hi]; simpa using h) hi⟩, if_pos h]
  · rw [if_neg (fun x => h x.1), if_neg h]

/-! ### Write, Flush, Fuse, Crash -/
def pad (bs : List UInt8) : List UInt8 := bs ++ List.replicate (64 - bs.length) 0
theorem pad_length {bs : List UInt8} (h : bs.length ≤ 64) : (pad bs).length = 64 := by simp [pad]; omega
def lastOf (vs : List (List UInt8)) : List UInt8 := vs.getLastD []
def writeCode (n : Nat) (l i : Int) (bs : List UInt8) : Int := if l = 0 then 6 else if i < 0 ∨ (n : Int) ≤ i ∨ 64 < bs.length then 1 else 0
def writeS (S : Sec) (l i : Int) (bs : List UInt8) : Sec := if writeCode S.length l i bs = 0 then S.set i.toNat (S.getD i.toNat [] ++ [pad bs]) else S
def flushS (S : Sec) : Sec := S.map fun vs => [lastOf vs]
/-- which version a pick takes -/
def pickOf (vs : List (List UInt8)) (p : Int) : List UInt8 := vs.getD ((max p 0).toNat % vs.length) []
def crashAt (S : Sec) (picks : List Int) (i : Nat) : List UInt8 := pickOf (S.getD i []) (picks.getD (rk (pw S) i) 0)
def crashS (S : Sec) (picks : List Int) : Sec := S.mapIdx fun i vs => if 1 < vs.length then [crashAt S picks i] else vs

theorem flush_stage (S : Sec) (hne : ∀ vs ∈ S, vs ≠ []) : stage S (fun i => lastOf (S.getD i [])) (waiting S).length = flushS S := by
  rw [stage_all]
  refine List.ext_getElem (by simp [flushS]) fun i h1 h2 => ?_
  have hi : i < S.length := by simpa using h1
  simp only [List.getElem_mapIdx, flushS, List.getElem_map]
  rw [List.getD_eq_getElem?_getD, List.getElem?_eq_getElem hi]
  by_cases h : 1 < S[i].length
  · rw [if_pos h]; rfl
  · rw [if_neg h]
    have h3 := hne S[i] (List.getElem_mem hi)
    match hS : S[i], h3 with
    | [v], _ => rfl
    | v :: u :: r, _ => rw [hS] at h; simp at h
theorem crash_stage (S : Sec) (picks : List Int) : stage S (crashAt S picks) (waiting S).length = crashS S picks := stage_all S _

/-- every sector has versions, each of 64 bytes -/
def Wf (S : Sec) : Prop := ∀ vs ∈ S, vs ≠ [] ∧ ∀ v ∈ vs, v.length = 64
def Small (N : Nat) (S : Sec) : Prop := ∀ vs ∈ S, vs.length ≤ N
theorem lastOf_mem {vs : List (List UInt8)} (h : vs ≠ []) : lastOf vs ∈ vs := by
  unfold lastOf
  have hl := List.length_pos_iff.2 h
  rw [List.getLastD_eq_getLast?, List.getLast?_eq_getElem?, List.getElem?_eq_getElem (by omega)]
  exact List.getElem_mem _
theorem pickOf_mem {vs : List (List UInt8)} (h : vs ≠ []) (p : Int) : pickOf vs p ∈ vs := by
  unfold pickOf
  have hl := List.length_pos_iff.2 h
  have := Nat.mod_lt (max p 0).toNat hl
  rw [List.getD_eq_getElem?_getD, List.getElem?_eq_getElem this]
  exact List.getElem_mem _
end Go.Proofs.YtlpjeopeboemmaaDoor
