/-
  Texts of this claim, joined (part 8): contracts and lemmas that the last text goes by. No statement of the seat is proved here.
-/
import Derived.Test.YtdghbdiapkelnaaAll7
import Derived.Test.YtdghbdiapkelnaaAll0
import Derived.Test.YtdghbdiapkelnaaAll1
import Derived.Test.YtdghbdiapkelnaaAll2
import Derived.Test.YtdghbdiapkelnaaRows
import Derived.Laws.IdiomStrings
import Derived.Lib.BufferRead
import Derived.ProofKit
import Derived.OpenShut
import Derived.Deep.DeepHandedRow
import Derived.Deep.Matrix
import Derived.LaidLaws
import Derived.ChangeMaps5
import Derived.SizedLaws
import Derived.Deep.Slices
import Derived.Deep.MidRow
import Derived.Deep.QuietTactic
import Derived.Deep.RegionHeld3
set_option linter.unusedVariables false
set_option linter.unusedSimpArgs false
/-
  The contract of octet's (*Reader).Bytes. No statement of the seat is proved here.
-/
namespace Go.Proofs.Ytdghbdiapkelnaa
open Go Go.RowKit

set_option maxHeartbeats 1000000 in
/-- a row stands there whole -/
theorem rbytes_ok (fp : Nat → Prop) (g : Nat) (bs : List UInt8) (n k : Nat) (w : World) (h : Rdr w fp g bs false) (hs : num? bs = some (n, k)) (hk0 : 0 < k) (hk : k ≤ bs.length) (hn : n ≤ (bs.drop k).length) (hb : bs.length ≤ 1099511627776) :
    Calls Try.prog 95 #[.pointer (some ⟨g, 0, none⟩)] w fun e w' => ∃ A' c', e = .returned (.slice A' n c') ∧ New w w' A' c' ((bs.drop k).take n) ∧ Rdr w' fp g ((bs.drop k).drop n) false ∧ Only (fun k => k = g) w w' := by
  have Hs := Lib.hid hs
  clear hs

  go_enter Try.func95, Try.ntmps95
  go_wp2_with fail
  refine (rnum_ok fp g bs n k _ h Hs.out hk0 hk hb).mono ?_
  rintro e w1 ⟨rfl, h1, o1⟩
  go_wp2_with fail
  refine (rraw_ok fp g (bs.drop k) n _ h1 hn (by simp; omega)).mono ?_
  rintro e w2 ⟨A', c', rfl, hnew, h2, o2⟩
  go_wp2
  go_ret
  exact ⟨A', c', rfl, hnew.back o1.size, h2, o1.trans o2 (fun _ _ h => h)⟩
set_option maxHeartbeats 1000000 in
/-- the number is there, the row is not -/
theorem rbytes_short (fp : Nat → Prop) (g : Nat) (bs : List UInt8) (n k : Nat) (w : World) (h : Rdr w fp g bs false) (hs : num? bs = some (n, k)) (hk0 : 0 < k) (hk : k ≤ bs.length) (hn : (bs.drop k).length < n) (hi : isInt n) (hb : bs.length ≤ 1099511627776) :
    Calls Try.prog 95 #[.pointer (some ⟨g, 0, none⟩)] w fun e w' => e = .returned (.slice none 0 0) ∧ Rdr w' fp g [] true ∧ Only (fun k => k = g) w w' := by
  have Hs := Lib.hid hs
  clear hs
  go_enter Try.func95, Try.ntmps95
  go_wp2_with fail
  refine (rnum_ok fp g bs n k _ h Hs.out hk0 hk hb).mono ?_
  rintro e w1 ⟨rfl, h1, o1⟩
  go_wp2_with fail
  refine (rraw_none fp g (bs.drop k) n _ h1 hi (.inr (by omega)) (by simp; omega)).mono ?_
  rintro e w2 ⟨rfl, h2, o2⟩
  go_wp2
  go_ret
  exact ⟨rfl, h2, o1.trans o2 (fun _ _ h => h)⟩
set_option maxHeartbeats 1000000 in
/-- no number is there -/
theorem rbytes_none (fp : Nat → Prop) (g : Nat) (bs : List UInt8) (w : World) (h : Rdr w fp g bs false) (hs : num? bs = none) (hb : bs.length ≤ 1099511627776) :
    Calls Try.prog 95 #[.pointer (some ⟨g, 0, none⟩)] w fun e w' => e = .returned (.slice none 0 0) ∧ Rdr w' fp g [] true ∧ Only (fun k => k = g) w w' := by
  have Hs := Lib.hid hs
  clear hs
  go_enter Try.func95, Try.ntmps95
  go_wp2_with fail
  refine (rnum_none fp g bs _ h Hs.out hb).mono ?_
  rintro e w1 ⟨rfl, h1, o1⟩
  go_wp2_with fail
  refine (rraw_dead fp g [] 0 _ h1).mono ?_
  rintro e w2 ⟨rfl, rfl⟩
  go_wp2
  go_ret
  exact ⟨rfl, h1, o1⟩
theorem rbytes_dead (fp : Nat → Prop) (g : Nat) (bs : List UInt8) (w : World) (h : Rdr w fp g bs true) :
    Calls Try.prog 95 #[.pointer (some ⟨g, 0, none⟩)] w fun e w' => e = .returned (.slice none 0 0) ∧ w = w' := by
  go_enter Try.func95, Try.ntmps95
  go_wp2_with fail
  refine (rnum_dead fp g bs _ h).mono ?_
  rintro e w1 ⟨rfl, rfl⟩
  go_wp2_with fail
  refine (rraw_dead fp g bs 0 _ h).mono ?_
  rintro e w2 ⟨rfl, rfl⟩
  go_wp2
  go_ret
  exact ⟨rfl, rfl⟩
end Go.Proofs.Ytdghbdiapkelnaa

/-
  The program's Reader by one state: what is left, and whether it has erred. No statement of the seat is proved here.
-/
namespace Go.Proofs.Ytdghbdiapkelnaa
open Go Go.RowKit

theorem scan_bounds : ∀ (bs : List UInt8) (i n m k : Nat), scan i n bs = some (m, k) → i < k ∧ k ≤ i + bs.length ∧ m ≤ 4611686018427387904
  | [], i, n, m, k, h => by simp [scan] at h
  | c :: r, i, n, m, k, h => by
    rw [scan] at h
    split at h
    · cases h
    · split at h
      · have := scan_bounds r _ _ m k h
        simp only [List.length_cons]
        omega
      · split at h
        · cases h
        · rename_i h3
          injection h with h
          injection h with h1 h2
          simp only [List.length_cons]
          omega
theorem num_bounds {bs : List UInt8} {n k : Nat} (h : num? bs = some (n, k)) : 0 < k ∧ k ≤ bs.length ∧ n ≤ 4611686018427387904 := by
  have := scan_bounds bs 0 0 n k h
  omega
theorem resN_le (bs : List UInt8) : resN (num? bs) ≤ 4611686018427387904 := by
  rcases h : num? bs with _ | ⟨n, k⟩
  · simp [resN]
  · exact (num_bounds h).2.2
theorem restOf_le (bs : List UInt8) (R : Option (Nat × Nat)) : (restOf bs R).length ≤ bs.length := by
  rcases R with _ | ⟨n, k⟩
  · simp [restOf]
  · simp [restOf]

def stNum (bs : List UInt8) (bad : Bool) : Nat × List UInt8 × Bool := if bad = true then (0, [], true) else (resN (num? bs), restOf bs (num? bs), badOf (num? bs))
def stRaw (bs : List UInt8) (bad : Bool) (v : Int) : List UInt8 × List UInt8 × Bool := if bad = true ∨ v < 0 ∨ (bs.length : Int) < v then ([], [], true) else (bs.take v.toNat, bs.drop v.toNat, false)
def stBytes (bs : List UInt8) (bad : Bool) : List UInt8 × List UInt8 × Bool := stRaw (stNum bs bad).2.1 (stNum bs bad).2.2 ((stNum bs bad).1 : Int)
theorem stNum_len (bs : List UInt8) (bad : Bool) : (stNum bs bad).2.1.length ≤ bs.length := by
  unfold stNum; split
  · simp
  · exact restOf_le _ _
theorem stNum_le (bs : List UInt8) (bad : Bool) : (stNum bs bad).1 ≤ 4611686018427387904 := by
  unfold stNum; split
  · simp
  · exact resN_le _
theorem stRaw_len (bs : List UInt8) (bad : Bool) (v : Int) : (stRaw bs bad v).2.1.length ≤ bs.length ∧ (stRaw bs bad v).1.length ≤ bs.length := by
  unfold stRaw; split
  · simp
  · simp; omega
theorem stBytes_len (bs : List UInt8) (bad : Bool) : (stBytes bs bad).2.1.length ≤ bs.length ∧ (stBytes bs bad).1.length ≤ bs.length := by
  have h1 := stNum_len bs bad
  have h2 := stRaw_len (stNum bs bad).2.1 (stNum bs bad).2.2 ((stNum bs bad).1 : Int)
  unfold stBytes
  omega

section
variable (fp : Nat → Prop) (g : Nat) (bs : List UInt8) (bad : Bool) (w : World)
theorem rnum_st (h : Rdr w fp g bs bad) (hb : bs.length ≤ 1099511627776) :
    Calls Try.prog 78 #[.pointer (some ⟨g, 0, none⟩)] w fun e w' => e = .returned (.int .i64 ((stNum bs bad).1 : Int)) ∧ Rdr w' fp g (stNum bs bad).2.1 (stNum bs bad).2.2 ∧ Only (fun k => k = g) w w' := by
  cases bad
  · rcases hR : num? bs with _ | ⟨n, k⟩
    · have e : stNum bs false = (0, [], true) := by simp [stNum, hR, resN, restOf, badOf]
      rw [e]
      exact rnum_none fp g bs w h hR hb
    · obtain ⟨h1, h2, h3⟩ := num_bounds hR
      have e : stNum bs false = (n, bs.drop k, false) := by simp [stNum, hR, resN, restOf, badOf]
      rw [e]
      exact rnum_ok fp g bs n k w h hR h1 h2 hb
  · have e : stNum bs true = (0, [], true) := rfl
    rw [e]
    have hbs : bs = [] := h.2.1 rfl
    subst hbs
    refine (rnum_dead fp g [] w h).mono ?_
    rintro e w' ⟨rfl, rfl⟩
    exact ⟨rfl, h, Only.refl _ _⟩
theorem rraw_st (v : Int) (hv : isInt v) (h : Rdr w fp g bs bad) (hb : bs.length ≤ 1099511627776) :
    Calls Try.prog 99 #[.pointer (some ⟨g, 0, none⟩), .int .i64 v] w fun e w' => ∃ A' c', e = .returned (.slice A' (stRaw bs bad v).1.length c') ∧ New w w' A' c' (stRaw bs bad v).1 ∧ Rdr w' fp g (stRaw bs bad v).2.1 (stRaw bs bad v).2.2 ∧ Only (fun k => k = g) w w' := by
  by_cases hc : bad = true ∨ v < 0 ∨ (bs.length : Int) < v
  · have e : stRaw bs bad v = ([], [], true) := by unfold stRaw; rw [if_pos hc]
    rw [e]
    cases bad
    · refine (rraw_none fp g bs v w h hv (by rcases hc with hc | hc; cases hc; exact hc) hb).mono ?_
      rintro e w' ⟨rfl, h1, h2⟩
      exact ⟨none, 0, rfl, Own.none_ _ _ _, h1, h2⟩
    · have hbs : bs = [] := h.2.1 rfl
      subst hbs
      refine (rraw_dead fp g [] v w h).mono ?_
      rintro e w' ⟨rfl, rfl⟩
      exact ⟨none, 0, rfl, Own.none_ _ _ _, h, Only.refl _ _⟩
  · have e : stRaw bs bad v = (bs.take v.toNat, bs.drop v.toNat, false) := by unfold stRaw; rw [if_neg hc]
    have hbad : bad = false := by cases bad; rfl; exact absurd (.inl rfl) hc
    subst hbad
    rw [e]
    obtain ⟨k, rfl⟩ := Int.eq_ofNat_of_zero_le (show 0 ≤ v by omega)
    have hk : k ≤ bs.length := by omega
    refine (rraw_ok fp g bs k w h hk hb).mono ?_
    rintro e w' ⟨A', c', rfl, h1, h2, h3⟩
    refine ⟨A', c', ?_, h1, h2, h3⟩
    rw [show (bs.take (k : Int).toNat).length = k by rw [Int.toNat_natCast, List.length_take]; omega]
theorem rbytes_st (h : Rdr w fp g bs bad) (hb : bs.length ≤ 1099511627776) :
    Calls Try.prog 95 #[.pointer (some ⟨g, 0, none⟩)] w fun e w' => ∃ A' c', e = .returned (.slice A' (stBytes bs bad).1.length c') ∧ New w w' A' c' (stBytes bs bad).1 ∧ Rdr w' fp g (stBytes bs bad).2.1 (stBytes bs bad).2.2 ∧ Only (fun k => k = g) w w' := by
  have hl := stNum_len bs bad
  have hn := stNum_le bs bad
  go_enter Try.func95, Try.ntmps95
  go_wp2_with fail
  refine (rnum_st fp g bs bad _ h hb).mono ?_
  rintro e w1 ⟨rfl, h1, o1⟩
  go_wp2_with fail
  refine (rraw_st fp g _ _ _ _ ⟨by omega, by omega⟩ h1 (by omega)).mono ?_
  rintro e w2 ⟨A', c', rfl, hnew, h2, o2⟩
  go_wp2
  go_ret
  exact ⟨A', c', rfl, hnew.back o1.size, h2, o1.trans o2 (fun _ _ h => h)⟩
end
end Go.Proofs.Ytdghbdiapkelnaa

/-
  Bytes as a string, as the laws compare them. No statement of the seat is proved here.
-/
namespace Go.Proofs.Ytdghbdiapkelnaa
open Go Go.RowKit

theorem conv_bytes (w : World) (A : Option Addr) (n c : Nat) (bs : List UInt8) (hn : n = bs.length) (hr : Rd w A (bs.map bv)) :
    (convert 48 9 (.slice A n c)).run Try.prog w = .ok (.string ⟨bs.toArray⟩) w := by
  subst hn
  rcases A with _ | ad
  · have hnil : bs = [] := by
      rcases bs with _ | ⟨b, r⟩
      · rfl
      · obtain ⟨ad, h0, _⟩ := hr 0 _ rfl
        cases h0
    subst hnil
    exact Lib.run_convert_nil_bytes w _ _ 5 c Try.underlying48 Try.underlying5 Try.underlying9
  · refine run_convert_bytes_back w _ _ 5 ad c bs Try.underlying48 Try.underlying5 Try.underlying9 (fun j hj => ?_)
    obtain ⟨ad', h1, h2⟩ := hr j (bv bs[j]) (by simp [hj])
    injection h1 with h1
    subst h1
    exact h2
end Go.Proofs.Ytdghbdiapkelnaa

/-
  How a law's contract closes its statement; what an int's and a byte's datum says. No statement of the seat is proved here.
-/
namespace Go.Proofs.Ytdghbdiapkelnaa
open Go Go.ChangeShapes Go.WideShapes Go.ChangeAt Go.RowKit

theorem own : ownKnob Try.prog.godebug = none := by kernel_rfl
theorem laidOut : laidOutB Try.prog = true := by kernel_rfl

theorem int_of_wf {v : Int} (h : (Lit.int .i64 v).wf = true) : isInt v := by
  have h1 : IntKind.i64.min = -9223372036854775808 := rfl
  have h2 : IntKind.i64.max = 9223372036854775807 := rfl
  simp only [Lit.wf, Bool.and_eq_true, decide_eq_true_eq] at h
  unfold isInt
  omega
theorem u8_of_wf {v : Int} (h : (Lit.int .u8 v).wf = true) : 0 ≤ v ∧ v ≤ 255 := by
  have h1 : IntKind.u8.min = 0 := rfl
  have h2 : IntKind.u8.max = 255 := rfl
  simp only [Lit.wf, Bool.and_eq_true, decide_eq_true_eq] at h
  omega

/-! ### How a contract closes a statement -/
section
variable {H : Type} {enc : TypeId × Value → H}
theorem below_trodAll {P : Program} (hl : laidOutB P = true) {W W' : World} (hb : Below W.heap.size W W') : ∀ {ts : List TypeId} {vs : List Value} {ds : List (DataW H)} {ps : List MemPlace},
    (∀ t ∈ ts, P.readableRec t = true ∧ t < P.types.size) → DataW.TrodAll enc P W 0 (fun _ => true) true ts vs ds ps → (∀ x ∈ ps, x.block < W.heap.size) → DataW.TrodAll enc P W' 0 (fun b => decide (b < W.heap.size)) true ts vs ds ps
  | [], [], [], _, _, h, _ => h
  | t :: ts, v :: vs, d :: ds, _, hr, h, hlt => by
    obtain ⟨p, q, h1, h2, rfl⟩ := h
    exact ⟨p, q, Below.trod hl (hr t (by simp)).1 (hr t (by simp)).2 h1 hb (fun x hx => hlt x (by simp [hx])), below_trodAll hl hb (fun t' ht => hr t' (by simp [ht])) h2 (fun x hx => hlt x (by simp [hx])), rfl⟩
  | [], [], _ :: _, _, _, h, _ => h.elim
  | [], _ :: _, _, _, _, h, _ => h.elim
  | _ :: _, [], _, _, _, h, _ => h.elim
  | _ :: _, _ :: _, [], _, _, h, _ => h.elim

/-- a law that returned true, and left all that was there as it was -/
theorem law_post {f : Func} {s : ChangeSpec} {W W' : World} {args : Array Value} {ds gs : List (DataW H)} {before : List MemPlace} (hvars : s.vars = []) (hf : f.resultTypes = #[4])
    (hread : f.params.toList.all (fun t => Try.prog.readableRec t && decide (t < Try.prog.types.size)) = true)
    (hs : (s.fn H ds).results = [.lit (.bool true)] ∧ (s.fn H ds).args = ds ∧ (s.fn H ds).vars = []) (hW : DataW.Whole enc Try.prog f.params.toList s.vars false W args.toList ds gs before) (hb : Below W.heap.size W W') :
    s.post enc Try.prog f false true false false W args (.bool true) W' := by
  have hW' := hW
  have hlt : ∀ x ∈ before, x.block < W.heap.size := fun x hx => by simpa using hW'.lt x hx
  obtain ⟨p, q, hA, hV, he, _, _⟩ := hW
  rw [hvars] at hV
  obtain ⟨hg, hq⟩ := trodVars_none hV
  have hx : ds ++ gs = ds := by rw [hg, List.append_nil]
  refine ⟨ds, gs, before, [] ++ [], p, [], hW', ?_, ?_, ?_, hb.frame _, fun h => by cases h⟩
  · rw [hx, hs.1, hf]
    exact trodAll_cons_mk (shut_bool Try.underlying4 _) trodAll_mk0
  · rw [hx, hs.2.1]
    refine below_trodAll laidOut hb (fun t ht => ?_) hA (fun x hx => hlt x (by rw [he]; simp [hx]))
    have := List.all_eq_true.1 hread t ht
    simpa using this
  · rw [hx, hs.2.2, hvars]
    rfl
end

/-- a world for the witness: the settled one -/
noncomputable def plainWorld (os : Os) : World := World.holding Try.prog os ⟨#[], #[], []⟩
end Go.Proofs.Ytdghbdiapkelnaa

/-
  A text as an argument. No statement of the seat is proved here.
-/
namespace Go.Proofs.Ytdghbdiapkelnaa
open Go Go.RowKit
theorem str_xs (s : ByteArray) (h : s.size ≤ maxLen) : ∃ xs : List UInt8, (.string s : Value) = strV xs ∧ xs.length ≤ maxLen := ⟨s.data.toList, by unfold strV; simp, by simpa using h⟩
end Go.Proofs.Ytdghbdiapkelnaa

/-
  Arguments read element by element, and what the form's reach and bulk say of them. No statement of the seat is proved here.
-/
namespace Go.Proofs.Ytdghbdiapkelnaa
open Go Go.ChangeShapes Go.WideShapes Go.ChangeAt Go.RowKit
set_option maxRecDepth 100000

/-! ### bulk, weights -/
theorem rb_one {H : Type} (d : DataW H) : 1 ≤ Rows.uptoBulk d := by
  cases d with
  | lit l => cases l <;> simp [Rows.uptoBulk]
  | nil => simp [Rows.uptoBulk]
  | ptr d => simp [Rows.uptoBulk]
  | slice elems spare => simp [Rows.uptoBulk]
  | agg parts => simp [Rows.uptoBulk]
  | iface t d => simp [Rows.uptoBulk]
  | map entries => simp [Rows.uptoBulk]
  | held h => simp [Rows.uptoBulk]
theorem rb_all {H : Type} (l : List (DataW H)) : Rows.uptoBulkAll l = (l.map Rows.uptoBulk).sum := by
  induction l with
  | nil => simp [Rows.uptoBulkAll]
  | cons x r ih => simp only [Rows.uptoBulkAll, List.map_cons, List.sum_cons, ih]
theorem rb_slice {H : Type} (a b : List (DataW H)) : (a.map Rows.uptoBulk).sum + 1 ≤ Rows.uptoBulk (.slice a b) := by
  simp only [Rows.uptoBulk, rb_all]
  omega
theorem rb_agg {H : Type} (a : List (DataW H)) : Rows.uptoBulk (.agg a) = (a.map Rows.uptoBulk).sum + 1 := by
  simp only [Rows.uptoBulk, rb_all]
theorem rb_str {H : Type} (s : List UInt8) : Rows.uptoBulk (DataW.lit (H := H) (.string s)) = s.length + 1 := by
  simp [Rows.uptoBulk]
theorem rb_sum {α : Type} (f g : α → Nat) : ∀ l : List α, (∀ x ∈ l, f x ≤ g x) → (l.map f).sum ≤ (l.map g).sum
  | [], _ => Nat.le_refl _
  | x :: r, h => by
    rw [List.map_cons, List.sum_cons, List.map_cons, List.sum_cons]
    have := h x (List.mem_cons_self ..)
    have := rb_sum f g r (fun y hy => h y (List.mem_cons_of_mem _ hy))
    omega
theorem rw_mem {H : Type} {P : Program} {e : TypeId} : ∀ {l : List (DataW H)} {d : DataW H}, d ∈ l → ∀ n ∈ d.weights P e, n ∈ DataW.weightsAll P e l
  | x :: r, d, hd, n, hn => by
    simp only [DataW.weightsAll, List.mem_append]
    rcases List.mem_cons.1 hd with rfl | hd
    · exact .inl hn
    · exact .inr (rw_mem hd n hn)
theorem rw_elem {H : Type} {P : Program} {t e : TypeId} {elems spare : List (DataW H)} {d : DataW H} (hu : P.underlying t = some (.slice e)) (hd : d ∈ elems) (n : Nat) (hn : n ∈ d.weights P e) : n ∈ DataW.weights P t (.slice elems spare) := by
  simp only [DataW.weights, hu, List.mem_cons, List.mem_append]
  exact .inr (.inl (rw_mem hd n hn))
theorem rw_len {H : Type} {P : Program} {t e : TypeId} {elems spare : List (DataW H)} (hu : P.underlying t = some (.slice e)) : (elems.length + spare.length) * P.bytesOf e ∈ DataW.weights P t (.slice elems spare) := by
  simp only [DataW.weights, hu, List.mem_cons, true_or]

/-- What a datum is known to weigh: of these each is among its weights; its bulk is at least so much. -/
structure Told {H : Type} (t : TypeId) (d : DataW H) (ns : List Nat) (b : Nat) : Prop where
  each : ∀ n ∈ ns, n ∈ d.weights Try.prog t
  bulk : b ≤ Rows.uptoBulk d
/-- .. of an argument, under the first form's reach -/
theorem Told.sized {H : Type} {ts : List TypeId} {ds : List (DataW H)} (hz : (DataW.weightsEach Try.prog ts ds).all (· ≤ reachBytes) = true) {j : Nat} {t : TypeId} {d : DataW H} {ns : List Nat} {b : Nat} (h : Told t d ns b) (ht : ts[j]? = some t) (hd : ds[j]? = some d) : ∀ n ∈ ns, n ≤ 140737488355328 := fun n hn => by
  have h1 := List.all_eq_true.1 hz n (DataW.weights_mem_each ht hd n (h.each n hn))
  have h2 := reachBytes_lt
  simp only [decide_eq_true_eq] at h1
  omega

/-! ### rows in memory -/
/-- A row in memory, element by element: 'R' tells the cells of each. -/
def RowR {α : Type} (R : World → List Value → α → Prop) (sz : Nat) (w : World) (A : Option Addr) (l : List α) : Prop :=
  ∀ (k : Nat) (hk : k < l.length), ∃ g o cs, A = some ⟨g, o, none⟩ ∧ cs.length = sz ∧ (∀ (j : Nat) (u : Value), cs[j]? = some u → w.cell? ⟨g, o + k * sz + j, none⟩ = some u) ∧ R w cs l[k]
/-- what is told of one world holds of each that came of it -/
def Lasts {α : Type} (R : World → List Value → α → Prop) : Prop := ∀ (w w' : World) (cs : List Value) (a : α), Below w.heap.size w w' → R w cs a → R w' cs a
section
variable {α : Type} {R : World → List Value → α → Prop} {sz : Nat} {w w' : World} {A : Option Addr} {l : List α}
theorem RowR.nil (w : World) (A : Option Addr) : RowR R sz w A [] := fun k hk => absurd hk (by simp)
theorem RowR.ext (hR : Lasts R) (h : RowR R sz w A l) (hb : Below w.heap.size w w') : RowR R sz w' A l := fun k hk => by
  obtain ⟨g, o, cs, e, hl, hc, hr⟩ := h k hk
  refine ⟨g, o, cs, e, hl, fun j u hu => ?_, hR _ _ _ _ hb hr⟩
  have h1 := hc j u hu
  have hlt := World.block_lt_of_cell? w _ h1
  exact (World.cell?_of_block (hb.block _ hlt)).trans h1
theorem RowR.lasts {sz : Nat} (hR : Lasts R) : ∀ (w w' : World) (A : Option Addr) (l : List α), Below w.heap.size w w' → RowR R sz w A l → RowR R sz w' A l := fun _ _ _ _ hb h => h.ext hR hb
end

/-! ### a slice, opened -/
section
variable {H : Type} {enc : TypeId × Value → H} {W : World}
theorem spot_none {a : Addr} {u : Value} (h : W.cell? (a.add 0) = some u) : ∃ g o, a = ⟨g, o, none⟩ := by
  obtain ⟨g, o, s⟩ := a
  cases s with
  | none => exact ⟨g, o, rfl⟩
  | some s =>
    unfold World.cell? Addr.add at h
    simp at h
    split at h <;> simp at h

/-- A slice as a row: what holds of each element that is read ('R' its cells; 'ns' what it is known to weigh, 'b' its bulk). -/
theorem read_slice {α : Type} {t e : TypeId} {sz : Nat} (R : World → List Value → α → Prop) (ns : α → List Nat) (b : α → Nat) (bytes : Nat) (ht : Try.prog.underlying t = some (.slice e)) (hsz : Try.prog.cellsOf e = sz) (hby : Try.prog.bytesOf e = bytes) (hpos : 0 < sz)
    (each : ∀ (n : Nat) (cs : List Value) (x : DataW H × List MemPlace), cs.length = sz → DataW.trod enc Try.prog W 0 (fun _ => true) true n e cs = some x → ∃ a : α, R W cs a ∧ Told e x.1 (ns a) (b a))
    {fuel : Nat} {cs : List Value} {x : DataW H × List MemPlace} (h : DataW.trod enc Try.prog W 0 (fun _ => true) true fuel t cs = some x) :
    ∃ (A : Option Addr) (len cap : Nat) (l : List α), cs = [.slice A len cap] ∧ len = l.length ∧ len ≤ cap ∧ cap ≤ maxLen ∧ (A = none → cap = 0) ∧ RowR R sz W A l ∧
      Told t x.1 (if cap = 0 then [] else cap * bytes :: l.flatMap ns) ((l.map b).sum + 1) := by
  rcases Deep.open_slice ht h with ⟨rfl, rfl⟩ | ⟨a, len, cap, m, n, D, Pl, rfl, _, hl, hm, hmm, rfl, hi⟩
  · exact ⟨none, 0, 0, [], rfl, rfl, Nat.le_refl _, Nat.zero_le _, fun _ => rfl, RowR.nil _ _, ⟨by simp, rb_one _⟩⟩
  · simp only [if_true] at hmm
    subst hmm
    rw [hsz] at hi
    have hex : ∀ k, k < m → ∃ (cs' : List Value) (z : α), cs'.length = sz ∧ (∀ j, j < sz → W.cell? ((a.add (k * sz)).add j) = cs'[j]?) ∧ R W cs' z ∧ Told e (D k) (ns z) (b z) := by
      intro k hk
      obtain ⟨cs', hc, htr⟩ := hi k hk
      obtain ⟨_, hcl, hat⟩ := World.cells?_some hc
      obtain ⟨z, hz, hq⟩ := each n cs' _ hcl htr
      exact ⟨cs', z, hcl, hat, hz, hq⟩
    by_cases h0 : m = 0
    · subst h0
      obtain rfl : len = 0 := by omega
      exact ⟨some a, 0, 0, [], rfl, rfl, Nat.le_refl _, Nat.zero_le _, fun _ => rfl, RowR.nil _ _, ⟨by simp, rb_one _⟩⟩
    · obtain ⟨_, z0, _⟩ := hex 0 (by omega)
      have hex2 : ∀ k, ∃ p : List Value × α, k < m → p.1.length = sz ∧ (∀ j, j < sz → W.cell? ((a.add (k * sz)).add j) = p.1[j]?) ∧ R W p.1 p.2 ∧ Told e (D k) (ns p.2) (b p.2) := fun k => by
        by_cases hk : k < m
        · obtain ⟨cs', z, h1⟩ := hex k hk
          exact ⟨(cs', z), fun _ => h1⟩
        · exact ⟨([], z0), fun h => absurd h hk⟩
      obtain ⟨T, hT⟩ := Classical.axiomOfChoice hex2
      obtain ⟨g, o, rfl⟩ : ∃ g o, a = ⟨g, o, none⟩ := by
        obtain ⟨h1, h2, _⟩ := hT 0 (by omega)
        have h3 := h2 0 hpos
        rw [add_add_, List.getElem?_eq_getElem (by omega)] at h3
        exact spot_none (by simpa using h3)
      refine ⟨some ⟨g, o, none⟩, len, m, (List.range len).map fun k => (T k).2, rfl, by simp, hl, hm, (fun h => by cases h), fun k hk => ?_, ⟨fun w hw => ?_, ?_⟩⟩
      · have hk' : k < len := by simpa using hk
        obtain ⟨h1, h2, h3, _⟩ := hT k (by omega)
        refine ⟨g, o, (T k).1, rfl, h1, fun j u hu => ?_, by simpa using h3⟩
        have hj : j < sz := by have := (List.getElem?_eq_some_iff.1 hu).1; omega
        have h4 := h2 j hj
        rw [add_add_, Addr.add_mid, hu] at h4
        rw [Nat.add_assoc]
        exact h4
      · rw [if_neg h0] at hw
        rcases List.mem_cons.1 hw with rfl | hw
        · have h5 := rw_len (H := H) (P := Try.prog) (elems := (List.range len).map D) (spare := (List.range (m - len)).map fun j => D (len + j)) ht
          rw [hby] at h5
          simpa [show len + (m - len) = m by omega] using h5
        · obtain ⟨z, hz, hw⟩ := List.mem_flatMap.1 hw
          obtain ⟨k, hk, rfl⟩ := List.mem_map.1 hz
          have hk' := List.mem_range.1 hk
          exact rw_elem ht (List.mem_map.2 ⟨k, hk, rfl⟩) w ((hT k (by omega)).2.2.2.each w hw)
      · refine Nat.le_trans ?_ (rb_slice _ _)
        rw [List.map_map, List.map_map]
        refine Nat.add_le_add_right (rb_sum _ _ _ (fun k hk => ?_)) 1
        have hk' := List.mem_range.1 hk
        exact (hT k (by omega)).2.2.2.bulk

/-! ### texts -/
/-- a text's one cell -/
def IsStr (_ : World) (cs : List Value) (s : List UInt8) : Prop := cs = [strV s]
theorem IsStr.lasts : Lasts IsStr := fun _ _ _ _ _ h => h
theorem rd_of_rowR {A : Option Addr} {l : List (List UInt8)} (h : RowR IsStr 1 W A l) : Rd W A (l.map strV) := fun j u hu => by
  have hj : j < l.length := by have := (List.getElem?_eq_some_iff.1 hu).1; simpa using this
  obtain ⟨g, o, cs, rfl, _, hc, rfl⟩ := h j hj
  refine ⟨_, rfl, ?_⟩
  rw [Addr.add_mid]
  have := hc 0 _ rfl
  rw [Nat.mul_one, Nat.add_zero] at this
  rw [this, ← hu]
  simp [hj]
theorem cellsR_str : Try.prog.cellsOf 9 = 1 := by kernel_rfl
theorem bytesR_str : Try.prog.bytesOf 9 = 16 := by kernel_rfl
theorem read_str {n : Nat} {cs : List Value} {x : DataW H × List MemPlace} (h : DataW.trod enc Try.prog W 0 (fun _ => true) true n 9 cs = some x) : ∃ s : List UInt8, IsStr W cs s ∧ Told 9 x.1 [s.length] (s.length + 1) := by
  obtain ⟨s, rfl, rfl, hm⟩ := DataW.trod_string Try.underlying9 h
  refine ⟨s.data.toList, by simp [IsStr, strV], ⟨fun n hn => ?_, ?_⟩⟩
  · simp only [List.mem_singleton] at hn
    subst hn
    simp [DataW.weights]
  · rw [rb_str]
    exact Nat.le_refl _
/-- a slice of texts -/
def bulkS (l : List (List UInt8)) : Nat := (l.map fun s => s.length + 1).sum
theorem read_strs {n : Nat} {cs : List Value} {x : DataW H × List MemPlace} (h : DataW.trod enc Try.prog W 0 (fun _ => true) true n 29 cs = some x) :
    ∃ (A : Option Addr) (len cap : Nat) (l : List (List UInt8)), cs = [.slice A len cap] ∧ len = l.length ∧ len ≤ cap ∧ cap ≤ maxLen ∧ (A = none → cap = 0) ∧ Rd W A (l.map strV) ∧
      Told 29 x.1 (if cap = 0 then [] else cap * 16 :: l.flatMap fun s => [s.length]) (bulkS l + 1) := by
  obtain ⟨A, len, cap, l, h1, h2, h3, h4, h5, h6, h7⟩ := read_slice IsStr (fun s => [s.length]) (fun s => s.length + 1) 16 Try.underlying29 cellsR_str bytesR_str (by omega) (fun n cs x _ hx => read_str hx) h
  exact ⟨A, len, cap, l, h1, h2, h3, h4, h5, rd_of_rowR h6, h7⟩
end
end Go.Proofs.Ytdghbdiapkelnaa

/-
  What the arguments of the laws read as, in this seat's words for memory (numbers, bytes); how a law's contract closes its statement. No statement of the seat is proved here.
-/
namespace Go.Proofs.Ytdghbdiapkelnaa
open Go Go.ChangeShapes Go.WideShapes Go.ChangeAt Go.RowKit

theorem cells_u8 : Try.prog.cellsOf 5 = 1 := by kernel_rfl
theorem cells_int : Try.prog.cellsOf 3 = 1 := by kernel_rfl

section
variable {H : Type} {enc : TypeId × Value → H} {W : World} {base : Nat}
theorem bv_of {z : Int} (h : (Lit.int .u8 z).wf = true) : Value.int .u8 z = bv z.toNat.toUInt8 := by
  have h1 : IntKind.u8.min = 0 := rfl
  have h2 : IntKind.u8.max = 255 := rfl
  simp only [Lit.wf, Bool.and_eq_true, decide_eq_true_eq] at h
  unfold bv
  rw [show (z.toNat.toUInt8.toNat : Int) = z by simp [Nat.toUInt8, UInt8.toNat_ofNat']; omega]

/-- the bytes that numbers are -/
def toBytes (zs : List Int) : List UInt8 := zs.map fun z => z.toNat.toUInt8

theorem rd_bytes {a : Addr} {len : Nat} {zs : List Int} (hl : len ≤ zs.length) (hc : ∀ i, i < zs.length → W.cell? (a.add i) = some (.int .u8 (zs.getD i 0))) (hw : ∀ n ∈ zs, (Lit.int .u8 n).wf = true) :
    Rd W (some a) ((toBytes (zs.take len)).map bv) := by
  intro j u hu
  have hj : j < len := by
    have := (List.getElem?_eq_some_iff.1 hu).1
    simp [toBytes] at this; omega
  refine ⟨a, rfl, ?_⟩
  rw [hc j (by omega), ← hu]
  have hz : zs.getD j 0 = zs[j]'(by omega) := by simp [List.getD, show j < zs.length by omega]
  rw [hz, bv_of (hw _ (List.getElem_mem _))]
  simp [toBytes, hj, show j < zs.length by omega]

set_option maxRecDepth 100000 in
theorem arg_bytes {v : Value} {d : DataW H} {p : List MemPlace} (hv : Value.okWide Try.prog W .any base 48 v) (h : DataW.Trod enc Try.prog W 0 (fun _ => true) true 48 v d p) :
    ∃ (A : Option Addr) (n c : Nat) (xs : List UInt8), v = .slice A n c ∧ n = xs.length ∧ xs.length ≤ c ∧ c ≤ maxLen ∧ Rd W A (xs.map bv) := by
  obtain ⟨a0, len, cap, rfl⟩ := okWide_slice Try.underlying48 hv
  obtain ⟨fuel, hf⟩ := h
  rcases open_ints Try.underlying48 Try.underlying5 cells_u8 hf with ⟨hcs, hx⟩ | ⟨a, len', cap', zs, hcs, _, hl, hm, hz, hx, hcell, hwz⟩
  · simp [Value.cells] at hcs
    obtain ⟨rfl, rfl, rfl⟩ := hcs
    exact ⟨none, 0, 0, [], rfl, rfl, Nat.le_refl _, Nat.zero_le _, Rd.nil _ _⟩
  · simp [Value.cells] at hcs
    obtain ⟨rfl, rfl, rfl⟩ := hcs
    simp only [if_true] at hz
    exact ⟨some a, len, cap, toBytes (zs.take len), rfl, by simp [toBytes]; omega, by simp [toBytes]; omega, hm, rd_bytes (by omega) hcell hwz⟩

end

end Go.Proofs.Ytdghbdiapkelnaa

/-
  Rows of rows of tokens as arguments. No statement of the seat is proved here.
-/
namespace Go.Proofs.Ytdghbdiapkelnaa
open Go Go.ChangeShapes Go.WideShapes Go.ChangeAt Go.RowKit
set_option maxRecDepth 100000

def IsTk (_ : World) (cs : List Value) (t : Tok) : Prop := cs = [.int .i64 t.kind, strV t.text]
theorem IsTk.lasts : Lasts IsTk := fun _ _ _ _ _ h => h
def IsTks (w : World) (cs : List Value) (l : List Tok) : Prop := ∃ (B : Option Addr) (c : Nat), cs = [.slice B l.length c] ∧ ToksAt w B l ∧ l.length ≤ c ∧ c ≤ maxLen
theorem IsTks.lasts : Lasts IsTks := fun _ _ _ _ hb ⟨B, c, h1, h2, h3, h4⟩ => ⟨B, c, h1, h2.ext hb, h3, h4⟩
def lensTk (l : List Tok) : List Nat := l.map (·.text.length)
theorem toks_of {w : World} {A : Option Addr} {l : List Tok} (h : RowR IsTk 2 w A l) : ToksAt w A l := by
  refine ⟨fun j u hu => ?_, fun hne => ?_⟩
  · have hj : j < l.length * 2 := by have := (List.getElem?_eq_some_iff.1 hu).1; rwa [cellsT_len] at this
    obtain ⟨g, o, cs, e, _, hc, hr⟩ := h (j / 2) (by omega)
    have h0 := flat_at encT 2 (fun _ => rfl) l (j / 2) (j % 2) (by omega) (by omega)
    have hj2 : j / 2 * 2 + j % 2 = j := by omega
    rw [hj2] at h0
    have h1 : (cellsT l)[j]? = (encT l[j / 2])[j % 2]? := h0
    rw [hu] at h1
    unfold IsTk at hr
    refine ⟨⟨g, o, none⟩, e, ?_⟩
    rw [Addr.add_mid]
    have := hc (j % 2) u (by rw [hr]; exact h1.symm)
    rw [show o + j = o + j / 2 * 2 + j % 2 by omega]
    exact this
  · obtain ⟨g, o, cs, e, _⟩ := h 0 (List.length_pos_iff.2 hne)
    intro ad ea
    rw [e] at ea
    injection ea with ea
    exact ⟨g, o, ea.symm⟩
section
variable {H : Type} {enc : TypeId × Value → H} {W : World}
theorem cellsT_tok : Try.prog.cellsOf 62 = 2 := by kernel_rfl
theorem bytesT_tok : Try.prog.bytesOf 62 = 24 := by kernel_rfl
theorem cellsT_toks : Try.prog.cellsOf 33 = 1 := by kernel_rfl
theorem bytesT_toks : Try.prog.bytesOf 33 = 24 := by kernel_rfl
theorem cellsT_int : Try.prog.cellsOf 3 = 1 := by kernel_rfl
theorem cellsT_str : Try.prog.cellsOf 9 = 1 := by kernel_rfl
theorem read_tk {n : Nat} {cs : List Value} {x : DataW H × List MemPlace} (hl : cs.length = 2) (h : DataW.trod enc Try.prog W 0 (fun _ => true) true n 62 cs = some x) : ∃ t : Tok, IsTk W cs t ∧ Told 62 x.1 [t.text.length] 1 := by
  obtain ⟨ys, n', hn', rfl, hlen, hyl, hg⟩ := DataW.trod_struct Try.underlying62 h
  match cs, hl with
  | [e0, e1], _ =>
    match ys, hyl with
    | [y0, y1], _ =>
      have g0 := hg 0 _ rfl
      have g1 := hg 1 _ rfl
      simp only [cellsT_int, cellsT_str, List.drop_zero, List.drop_succ_cons, List.take_succ_cons, List.take_zero, List.getElem?_cons_zero, List.getElem?_cons_succ] at g0 g1
      obtain ⟨z0, q0, r0, w0⟩ := DataW.trod_int Try.underlying3 g0
      obtain ⟨s, hs, h7⟩ := read_str g1
      injection q0 with q0
      unfold IsStr at hs
      injection hs with hs
      subst q0 hs
      refine ⟨⟨z0, s⟩, rfl, ⟨fun n hn => ?_, rb_one _⟩⟩
      have h8 := h7.each n hn
      simp only [List.map_cons, List.map_nil]
      simp only [DataW.weights, Try.underlying62, DataW.weightsEach, List.map_cons, List.map_nil, List.mem_append]
      exact .inr (.inl h8)
theorem read_toks {n : Nat} {cs : List Value} {x : DataW H × List MemPlace} (h : DataW.trod enc Try.prog W 0 (fun _ => true) true n 33 cs = some x) : ∃ l : List Tok, IsTks W cs l ∧ Told 33 x.1 (lensTk l) 1 := by
  obtain ⟨A, len, cap, l, rfl, rfl, h3, h4, h5, h6, h7⟩ := read_slice IsTk (fun t => [t.text.length]) (fun _ => 1) 24 Try.underlying33 cellsT_tok bytesT_tok (by omega) (fun n cs x hl hx => read_tk hl hx) h
  refine ⟨l, ⟨A, cap, rfl, toks_of h6, h3, h4⟩, ⟨fun n hn => ?_, rb_one _⟩⟩
  have h0 : cap ≠ 0 := by
    rintro rfl
    rw [List.eq_nil_of_length_eq_zero (by omega : l.length = 0)] at hn
    cases hn
  obtain ⟨t, ht, rfl⟩ := List.mem_map.1 hn
  exact h7.each _ (by rw [if_neg h0]; exact List.mem_cons_of_mem _ (List.mem_flatMap.2 ⟨t, ht, by simp⟩))
/-- rows of tokens -/
theorem arg_tokss {base : Nat} {v : Value} {d : DataW H} {p : List MemPlace} (hv : Value.okWide Try.prog W .any base 22 v) (h : DataW.Trod enc Try.prog W 0 (fun _ => true) true 22 v d p) :
    ∃ (A : Option Addr) (n c : Nat) (l : List (List Tok)), v = .slice A n c ∧ n = l.length ∧ l.length ≤ c ∧ c ≤ maxLen ∧ RowR IsTks 1 W A l ∧ Told 22 d (if c = 0 then [] else c * 24 :: l.flatMap lensTk) ((l.map fun _ => 1).sum + 1) := by
  obtain ⟨a0, len, cap, rfl⟩ := okWide_slice Try.underlying22 hv
  obtain ⟨fuel, hf⟩ := h
  obtain ⟨A, len', cap', l, h1, rfl, h3, h4, _, h6, h7⟩ := read_slice IsTks lensTk (fun _ => 1) 24 Try.underlying22 cellsT_toks bytesT_toks (by omega) (fun n cs x _ hx => read_toks hx) hf
  simp [Value.cells] at h1
  obtain ⟨rfl, rfl, rfl⟩ := h1
  exact ⟨a0, l.length, cap, l, rfl, rfl, h3, h4, h6, h7⟩
/-- a row of tokens -/
theorem arg_toks1 {base : Nat} {v : Value} {d : DataW H} {p : List MemPlace} (hv : Value.okWide Try.prog W .any base 33 v) (h : DataW.Trod enc Try.prog W 0 (fun _ => true) true 33 v d p) :
    ∃ (A : Option Addr) (n c : Nat) (l : List Tok), v = .slice A n c ∧ n = l.length ∧ l.length ≤ c ∧ c ≤ maxLen ∧ ToksAt W A l ∧ Told 33 d (lensTk l) 1 := by
  obtain ⟨a0, len, cap, rfl⟩ := okWide_slice Try.underlying33 hv
  obtain ⟨fuel, hf⟩ := h
  obtain ⟨l, ⟨B, c, h1, h2, h3, h4⟩, h5⟩ := read_toks hf
  simp [Value.cells] at h1
  obtain ⟨rfl, rfl, rfl⟩ := h1
  exact ⟨a0, l.length, cap, l, rfl, rfl, h3, h4, h2, h5⟩
end
theorem lens_tokss {l : List (List Tok)} {c M : Nat} (hc : l.length ≤ c) (h : ∀ n ∈ (if c = 0 then [] else c * 24 :: l.flatMap lensTk), n ≤ M) : ∀ r ∈ l, ∀ t ∈ r, t.text.length ≤ M := fun r hr t ht => by
  have h0 : c ≠ 0 := by
    rintro rfl
    rw [List.eq_nil_of_length_eq_zero (by omega : l.length = 0)] at hr
    cases hr
  exact h _ (by rw [if_neg h0]; exact List.mem_cons_of_mem _ (List.mem_flatMap.2 ⟨r, hr, List.mem_map.2 ⟨t, ht, rfl⟩⟩))
theorem lens_toks {l : List Tok} {M : Nat} (h : ∀ n ∈ lensTk l, n ≤ M) : ∀ t ∈ l, t.text.length ≤ M := fun t ht => h _ (List.mem_map.2 ⟨t, ht, rfl⟩)
/-- a row of a row -/
theorem row_toks {w : World} {A : Option Addr} {l : List (List Tok)} (h : RowR IsTks 1 w A l) {k : Nat} (hk : k < l.length) : ∃ g o B c, A = some ⟨g, o, none⟩ ∧ w.cell? ⟨g, o + k, none⟩ = some (.slice B l[k].length c) ∧ ToksAt w B l[k] ∧ l[k].length ≤ c ∧ c ≤ maxLen := by
  obtain ⟨g, o, cs, e, _, hc, B, c, rfl, h1, h2, h3⟩ := h k hk
  exact ⟨g, o, B, c, e, by have := hc 0 _ rfl; simpa using this, h1, h2, h3⟩
end Go.Proofs.Ytdghbdiapkelnaa

/-
  The laws' heavy. No statement of the seat is proved here.
-/
namespace Go.Proofs.Ytdghbdiapkelnaa
open Go Go.RowKit
set_option maxRecDepth 100000

set_option maxHeartbeats 8000000 in
theorem heavyT_any (A : Option Addr) (c : Nat) (l : List (List Tok)) (w : World) (h : RowR IsTks 1 w A l) (hl : l.length ≤ maxLen) (hz : ∀ r ∈ l, ∀ t ∈ r, t.text.length ≤ 140737488355328) :
    Calls Try.prog 11 #[.slice A l.length c] w fun e w' => ∃ r : Bool, e = .returned (.bool r) ∧ w = w' ∧ (r = false → ∀ i (hi : i < l.length), i < 120 → sumT l[i] l[i].length ≤ 6000) := by
  unfold maxLen at hl
  have hli : (l.length : Int) ≤ 9223372036854775807 := by omega
  have H := Lib.hid h
  have HZ := Lib.hid hz
  clear hl h hz
  go_enter Try.func11, Try.ntmps11
  go_wp2
  go_loop [3, 4] (fun n i => ∃ (z k : Nat), k ≤ l.length ∧ i = .int .i64 (k : Int) ∧ n = .int .i64 (z : Int) ∧ z ≤ 6000 ∧ Hid (∀ j (hj : j < l.length), j < k → sumT l[j] l[j].length ≤ 6000)) (fun _ i => l.length - (intOf i).toNat)
  case atStart => exact ⟨0, 0, Nat.zero_le _, rfl, rfl, by omega, Lib.hid (fun j _ h => absurd h (by omega))⟩
  case round =>
    obtain ⟨z, k, hk, rfl, rfl, hz6, HS⟩ := hrel
    have hzi : (z : Int) ≤ 6000 := by omega
    by_cases hlt : k < l.length
    · have hki : (k : Int) < (l.length : Int) := by omega
      by_cases h120 : k < 120
      · have hk1 : (k : Int) < 120 := by omega
        obtain ⟨g, o, B, cb, rfl, u0, ht, hm1, hm2⟩ := row_toks H.out hlt
        unfold maxLen at hm2
        have hmi : (l[k].length : Int) ≤ 9223372036854775807 := by omega
        have HT := Lib.hid ht
        have HZk := Lib.hid (HZ.out _ (List.getElem_mem hlt))
        have HSk : Hid (sumT l[k] l[k].length ≤ 6000 → ∀ j (hj : j < l.length), j < k + 1 → sumT l[j] l[j].length ≤ 6000) := Lib.hid (fun h5 j hj hj2 => by
          rcases Nat.lt_succ_iff_lt_or_eq.1 hj2 with h6 | rfl
          · exact HS.out j hj h6
          · exact h5)
        clear ht hm1 hm2
        generalize l[k] = ts at *
        go_wp2
        go_loop [3, 5] (fun n i => ∃ (y q : Nat), q ≤ ts.length ∧ i = .int .i64 (q : Int) ∧ n = .int .i64 (y : Int) ∧ y ≤ 6000 ∧ Hid (sumT ts q ≤ y)) (fun _ i => ts.length - (intOf i).toNat)
        case atStart => exact ⟨z, 0, Nat.zero_le _, rfl, rfl, by omega, Lib.hid (by simp [sumT])⟩
        case round =>
          obtain ⟨y, q, hq, rfl, rfl, hy6, HY⟩ := hrel
          have hyi : (y : Int) ≤ 6000 := by omega
          by_cases hql : q < ts.length
          · have hqi : (q : Int) < (ts.length : Int) := by omega
            obtain ⟨g2, o2, rfl, v0, v1⟩ := HT.out.at_ hql
            have hlen := HZk.out _ (List.getElem_mem hql)
            have HY2 : Hid (sumT ts (q + 1) ≤ y + 1 + ts[q].text.length) := Lib.hid (by rw [sumT_succ _ _ hql]; have := HY.out; omega)
            unfold strV at v1
            obtain ⟨Z, hZ⟩ : ∃ Z : ByteArray, (⟨ts[q].text.toArray⟩ : ByteArray) = Z := ⟨_, rfl⟩
            have hzs : Z.size = ts[q].text.length := by rw [← hZ]; simp [ByteArray.size]
            rw [hZ] at v1
            rw [← hzs] at HY2 hlen
            clear hZ hzs
            have hsi : (Z.size : Int) ≤ 140737488355328 := by omega
            by_cases hbig : 6000 < (y : Int) + 1 + (Z.size : Int)
            · go_wp2
              go_ret
              first | exact .inr ⟨rfl, rfl⟩ | exact .inr ⟨rfl, rfl, fun h => by cases h⟩
            · go_wp2
              go_round
              case rel => exact ⟨y + 1 + Z.size, q + 1, by omega, by go_num, by push_cast; rfl, by omega, HY2⟩
              case measure => simp [intOf]; omega
          · obtain rfl : q = ts.length := by omega
            have HS2 := Lib.hid (HSk.out (Nat.le_trans HY.out hy6))
            go_wp2
            go_round
            case rel => exact ⟨y, k + 1, by omega, by go_num, rfl, by omega, HS2⟩
            case measure => simp [intOf]; omega
      · have hk1 : ¬ (k : Int) < 120 := by omega
        go_wp2
        go_ret
        first | exact .inl ⟨rfl, rfl, fun i hi h => HS.out i hi (by omega)⟩ | exact .inl ⟨rfl, rfl, fun _ i hi h => HS.out i hi (by omega)⟩
    · obtain rfl : k = l.length := by omega
      go_wp2
      go_ret
      first | exact .inl ⟨rfl, rfl, fun i hi _ => HS.out i hi hi⟩ | exact .inl ⟨rfl, rfl, fun _ i hi _ => HS.out i hi hi⟩
end Go.Proofs.Ytdghbdiapkelnaa

/-
  A line by its template, in memory; are two lines one (reference). No statement of the seat is proved here.
-/
namespace Go.Proofs.Ytdghbdiapkelnaa
open Go Go.RowKit
set_option maxRecDepth 100000

/-- a line by its template -/
structure Ln where
  id : Int
  vars : List (List UInt8)
theorem Ln.ext' {a b : Ln} (h1 : a.id = b.id) (h2 : a.vars = b.vars) : a = b := by cases a; cases b; simp_all
structure LnIn (w : World) (l : Ln) (B : Option Addr) (c : Nat) : Prop where
  int : isInt l.id
  le : l.vars.length ≤ c
  cap : c ≤ maxLen
  nil : B = none → c = 0
  rd : Rd w B (l.vars.map strV)
theorem LnIn.ext {w w' : World} {l : Ln} {B : Option Addr} {c : Nat} (h : LnIn w l B c) (hb : Below w.heap.size w w') : LnIn w' l B c := ⟨h.int, h.le, h.cap, h.nil, h.rd.ext hb⟩
def lnV (l : Ln) (B : Option Addr) (c : Nat) : Value := .agg #[.int .i64 l.id, .slice B l.vars.length c]
set_option maxHeartbeats 4000000 in
theorem rline_any (a b : Ln) (A B : Option Addr) (c d : Nat) (w : World) (ha : LnIn w a A c) (hb : LnIn w b B d) :
    Calls Try.prog 14 #[lnV a A c, lnV b B d] w fun e w' => ∃ r, e = .returned (.bool r) ∧ (r = true ↔ a = b) ∧ Below w.heap.size w w' := by
  obtain ⟨w0, hw0⟩ : ∃ w0, w0 = (w.alloc (.cells #[.int .i64 a.id, .slice A a.vars.length c] 31)).alloc (.cells #[.int .i64 b.id, .slice B b.vars.length d] 31) := ⟨_, rfl⟩
  have Hb0 : Hid (Below w.heap.size w w0) := Lib.hid (by rw [hw0]; exact ext2 _ _ _)
  have HX : Hid (Blk w0 w.heap.size 31 #[.int .i64 a.id, .slice A a.vars.length c]) := Lib.hid (by rw [hw0]; exact (Blk.new _ _ _).alloc _)
  have HY : Hid (Blk w0 (w.heap.size + 1) 31 #[.int .i64 b.id, .slice B b.vars.length d]) := Lib.hid (by rw [hw0, ← World.size_alloc w (.cells #[.int .i64 a.id, .slice A a.vars.length c] 31)]; exact Blk.new _ _ _)
  have Hw0 := Lib.hid hw0
  have hl1 := Nat.le_trans ha.le ha.cap
  have hl2 := Nat.le_trans hb.le hb.cap
  unfold maxLen at hl1 hl2
  have hli1 : (a.vars.length : Int) ≤ 9223372036854775807 := by omega
  have hli2 : (b.vars.length : Int) ≤ 9223372036854775807 := by omega
  have HA := Lib.hid ha.rd
  have HB := Lib.hid hb.rd
  have HE : Hid (a.id = b.id → a.vars = b.vars → a = b) := Lib.hid Ln.ext'
  by_cases h1 : a.id = b.id
  · by_cases h2 : a.vars.length = b.vars.length
    · have H2 := Lib.hid h2
      have H1 := Lib.hid h1
      unfold lnV
      rw [← h2]
      rw [← h2] at HY
      rw [← h1]
      rw [← h1] at HY
      rw [← h1, ← h2] at Hw0
      have hN : Hid (∀ k (hk : k < a.vars.length) (hk2 : k < b.vars.length), a.vars[k] ≠ b.vars[k] → a ≠ b) := Lib.hid (fun k hk hk2 hne e => hne (by simp only [e]))
      have hV : Hid (a.vars.take a.vars.length = b.vars.take a.vars.length → a = b) := Lib.hid (fun h => by
        rw [List.take_length, h2, List.take_length] at h
        exact Ln.ext' h1 h)
      generalize a.id = ai at *
      clear h1 h2 ha hb hw0 hl1 hl2 hli2 HE H1
      go_enter Try.func14, Try.ntmps14
      go_wp2
      rw [← Hw0.out]
      go_loopw [5] (fun i wr => ∃ k : Nat, k ≤ a.vars.length ∧ i = .int .i64 (k : Int) ∧ Hid (a.vars.take k = b.vars.take k) ∧ Hid (Below w0.heap.size w0 wr)) (fun i _ => a.vars.length - (intOf i).toNat)
      case atStart => exact ⟨0, Nat.zero_le _, rfl, Lib.hid (by simp), Lib.hid (Below.refl _ _)⟩
      case round =>
        obtain ⟨k, hk, rfl, Heq, Hbw⟩ := hrel
        have hX := HX.out.ext Hbw.out
        have hY := HY.out.ext Hbw.out
        have x1 := hX.cell 1
        have y1 := hY.cell 1
        simp only [List.getElem?_toArray, List.getElem?_cons_zero, List.getElem?_cons_succ] at x1 y1
        have Hbz := Lib.hid (ext_trans Hb0.out Hbw.out)
        clear hX hY
        by_cases hlt : k < a.vars.length
        · have hlt2 : k < b.vars.length := by have := H2.out; omega
          have hki : (k : Int) < (a.vars.length : Int) := by omega
          obtain ⟨ad, rfl, q1⟩ := rd_str (HA.out.ext Hbz.out) hlt
          obtain ⟨ad2, rfl, q2⟩ := rd_str (HB.out.ext Hbz.out) hlt2
          obtain ⟨Y, Z, e1, e2, hc⟩ := str_cases a.vars[k] b.vars[k]
          rw [e1] at q1
          rw [e2] at q2
          clear e1 e2
          rcases hc with ⟨he, rfl⟩ | ⟨hne, hf⟩
          · have He := Lib.hid he
            clear he
            go_wp2_with fail
            go_quiet (fail)
            go_wp2
            go_roundw
            case rel => exact ⟨k + 1, by omega, by go_num, Lib.hid (by rw [List.take_succ_eq_append_getElem hlt, List.take_succ_eq_append_getElem hlt2, Heq.out, He.out]), Lib.hid (ext_drewN Hbw.out _)⟩
            case measure => simp [intOf]; omega
          · have Hd := Lib.hid (hN.out k hlt hlt2 hne)
            clear hne
            go_wp2_with fail
            go_quiet (fail)
            go_wp2
            go_ret
            exact ⟨false, rfl, by simp [Hd.out], ext_drewN Hbz.out _⟩
        · obtain rfl : k = a.vars.length := by omega
          have Hd := Lib.hid (hV.out Heq.out)
          clear hV
          go_wp2
          go_ret
          exact ⟨true, rfl, by simp [Hd.out], Hbz.out⟩
    · have hne : a ≠ b := fun e => h2 (by rw [e])
      have Hne := Lib.hid hne
      have hli : ¬ (a.vars.length : Int) = (b.vars.length : Int) := by omega
      unfold lnV
      rw [← h1]
      generalize a.id = ai at *
      generalize a.vars.length = n at *
      generalize b.vars.length = m at *
      clear hne h1 h2 ha hb hw0 hl1 hl2 HX HY HE HA HB
      go_enter Try.func14, Try.ntmps14
      go_wp2
      go_ret
      exact ⟨false, rfl, by simp [Hne.out], ext2 _ _ _⟩
  · have hne : a ≠ b := fun e => h1 (by rw [e])
    have Hne := Lib.hid hne
    unfold lnV
    generalize a.id = ai at *
    generalize b.id = bi at *
    generalize a.vars.length = n at *
    generalize b.vars.length = m at *
    clear hne ha hb hw0 hl1 hl2 HX HY HE HA HB
    go_enter Try.func14, Try.ntmps14
    go_wp2
    go_ret
    exact ⟨false, rfl, by simp [Hne.out], ext2 _ _ _⟩
end Go.Proofs.Ytdghbdiapkelnaa

/-
  A text as a row of bytes in new memory; what was laid, and its sum (package exact). No statement of the seat is proved here.
-/
namespace Go.Proofs.Ytdghbdiapkelnaa
open Go Go.RowKit
set_option maxRecDepth 100000

theorem str_row (w : World) (bs : List UInt8) : ∃ c w1, (convert 9 48 (.string ⟨bs.toArray⟩)).run Try.prog w = .ok (.slice (some ⟨w.heap.size, 0, none⟩) bs.length c) w1 ∧ bs.length ≤ c ∧ Rd w1 (some ⟨w.heap.size, 0, none⟩) (bs.map bv) ∧ Below w.heap.size w w1 ∧ w1.heap.size = w.heap.size + 1 := by
  have h := run_bytes_of_string (P := Try.prog) w 9 48 5 ⟨bs.toArray⟩ Try.underlying9 Try.underlying48 Try.underlying5
  refine ⟨_, _, h, ?_, ?_, ?_, ?_⟩
  · exact grownCap_ge w bs.length 0 5
  · intro j u hu
    refine ⟨_, rfl, ?_⟩
    refine World.news_of_block (heap_alloc_new w.drew _) j u ?_
    unfold bytesRow
    have hj : j < bs.length := by have := (List.getElem?_eq_some_iff.1 hu).1; simpa using this
    rw [Array.getElem?_toList, Array.getElem?_append_left (by simpa using hj), Array.getElem?_map]
    simp only [List.getElem?_map] at hu
    simpa [bv] using hu
  · exact ((Below.refl _ _).drew).alloc (Nat.le_refl _) _
  · simp
end Go.Proofs.Ytdghbdiapkelnaa

/-
  The contracts of a Reader's Left, Whole. No statement of the seat is proved here.
-/
namespace Go.Proofs.Ytdghbdiapkelnaa
open Go Go.RowKit

theorem rleft (fp : Nat → Prop) (g : Nat) (bs : List UInt8) (bad : Bool) (w : World) (h : Rdr w fp g bs bad) :
    Calls Try.prog 83 #[.pointer (some ⟨g, 0, none⟩)] w fun e w' => e = .returned (.int .i64 (bs.length : Int)) ∧ w = w' := by
  obtain ⟨_, _, A, c, hb, _⟩ := h
  have h1 := hb.cell 0
  simp only [List.getElem?_toArray, List.getElem?_cons_zero] at h1
  go_enter Try.func83, Try.ntmps83
  go_wp2
  go_ret
  exact ⟨rfl, rfl⟩
theorem rwhole_bad (fp : Nat → Prop) (g : Nat) (bs : List UInt8) (w : World) (h : Rdr w fp g bs true) :
    Calls Try.prog 55 #[.pointer (some ⟨g, 0, none⟩)] w fun e w' => e = .returned (.bool false) ∧ w = w' := by
  go_enter Try.func55, Try.ntmps55
  go_wp2_with (go_at_call 82; refine (rgood fp g bs true _ h).mono ?_; rintro e w' ⟨rfl, rfl⟩)
  go_ret
  exact ⟨rfl, rfl⟩
theorem rwhole (fp : Nat → Prop) (g : Nat) (bs : List UInt8) (w : World) (h : Rdr w fp g bs false) :
    Calls Try.prog 55 #[.pointer (some ⟨g, 0, none⟩)] w fun e w' => e = .returned (.bool bs.isEmpty) ∧ w = w' := by
  have hbl : ((bs.length : Int) == 0) = bs.isEmpty := by cases bs <;> simp <;> omega
  go_enter Try.func55, Try.ntmps55
  go_wp2_with (first
    | (go_at_call 82; refine (rgood fp g bs false _ h).mono ?_; rintro e w' ⟨rfl, rfl⟩)
    | (go_at_call 83; refine (rleft fp g bs false _ h).mono ?_; rintro e w' ⟨rfl, rfl⟩))
  go_ret
  exact ⟨rfl, rfl⟩
end Go.Proofs.Ytdghbdiapkelnaa

/-
  Numbers, raw bytes and rows, read back: mathematics. No statement of the seat is proved here.
-/
namespace Go.Proofs.Ytdghbdiapkelnaa
open Go Go.RowKit
set_option maxRecDepth 100000

theorem stNum_digD (n : Nat) (r : List UInt8) (h : n ≤ 4611686018427387904) : stNum (dig n ++ r) false = (n, r, false) := by
  have e := num_dig n r h
  simp [stNum, e, resN, restOf, badOf]
theorem stRaw_at (xs r : List UInt8) : stRaw (xs ++ r) false (xs.length : Int) = (xs, r, false) := by
  unfold stRaw
  rw [if_neg (by simp; omega)]
  simp
theorem stBytes_row (xs r : List UInt8) (h : xs.length ≤ 4611686018427387904) : stBytes (dig xs.length ++ xs ++ r) false = (xs, r, false) := by
  unfold stBytes
  rw [List.append_assoc, stNum_digD _ _ h]
  exact stRaw_at xs r
/-- so many rows, as long as nothing errs -/
def takeR : Nat → List UInt8 → Bool → List (List UInt8) × List UInt8 × Bool
  | 0, bs, bad => ([], bs, bad)
  | k + 1, bs, bad => if bad = true then ([], bs, bad) else
    ((stBytes bs bad).1 :: (takeR k (stBytes bs bad).2.1 (stBytes bs bad).2.2).1, (takeR k (stBytes bs bad).2.1 (stBytes bs bad).2.2).2)
theorem takeR_bad (k : Nat) (bs : List UInt8) : takeR k bs true = ([], bs, true) := by cases k <;> simp [takeR]
theorem takeR_zero (bs : List UInt8) (bad : Bool) : takeR 0 bs bad = ([], bs, bad) := rfl
theorem takeR_succ (k : Nat) (bs : List UInt8) : takeR (k + 1) bs false = ((stBytes bs false).1 :: (takeR k (stBytes bs false).2.1 (stBytes bs false).2.2).1, (takeR k (stBytes bs false).2.1 (stBytes bs false).2.2).2) := by
  rw [takeR, if_neg (by simp)]
theorem takeR_rows : ∀ (l : List (List UInt8)) (r : List UInt8), (∀ s ∈ l, s.length ≤ 4611686018427387904) → takeR l.length (rowsB l ++ r) false = (l, r, false)
  | [], r, _ => by simp [takeR, rowsB]
  | s :: l, r, h => by
    have e : rowsB (s :: l) ++ r = dig s.length ++ s ++ (rowsB l ++ r) := by simp [rowsB]
    have h1 := h s (List.mem_cons_self ..)
    rw [List.length_cons, takeR_succ, e, stBytes_row _ _ h1, takeR_rows l r (fun t ht => h t (List.mem_cons_of_mem _ ht))]
theorem stNum_good {bs : List UInt8} (h : (stNum bs false).2.2 = false) : (stNum bs false).2.1.length + 1 ≤ bs.length := by
  unfold stNum at h ⊢
  rw [if_neg (by simp)] at h ⊢
  rcases hR : num? bs with _ | ⟨n, k⟩
  · rw [hR] at h; simp [badOf] at h
  · obtain ⟨h1, h2, _⟩ := num_bounds hR
    rw [hR] at h
    simp [restOf]
    omega
theorem stBytes_good {bs : List UInt8} (h : (stBytes bs false).2.2 = false) : (stBytes bs false).2.1.length + 1 ≤ bs.length := by
  unfold stBytes at h ⊢
  have h1 : (stNum bs false).2.2 = false := by
    cases hb : (stNum bs false).2.2 with
    | false => rfl
    | true => rw [hb] at h; simp [stRaw] at h
  have h2 := stNum_good h1
  have h3 := (stRaw_len (stNum bs false).2.1 (stNum bs false).2.2 ((stNum bs false).1 : Int)).1
  omega
theorem stBytes_bad {bs : List UInt8} {bad : Bool} (h : (stBytes bs bad).2.2 = true) : (stBytes bs bad).2.1 = [] := by
  unfold stBytes stRaw at h ⊢
  split at h
  · rename_i hc; rw [if_pos hc]
  · simp at h
end Go.Proofs.Ytdghbdiapkelnaa

/-
  The law's plain. No statement of the seat is proved here.
-/
namespace Go.Proofs.Ytdghbdiapkelnaa
open Go Go.RowKit
set_option maxRecDepth 100000

def plL (l : List Tok) : Prop := ∀ x ∈ l, 1 ≤ x.text.length ∧ x.text.length ≤ 256
set_option maxHeartbeats 8000000 in
theorem plain_any (A : Option Addr) (c : Nat) (l : List (List Tok)) (w : World) (h : RowR IsTks 1 w A l) (hl : l.length ≤ maxLen) (hz : ∀ r ∈ l, ∀ t ∈ r, t.text.length ≤ 140737488355328) :
    Calls Try.prog 25 #[.slice A l.length c] w fun e w' => ∃ r : Bool, e = .returned (.bool r) ∧ w = w' ∧ (r = true → ∀ i (hi : i < l.length), i < 120 → plL l[i]) := by
  unfold maxLen at hl
  have hli : (l.length : Int) ≤ 9223372036854775807 := by omega
  have H := Lib.hid h
  have HZ := Lib.hid hz
  clear hl h hz
  go_enter Try.func25, Try.ntmps25
  go_wp2
  go_loop [3] (fun i => ∃ (k : Nat), k ≤ l.length ∧ i = .int .i64 (k : Int) ∧ Hid (∀ j (hj : j < l.length), j < k → plL l[j])) (fun i => l.length - (intOf i).toNat)
  case atStart => exact ⟨0, Nat.zero_le _, rfl, Lib.hid (fun j _ h => absurd h (by omega))⟩
  case round =>
    obtain ⟨k, hk, rfl, HS⟩ := hrel
    by_cases hlt : k < l.length
    · have hki : (k : Int) < (l.length : Int) := by omega
      by_cases h120 : k < 120
      · have hk1 : (k : Int) < 120 := by omega
        obtain ⟨g, o, B, cb, rfl, u0, ht, hm1, hm2⟩ := row_toks H.out hlt
        unfold maxLen at hm2
        have hmi : (l[k].length : Int) ≤ 9223372036854775807 := by omega
        have HT := Lib.hid ht
        have HZk := Lib.hid (HZ.out _ (List.getElem_mem hlt))
        have HSk : Hid (plL l[k] → ∀ j (hj : j < l.length), j < k + 1 → plL l[j]) := Lib.hid (fun h5 j hj hj2 => by
          rcases Nat.lt_succ_iff_lt_or_eq.1 hj2 with h6 | rfl
          · exact HS.out j hj h6
          · exact h5)
        clear ht hm1 hm2
        generalize l[k] = ts at *
        go_wp2
        go_loop [4] (fun i => ∃ (q : Nat), q ≤ ts.length ∧ i = .int .i64 (q : Int) ∧ Hid (∀ j (hj : j < ts.length), j < q → 1 ≤ ts[j].text.length ∧ ts[j].text.length ≤ 256)) (fun i => ts.length - (intOf i).toNat)
        case atStart => exact ⟨0, Nat.zero_le _, rfl, Lib.hid (fun j _ h => absurd h (by omega))⟩
        case round =>
          obtain ⟨q, hq, rfl, HY⟩ := hrel
          by_cases hql : q < ts.length
          · have hqi : (q : Int) < (ts.length : Int) := by omega
            obtain ⟨g2, o2, rfl, v0, v1⟩ := HT.out.at_ hql
            have hlen := HZk.out _ (List.getElem_mem hql)
            have HY2 : Hid (1 ≤ ts[q].text.length ∧ ts[q].text.length ≤ 256 → ∀ j (hj : j < ts.length), j < q + 1 → 1 ≤ ts[j].text.length ∧ ts[j].text.length ≤ 256) := Lib.hid (fun h5 j hj hj2 => by
              rcases Nat.lt_succ_iff_lt_or_eq.1 hj2 with h6 | rfl
              · exact HY.out j hj h6
              · exact h5)
            unfold strV at v1
            obtain ⟨Z, hZ⟩ : ∃ Z : ByteArray, (⟨ts[q].text.toArray⟩ : ByteArray) = Z := ⟨_, rfl⟩
            have hzs : Z.size = ts[q].text.length := by rw [← hZ]; simp [ByteArray.size]
            rw [hZ] at v1
            rw [← hzs] at HY2 hlen
            clear hZ hzs
            have hsi : (Z.size : Int) ≤ 140737488355328 := by omega
            by_cases h1 : (Z.size : Int) < 1
            · go_wp2
              go_ret
              first | exact ⟨rfl, rfl⟩ | exact ⟨false, rfl, rfl, fun h => by cases h⟩ | exact .inl ⟨rfl, rfl⟩ | exact .inr ⟨rfl, rfl⟩ | exact .inl ⟨rfl, rfl, fun h => by cases h⟩
            · by_cases h2 : 256 < (Z.size : Int)
              · go_wp2
                go_ret
                first | exact ⟨rfl, rfl⟩ | exact ⟨false, rfl, rfl, fun h => by cases h⟩ | exact .inl ⟨rfl, rfl⟩ | exact .inr ⟨rfl, rfl⟩ | exact .inl ⟨rfl, rfl, fun h => by cases h⟩
              · have HY3 := Lib.hid (HY2.out ⟨by omega, by omega⟩)
                clear HY2
                go_wp2
                go_round
                case rel => exact ⟨q + 1, by omega, by go_num, HY3⟩
                case measure => simp [intOf]; omega
          · obtain rfl : q = ts.length := by omega
            have HS2 := Lib.hid (HSk.out (fun x hx => by
              obtain ⟨j, hj, rfl⟩ := List.getElem_of_mem hx
              exact HY.out j hj hj))
            go_wp2
            go_round
            case rel => exact ⟨k + 1, by omega, by go_num, HS2⟩
            case measure => simp [intOf]; omega
      · have hk1 : ¬ (k : Int) < 120 := by omega
        go_wp2
        go_ret
        first | exact ⟨true, rfl, rfl, fun _ i hi h => HS.out i hi (by omega)⟩ | exact .inr ⟨rfl, rfl, fun i hi h => HS.out i hi (by omega)⟩ | exact .inr ⟨rfl, rfl, fun _ i hi h => HS.out i hi (by omega)⟩ | exact ⟨rfl, fun i hi h => HS.out i hi (by omega)⟩
    · obtain rfl : k = l.length := by omega
      go_wp2
      go_ret
      first | exact ⟨true, rfl, rfl, fun _ i hi h => HS.out i hi hi⟩ | exact .inr ⟨rfl, rfl, fun i hi h => HS.out i hi hi⟩ | exact .inr ⟨rfl, rfl, fun _ i hi h => HS.out i hi hi⟩ | exact ⟨rfl, fun i hi h => HS.out i hi hi⟩
end Go.Proofs.Ytdghbdiapkelnaa
