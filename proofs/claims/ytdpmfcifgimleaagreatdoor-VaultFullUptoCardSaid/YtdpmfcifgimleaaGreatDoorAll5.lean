/-
  Texts of this claim, joined (part 5): contracts and lemmas that the last text goes by. No statement of the seat is proved here.
-/
import Derived.Test.YtdpmfcifgimleaaGreatDoorAll4
import Derived.Test.YtdpmfcifgimleaaGreatDoorAll3
import Derived.Lib.SlBytesConst
import Derived.Deep.RegionHeld3
set_option linter.unusedVariables false
set_option linter.unusedSimpArgs false
/-
  A directory, sorted; names, sorted and sought: the library's contracts in these words. No statement of the seat is proved here.
-/
namespace Go.Proofs.YtdpmfcifgimleaaGreatDoor
open Go Go.RowKit Go.Sort Go.Lib

theorem flat_cells (R : List Raw) : flatK encR 4 R.toArray = (cellsR R).toArray := by
  refine Array.ext (by simp [cellsR_length]) fun t h1 h2 => ?_
  have ht : t < R.length * 4 := by simpa using h1
  have hk : t / 4 < R.length := by omega
  have hm : t % 4 < 4 := Nat.mod_lt _ (by omega)
  have hg := get_flatK encR 4 R.toArray t (by simpa using ht)
  rw [getElem!_pos _ t h1] at hg
  rw [hg]
  have e1 : R.toArray[t / 4]! = R[t / 4] := by rw [getElem!_pos R.toArray (t / 4) (by simpa using hk)]; simp
  rw [e1]
  have hl : t % 4 < (encR R[t / 4]).length := by rw [encR_length]; exact hm
  rw [getElem!_pos (encR R[t / 4]) (t % 4) hl]
  have := cellsR_at R (t / 4) hk (t % 4) _ (List.getElem?_eq_getElem hl)
  rw [show t / 4 * 4 + t % 4 = t by omega] at this
  have h3 := (List.getElem?_eq_some_iff.1 this).2
  simp only [List.getElem_toArray]
  exact h3.symm

section
variable {w : World} {g off m c : Nat} {R : List Raw}
theorem holdsK_of (h : RowO w 135 4 (some ⟨g, off, none⟩) m c (cellsR R)) : HoldsK encR 4 w g off R.toArray := by
  unfold HoldsK
  rw [flat_cells]
  intro j hj
  have hj' : j < (cellsR R).length := by simpa using hj
  refine ⟨?_, h.free _⟩
  obtain ⟨ad, e, hc⟩ := h.rd j _ (List.getElem?_eq_getElem hj')
  injection e with e
  subst e
  rw [Addr.add_mid] at hc
  rw [hc]
  simp [hj']
theorem heap_put {cs : Array Value} (hb : Blk w g 135 cs) (F : Array Value) (n : Nat) (os : Array Obj) : (grow (putRow id (Sort.ahead w n) g off F) os).heap[g]? = some (.cells (putCells id off F cs) 135 (0, 0)) := by
  have hg : g < w.heap.size := hb.lt
  unfold Blk at hb
  rw [heap_grow_old _ _ (by simpa using hg)]
  simp [putRow, mapBlock, Sort.ahead, Array.getElem?_modify, hb, onCells]
theorem sorted_row (h : RowO w 135 4 (some ⟨g, off, none⟩) m c (cellsR R)) (d : Array Raw) (hd : d.size = R.length) (n : Nat) (os : Array Obj) :
    RowO (sortWorldK encR 4 w g off n d os) 135 4 (some ⟨g, off, none⟩) m c (cellsR d.toList) ∧ Only (inA (some ⟨g, off, none⟩)) w (sortWorldK encR 4 w g off n d os) := by
  have hfl : flatK encR 4 d = (cellsR d.toList).toArray := by
    have := flat_cells d.toList
    simpa using this
  have hln : (cellsR d.toList).length = (cellsR R).length := by rw [cellsR_length, cellsR_length]; simp [hd]
  unfold sortWorldK putRowK
  rw [hfl]
  have h1 := h.1
  rcases h.2 with ⟨h2, _⟩ | ⟨g', off', cs, h2, h3, h4, hb, h6, h7⟩
  · cases h2
  · injection h2 with h2
    injection h2 with h2 h2' _
    subst h2 h2'
    refine ⟨⟨by rw [hln]; exact h1, .inr ⟨g, off, _, rfl, h3, h4, heap_put hb _ n os, by simp [putCells]; omega, fun j u hu => ?_⟩⟩, ?_⟩
    · have hj : j < (cellsR d.toList).length := (List.getElem?_eq_some_iff.1 hu).1
      have hjs : off + j < cs.size := by omega
      unfold putCells
      rw [Array.getElem?_mapIdx, Array.getElem?_eq_getElem hjs]
      have hj2 : j < (cellsR d.toList).toArray.size := by simpa using hj
      simp only [Option.map_some, List.size_toArray]
      rw [if_pos ⟨by omega, by omega⟩, show off + j - off = j by omega, getElem!_pos _ j hj2]
      rw [← hu, List.getElem?_eq_getElem hj]
      simp
    · refine ⟨rfl, rfl, rfl, by simp [grow, putRow, mapBlock, Sort.ahead], fun k hk hn => ?_⟩
      rw [inA_some] at hn
      rw [heap_grow_old _ _ (by simpa [putRow, mapBlock, Sort.ahead] using hk)]
      simp [putRow, mapBlock, Sort.ahead, Array.getElem?_modify, hn]
end

/-! ### the order of entries -/
def cfR (a b : Raw) : Int := Lib.compareBytes a.e.name b.e.name
theorem closure_any (x y : Raw) (W : World) : Calls Tryz.prog 101 #[.agg (encR x).toArray, .agg (encR y).toArray] W fun e w' => e = .returned (.int .i64 (cfR x y)) ∧ ∃ q os', w' = grow (W.drewN q) os' := by
  have hc := fun V => entcmp_any x y.e.name V
  unfold cfR
  obtain ⟨⟨nm, ln, sm, xs⟩, A, c⟩ := x
  obtain ⟨⟨nm2, ln2, sm2, xs2⟩, A2, c2⟩ := y
  unfold entV encR iv at hc
  unfold encR iv
  dsimp only at hc ⊢
  obtain ⟨Z, hZ⟩ : ∃ Z, strV nm = .string Z := ⟨_, rfl⟩
  obtain ⟨Y, hY⟩ : ∃ Y, strV nm2 = .string Y := ⟨_, rfl⟩
  obtain ⟨r, hr⟩ : ∃ r, Lib.compareBytes nm nm2 = r := ⟨_, rfl⟩
  rw [hZ, hY, hr] at hc
  rw [hZ, hY, hr]
  clear hZ hY hr
  go_enter Tryz.func101, Tryz.ntmps101
  go_wp2_with fail
  refine (hc _).mono ?_
  rintro e w2 ⟨rfl, rfl⟩
  go_wp2
  go_ret
  exact ⟨rfl, 0, _, by rw [alloc_eq_grow, alloc_eq_grow, alloc_eq_grow, grow_grow, grow_grow]; rfl⟩
theorem cmpLays_any (blk off size : Nat) (w : World) : CmpLays Tryz.prog 101 #[] encR 4 cfR blk off size w := fun _ _ _ _ x y => closure_any x y _
theorem ltR (x y : Raw) : ltOf cfR x y = decide (x.e.name < y.e.name) := by
  unfold ltOf cfR
  rw [decide_eq_decide]
  exact cmp_lt _ _
theorem swoR : SWO (ltOf cfR) where
  irrefl x := by rw [ltR]; simp
  trans x y z h1 h2 := by
    rw [ltR] at *
    simp only [decide_eq_true_eq] at *
    exact lt_tr h1 h2
  ntrans x y z h1 h2 := by
    rw [ltR] at *
    simp only [decide_eq_false_iff_not] at *
    intro h3
    rcases not_lt_of h1 with h | h
    · rw [h] at h3; exact h2 h3
    · rcases not_lt_of h2 with k | k
      · rw [← k] at h3; exact h1 h3
      · exact lt_asy h3 (lt_tr k h)
theorem isagg_ent : ∀ w, (isAgg 135).run Tryz.prog w = .ok true w := Tryz.isAgg135
theorem sizeof_ent : ∀ w, (Go.sizeOf 135).run Tryz.prog w = .ok 4 w := Tryz.sizeOf135
theorem blen_any (n : Nat) (w : World) (h : n ≤ 1000000) : Calls Tryz.prog 143 #[.int .u64 (n : Int)] w fun e w' => e = .returned (.int .i64 (Lib.bitLen n : Nat)) ∧ w = w' := by
  have hl := Any.bits_Len Tryz.layLen (n : Int) w (by omega) (by omega)
  change Calls Tryz.prog 143 _ _ _ at hl
  refine hl.mono ?_
  rintro e w' ⟨rfl, rfl⟩
  exact ⟨by rw [Int.toNat_natCast], rfl⟩
/-- rising, maybe with equals -/
def Calm (R : List Raw) : Prop := R.Pairwise fun a b => ¬ b.e.name < a.e.name
theorem sortfunc_any {w : World} {A : Option Addr} {c : Nat} {R : List Raw} (h : RowO w 135 4 A R.length c (cellsR R)) (hl : R.length ≤ 1000000) :
    Calls Tryz.prog 100 #[.slice A R.length c, .func (.func 101) #[] #[]] w fun e w' => e = .returned (.tuple #[]) ∧ ∃ R', R'.Perm R ∧ Calm R' ∧ RowO w' 135 4 A R.length c (cellsR R') ∧ Only (inA A) w w' := by
  have hlen := fun W => blen_any R.length W hl
  have hlb : Lib.bitLen R.length < 4611686018427387904 := Nat.lt_of_le_of_lt (Lib.bitLen_le R.length 62 (by omega) (by omega)) (by omega)
  have hli : (R.length : Int) ≤ 1000000 := by omega
  have hwu : IntKind.u64.wrap (R.length : Int) = (R.length : Int) := by rw [IntKind.wrap_u64]; omega
  cases A with
  | none =>
    have hR : R = [] := by
      rcases h.2 with ⟨_, h1, _⟩ | ⟨_, _, _, h1, _⟩
      · exact List.eq_nil_of_length_eq_zero h1
      · cases h1
    subst hR
    have hp := fun lim W => AnyF.pdqsortCmpFunc_none Tryz.layPdq none c lim (.func (.func 101) #[] #[]) W
    change ∀ lim W, Calls Tryz.prog 146 _ _ _ at hp
    have hfin : ∃ R' : List Raw, R'.Perm [] ∧ Calm R' ∧ RowO w 135 4 none 0 c (cellsR R') ∧ Only (inA none) w w := ⟨[], List.Perm.refl _, List.Pairwise.nil, h, Only.refl _ _⟩
    have Hfin := Lib.hid hfin
    have hlen0 : ∀ W, Calls Tryz.prog 143 #[.int .u64 0] W fun e w' => e = .returned (.int .i64 (Lib.bitLen 0 : Nat)) ∧ W = w' := hlen
    obtain ⟨bl, hbl⟩ : ∃ bl, Lib.bitLen 0 = bl := ⟨_, rfl⟩
    rw [hbl] at hlen0
    clear h hfin hbl hlen hlb
    go_enter Tryz.func100, Tryz.ntmps100
    go_wp2_with fail
    refine (hlen0 _).mono ?_
    rintro e w2 ⟨rfl, rfl⟩
    go_wp2_with fail
    refine (hp _ _).mono ?_
    rintro e w2 ⟨rfl, rfl⟩
    go_wp2
    go_end0
    exact ⟨rfl, Hfin.out⟩
  | some ad =>
    obtain ⟨g, off, e⟩ := h.flat ad rfl
    subst e
    have hH := holdsK_of h
    have hg : g < w.heap.size := h.lt ((inA_some g off g none).2 rfl)
    have hp := AnyQ.pdqsortCmpFunc_all Tryz.layPdq 4 isagg_ent sizeof_ent encR cfR 101 #[] swoR g off c R.toArray w (enters_of Tryz.func101 (by kernel_rfl) rfl) (cmpLays_any g off _ w) ⟨encR_length, encR_one, hH, hg⟩ (R.toArray.size + 1) 0 R.toArray.size (Lib.bitLen R.toArray.size) R.toArray w (by omega) rfl (SWK.start hH) (Nat.zero_le _) (Nat.le_refl _) (by simp; omega) (by simpa using hlb) (Or.inl rfl)
    change Calls Tryz.prog 146 _ _ _ at hp
    have hps := pdq_sorts (ltOf cfR) swoR R.toArray 0 R.toArray.size (Lib.bitLen R.toArray.size) true true (Nat.zero_le _) (Nat.le_refl _) (Or.inl rfl)
    obtain ⟨d', hd'⟩ : ∃ d', pdq (ltOf cfR) R.toArray 0 R.toArray.size (Lib.bitLen R.toArray.size) true true = d' := ⟨_, rfl⟩
    rw [hd'] at hp hps
    obtain ⟨⟨hs1, _, hs3⟩, hs4⟩ := hps
    have hsz : d'.size = R.length := by simpa using hs1
    have hperm : d'.toList.Perm R := by
      have e1 : (d'.extract 0 R.toArray.size).toList = d'.toList := by
        rw [List.size_toArray, ← hsz]; simp
      have e2 : (R.toArray.extract 0 R.toArray.size).toList = R := by simp
      rw [e1, e2] at hs3
      exact hs3
    have hcalm : Calm d'.toList := by
      refine List.pairwise_iff_getElem.2 fun i j hi hj hij => ?_
      have hj' : j < d'.size := by simpa using hj
      have := hs4 i j (Nat.zero_le _) hij (by simpa [hsz] using hj)
      rw [ltR] at this
      simp only [decide_eq_false_iff_not] at this
      rw [getElem!_pos d' j hj', getElem!_pos d' i (by omega)] at this
      simpa using this
    have hrow := fun n os => sorted_row h d' hsz n os
    have Hrow := Lib.hid hrow
    have Hperm := Lib.hid hperm
    have Hcalm := Lib.hid hcalm
    rw [List.size_toArray] at hp
    have Hp := Lib.hid hp
    obtain ⟨bl, hbl⟩ : ∃ bl, Lib.bitLen R.length = bl := ⟨_, rfl⟩
    rw [hbl] at hlen hp
    have Hp := Lib.hid hp
    clear hH hp hd' hs1 hs3 hs4 hsz hperm hcalm hrow hbl hlb
    go_enter Tryz.func100, Tryz.ntmps100
    go_wp2_with fail
    refine (hlen _).mono ?_
    rintro e w2 ⟨rfl, rfl⟩
    go_wp2_with fail
    refine Hp.out.mono ?_
    rintro e w2 ⟨rfl, n, os, rfl⟩
    go_wp2
    go_end0
    exact ⟨rfl, d'.toList, Hperm.out, Hcalm.out, (Hrow.out n os).1, (Hrow.out n os).2⟩

/-! ### names sought in a rising row -/
theorem search_any {w : World} (A : Option Addr) (c : Nat) (ns : List (List UInt8)) (x : List UInt8) (hr : Rd w A (ns.map strV)) (hs : ns.Pairwise fun a b => ¬ b < a) (hn : ns.length ≤ 1000000) :
    Calls Tryz.prog 99 #[.slice A ns.length c, strV x] w fun e w' => ∃ i : Int, e = .returned (.tuple #[.int .i64 i, .bool (decide (x ∈ ns))]) ∧ Below w.heap.size w w' := by
  cases A with
  | none =>
    have h0 : ns = [] := by
      rcases ns with _ | ⟨a, r⟩
      · rfl
      · obtain ⟨ad, e, _⟩ := hr 0 _ rfl; cases e
    subst h0
    have h := Go.Proofs.Any2.slices_BinarySearch_string_empty Tryz.laySearch none c ⟨x.toArray⟩ w
    change Calls Tryz.prog 99 _ _ _ at h
    refine h.mono ?_
    rintro e w' ⟨rfl, rfl⟩
    exact ⟨0, rfl, Below.refl _ _⟩
  | some ad =>
    by_cases hne : ns = []
    · subst hne
      have h := Go.Proofs.Any2.slices_BinarySearch_string_empty Tryz.laySearch (some ad) c ⟨x.toArray⟩ w
      change Calls Tryz.prog 99 _ _ _ at h
      refine h.mono ?_
      rintro e w' ⟨rfl, rfl⟩
      exact ⟨0, rfl, Below.refl _ _⟩
    · have hpos : 0 < ns.length := List.length_pos_iff.2 hne
      obtain ⟨ad', e', hc0⟩ := hr.at_ (k := 0) (by simpa using hpos)
      injection e' with e'
      subst e'
      obtain ⟨g, o, rfl⟩ := flat_of_cell hc0
      obtain ⟨Sx, hSx⟩ : ∃ Sx : Nat → ByteArray, Sx = fun j => ⟨(ns.getD j x).toArray⟩ := ⟨_, rfl⟩
      have hcell : ∀ j, j < ns.length → w.cell? ⟨g, o + j, none⟩ = some (.string (Sx j)) := fun j hj => by
        obtain ⟨ad', e', hc⟩ := hr.at_ (k := j) (by simpa using hj)
        injection e' with e'
        subst e'
        rw [Addr.add_mid] at hc
        rw [hc, hSx]
        simp only [List.getElem_map]
        rw [List.getD_eq_getElem?_getD, List.getElem?_eq_getElem hj]; rfl
      have h := Go.Proofs.Any2.slices_BinarySearch_string Tryz.laySearch g o ns.length c Sx ⟨x.toArray⟩ w (by omega) hcell
      change Calls Tryz.prog 99 _ _ _ at h
      refine h.mono ?_
      rintro e w' ⟨rfl, q, rfl⟩
      -- the place
      have hless : ∀ t, Op.bytesLess (Sx t).toList (⟨x.toArray⟩ : ByteArray).toList = decide (ns.getD t x < x) := fun t => by
        rw [hSx, bytesLess_eq, ByteArray.toList_mk, ByteArray.toList_mk]
      obtain ⟨k, hk1, hk2, hk3⟩ : ∃ k, k ≤ ns.length ∧ (∀ t, t < k → ns.getD t x < x) ∧ (∀ t, k ≤ t → ¬ ns.getD t x < x) := by
        have key : ∀ m, m ≤ ns.length → ∃ k, k ≤ m ∧ (∀ t, t < k → ns.getD t x < x) ∧ (k < m → ∀ t, k ≤ t → ¬ ns.getD t x < x) := by
          intro m
          induction m with
          | zero => intro _; exact ⟨0, Nat.le_refl _, fun t ht => by omega, fun h => by omega⟩
          | succ m ih =>
            intro hm
            obtain ⟨k, h1, h2, h3⟩ := ih (by omega)
            by_cases hkm : k < m
            · exact ⟨k, by omega, h2, fun _ => h3 hkm⟩
            · obtain rfl : k = m := by omega
              by_cases hlt : ns.getD k x < x
              · exact ⟨k + 1, Nat.le_refl _, fun t ht => by
                  rcases Nat.lt_or_ge t k with h | h
                  · exact h2 t h
                  · obtain rfl : t = k := by omega
                    exact hlt, fun h => by omega⟩
              · refine ⟨k, by omega, h2, fun _ t ht hh => ?_⟩
                rcases Nat.lt_or_ge t ns.length with htl | htl
                · rcases Nat.lt_or_ge k t with hkt | hkt
                  · have := List.pairwise_iff_getElem.1 hs k t (by omega) htl hkt
                    rw [List.getD_eq_getElem?_getD, List.getElem?_eq_getElem htl] at hh
                    rw [List.getD_eq_getElem?_getD, List.getElem?_eq_getElem (by omega : k < ns.length)] at hlt
                    simp only [Option.getD_some] at hh hlt
                    rcases not_lt_of this with h | h
                    · rw [h] at hh; exact hlt hh
                    · exact hlt (lt_tr h hh)
                  · obtain rfl : t = k := by omega
                    exact hlt hh
                · rw [List.getD_eq_getElem?_getD, List.getElem?_eq_none htl] at hh
                  exact lt_irr _ hh
        obtain ⟨k, h1, h2, h3⟩ := key ns.length (Nat.le_refl _)
        refine ⟨k, h1, h2, fun t ht hh => ?_⟩
        by_cases hk : k < ns.length
        · exact h3 hk t ht hh
        · rw [List.getD_eq_getElem?_getD, List.getElem?_eq_none (by omega)] at hh
          exact lt_irr _ hh
      have hgo : Lib.bsGo (fun t => Op.bytesLess (Sx t).toList (⟨x.toArray⟩ : ByteArray).toList) ns.length 0 ns.length = k :=
        Lib.bsGo_spec _ k (fun t ht => by rw [hless]; exact decide_eq_true (hk2 t ht)) (fun t ht => by rw [hless]; exact decide_eq_false (hk3 t ht)) _ _ _ (by omega) (Nat.zero_le _) hk1
      rw [hgo]
      refine ⟨(k : Nat), ?_, ext_drewN (Below.refl _ _) q⟩
      congr 6
      rw [decide_eq_decide]
      constructor
      · rintro ⟨h1, h2⟩
        rw [hSx] at h2
        have h3 := strV_inj.1 h2
        rw [List.getD_eq_getElem?_getD, List.getElem?_eq_getElem h1] at h3
        simp only [Option.getD_some] at h3
        rw [← h3]
        exact List.getElem_mem h1
      · intro hx
        obtain ⟨t, ht, rfl⟩ := List.mem_iff_getElem.1 hx
        have hgt : ns.getD t ns[t] = ns[t] := by rw [List.getD_eq_getElem?_getD, List.getElem?_eq_getElem ht]; rfl
        have hkt : k ≤ t := by
          rcases Nat.lt_or_ge t k with h | h
          · have := hk2 t h
            rw [hgt] at this
            exact absurd this (lt_irr _)
          · exact h
        have hkl : k < ns.length := by omega
        refine ⟨hkl, ?_⟩
        rw [hSx]
        refine strV_inj.2 ?_
        have hnk := hk3 k (Nat.le_refl _)
        have hgk : ns.getD k ns[t] = ns[k] := by rw [List.getD_eq_getElem?_getD, List.getElem?_eq_getElem hkl]; rfl
        rw [hgk] at hnk ⊢
        rcases Nat.lt_or_ge k t with hlt | hge
        · have := List.pairwise_iff_getElem.1 hs k t hkl ht hlt
          rcases not_lt_of hnk with h | h
          · exact h
          · exact absurd h this
        · obtain rfl : k = t := by omega
          rfl

/-! ### copies -/
set_option maxRecDepth 100000 in
theorem clone_dir {w : World} (A : Option Addr) (m c : Nat) (xs : List Value) (hl : xs.length = m * 4) (hr : Rd w A xs) (h0 : A = none → m = 0 ∧ c = 0) (h1 : ∀ u ∈ xs, u.oneCell' = true) (hm : m ≤ 1000000) :
    Calls Tryz.prog 98 #[.slice A m c] w fun e w' => ∃ A' c', e = .returned (.slice A' m c') ∧ NewO w w' 135 4 A' m c' xs := by
  have he := Lib.run_eql_slice_nil (P := Tryz.prog) w 83 135 A m c 0 0 Tryz.underlying83
  rcases A with _ | ad
  · obtain ⟨rfl, rfl⟩ := h0 rfl
    have hnil : xs = [] := List.eq_nil_of_length_eq_zero (by simpa using hl)
    subst hnil
    go_enter Tryz.func98, Tryz.ntmps98
    go_wp2
    go_ret
    exact ⟨none, 0, rfl, NewO.start _ _ _⟩
  · have hm1 : 0 + m ≤ maxLen := by unfold maxLen; omega
    have hm2 : (0 + m) * 56 ≤ 140737488355328 := by omega
    have hempty : NewO w (w.alloc (.cells #[] 135)) 135 4 (some ⟨w.heap.size, 0, none⟩) 0 0 [] := ⟨RowO.lit w 135 4 0 #[] rfl (Nat.zero_le _) rfl, ext_alloc (Below.refl _ _) _, fun k hk => by rw [inA_some] at hk; omega⟩
    have hrd := hr.alloc (.cells #[] 135)
    go_enter Tryz.func98, Tryz.ntmps98
    go_wp2_with (at_builtin
                 refine wpList_appO _ rfl (.tmp 5) (.tmp 6) _ rfl _ _ 4 56 Tryz.underlying83 info_ent rfl (some ⟨w.heap.size, 0, none⟩) 0 0 [] rfl hempty.row (some ad) m c xs rfl hl hrd h1 ?_ hm1 hm2 ?_
                 · intro h; cases h
                 intro A2 c2 w2 hrow2 honly2 hA2)
    go_ret
    rw [List.nil_append] at hrow2
    rw [Nat.zero_add] at hrow2
    exact ⟨A2, c2, by first | rfl | simp, hempty.grow (Below.refl _ _) hrow2 honly2 hA2⟩
end Go.Proofs.YtdpmfcifgimleaaGreatDoor

/-
  The contract of a directory's behind. No statement of the seat is proved here.
-/
namespace Go.Proofs.YtdpmfcifgimleaaGreatDoor
open Go Go.RowKit

def stays (ns : List (List UInt8)) (r : Raw) : Bool := !decide (r.e.name ∈ ns)
theorem filter_take_succ {α : Type} (p : α → Bool) (l : List α) (k : Nat) (h : k < l.length) : (l.take (k + 1)).filter p = (l.take k).filter p ++ if p l[k] then [l[k]] else [] := by
  rw [List.take_succ_eq_append_getElem h, List.filter_append]
  congr 1
  cases hp : p l[k] <;> simp [hp]

set_option maxRecDepth 100000 in
set_option maxHeartbeats 4000000 in
theorem dirbehind_any {w : World} (A : Option Addr) (c : Nat) (R : List Raw) (hD : DirR w A c R) (N : Option Addr) (cn : Nat) (ns : List (List UInt8)) (hN : Rd w N (ns.map strV)) (hs : ns.Pairwise fun a b => ¬ b < a) (L : Option Addr) (cl : Nat) (Rl : List Raw) (hL : RowO w 135 4 L Rl.length cl (cellsR Rl))
    (h1 : R.length ≤ 400000) (h2 : ns.length ≤ 1000000) (h3 : Rl.length ≤ 400000) :
    Calls Tryz.prog 48 #[.slice A R.length c, .slice N ns.length cn, .slice L Rl.length cl] w fun e w' => ∃ A' c' R', e = .returned (.slice A' R'.length c') ∧ NewO w w' 135 4 A' R'.length c' (cellsR R') ∧ R'.Perm (Rl ++ R.filter (stays ns)) ∧ Calm R' := by
  have hri : (R.length : Int) ≤ 1000000 := by omega
  have hcl := clone_dir L Rl.length cl (cellsR Rl) (cellsR_length _) hL.rd (fun e => by
    rcases hL.2 with ⟨_, q1, q2⟩ | ⟨_, _, _, q1, _⟩
    · exact ⟨q1, q2⟩
    · rw [e] at q1; cases q1) (cellsR_one _) (by omega)
  obtain ⟨P, hP⟩ : ∃ P : Nat → List Raw, P = fun k => Rl ++ (R.take k).filter (stays ns) := ⟨_, rfl⟩
  have hP0 : P 0 = Rl := by rw [hP]; simp
  have hPn : P R.length = Rl ++ R.filter (stays ns) := by rw [hP]; simp
  have hPl : ∀ k, (P k).length ≤ 800000 := fun k => by
    rw [hP]
    show (Rl ++ (R.take k).filter (stays ns)).length ≤ _
    rw [List.length_append]
    have := List.length_filter_le (stays ns) (R.take k)
    have := List.length_take_le k R
    have : (R.take k).length ≤ R.length := by rw [List.length_take]; omega
    omega
  have hPs : ∀ k (h : k < R.length), P (k + 1) = P k ++ if stays ns R[k] then [R[k]] else [] := fun k h => by
    rw [hP]
    show _ ++ _ = (_ ++ _) ++ _
    rw [filter_take_succ _ _ k h, List.append_assoc]
  rw [← hPn]
  rw [← hP0] at hcl
  have HPl := Lib.hid hPl
  have HPs := Lib.hid hPs
  have HP0 := Lib.hid hP0
  have hll : Rl.length = (P 0).length := by rw [hP0]
  rw [hll]
  clear hP hP0 hPn hPl hPs
  have hcl' := Lib.hid hcl
  clear hcl hll
  go_enter Tryz.func48, Tryz.ntmps48
  go_wp2_with fail
  refine hcl'.out.mono ?_
  rintro e w1 ⟨A1, c1, rfl, hN1⟩
  go_wp2
  go_loopw [7, 9, 10, 11, 16] (fun s _ _ _ i w2 => ∃ (k : Nat) (A2 : Option Addr) (c2 : Nat), k ≤ R.length ∧ i = .int .i64 (k : Int) ∧ s = .slice A2 (P k).length c2 ∧ NewO w w2 135 4 A2 (P k).length c2 (cellsR (P k))) (fun _ _ _ _ i _ => R.length - (intOf i).toNat)
  case atStart => exact ⟨0, A1, c1, Nat.zero_le _, rfl, rfl, hN1⟩
  case round =>
    obtain ⟨k, A2, c2, hk, rfl, rfl, hN2⟩ := hrel
    by_cases hlt : k < R.length
    · have hki : (k : Int) < (R.length : Int) := by omega
      obtain ⟨ge, oe, rfl, q0, q1, q2, q3⟩ := (hD.keep hN2.bel).cell hlt
      have hps := HPs.out k hlt
      have hpl := HPl.out k
      have hst : stays ns R[k] = !decide (R[k].e.name ∈ ns) := rfl
      have hse := fun (W : World) => search_any (w := W) N cn ns R[k].e.name
      obtain ⟨r, hr⟩ : ∃ r, R[k] = r := ⟨_, rfl⟩
      rw [hr] at q0 q1 q2 q3 hps hst hse
      have Hr := Lib.hid hr
      clear hr
      obtain ⟨p, hp⟩ : ∃ p, P k = p := ⟨_, rfl⟩
      rw [hp] at hps hpl hN2 ⊢
      have Hp := Lib.hid hp
      clear hp
      obtain ⟨⟨nm, ln, sm, xs⟩, Ax, cx⟩ := r
      dsimp only at q0 q1 q2 q3 hst hse
      unfold iv at q1 q2
      obtain ⟨Z, hZ⟩ : ∃ Z, strV nm = .string Z := ⟨_, rfl⟩
      rw [hZ] at q0 hse
      have HZ := Lib.hid hZ
      clear hZ
      obtain ⟨wa, hwa⟩ : ∃ wa, wr.alloc (.cells #[.string Z, .int .i64 (ln : Int), .int .i64 (sm : Int), .slice Ax xs.length cx] 135) = wa := ⟨_, rfl⟩
      have hba : Below wr.heap.size wr wa := by rw [← hwa]; exact ext_alloc (Below.refl _ _) _
      have hBa : Blk wa wr.heap.size 135 #[.string Z, .int .i64 (ln : Int), .int .i64 (sm : Int), .slice Ax xs.length cx] := by rw [← hwa]; exact Blk.new _ _ _
      have hse' := hse wa (hN.ext (ext_trans hN2.bel hba)) hs h2
      rw [← hwa] at hse'
      have Hwa := Lib.hid hwa
      obtain ⟨b, hb⟩ : ∃ b, decide (nm ∈ ns) = b := ⟨_, rfl⟩
      rw [hb] at hst hse'
      have Hst := Lib.hid hst
      have Hps := Lib.hid hps
      have Hse := Lib.hid hse'
      have Hb := Lib.hid hb
      clear hse hse' hwa hst hps hb
      go_wp2_with fail
      refine Hse.out.mono ?_
      rintro e w3 ⟨i3, rfl, hb3⟩
      have hb3' : Below wa.heap.size wa w3 := by rw [Hwa.out] at hb3; exact hb3
      have hB3 := hBa.ext hb3'
      have hN3 := hN2.ext (ext_trans hba hb3')
      cases b with
      | true =>
        go_wp2
        go_roundw
        case rel => exact ⟨k + 1, A2, c2, by omega, by go_num, by rw [Hps.out, Hst.out]; simp, by rw [Hps.out, Hst.out]; simpa using hN3⟩
        case measure => simp [intOf]; omega
      | false =>
        have e0 := hB3.cell 0
        have e1 := hB3.cell 1
        have e2 := hB3.cell 2
        have e3 := hB3.cell 3
        simp only [List.getElem?_toArray, List.getElem?_cons_zero, List.getElem?_cons_succ] at e0 e1 e2 e3
        have hm1 : p.length + 1 ≤ maxLen := by unfold maxLen; omega
        go_wp2_with (at_builtin
                     refine wpList_appO _ rfl (.tmp 29) (.tmp 31) _ rfl _ _ 4 56 Tryz.underlying83 info_ent rfl A2 _ c2 _ rfl (hN3.row.alloc _) (some ⟨w3.heap.size, 0, none⟩) 1 1 [.string Z, .int .i64 (ln : Int), .int .i64 (sm : Int), .slice Ax xs.length cx] rfl rfl (Rd.lit_at _ #[.string Z, .int .i64 (ln : Int), .int .i64 (sm : Int), .slice Ax xs.length cx] _ (by first | rfl | simp)) ?_ ?_ hm1 (by omega) ?_
                     · intro u hu; simp at hu; rcases hu with rfl | rfl | rfl | rfl <;> rfl
                     · intro h; cases h
                     intro A4 c4 w4 hrow4 honly4 hA4)
        have hN4 := hN3.grow (ext_alloc (Below.refl _ _) _) hrow4 honly4 hA4
        have hpp : P (k + 1) = p ++ [⟨⟨nm, ln, sm, xs⟩, Ax, cx⟩] := by rw [Hps.out, Hst.out]; simp
        have hcc : cellsR (P (k + 1)) = cellsR p ++ [.string Z, .int .i64 (ln : Int), .int .i64 (sm : Int), .slice Ax xs.length cx] := by
          rw [hpp, cellsR_append, ← HZ.out]
          simp [cellsR, encR, iv]
        have hpp2 : (P (k + 1)).length = p.length + 1 := by rw [hpp]; simp
        have Hcc := Lib.hid hcc
        have Hpp2 := Lib.hid hpp2
        clear hpp hcc hpp2
        go_roundw
        case rel => exact ⟨k + 1, A4, c4, by omega, by go_num, by rw [Hpp2.out], by rw [Hpp2.out, Hcc.out]; exact hN4⟩
        case measure => simp [intOf]; omega
    · obtain rfl : k = R.length := by omega
      have hpl := HPl.out R.length
      have hso := sortfunc_any hN2.row (by omega)
      have Hso := Lib.hid hso
      clear hso
      go_wp2_with fail
      refine Hso.out.mono ?_
      rintro e w3 ⟨rfl, R', hperm, hcalm, hrow, ho⟩
      have hlp := hperm.length_eq
      have hfin : NewO w w3 135 4 A2 R'.length c2 (cellsR R') := by
        rw [hlp]
        exact hN2.grow (Below.refl _ _) hrow ho (fun q hq => .inl hq)
      have Hfin := Lib.hid hfin
      have Hlp := Lib.hid hlp
      have Hperm := Lib.hid hperm
      clear hlp hfin hrow hperm
      go_wp2
      go_ret
      exact ⟨A2, c2, R', by rw [Hlp.out]; rfl, Hfin.out, Hperm.out, hcalm⟩
end Go.Proofs.YtdpmfcifgimleaaGreatDoor

/-
  The contracts of namesOf, refuses. No statement of the seat is proved here.
-/
namespace Go.Proofs.YtdpmfcifgimleaaGreatDoor
open Go Go.RowKit Go.Sort Go.Lib

set_option maxRecDepth 100000 in
theorem clone_strs {w : World} (A : Option Addr) (m c : Nat) (xs : List Value) (hl : xs.length = m) (hr : Rd w A xs) (h0 : A = none → m = 0 ∧ c = 0) (h1 : ∀ u ∈ xs, u.oneCell' = true) (hm : m ≤ 1000000) :
    Calls Tryz.prog 94 #[.slice A m c] w fun e w' => ∃ A' c', e = .returned (.slice A' m c') ∧ NewO w w' 9 1 A' m c' xs := by
  have he := Lib.run_eql_slice_nil (P := Tryz.prog) w 37 9 A m c 0 0 Tryz.underlying37
  rcases A with _ | ad
  · obtain ⟨rfl, rfl⟩ := h0 rfl
    have hnil : xs = [] := List.eq_nil_of_length_eq_zero hl
    subst hnil
    go_enter Tryz.func94, Tryz.ntmps94
    go_wp2
    go_ret
    exact ⟨none, 0, rfl, NewO.start _ _ _⟩
  · have hm1 : 0 + m ≤ maxLen := by unfold maxLen; omega
    have hm2 : (0 + m) * 16 ≤ 140737488355328 := by omega
    have hempty : NewO w (w.alloc (.cells #[] 9)) 9 1 (some ⟨w.heap.size, 0, none⟩) 0 0 [] := ⟨RowO.lit w 9 1 0 #[] rfl (Nat.zero_le _) rfl, ext_alloc (Below.refl _ _) _, fun k hk => by rw [inA_some] at hk; omega⟩
    have hrd := hr.alloc (.cells #[] 9)
    go_enter Tryz.func94, Tryz.ntmps94
    go_wp2_with (at_builtin
                 refine wpList_appO _ rfl (.tmp 5) (.tmp 6) _ rfl _ _ 1 16 Tryz.underlying37 info_str rfl (some ⟨w.heap.size, 0, none⟩) 0 0 [] rfl hempty.row (some ad) m c xs rfl (by rw [hl, Nat.mul_one]) hrd h1 ?_ hm1 hm2 ?_
                 · intro h; cases h
                 intro A2 c2 w2 hrow2 honly2 hA2)
    go_ret
    rw [List.nil_append] at hrow2
    rw [Nat.zero_add] at hrow2
    exact ⟨A2, c2, by first | rfl | simp, hempty.grow (Below.refl _ _) hrow2 honly2 hA2⟩

section
variable {w : World} {g off m c : Nat} {ss : List (List UInt8)}
theorem holds_strs (h : RowO w 9 1 (some ⟨g, off, none⟩) m c (ss.map strV)) : Holds encStr w g off ss.toArray := by
  intro j hj
  have hj' : j < ss.length := by simpa using hj
  refine ⟨?_, h.free _⟩
  obtain ⟨ad, e, hc⟩ := h.rd j _ (List.getElem?_eq_getElem (by simpa using hj'))
  injection e with e
  subst e
  rw [Addr.add_mid] at hc
  rw [hc]
  simp [hj']
  rfl
theorem sorted_strs (h : RowO w 9 1 (some ⟨g, off, none⟩) m c (ss.map strV)) (ts : List (List UInt8)) (hd : ts.length = ss.length) (n : Nat) (os : Array Obj) :
    RowO (grow (putRow encStr (Sort.ahead w n) g off ts.toArray) os) 9 1 (some ⟨g, off, none⟩) m c (ts.map strV) ∧ Only (inA (some ⟨g, off, none⟩)) w (grow (putRow encStr (Sort.ahead w n) g off ts.toArray) os) := by
  have h1 := h.1
  rcases h.2 with ⟨h2, _⟩ | ⟨g', off', cs, h2, h3, h4, hb, h6, h7⟩
  · cases h2
  · injection h2 with h2
    injection h2 with h2 h2' _
    subst h2 h2'
    have hg : g < w.heap.size := hb.lt
    have hb' := hb
    unfold Blk at hb'
    refine ⟨⟨by rw [List.length_map, hd]; rw [List.length_map] at h1; exact h1, .inr ⟨g, off, putCells encStr off ts.toArray cs, rfl, h3, h4, ?_, by simp [putCells]; omega, fun j u hu => ?_⟩⟩, ?_⟩
    · unfold Blk
      rw [heap_grow_old _ _ (by simpa using hg)]
      simp [putRow, mapBlock, Sort.ahead, Array.getElem?_modify, hb', onCells]
    · have hj : j < ts.length := by have := (List.getElem?_eq_some_iff.1 hu).1; simpa using this
      rw [List.length_map] at h1
      have hjs : off + j < cs.size := by omega
      unfold putCells
      rw [Array.getElem?_mapIdx, Array.getElem?_eq_getElem hjs]
      have hj2 : j < ts.toArray.size := by simpa using hj
      simp only [Option.map_some, List.size_toArray]
      rw [if_pos ⟨by omega, by omega⟩, show off + j - off = j by omega, getElem!_pos _ j hj2]
      rw [← hu, List.getElem?_map, List.getElem?_eq_getElem hj]
      simp
      rfl
    · refine ⟨rfl, rfl, rfl, by simp [grow, putRow, mapBlock, Sort.ahead], fun k hk hn => ?_⟩
      rw [inA_some] at hn
      rw [heap_grow_old _ _ (by simpa [putRow, mapBlock, Sort.ahead] using hk)]
      simp [putRow, mapBlock, Sort.ahead, Array.getElem?_modify, hn]
end
theorem sortstrs_any {w : World} {A : Option Addr} {c : Nat} {ss : List (List UInt8)} (h : RowO w 9 1 A ss.length c (ss.map strV)) (hl : ss.length ≤ 1000000) :
    Calls Tryz.prog 95 #[.slice A ss.length c] w fun e w' => e = .returned (.tuple #[]) ∧ ∃ ts : List (List UInt8), ts.Perm ss ∧ ts.Pairwise (fun a b => ¬ b < a) ∧ RowO w' 9 1 A ss.length c (ts.map strV) ∧ Only (inA A) w w' := by
  cases A with
  | none =>
    have h0 : ss = [] := by
      rcases h.2 with ⟨_, h1, _⟩ | ⟨_, _, _, h1, _⟩
      · exact List.eq_nil_of_length_eq_zero h1
      · cases h1
    subst h0
    have hs := Go.Proofs.Any.slices_Sort_string_none Tryz.laySort none c w
    change Calls Tryz.prog 95 _ _ _ at hs
    refine hs.mono ?_
    rintro e w' ⟨rfl, rfl⟩
    exact ⟨rfl, [], List.Perm.refl _, List.Pairwise.nil, h, Only.refl _ _⟩
  | some ad =>
    obtain ⟨g, off, e⟩ := h.flat ad rfl
    subst e
    have hs := Go.Proofs.Any.slices_Sort_string Tryz.laySort g off c ss w (holds_strs h) (h.lt ((inA_some g off g none).2 rfl)) (by omega)
    change Calls Tryz.prog 95 _ _ _ at hs
    refine hs.mono ?_
    rintro e w' ⟨rfl, n, os, rfl⟩
    have hperm := List.mergeSort_perm ss (fun x y => decide (x ≤ y))
    obtain ⟨h1, h2⟩ := sorted_strs h (ss.mergeSort fun x y => decide (x ≤ y)) hperm.length_eq n os
    refine ⟨rfl, _, hperm, ?_, h1, h2⟩
    have hsrt := List.pairwise_mergeSort (le := fun x y : List UInt8 => decide (x ≤ y)) (fun a b c h1 h2 => by
      simp only [decide_eq_true_eq] at *
      exact List.le_trans h1 h2) (fun a b => by
      simp only [Bool.or_eq_true, decide_eq_true_eq]
      exact List.le_total a b) ss
    refine hsrt.imp fun {a b} hab => ?_
    simp only [decide_eq_true_eq] at hab
    exact fun hlt => hab hlt

set_option maxRecDepth 100000 in
set_option maxHeartbeats 2000000 in
theorem namesof_any {w : World} (G : Option Addr) (cg : Nat) (gs : List (List UInt8)) (hG : Rd w G (gs.map strV)) (h0 : G = none → gs = [] ∧ cg = 0) (A : Option Addr) (c : Nat) (B : List Blb) (hB : PutR w A B) (h1 : gs.length ≤ 400000) (h2 : B.length ≤ 400000) :
    Calls Tryz.prog 44 #[.slice G gs.length cg, .slice A B.length c] w fun e w' => ∃ (A' : Option Addr) (c' : Nat) (ns : List (List UInt8)), e = .returned (.slice A' ns.length c') ∧ NewO w w' 9 1 A' ns.length c' (ns.map strV) ∧ ns.Perm (gs ++ B.map (·.name)) ∧ ns.Pairwise (fun a b => ¬ b < a) := by
  have hbi : (B.length : Int) ≤ 1000000 := by omega
  have hcl := clone_strs G gs.length cg (gs.map strV) (by simp) hG (fun e => by obtain ⟨q1, q2⟩ := h0 e; exact ⟨by rw [q1]; rfl, q2⟩) (strs_one _) (by omega)
  obtain ⟨P, hP⟩ : ∃ P : Nat → List (List UInt8), P = fun k => gs ++ (B.take k).map (·.name) := ⟨_, rfl⟩
  have hP0 : P 0 = gs := by rw [hP]; simp
  have hPn : P B.length = gs ++ B.map (·.name) := by rw [hP]; simp
  have hPl : ∀ k, (P k).length ≤ 800000 := fun k => by
    rw [hP]
    show (gs ++ (B.take k).map (·.name)).length ≤ _
    rw [List.length_append, List.length_map, List.length_take]
    omega
  have hPs : ∀ k (h : k < B.length), P (k + 1) = P k ++ [B[k].name] := fun k h => by
    rw [hP]
    show _ ++ _ = (_ ++ _) ++ _
    rw [List.take_succ_eq_append_getElem h, List.map_append, ← List.append_assoc]; rfl
  rw [← hPn]
  rw [← hP0] at hcl
  have hll : gs.length = (P 0).length := by rw [hP0]
  rw [hll]
  have HPl := Lib.hid hPl
  have HPs := Lib.hid hPs
  have Hcl := Lib.hid hcl
  clear hP hP0 hPn hPl hPs hcl hll hG h0
  go_enter Tryz.func44, Tryz.ntmps44
  go_wp2_with fail
  refine Hcl.out.mono ?_
  rintro e w1 ⟨A1, c1, rfl, hN1⟩
  go_wp2
  go_loopw [5, 7, 12] (fun s _ i w2 => ∃ (k : Nat) (A2 : Option Addr) (c2 : Nat), k ≤ B.length ∧ i = .int .i64 (k : Int) ∧ s = .slice A2 (P k).length c2 ∧ NewO w w2 9 1 A2 (P k).length c2 ((P k).map strV)) (fun _ _ i _ => B.length - (intOf i).toNat)
  case atStart => exact ⟨0, A1, c1, Nat.zero_le _, rfl, rfl, hN1⟩
  case round =>
    obtain ⟨k, A2, c2, hk, rfl, rfl, hN2⟩ := hrel
    by_cases hlt : k < B.length
    · have hki : (k : Int) < (B.length : Int) := by omega
      obtain ⟨gb, ob, rfl, q0, q1⟩ := (hB.ext hN2.bel).cell hlt
      have hps := HPs.out k hlt
      have hpl := HPl.out k
      obtain ⟨b, hb⟩ : ∃ b, B[k] = b := ⟨_, rfl⟩
      rw [hb] at q0 q1 hps
      obtain ⟨p, hp⟩ : ∃ p, P k = p := ⟨_, rfl⟩
      rw [hp] at hps hpl hN2 ⊢
      have Hp := Lib.hid hp
      obtain ⟨nm, dt, D, cd⟩ := b
      dsimp only at q0 q1 hps
      obtain ⟨Z, hZ⟩ : ∃ Z, strV nm = .string Z := ⟨_, rfl⟩
      rw [hZ] at q0
      have HZ := Lib.hid hZ
      have Hps := Lib.hid hps
      clear hZ hp hps hb
      have hm1 : p.length + 1 ≤ maxLen := by unfold maxLen; omega
      go_wp2_with (at_builtin
                   refine wpList_appO _ rfl (.tmp 16) (.tmp 19) _ rfl _ _ 1 16 Tryz.underlying37 info_str rfl A2 _ c2 _ rfl ((hN2.row.alloc _).alloc _) (some ⟨wr.heap.size + 1, 0, none⟩) 1 1 [.string Z] rfl rfl (Rd.lit_at _ #[.string Z] _ (by simp)) ?_ ?_ hm1 (by omega) ?_
                   · simp; rfl
                   · intro h; cases h
                   intro A3 c3 w3 hrow3 honly3 hA3)
      have hN3 := hN2.grow (ext_alloc (ext_alloc (Below.refl _ _) _) _) hrow3 honly3 hA3
      go_roundw
      case rel => exact ⟨k + 1, A3, c3, by omega, by go_num, by rw [Hps.out]; simp, by rw [Hps.out, List.map_append, List.length_append]; simpa [HZ.out] using hN3⟩
      case measure => simp [intOf]; omega
    · obtain rfl : k = B.length := by omega
      have hso := sortstrs_any hN2.row (by have := HPl.out B.length; omega)
      have Hso := Lib.hid hso
      clear hso
      go_wp2_with fail
      refine Hso.out.mono ?_
      rintro e w3 ⟨rfl, ns, hperm, hsrt, hrow, ho⟩
      have hlp := hperm.length_eq
      have hfin : NewO w w3 9 1 A2 ns.length c2 (ns.map strV) := by
        rw [hlp]
        exact hN2.grow (Below.refl _ _) hrow ho (fun q hq => .inl hq)
      have Hfin := Lib.hid hfin
      have Hlp := Lib.hid hlp
      have Hperm := Lib.hid hperm
      clear hlp hfin hrow hperm
      go_wp2
      go_ret
      exact ⟨A2, c2, ns, by rw [Hlp.out]; rfl, Hfin.out, Hperm.out, hsrt⟩
end Go.Proofs.YtdpmfcifgimleaaGreatDoor

/-
  The contract of refuses. No statement of the seat is proved here.
-/
namespace Go.Proofs.YtdpmfcifgimleaaGreatDoor
open Go Go.RowKit

def NamesOk (ns : List (List UInt8)) : Prop := (∀ s ∈ ns, nameB s = true) ∧ ns.Nodup
instance (ns : List (List UInt8)) : Decidable (NamesOk ns) := by unfold NamesOk; infer_instance
theorem NamesOk.perm {a b : List (List UInt8)} (h : a.Perm b) : NamesOk a ↔ NamesOk b := by
  unfold NamesOk
  rw [h.nodup_iff]
  constructor
  · rintro ⟨h1, h2⟩; exact ⟨fun s hs => h1 s (h.symm.subset hs), h2⟩
  · rintro ⟨h1, h2⟩; exact ⟨fun s hs => h1 s (h.subset hs), h2⟩
/-- what a Commit is refused for, whatever is free -/
def mayL (L : List Ent) (gs : List (List UInt8)) (B : List Blb) : Int :=
  if ¬ NamesOk (gs ++ B.map (·.name)) then 1 else if ¬ ∀ g ∈ gs, (findE L g).isSome = true then 5 else if ¬ ∀ b ∈ B, b.data.length ≤ 32768 then 3 else 0
/-- a rising row of which no neighbours are one has each name once -/
theorem nodup_of {ns : List (List UInt8)} (hs : ns.Pairwise fun a b => ¬ b < a) (hn : ∀ k (h : k + 1 < ns.length), ns[k] ≠ ns[k + 1]) : ns.Nodup := by
  have hlt : ∀ k (h : k + 1 < ns.length), ns[k] < ns[k + 1] := fun k h => by
    have := List.pairwise_iff_getElem.1 hs k (k + 1) (by omega) h (by omega)
    rcases not_lt_of this with e | e
    · exact absurd e.symm (hn k h)
    · exact e
  have key : ∀ d i (h : i + d + 1 < ns.length), ns[i] < ns[i + d + 1] := by
    intro d
    induction d with
    | zero => intro i h; exact hlt i h
    | succ d ih => intro i h; exact lt_tr (ih i (by omega)) (hlt (i + d + 1) (by omega))
  refine List.pairwise_iff_getElem.2 fun i j hi hj hij => ?_
  obtain ⟨d, rfl⟩ : ∃ d, j = i + d + 1 := ⟨j - i - 1, by omega⟩
  exact lt_ne (key d i hj)

set_option maxRecDepth 100000 in
set_option maxHeartbeats 4000000 in
theorem refuses_any {w : World} {g : Nat} (pd ps : Value) (dead : Bool) (A : Option Addr) (c : Nat) (R : List Raw) (hV : Blk w g 86 #[pd, ps, .slice A R.length c, .bool dead]) (hD : DirR w A c R) (hR : Rises (R.map (·.e)))
    (G : Option Addr) (cg : Nat) (gs : List (List UInt8)) (hG : Rd w G (gs.map strV)) (P : Option Addr) (c2 : Nat) (B : List Blb) (hB : PutR w P B) (N : Option Addr) (cn : Nat) (ns : List (List UInt8)) (hN : Rd w N (ns.map strV)) (hs : ns.Pairwise fun a b => ¬ b < a) (hp : ns.Perm (gs ++ B.map (·.name)))
    (h1 : R.length ≤ 1000000) (h2 : ns.length ≤ 1000000) (h3 : gs.length ≤ 1000000) (h4 : B.length ≤ 1000000) (h5 : ∀ s ∈ ns, s.length ≤ maxLen) :
    Calls Tryz.prog 45 #[.pointer (some ⟨g, 0, none⟩), .slice G gs.length cg, .slice P B.length c2, .slice N ns.length cn] w fun e w' => e = .returned (.int .i64 (mayL (R.map (·.e)) gs B)) ∧ Below w.heap.size w w' := by
  have hni : (ns.length : Int) ≤ 1000000 := by omega
  have hgi : (gs.length : Int) ≤ 1000000 := by omega
  have hbi : (B.length : Int) ≤ 1000000 := by omega
  have hfind := fun s W (hW : Below w.heap.size w W) => find_any A c R s (hD.keep hW) hR h1
  have hok := NamesOk.perm hp
  have b2 := hV.cell 2
  simp only [List.getElem?_toArray, List.getElem?_cons_zero, List.getElem?_cons_succ] at b2
  have hc1 : ¬ NamesOk ns → mayL (R.map (·.e)) gs B = 1 := fun h => by unfold mayL; rw [if_pos (by rwa [← hok])]
  have hc5 : NamesOk ns → (¬ ∀ g ∈ gs, (findE (R.map (·.e)) g).isSome = true) → mayL (R.map (·.e)) gs B = 5 := fun h k => by unfold mayL; rw [if_neg (by rw [← hok]; exact fun x => x h), if_pos k]
  have hc3 : NamesOk ns → (∀ g ∈ gs, (findE (R.map (·.e)) g).isSome = true) → (¬ ∀ b ∈ B, b.data.length ≤ 32768) → mayL (R.map (·.e)) gs B = 3 := fun h k m => by unfold mayL; rw [if_neg (by rw [← hok]; exact fun x => x h), if_neg (fun x => x k), if_pos m]
  have hc0 : NamesOk ns → (∀ g ∈ gs, (findE (R.map (·.e)) g).isSome = true) → (∀ b ∈ B, b.data.length ≤ 32768) → mayL (R.map (·.e)) gs B = 0 := fun h k m => by unfold mayL; rw [if_neg (by rw [← hok]; exact fun x => x h), if_neg (fun x => x k), if_neg (fun x => x m)]
  obtain ⟨M, hM⟩ : ∃ M, mayL (R.map (·.e)) gs B = M := ⟨_, rfl⟩
  rw [hM] at hc1 hc5 hc3 hc0 ⊢
  have Hc1 := Lib.hid hc1
  have Hc5 := Lib.hid hc5
  have Hc3 := Lib.hid hc3
  have Hc0 := Lib.hid hc0
  have Hfind := Lib.hid hfind
  have Hs := Lib.hid hs
  clear hc1 hc5 hc3 hc0 hM hok hp hfind hs
  go_enter Tryz.func45, Tryz.ntmps45
  go_wp2
  go_loopw [9, 10, 19] (fun _ _ i w1 => ∃ k : Nat, k ≤ ns.length ∧ i = .int .i64 (k : Int) ∧ Below w.heap.size w w1 ∧ (∀ j (h : j < ns.length), j < k → nameB ns[j] = true) ∧ (∀ j (h : j + 1 < ns.length), j + 1 < k → ns[j] ≠ ns[j + 1])) (fun _ _ i _ => ns.length - (intOf i).toNat)
  case atStart => exact ⟨0, Nat.zero_le _, rfl, Below.refl _ _, fun j _ h => by omega, fun j _ h => by omega⟩
  case round =>
    obtain ⟨k, hk, rfl, hb, ha1, ha2⟩ := hrel
    have Ha1 := Lib.hid ha1
    have Ha2 := Lib.hid ha2
    clear ha1 ha2
    by_cases hlt : k < ns.length
    · have hki : (k : Int) < (ns.length : Int) := by omega
      obtain ⟨ad, rfl, q⟩ := (hN.ext hb).at_ (k := k) (by simpa using hlt)
      have hprev : 0 < k → ∃ s, ns[k - 1]'(by omega) = s ∧ wr.cell? (ad.add (k - 1)) = some (strV s) := fun h0 => by
        obtain ⟨ad', e', q'⟩ := (hN.ext hb).at_ (k := k - 1) (by simp; omega)
        injection e' with e'
        subst e'
        exact ⟨_, rfl, by rw [q']; simp⟩
      rw [List.getElem_map] at q
      have hnm := isname_any ns[k] wr (h5 _ (List.getElem_mem hlt))
      have hbadn : nameB ns[k] = false → ¬ NamesOk ns := fun h hh => by have := hh.1 _ (List.getElem_mem hlt); rw [h] at this; cases this
      have hbadd : (h0 : 0 < k) → ns[k - 1]'(by omega) = ns[k] → ¬ NamesOk ns := fun h0 h hh => by
        have := List.pairwise_iff_getElem.1 hh.2 (k - 1) k (by omega) hlt (by omega)
        exact this h
      have Hbadd := Lib.hid hbadd
      have hval : ∃ s, ns[k] = s := ⟨_, rfl⟩
      obtain ⟨s, hs'⟩ := hval
      rw [hs'] at q hnm hbadn
      have Hs' := Lib.hid hs'
      have Hbadn := Lib.hid hbadn
      obtain ⟨Z, hZ⟩ : ∃ Z, strV s = .string Z := ⟨_, rfl⟩
      rw [hZ] at q hnm
      have HZ := Lib.hid hZ
      clear hs' hbadn hZ hbadd
      obtain ⟨ok, hok⟩ : ∃ ok, nameB s = ok := ⟨_, rfl⟩
      rw [hok] at hnm
      have Hok := Lib.hid hok
      clear hok
      cases ok with
      | false =>
        go_wp2_with fail
        refine hnm.mono ?_
        rintro e w2 ⟨rfl, hb2⟩
        go_wp2
        go_ret
        exact ⟨by rw [Hc1.out (Hbadn.out Hok.out)]; rfl, ext_trans hb hb2⟩
      | true =>
        by_cases h0 : 0 < k
        · obtain ⟨s0, hs0, q0⟩ := hprev h0
          have hk1 : ((k : Int) - 1) = ((k - 1 : Nat) : Int) := by omega
          have hk2 : (((k - 1 : Nat) : Int)) < (ns.length : Int) := by omega
          have h0i : (0 : Int) < (k : Int) := by omega
          have Hs0 := Lib.hid hs0
          clear hs0 hprev
          obtain ⟨Y, hY⟩ : ∃ Y, strV s0 = .string Y := ⟨_, rfl⟩
          rw [hY] at q0
          have HY := Lib.hid hY
          clear hY
          by_cases heq : s0 = s
          · have hYZ : Y = Z := by
              have := HY.out
              rw [heq, HZ.out] at this
              injection this with this
              exact this.symm
            subst hYZ
            have Heq := Lib.hid heq
            clear heq
            go_wp2_with fail
            refine hnm.mono ?_
            rintro e w2 ⟨rfl, hb2⟩
            have q2 : w2.cell? (ad.add (k - 1)) = some (.string Y) := cell_ext q0 hb2
            go_wp2
            go_ret
            exact ⟨by rw [Hc1.out (Hbadd.out h0 (by rw [Hs0.out, Hs'.out]; exact Heq.out))]; rfl, ext_trans hb hb2⟩
          · have hYZ : (Y.toList == Z.toList) = false := by
              have e1 := HY.out
              have e2 := HZ.out
              unfold strV at e1 e2
              injection e1 with e1
              injection e2 with e2
              rw [← e1, ← e2, ByteArray.toList_mk, ByteArray.toList_mk]
              simpa using heq
            have Heq := Lib.hid heq
            clear heq
            go_wp2_with fail
            refine hnm.mono ?_
            rintro e w2 ⟨rfl, hb2⟩
            have q2 : w2.cell? (ad.add (k - 1)) = some (.string Y) := cell_ext q0 hb2
            go_wp2
            go_roundw
            case rel =>
              refine ⟨k + 1, by omega, by go_num, ext_trans hb hb2, fun j hj hjk => ?_, fun j hj hjk => ?_⟩
              · rcases Nat.lt_or_ge j k with h | h
                · exact Ha1.out j hj h
                · obtain rfl : j = k := by omega
                  rw [Hs'.out]; exact Hok.out
              · rcases Nat.lt_or_ge (j + 1) k with h | h
                · exact Ha2.out j hj h
                · obtain rfl : j = k - 1 := by omega
                  have e : ns[k - 1 + 1]'hj = ns[k] := by congr 1; omega
                  rw [e, Hs0.out, Hs'.out]; exact Heq.out
            case measure => simp [intOf]; omega
        · obtain rfl : k = 0 := by omega
          have q0 : wr.cell? ad = some (.string Z) := by simpa [Addr.add] using q
          go_wp2_with fail
          refine hnm.mono ?_
          rintro e w2 ⟨rfl, hb2⟩
          go_wp2
          go_roundw
          case rel =>
            refine ⟨1, by omega, by go_num, ext_trans hb hb2, fun j hj hjk => ?_, fun j hj hjk => by omega⟩
            obtain rfl : j = 0 := by omega
            rw [Hs'.out]; exact Hok.out
          case measure => simp [intOf]; omega
    · obtain rfl : k = ns.length := by omega
      have hOk : NamesOk ns := ⟨fun s hs => by obtain ⟨j, hj, rfl⟩ := List.mem_iff_getElem.1 hs; exact Ha1.out j hj hj, nodup_of Hs.out fun j hj => Ha2.out j hj hj⟩
      have HOk := Lib.hid hOk
      clear hOk
      go_wp2
      obtain ⟨wo, hwo⟩ : ∃ wo : World, wo = wr := ⟨_, rfl⟩
      subst hwo
      go_loopw [12, 13, 14, 43] (fun _ _ _ i w1 => ∃ k : Nat, k ≤ gs.length ∧ i = .int .i64 (k : Int) ∧ Below w.heap.size w w1 ∧ (∀ j (h : j < gs.length), j < k → (findE (R.map (·.e)) gs[j]).isSome = true)) (fun _ _ _ i _ => gs.length - (intOf i).toNat)
      case atStart => exact ⟨0, Nat.zero_le _, rfl, hb, fun j _ h => by omega⟩
      case round =>
        obtain ⟨k, hk, rfl, hb2, hg1⟩ := hrel
        have Hg1 := Lib.hid hg1
        clear hg1
        by_cases hlt2 : k < gs.length
        · have hki : (k : Int) < (gs.length : Int) := by omega
          obtain ⟨ad, rfl, q⟩ := (hG.ext hb2).at_ (k := k) (by simpa using hlt2)
          rw [List.getElem_map] at q
          have hfd := Hfind.out gs[k] wr hb2
          have hbad : findE (R.map (·.e)) gs[k] = none → ¬ ∀ g ∈ gs, (findE (R.map (·.e)) g).isSome = true := fun h hh => by have := hh _ (List.getElem_mem hlt2); rw [h] at this; cases this
          have hval : ∃ s, gs[k] = s := ⟨_, rfl⟩
          obtain ⟨s, hs'⟩ := hval
          rw [hs'] at q hfd hbad
          have Hs' := Lib.hid hs'
          have Hbad := Lib.hid hbad
          obtain ⟨Z, hZ⟩ : ∃ Z, strV s = .string Z := ⟨_, rfl⟩
          rw [hZ] at q hfd
          clear hs' hbad hZ
          have b2' : wr.cell? ⟨g, 2, none⟩ = some (.slice A R.length c) := cell_ext b2 hb2
          have Hfd := Lib.hid hfd
          clear hfd
          go_wp2_with fail
          refine Hfd.out.mono ?_
          rintro e w2 ⟨hf, hb3⟩
          rcases hf with ⟨r, hr, hrn, rfl⟩ | ⟨hno, rfl⟩
          · have hsome : (findE (R.map (·.e)) s).isSome = true := by
              rw [← hrn, findE_of hR (List.mem_map.2 ⟨r, hr, rfl⟩)]; rfl
            have Hsome := Lib.hid hsome
            obtain ⟨⟨nm, ln, sm, xs⟩, Ax, cx⟩ := r
            unfold entV encR iv
            dsimp only
            obtain ⟨Y, hY⟩ : ∃ Y, strV nm = .string Y := ⟨_, rfl⟩
            rw [hY]
            clear hY hsome hrn hr
            go_wp2
            go_roundw
            case rel =>
              refine ⟨k + 1, by omega, by go_num, ext_alloc (ext_trans hb2 hb3) _, fun j hj hjk => ?_⟩
              rcases Nat.lt_or_ge j k with h | h
              · exact Hg1.out j hj h
              · obtain rfl : j = k := by omega
                rw [Hs'.out]; exact Hsome.out
            case measure => simp [intOf]; omega
          · have hnone : findE (R.map (·.e)) s = none := by
              cases h : findE (R.map (·.e)) s with
              | none => rfl
              | some e =>
                obtain ⟨h1, h2⟩ := findE_some h
                obtain ⟨r, hr, rfl⟩ := List.mem_map.1 h1
                exact absurd h2 (hno r hr)
            have Hnone := Lib.hid hnone
            unfold zeroEnt
            clear hno hnone
            go_wp2
            go_ret
            exact ⟨by rw [Hc5.out HOk.out (Hbad.out Hnone.out)]; rfl, ext_alloc (ext_trans hb2 hb3) _⟩
        · obtain rfl : k = gs.length := by omega
          have hG5 : ∀ g ∈ gs, (findE (R.map (·.e)) g).isSome = true := fun s hs => by obtain ⟨j, hj, rfl⟩ := List.mem_iff_getElem.1 hs; exact Hg1.out j hj hj
          have HG5 := Lib.hid hG5
          clear hG5
          go_wp2
          obtain ⟨wo2, hwo2⟩ : ∃ wo2 : World, wo2 = wr := ⟨_, rfl⟩
          subst hwo2
          go_loopw [16, 61] (fun _ i w1 => ∃ k : Nat, k ≤ B.length ∧ i = .int .i64 (k : Int) ∧ Below w.heap.size w w1 ∧ (∀ j (h : j < B.length), j < k → B[j].data.length ≤ 32768)) (fun _ i _ => B.length - (intOf i).toNat)
          case atStart => exact ⟨0, Nat.zero_le _, rfl, hb2, fun j _ h => by omega⟩
          case round =>
            obtain ⟨k, hk, rfl, hb3, hd1⟩ := hrel
            have Hd1 := Lib.hid hd1
            clear hd1
            by_cases hlt3 : k < B.length
            · have hki : (k : Int) < (B.length : Int) := by omega
              obtain ⟨gb, ob, rfl, q0, q1⟩ := (hB.ext hb3).cell hlt3
              have hbad : 32768 < B[k].data.length → ¬ ∀ b ∈ B, b.data.length ≤ 32768 := fun h hh => by have := hh _ (List.getElem_mem hlt3); omega
              obtain ⟨b, hbk⟩ : ∃ b, B[k] = b := ⟨_, rfl⟩
              rw [hbk] at q0 q1 hbad
              have Hbk := Lib.hid hbk
              have Hbad := Lib.hid hbad
              clear hbk hbad
              obtain ⟨nm, dt, D, cd⟩ := b
              dsimp only at q0 q1
              obtain ⟨Z, hZ⟩ : ∃ Z, strV nm = .string Z := ⟨_, rfl⟩
              rw [hZ] at q0
              clear hZ
              by_cases hlong : 32768 < dt.length
              · have hli : (32768 : Int) < (dt.length : Int) := by omega
                go_wp2
                go_ret
                exact ⟨by rw [Hc3.out HOk.out HG5.out (Hbad.out hlong)]; rfl, ext_alloc hb3 _⟩
              · have hli : (dt.length : Int) ≤ 32768 := by omega
                go_wp2
                go_roundw
                case rel =>
                  refine ⟨k + 1, by omega, by go_num, ext_alloc hb3 _, fun j hj hjk => ?_⟩
                  rcases Nat.lt_or_ge j k with h | h
                  · exact Hd1.out j hj h
                  · obtain rfl : j = k := by omega
                    rw [Hbk.out]; show dt.length ≤ _; omega
                case measure => simp [intOf]; omega
            · obtain rfl : k = B.length := by omega
              have hB5 : ∀ b ∈ B, b.data.length ≤ 32768 := fun s hs => by obtain ⟨j, hj, rfl⟩ := List.mem_iff_getElem.1 hs; exact Hd1.out j hj hj
              have HB5 := Lib.hid hB5
              clear hB5
              go_wp2
              go_ret
              exact ⟨by rw [Hc0.out HOk.out HG5.out HB5.out]; rfl, hb3⟩
end Go.Proofs.YtdpmfcifgimleaaGreatDoor

/-
  The methods of a Super in a law's own words. No statement of the seat is proved here.
-/
namespace Go.Proofs.YtdpmfcifgimleaaGreatDoor
open Go Go.RowKit

theorem Tab.block_lt {W : World} (ht : Tab W) : 0 < W.heap.size := World.block_lt_of_cell? W _ (ht 0 (by omega))
theorem Tab.born {W w : World} (ht : Tab W) : ¬ Born W w 0 := fun h => by have := ht.block_lt; have := h.1; omega
/-- a Super of the law's own -/
structure Own3 (W w : World) (g gd : Nat) (s : SupS) : Prop where
  sup : Sup w (Born W w) g gd s
  bel : Below W.heap.size W w
  tab : Tab W
theorem Own3.tb {W w : World} {g gd : Nat} {s : SupS} (h : Own3 W w g gd s) : Tab w := h.tab.ext h.bel
theorem sup_born {W w w' : World} {g gd : Nat} {s : SupS} (hb : Below W.heap.size W w) (h : Sup w' (More (Born W w) w w') g gd s) (ho : w.heap.size ≤ w'.heap.size) : Sup w' (Born W w') g gd s :=
  SupAt.mono h fun k hk _ => by
    rcases hk with hk | hk
    · exact ⟨hk.1, by have := hk.2; omega⟩
    · exact ⟨by have := hb.size; omega, hk.2⟩
theorem Own3.ext {W w w' : World} {g gd : Nat} {s : SupS} (h : Own3 W w g gd s) (hb : Below w.heap.size w w') : Own3 W w' g gd s :=
  ⟨(SupAt.ext h.sup hb).mono (fun k hk _ => ⟨hk.1, by have := hk.2; have := hb.size; omega⟩), ext_trans h.bel hb, h.tab⟩
theorem Own3.drew {W w : World} {g gd : Nat} {s : SupS} (h : Own3 W w g gd s) : Own3 W w.drew g gd s := h.ext (ext_drew (Below.refl _ _))
theorem Own3.imp {W w : World} {g gd : Nat} {s : SupS} (h : Own3 W w g gd s) : Imp w (Born W w) gd s.S s.l := SupAt.impd h.sup

theorem step_commit {W w : World} {g gd : Nat} {s : SupS} (h : Own3 W w g gd s) (hs : Small 900000 s.S) (B : Option Addr) (m d : Nat) (bs : List UInt8) (hB : Bs w B m d bs) (hbl : bs.length ≤ maxLen) :
    Calls Tryz.prog 84 #[.pointer (some ⟨g, 0, none⟩), .slice B m d] w fun e w' => e = .returned (.int .i64 (commitS s bs).1) ∧ Own3 W w' g gd (commitS s bs).2 := by
  refine (commit_any h.tb h.sup hs B m d bs hB hbl).mono ?_
  rintro e w' ⟨rfl, h1, h2⟩
  exact ⟨rfl, sup_born h.bel h1 h2.size, h.bel.trans (Born.below h2 h.bel.size), h.tab⟩
theorem step_image {W w : World} {g gd : Nat} {s : SupS} (h : Own3 W w g gd s) :
    Calls Tryz.prog 61 #[.pointer (some ⟨g, 0, none⟩)] w fun e w' => ∃ A c, e = .returned (.slice A s.img.length c) ∧ Bs w' A s.img.length c s.img ∧ Own3 W w' g gd s ∧ Below w.heap.size w w' := by
  refine (image_any h.sup).mono ?_
  rintro e w' ⟨A, c, rfl, hn, hb⟩
  exact ⟨A, c, rfl, hn.bs, h.ext hb, hb⟩
theorem step_open {W w : World} {gd : Nat} {S : Sec} {l : Int} (hI : Imp w (Born W w) gd S l) (hb : Below W.heap.size W w) (ht : Tab W) (hs : Small 1000000 S) (h32 : 32 ≤ S.length) {img : List UInt8} {N slot : Nat} (hT : Tells (lasts S) img N slot) :
    Calls Tryz.prog 59 #[.pointer (some ⟨gd, 0, none⟩)] w fun e w' => ∃ g, e = .returned (.tuple #[.pointer (some ⟨g, 0, none⟩), .int .i64 0]) ∧ Own3 W w' g gd ⟨S, l, img, N, slot, false⟩ ∧ Below w.heap.size w w' := by
  refine (open_any (ht.ext hb) hI hs h32).mono ?_
  rintro e w' ⟨h1, h2⟩
  obtain ⟨t1, t2, t3⟩ := hT
  rw [tell_lasts, most_lasts] at h2
  rcases h2 with ⟨h2, _⟩ | ⟨_, g, rfl, _, h3⟩
  · omega
  · rw [t2, t3] at h3
    exact ⟨g, rfl, ⟨sup_born hb h3 h1.size, ext_trans hb h1, ht⟩, h1⟩
theorem step_open_none {W w : World} {gd : Nat} {S : Sec} {l : Int} (hI : Imp w (Born W w) gd S l) (hb : Below W.heap.size W w) (ht : Tab W) (hs : Small 1000000 S) (h32 : 32 ≤ S.length) (hT : (tellD (lasts S)).1 = 0) :
    Calls Tryz.prog 59 #[.pointer (some ⟨gd, 0, none⟩)] w fun e w' => e = .returned (.tuple #[.pointer none, .int .i64 2]) ∧ Below w.heap.size w w' := by
  refine (open_any (ht.ext hb) hI hs h32).mono ?_
  rintro e w' ⟨h1, h2⟩
  rw [tell_lasts] at h2
  rcases h2 with ⟨_, h2⟩ | ⟨h2, _⟩
  · exact ⟨h2, h1⟩
  · omega
/-- Format of a disk of the law's own, without a fuse -/
theorem step_format {W w : World} {gd : Nat} {S : Sec} (hI : Imp w (Born W w) gd S (-1)) (hb : Below W.heap.size W w) (ht : Tab W) (hs : Small 800000 S) (h32 : 32 ≤ S.length) {w1 : World} (h1 : Below w.heap.size w w1) (B : Option Addr) (m d : Nat) (bs : List UInt8) (hB : Bs w1 B m d bs) (hBf : ∀ ad, B = some ad → bs ≠ [] → ¬ Born W w ad.block) (hbl : bs.length ≤ 814) :
    Calls Tryz.prog 40 #[.pointer (some ⟨gd, 0, none⟩), .slice B m d] w1 fun e w' => ∃ g s, e = .returned (.tuple #[.pointer (some ⟨g, 0, none⟩), .int .i64 0]) ∧ Own3 W w' g gd s ∧ Alive s ∧ s.img = bs ∧ s.N = 1 ∧ s.slot = 0 ∧ s.l = -1 ∧ s.S.length = S.length ∧ slotD (lasts s.S) 0 = packOf 1 bs ∧ unpackS (slotD (lasts s.S) 1) = (0, []) := by
  obtain ⟨c1, s, c2, r⟩ := format_sem h32 (fun vs hv => (hI.wf vs hv).1) bs hbl
  have hf := format_any (fp := Born W w) (ht.ext (ext_trans hb h1)) ht.born (hI.ext h1) hs h32 B m d bs hB hBf hbl c1 (by rw [c2])
  rw [c2] at hf
  refine hf.mono ?_
  rintro e w' ⟨g, rfl, _, h3, h4⟩
  have hz := hb.size
  have hz1 := h1.size
  refine ⟨g, s, rfl, ⟨?_, (ext_trans hb h1).trans (h4.below (fun _ hk => hk.1) (by omega)), ht⟩, r⟩
  exact SupAt.mono h3 fun k hk _ => by
    have := h4.size
    rcases hk with hk | hk
    · exact ⟨hk.1, by have := hk.2; omega⟩
    · exact ⟨by omega, hk.2⟩

theorem Bs.lit1 {W : World} (v : UInt8) {fr : Nat × Nat} {g : Nat} (hg : g = W.heap.size) : Bs (W.alloc (.cells #[.int .u8 (v.toNat : Int)] 5 fr)) (some ⟨g, 0, none⟩) 1 1 [v] :=
  ⟨rfl, Nat.le_refl _, by
    have := Rd.lit_at W #[.int .u8 (v.toNat : Int)] 5 (fr := fr) hg
    exact this⟩
theorem Alive.small {s : SupS} (h : Alive s) (N : Nat) (hN : 1 ≤ N) : Small N s.S := small_mono (single_small h.one) hN

end Go.Proofs.YtdpmfcifgimleaaGreatDoor

/-
  A Super of the law's own, apart from guarded blocks ('OwnG'); the methods in these words. No statement of the seat is proved here.
-/
namespace Go.Proofs.YtdpmfcifgimleaaGreatDoor
open Go Go.RowKit

/-- what was born since the law began, apart from 'G' -/
def Far (W w : World) (G : Nat → Prop) : Nat → Prop := fun k => Born W w k ∧ ¬ G k
structure OwnG (W w : World) (G : Nat → Prop) (g gd : Nat) (s : SupS) : Prop where
  sup : Sup w (Far W w G) g gd s
  gb : ∀ k, G k → Born W w k
  bel : Below W.heap.size W w
  tab : Tab W
/-- a disk, likewise -/
structure OwnD (W w : World) (G : Nat → Prop) (gd : Nat) (S : Sec) (l : Int) : Prop where
  imp : Imp w (Far W w G) gd S l
  gb : ∀ k, G k → Born W w k
  bel : Below W.heap.size W w
  tab : Tab W

section
variable {W w w' : World} {G : Nat → Prop} {g gd : Nat} {s s' : SupS} {S S' : Sec} {l l' : Int}
theorem far_more (hb : Below W.heap.size W w) (hg : ∀ k, G k → Born W w k) (hz : w.heap.size ≤ w'.heap.size) (k : Nat) (hk : More (Far W w G) w w' k) : Far W w' G k := by
  have := hb.size
  rcases hk with ⟨⟨h1, h2⟩, h3⟩ | ⟨h1, h2⟩
  · exact ⟨⟨h1, by omega⟩, h3⟩
  · exact ⟨⟨by omega, h2⟩, fun hk => by have := (hg k hk).2; omega⟩
theorem far_below (hb : Below W.heap.size W w) (ho : Only (Far W w G) w w') : Below W.heap.size W w' := hb.trans (ho.below (fun _ hk => hk.1.1) hb.size)
theorem gb_more (hg : ∀ k, G k → Born W w k) (hz : w.heap.size ≤ w'.heap.size) (k : Nat) (hk : G k) : Born W w' k := ⟨(hg k hk).1, by have := (hg k hk).2; omega⟩
theorem OwnG.step (h : OwnG W w G g gd s) (h1 : Sup w' (More (Far W w G) w w') g gd s') (ho : Only (Far W w G) w w') : OwnG W w' G g gd s' ∧ Only (fun k => ¬ G k) w w' :=
  ⟨⟨SupAt.mono h1 (fun k hk _ => far_more h.bel h.gb ho.size k hk), gb_more h.gb ho.size, far_below h.bel ho, h.tab⟩, ho.mono (fun _ _ hk => hk.2)⟩
theorem OwnD.step (h : OwnD W w G gd S l) (h1 : Imp w' (More (Far W w G) w w') gd S' l') (ho : Only (Far W w G) w w') : OwnD W w' G gd S' l' ∧ Only (fun k => ¬ G k) w w' :=
  ⟨⟨h1.mono (fun k hk _ => far_more h.bel h.gb ho.size k hk), gb_more h.gb ho.size, far_below h.bel ho, h.tab⟩, ho.mono (fun _ _ hk => hk.2)⟩
theorem OwnG.ext (h : OwnG W w G g gd s) (hb : Below w.heap.size w w') : OwnG W w' G g gd s :=
  ⟨(SupAt.ext h.sup hb).mono (fun k hk _ => ⟨⟨hk.1.1, by have := hk.1.2; have := hb.size; omega⟩, hk.2⟩), gb_more h.gb hb.size, ext_trans h.bel hb, h.tab⟩
theorem OwnD.ext (h : OwnD W w G gd S l) (hb : Below w.heap.size w w') : OwnD W w' G gd S l :=
  ⟨(h.imp.ext hb).mono (fun k hk _ => ⟨⟨hk.1.1, by have := hk.1.2; have := hb.size; omega⟩, hk.2⟩), gb_more h.gb hb.size, ext_trans h.bel hb, h.tab⟩
theorem OwnG.disk (h : OwnG W w G g gd s) : OwnD W w G gd s.S s.l := ⟨SupAt.impd h.sup, h.gb, h.bel, h.tab⟩
theorem OwnG.tb (h : OwnG W w G g gd s) : Tab w := h.tab.ext h.bel
theorem OwnD.tb (h : OwnD W w G gd S l) : Tab w := h.tab.ext h.bel
/-- a store to a guarded block -/
theorem OwnG.put (h : OwnG W w G g gd s) {p : Addr} (hp : G p.block) (u : Value) : OwnG W (w.setCell p u) G g gd s := by
  have ho : Only (fun k => k = p.block) w (w.setCell p u) := (Only.refl (fun k => k = p.block) w).setCell (.inl rfl) u
  refine ⟨(SupAt.only h.sup ho (fun k hk e => hk.2 (e ▸ hp))).mono (fun k hk _ => ⟨⟨hk.1.1, by have := hk.1.2; have := ho.size; omega⟩, hk.2⟩), gb_more h.gb ho.size, h.bel.trans (ho.below (fun k e => by have := (h.gb _ hp).1; omega) h.bel.size), h.tab⟩

theorem g_commit (h : OwnG W w G g gd s) (hs : Small 900000 s.S) (B : Option Addr) (m d : Nat) (bs : List UInt8) (hB : Bs w B m d bs) (hbl : bs.length ≤ maxLen) :
    Calls Tryz.prog 84 #[.pointer (some ⟨g, 0, none⟩), .slice B m d] w fun e w' => e = .returned (.int .i64 (commitS s bs).1) ∧ OwnG W w' G g gd (commitS s bs).2 ∧ Only (fun k => ¬ G k) w w' := by
  refine (commit_any h.tb h.sup hs B m d bs hB hbl).mono ?_
  rintro e w' ⟨rfl, h1, h2⟩
  exact ⟨rfl, h.step h1 h2⟩
theorem g_image (h : OwnG W w G g gd s) :
    Calls Tryz.prog 61 #[.pointer (some ⟨g, 0, none⟩)] w fun e w' => ∃ A c, e = .returned (.slice A s.img.length c) ∧ Bs w' A s.img.length c s.img ∧ OwnG W w' G g gd s ∧ Below w.heap.size w w' := by
  refine (image_any h.sup).mono ?_
  rintro e w' ⟨A, c, rfl, hn, hb⟩
  exact ⟨A, c, rfl, hn.bs, h.ext hb, hb⟩
theorem g_open (h : OwnD W w G gd S l) (hs : Small 1000000 S) (h32 : 32 ≤ S.length) {img : List UInt8} {N slot : Nat} (hT : Tells (lasts S) img N slot) :
    Calls Tryz.prog 59 #[.pointer (some ⟨gd, 0, none⟩)] w fun e w' => ∃ g, e = .returned (.tuple #[.pointer (some ⟨g, 0, none⟩), .int .i64 0]) ∧ OwnG W w' G g gd ⟨S, l, img, N, slot, false⟩ ∧ Below w.heap.size w w' := by
  refine (open_any h.tb h.imp hs h32).mono ?_
  rintro e w' ⟨h1, h2⟩
  obtain ⟨t1, t2, t3⟩ := hT
  rw [tell_lasts, most_lasts] at h2
  rcases h2 with ⟨h2, _⟩ | ⟨_, g, rfl, _, h3⟩
  · omega
  · rw [t2, t3] at h3
    exact ⟨g, rfl, ⟨SupAt.mono h3 (fun k hk _ => far_more h.bel h.gb h1.size k hk), gb_more h.gb h1.size, ext_trans h.bel h1, h.tab⟩, h1⟩
theorem g_fuse (h : OwnG W w G g gd s) (n : Int) (hn : isInt n) :
    Calls Tryz.prog 19 #[.pointer (some ⟨gd, 0, none⟩), .int .i64 n] w fun e w' => e = .returned (.tuple #[]) ∧ OwnG W w' G g gd { s with l := max n (-1) } ∧ Only (fun k => ¬ G k) w w' := by
  obtain ⟨fI, A, c, hp⟩ := h.sup
  refine (fuse_all hp.imp n hn).mono ?_
  rintro e w' ⟨rfl, h1, h2⟩
  refine ⟨rfl, h.step (s' := { s with l := max n (-1) }) ?_ (h2.mono (fun k _ hk => hp.sub k hk))⟩
  have hz := h2.size
  exact ⟨More fI w w', A, c, {
    imp := h1
    sub := fun k hk => hk.imp (fun x => hp.sub k x) id
    fg := .inl hp.fg
    ng := fun hk => by
      rcases hk with hk | hk
      · exact hp.ng hk
      · have := hp.blk.lt; omega
    blk := hp.blk.only h2 hp.ng
    bs := ⟨rfl, hp.bs.2.1, hp.bs.2.2.only h2 (fun ad e _ => (hp.fA ad e).2.1)⟩
    fA := fun ad e => ⟨.inl (hp.fA ad e).1, fun hk => by
      rcases hk with hk | hk
      · exact (hp.fA ad e).2.1 hk
      · have := (hp.fA ad e).2.2.2; omega, (hp.fA ad e).2.2.1, by have := (hp.fA ad e).2.2.2; omega⟩
    hN := hp.hN
    hs := hp.hs
    hi := hp.hi }⟩
theorem g_crash (h : OwnD W w G gd S l) (hs : Small 1000000 S) (P : Option Addr) (n cp : Nat) (ps : List Int) (hn : n = ps.length) (hp : Rd W P (ps.map iv)) (hpi : ∀ x ∈ ps, isInt x) :
    Calls Tryz.prog 21 #[.pointer (some ⟨gd, 0, none⟩), .slice P n cp] w fun e w' => e = .returned (.tuple #[]) ∧ OwnD W w' G gd (crashS S ps) (-1) ∧ Only (fun k => ¬ G k) w w' := by
  refine (crash_all h.imp hs P n cp ps hn ((rdF_born (w1 := w) hp h.bel).weak (fun k hk => hk.1)) hpi).mono ?_
  rintro e w' ⟨rfl, h1, h2⟩
  exact ⟨rfl, h.step h1 h2⟩
end

/-! ### Alive or cut short -/
theorem Alive.fuse {s : SupS} (h : Alive s) (n : Int) : Alive { s with l := max n (-1) } := ⟨h.dead, h.one, h.len, h.tells, by show -1 ≤ max n (-1); omega⟩
theorem Cut.fuse {s : SupS} {bs : List UInt8} {N : Nat} (h : Cut s bs N) (n : Int) : Cut { s with l := max n (-1) } bs N := ⟨h.dead, h.ne, h.len, by show -1 ≤ max n (-1); omega, h.small, h.tells⟩
theorem Alive.crash {s : SupS} (h : Alive s) (ps : List Int) : Alive ⟨crashS s.S ps, -1, s.img, s.N, s.slot, false⟩ := by
  rw [crash_of_single h.one]
  exact ⟨rfl, h.one, h.len, h.tells, by show (-1 : Int) ≤ -1; omega⟩
theorem Cut.crash {s : SupS} {bs : List UInt8} {N : Nat} (h : Cut s bs N) (ps : List Int) : ∃ M k img, N ≤ M ∧ (img = s.img ∨ img = bs) ∧ Alive ⟨crashS s.S ps, -1, img, M, k, false⟩ := by
  obtain ⟨M, k, hM, ht⟩ := h.tells ps
  have hlen : 32 ≤ (crashS s.S ps).length := by rw [crashS_length]; exact h.len
  rcases ht with ht | ht
  · exact ⟨M, k, _, hM, .inl rfl, ⟨rfl, crash_single h.ne ps, hlen, ht, by show (-1 : Int) ≤ -1; omega⟩⟩
  · exact ⟨M, k, _, hM, .inr rfl, ⟨rfl, crash_single h.ne ps, hlen, ht, by show (-1 : Int) ≤ -1; omega⟩⟩
end Go.Proofs.YtdpmfcifgimleaaGreatDoor

/-
  Writes of a Super's disk; the contract of vault's write. No statement of the seat is proved here.
-/
namespace Go.Proofs.YtdpmfcifgimleaaGreatDoor
open Go Go.RowKit

/-! ### the disk below a Super -/
theorem sup_disk {w w' : World} {fp fI : Nat → Prop} {g gd : Nat} {s : SupS} {A : Option Addr} {c : Nat} (hp : SupP w fp fI g gd s.S s.l s.img s.N s.slot s.dead A c) {S' : Sec} {l' : Int} (h1 : Imp w' (More fI w w') gd S' l') (h2 : Only fI w w') :
    Sup w' (More fp w w') g gd { s with S := S', l := l' } ∧ Only fp w w' := by
  refine ⟨?_, h2.mono (fun k _ hk => hp.sub k hk)⟩
  have hz := h2.size
  exact ⟨More fI w w', A, c, {
    imp := h1
    sub := fun k hk => hk.imp (fun x => hp.sub k x) id
    fg := .inl hp.fg
    ng := fun hk => by
      rcases hk with hk | hk
      · exact hp.ng hk
      · have := hp.blk.lt; omega
    blk := hp.blk.only h2 hp.ng
    bs := ⟨rfl, hp.bs.2.1, hp.bs.2.2.only h2 (fun ad e _ => (hp.fA ad e).2.1)⟩
    fA := fun ad e => ⟨.inl (hp.fA ad e).1, fun hk => by
      rcases hk with hk | hk
      · exact (hp.fA ad e).2.1 hk
      · have := (hp.fA ad e).2.2.2; omega, (hp.fA ad e).2.2.1, by have := (hp.fA ad e).2.2.2; omega⟩
    hN := hp.hN
    hs := hp.hs
    hi := hp.hi }⟩
section
variable {w : World} {fp : Nat → Prop} {g gd : Nat} {s : SupS}
theorem sup_write (h : Sup w fp g gd s) (hs : Small 999999 s.S) (i : Int) (A : Option Addr) (n c : Nat) (bs : List UInt8) (hn : n = bs.length) (hr : Rd w A (bs.map bv)) :
    Calls Tryz.prog 39 #[.pointer (some ⟨gd, 0, none⟩), .int .i64 i, .slice A n c] w fun e w' => e = .returned (.int .i64 (writeCode s.S.length s.l i bs)) ∧ Sup w' (More fp w w') g gd { s with S := writeS s.S s.l i bs, l := writeL s.S.length s.l i bs } ∧ Only fp w w' := by
  obtain ⟨fI, A', c', hp⟩ := h
  refine (write_all hp.imp hs i A n c bs hn hr).mono ?_
  rintro e w' ⟨rfl, h1, h2⟩
  exact ⟨rfl, sup_disk hp h1 h2⟩
theorem sup_flush (h : Sup w fp g gd s) (hs : Small 1000000 s.S) :
    Calls Tryz.prog 104 #[.pointer (some ⟨gd, 0, none⟩)] w fun e w' => e = .returned (.int .i64 (flushCode s.l)) ∧ Sup w' (More fp w w') g gd { s with S := if s.l = 0 then s.S else flushS s.S, l := tick s.l } ∧ Only fp w w' := by
  obtain ⟨fI, A', c', hp⟩ := h
  refine (flush_all hp.imp hs).mono ?_
  rintro e w' ⟨rfl, h1, h2⟩
  exact ⟨rfl, sup_disk hp h1 h2⟩
end

/-! ### what is written -/
/-- sectors are written, one by one -/
def putTo (S : Sec) (l : Int) : List (Nat × List UInt8) → Int × Sec × Int
  | [] => (0, S, l)
  | p :: ps => if writeCode S.length l (p.1 : Int) p.2 = 0 then putTo (writeS S l (p.1 : Int) p.2) (tick l) ps else (writeCode S.length l (p.1 : Int) p.2, S, l)
def withD (s : SupS) (S : Sec) (l : Int) : SupS := { s with S := S, l := l }
/-- what a vault's write makes -/
def writeV (s : SupS) (ps : List (Nat × List UInt8)) (bs : List UInt8) : Int × SupS :=
  if (putTo s.S s.l ps).1 = 0 then
    if ps = [] then commitS (withD s (putTo s.S s.l ps).2.1 (putTo s.S s.l ps).2.2) bs
    else if (putTo s.S s.l ps).2.2 = 0 then (6, withD s (putTo s.S s.l ps).2.1 (tick (putTo s.S s.l ps).2.2))
    else commitS (withD s (flushS (putTo s.S s.l ps).2.1) (tick (putTo s.S s.l ps).2.2)) bs
  else ((putTo s.S s.l ps).1, withD s (putTo s.S s.l ps).2.1 (putTo s.S s.l ps).2.2)
/-- memory that no write below turns -/
structure DirF (fp : Nat → Prop) (w : World) (A : Option Addr) (c : Nat) (R : List Raw) : Prop where
  dir : DirR w A c R
  row : ∀ ad, A = some ad → ¬ fp ad.block
  ext : ∀ r ∈ R, ∀ ad, r.A = some ad → ¬ fp ad.block
structure PutF (fp : Nat → Prop) (w : World) (A : Option Addr) (B : List Blb) : Prop where
  put : PutR w A B
  row : B ≠ [] → ∀ ad, A = some ad → ¬ fp ad.block
  dat : ∀ b ∈ B, b.data ≠ [] → ∀ ad, b.D = some ad → ¬ fp ad.block
theorem DirF.only {fp : Nat → Prop} {w w' : World} {A : Option Addr} {c : Nat} {R : List Raw} (h : DirF fp w A c R) (ho : Only fp w w') : DirF fp w' A c R :=
  ⟨⟨h.dir.le, h.dir.flat, h.dir.rd.only ho (fun ad e _ => h.row ad e), fun r hr => ⟨(h.dir.ext r hr).1, (h.dir.ext r hr).2.1, (h.dir.ext r hr).2.2.only ho (fun ad e _ => h.ext r hr ad e)⟩⟩, h.row, h.ext⟩
theorem PutF.only {fp : Nat → Prop} {w w' : World} {A : Option Addr} {B : List Blb} (h : PutF fp w A B) (ho : Only fp w w') : PutF fp w' A B :=
  ⟨⟨h.put.rd.only ho (fun ad e hne => h.row (fun e' => hne (by rw [e']; rfl)) ad e), fun b hb => ⟨(h.put.dat b hb).1, (h.put.dat b hb).2.only ho (fun ad e hne => h.dat b hb (fun e' => hne (by rw [e']; rfl)) ad e)⟩⟩, h.row, h.dat⟩
/-- the pairs of a blob -/
def pairK (e : Ent) (data : List UInt8) : List (Nat × List UInt8) := (secs e.ext).zip ((List.range (needN data.length)).map (chunkB data))
end Go.Proofs.YtdpmfcifgimleaaGreatDoor

/-
  The contract of vault's write. No statement of the seat is proved here.
-/
namespace Go.Proofs.YtdpmfcifgimleaaGreatDoor
open Go Go.RowKit

theorem pairK_length (e : Ent) (data : List UInt8) (h : (secs e.ext).length = needN data.length) : (pairK e data).length = needN data.length := by simp [pairK, h]
theorem pairK_get (e : Ent) (data : List UInt8) (h : (secs e.ext).length = needN data.length) {j : Nat} (hj : j < needN data.length) : (pairK e data)[j]? = some ((secs e.ext)[j]'(by omega), chunkB data j) := by
  unfold pairK
  rw [List.getElem?_zip_eq_some]
  exact ⟨List.getElem?_eq_getElem (by omega), by simp [hj]⟩
theorem not_more {fp : Nat → Prop} {w w' : World} {k : Nat} (h : ¬ fp k) (hk : k < w.heap.size) : ¬ More fp w w' k := fun hm => by
  rcases hm with hm | hm
  · exact h hm
  · omega
theorem Rd.blk_lt {w : World} {A : Option Addr} {xs : List Value} (h : Rd w A xs) (hne : xs ≠ []) : ∀ ad, A = some ad → ad.block < w.heap.size := fun ad e => by
  rcases xs with _ | ⟨x, r⟩
  · exact absurd rfl hne
  · obtain ⟨ad', e', hc⟩ := h 0 x rfl
    rw [e] at e'
    injection e' with e'
    subst e'
    have := World.block_lt_of_cell? w _ hc
    rwa [block_add] at this

theorem NewO.at_ {w w1 W : World} {T : Nat → Prop} {e : TypeId} {A : Option Addr} {m c : Nat} {xs : List Value} (h : NewO w w1 e 1 A m c xs) (ho : Only T w1 W) (hT : ∀ k, T k → k < w.heap.size) {j : Nat} (hj : j < xs.length) : ∃ g o, A = some ⟨g, o, none⟩ ∧ W.cell? ⟨g, o + j, none⟩ = some xs[j] := by
  obtain ⟨ad, rfl, hc⟩ := h.rd.at_ hj
  obtain ⟨g, o, rfl⟩ := h.row.flat ad rfl
  rw [Addr.add_mid] at hc
  have hl := World.block_lt_of_cell? w1 _ hc
  refine ⟨g, o, rfl, (World.cell?_of_block (a := ⟨g, o + j, none⟩) (ho.block g hl (fun ht => ?_))).trans hc⟩
  have h1 := hT _ ht
  have h2 := h.2.2 g (by rw [inA_some])
  omega
theorem writeCode_or (n : Nat) (l i : Int) (bs : List UInt8) : writeCode n l i bs = 0 ∨ writeCode n l i bs = 6 ∨ writeCode n l i bs = 1 := by
  unfold writeCode; split
  · exact .inr (.inl rfl)
  · split
    · exact .inr (.inr rfl)
    · exact .inl rfl
theorem putTo_ok (S : Sec) (l : Int) (i : Nat) (c : List UInt8) (ps : List (Nat × List UInt8)) (h : writeCode S.length l (i : Int) c = 0) : putTo S l ((i, c) :: ps) = putTo (writeS S l (i : Int) c) (tick l) ps := by
  show (if _ then _ else _) = _
  rw [if_pos h]
theorem putTo_no (S : Sec) (l : Int) (i : Nat) (c : List UInt8) (ps : List (Nat × List UInt8)) (h : writeCode S.length l (i : Int) c ≠ 0) : putTo S l ((i, c) :: ps) = (writeCode S.length l (i : Int) c, S, l) := by
  show (if _ then _ else _) = _
  rw [if_neg h]

/-- what a call of write leaves -/
def Wrote (w : World) (fp : Nat → Prop) (gs gd : Nat) (r : Int × SupS) (e : Ending) (w' : World) : Prop :=
  e = .returned (.int .i64 r.1) ∧ Sup w' (More fp w w') gs gd r.2 ∧ Only fp w w'

set_option maxRecDepth 100000 in
set_option maxHeartbeats 8000000 in
theorem vwrite_any {w : World} {fp : Nat → Prop} {gs gd g : Nat} {s : SupS} (hS : Sup w fp gs gd s) (hfp : ∀ k, fp k → k < w.heap.size) (hsm : Small 400000 s.S) (ht : Tab w) (htf : ¬ fp 0) (dv dd : Value) (hV : Blk w g 86 #[.pointer (some ⟨gd, 0, none⟩), .pointer (some ⟨gs, 0, none⟩), dv, dd]) (hg : ¬ fp g)
    (L : Option Addr) (cl : Nat) (Rl : List Raw) (hL : DirF fp w L cl Rl) (P : Option Addr) (cp : Nat) (B : List Blb) (hB : PutF fp w P B) (hlen : Rl.length = B.length) (pk : List (List (Nat × List UInt8))) (hpl : pk.length = B.length)
    (hpk : ∀ (k : Nat) (q : List (Nat × List UInt8)) (r : Raw) (b : Blb), pk[k]? = some q → Rl[k]? = some r → B[k]? = some b → q = pairK r.e b.data ∧ (secs r.e.ext).length = needN b.data.length)
    (hex : ∀ r ∈ Rl, r.e.ext.length ≤ 1000000 ∧ (secs r.e.ext).length ≤ 100000 ∧ ∀ x ∈ r.e.ext, x.1 + x.2 ≤ 1000000) (hBl : B.length ≤ 100000) (hBd : ∀ b ∈ B, b.data.length ≤ 1000000) (hps : pk.flatten.length ≤ 100000)
    (I : Option Addr) (m d : Nat) (bs : List UInt8) (hI : Bs w I m d bs) (hIf : ∀ ad, I = some ad → ¬ fp ad.block) (hbl : bs.length ≤ 814) :
    Calls Tryz.prog 49 #[.pointer (some ⟨g, 0, none⟩), .slice L Rl.length cl, .slice P B.length cp, .slice I m d] w (Wrote w fp gs gd (writeV s pk.flatten bs)) := by
  have hwr : (putTo s.S s.l pk.flatten).1 ≠ 0 → writeV s pk.flatten bs = ((putTo s.S s.l pk.flatten).1, withD s (putTo s.S s.l pk.flatten).2.1 (putTo s.S s.l pk.flatten).2.2) := fun h => by unfold writeV; rw [if_neg h]
  have hw0 : (putTo s.S s.l pk.flatten).1 = 0 → pk.flatten = [] → writeV s pk.flatten bs = commitS (withD s (putTo s.S s.l pk.flatten).2.1 (putTo s.S s.l pk.flatten).2.2) bs := fun h h2 => by unfold writeV; rw [if_pos h, if_pos h2]
  have hw6 : (putTo s.S s.l pk.flatten).1 = 0 → pk.flatten ≠ [] → (putTo s.S s.l pk.flatten).2.2 = 0 → writeV s pk.flatten bs = (6, withD s (putTo s.S s.l pk.flatten).2.1 (tick (putTo s.S s.l pk.flatten).2.2)) := fun h h2 h3 => by unfold writeV; rw [if_pos h, if_neg h2, if_pos h3]
  have hwc : (putTo s.S s.l pk.flatten).1 = 0 → pk.flatten ≠ [] → (putTo s.S s.l pk.flatten).2.2 ≠ 0 → writeV s pk.flatten bs = commitS (withD s (flushS (putTo s.S s.l pk.flatten).2.1) (tick (putTo s.S s.l pk.flatten).2.2)) bs := fun h h2 h3 => by unfold writeV; rw [if_pos h, if_neg h2, if_neg h3]
  have hRl : (Rl.length : Int) ≤ 100000 := by omega
  obtain ⟨W, hW⟩ : ∃ W, writeV s pk.flatten bs = W := ⟨_, rfl⟩
  obtain ⟨Rs, hRs⟩ : ∃ Rs, putTo s.S s.l pk.flatten = Rs := ⟨_, rfl⟩
  rw [hW, hRs] at hwr hw0 hw6 hwc
  rw [hW]
  have Hwr := Lib.hid hwr
  have Hw0 := Lib.hid hw0
  have Hw6 := Lib.hid hw6
  have Hwc := Lib.hid hwc
  have HRs := Lib.hid hRs
  have Hpk := Lib.hid hpk
  have Hlen := Lib.hid hlen
  have Hpl := Lib.hid hpl
  have b0 := hV.cell 0
  have b1 := hV.cell 1
  simp only [List.getElem?_toArray, List.getElem?_cons_zero, List.getElem?_cons_succ] at b0 b1
  obtain ⟨cnt, hcnt⟩ : ∃ cnt : Nat → Nat, ∀ k, cnt k = (pk.take k).flatten.length := ⟨_, fun _ => rfl⟩
  have Hcnt := Lib.hid hcnt
  have hc0 : cnt 0 = 0 := by rw [hcnt]; rfl
  clear hwr hw0 hw6 hwc hW hRs hpk hlen hpl hcnt
  go_enter Tryz.func49, Tryz.ntmps49
  go_wp2
  go_loopw [9, 10, 11, 12, 19] (fun c _ _ _ i w1 => ∃ (k : Nat) (S' : Sec) (l' : Int), k ≤ Rl.length ∧ i = .int .i64 (k : Int) ∧ c = .int .i64 (cnt k : Int) ∧ Sup w1 (More fp w w1) gs gd (withD s S' l') ∧ Only fp w w1 ∧ Small (400000 + cnt k) S' ∧ putTo S' l' (pk.drop k).flatten = Rs) (fun _ _ _ _ i _ => Rl.length - (intOf i).toNat)
  case atStart => exact ⟨0, s.S, s.l, Nat.zero_le _, rfl, by rw [hc0]; rfl, SupAt.mono hS (fun _ hk _ => .inl hk), Only.refl _ _, by rw [hc0]; exact hsm, HRs.out⟩
  case round =>
    obtain ⟨k, S', l', hk, rfl, rfl, hS1, ho, hsm1, hput⟩ := hrel
    obtain ⟨wo, hwo⟩ : ∃ wo : World, wo = wr := ⟨_, rfl⟩
    subst hwo
    have Hput := Lib.hid hput
    clear hput
    have hcnt : cnt k ≤ 100000 := by
      rw [Hcnt.out]
      have : pk.flatten = (pk.take k).flatten ++ (pk.drop k).flatten := by rw [← List.flatten_append, List.take_append_drop]
      have := congrArg List.length this
      rw [List.length_append] at this
      omega
    by_cases hlt : k < Rl.length
    · have hki : (k : Int) < (Rl.length : Int) := by omega
      have hkB : k < B.length := by rw [← Hlen.out]; exact hlt
      have hkp : k < pk.length := by rw [Hpl.out]; exact hkB
      obtain ⟨hpe, hse⟩ := Hpk.out k _ _ _ (List.getElem?_eq_getElem hkp) (List.getElem?_eq_getElem hlt) (List.getElem?_eq_getElem hkB)
      obtain ⟨ge, oe, rfl, q0, q1, q2, q3⟩ := (hL.only ho).dir.cell hlt
      obtain ⟨hx1, hx2, hx3⟩ := hex Rl[k] (List.getElem_mem hlt)
      have hxr := hL.dir.ext Rl[k] (List.getElem_mem hlt)
      have hxf := hL.ext Rl[k] (List.getElem_mem hlt)
      have hxo : ExtR wo Rl[k].A Rl[k].c Rl[k].e.ext := ⟨hxr.1, hxr.2.1, hxr.2.2.only ho (fun ad e _ => hxf ad e)⟩
      obtain ⟨gb, ob, rfl, p0, p1⟩ := hB.put.cell hkB
      have hbf := hB.row (fun e' => by rw [e'] at hkB; exact Nat.not_lt_zero _ hkB) _ rfl
      have hdr := hB.put.dat B[k] (List.getElem_mem hkB)
      have hdf := hB.dat B[k] (List.getElem_mem hkB)
      have hdl := hBd B[k] (List.getElem_mem hkB)
      have hdrop : (pk.drop k).flatten = pk[k] ++ (pk.drop (k + 1)).flatten := by rw [List.drop_eq_getElem_cons hkp]; rfl
      have htake : cnt (k + 1) = cnt k + pk[k].length := by rw [Hcnt.out, Hcnt.out, List.take_succ_eq_append_getElem hkp, List.flatten_append, List.length_append]; simp
      have hplen : pk[k].length = needN B[k].data.length := by rw [hpe]; exact pairK_length _ _ hse
      obtain ⟨pa, hpa⟩ : ∃ pa, pk[k] = pa := ⟨_, rfl⟩
      rw [hpa] at hpe hdrop htake hplen
      obtain ⟨r, hr⟩ : ∃ r, Rl[k] = r := ⟨_, rfl⟩
      obtain ⟨b, hb⟩ : ∃ b, B[k] = b := ⟨_, rfl⟩
      rw [hr] at hpe hse q0 q1 q2 q3 hx1 hx2 hx3 hxr hxf hxo
      rw [hb] at hpe hse p0 p1 hdr hdf hdl hplen
      have Hpa := Lib.hid hpa
      have Hr := Lib.hid hr
      have Hb := Lib.hid hb
      have Hpe := Lib.hid hpe
      have Hse := Lib.hid hse
      have Hdrop := Lib.hid hdrop
      have Htake := Lib.hid htake
      have Hplen := Lib.hid hplen
      clear hpa hr hb hpe hse hdrop htake hplen
      obtain ⟨⟨nm, ln, sm, xs⟩, Ax, cx⟩ := r
      obtain ⟨nb, dt, D, cd⟩ := b
      dsimp only at q0 q1 q2 q3 hx1 hx2 hx3 hxr hxf hxo p0 p1 hdr hdf hdl
      unfold iv at q1 q2
      obtain ⟨hdc, hdrd⟩ := hdr
      obtain ⟨Z, hZ⟩ : ∃ Z, strV nm = .string Z := ⟨_, rfl⟩
      rw [hZ] at q0
      obtain ⟨Y, hY⟩ : ∃ Y, strV nb = .string Y := ⟨_, rfl⟩
      rw [hY] at p0
      clear hZ hY
      -- the entry's own block
      obtain ⟨wa, hwa⟩ : ∃ wa, wo.alloc (.cells #[.string Z, .int .i64 (ln : Int), .int .i64 (sm : Int), .slice Ax xs.length cx] 135) = wa := ⟨_, rfl⟩
      have hba : Below wo.heap.size wo wa := by rw [← hwa]; exact ext_alloc (Below.refl _ _) _
      have hBe : Blk wa wo.heap.size 135 #[.string Z, .int .i64 (ln : Int), .int .i64 (sm : Int), .slice Ax xs.length cx] := by rw [← hwa]; exact Blk.new _ _ _
      have hsec := sectors_any wo.heap.size 1 Ax cx xs wa (hBe.cell 3) (hxo.ext hba) hx3 (by omega) hx1
      have hzz : secs xs = secs xs := rfl
      obtain ⟨sl, hsl⟩ : ∃ sl, secs xs = sl := ⟨_, rfl⟩
      rw [hsl] at hsec hx2
      have Hsl := Lib.hid hsl
      rw [← hwa] at hsec
      have Hsec := Lib.hid hsec
      have Hwa := Lib.hid hwa
      clear hsec hwa hsl hzz
      go_wp2_with fail
      refine Hsec.out.mono ?_
      rintro e w3 ⟨A3, c3, rfl, hN3⟩
      have hb3 : Below wo.heap.size wo w3 := by
        have := hN3.bel
        rw [Hwa.out] at this
        exact ext_trans hba this
      have p1' : w3.cell? ⟨gb, ob + k * 2 + 1, none⟩ = some (.slice D dt.length cd) := by
        have hl := World.block_lt_of_cell? w _ p1
        exact (World.cell?_of_block (a := ⟨gb, ob + k * 2 + 1, none⟩) ((hb3.block gb (Nat.lt_of_lt_of_le hl ho.size)).trans (ho.block gb hl hbf))).trans p1
      have hD0 : D = none → dt.length = 0 := fun e => by
        rcases dt with _ | ⟨x, r⟩
        · rfl
        · obtain ⟨ad, h, _⟩ := hdrd 0 (bv x) rfl
          rw [e] at h; cases h
      have hrows := vrows_any D dt.length cd hD0 hdc (by omega) w3
      obtain ⟨nd, hnd⟩ : ∃ nd, needN dt.length = nd := ⟨_, rfl⟩
      rw [hnd] at hrows
      have Hnd := Lib.hid hnd
      have Hrows := Lib.hid hrows
      clear hnd hrows
      go_wp2_with fail
      refine Hrows.out.mono ?_
      rintro e w4 ⟨A4, c4, rfl, hN4⟩
      have hb4 : Below wo.heap.size wo w4 := ext_trans hb3 hN4.bel
      have hsn : sl.length = nd := by rw [← Hsl.out, ← Hnd.out]; exact Hse.out
      have hfoT : ∀ q, More fp w wo q → q < wo.heap.size := fun q hq => by
        rcases hq with hq | hq
        · exact Nat.lt_of_lt_of_le (hfp q hq) ho.size
        · exact hq.2
      have hz3 : wo.heap.size ≤ w3.heap.size := hb3.size
      have hza : wo.heap.size ≤ wa.heap.size := hba.size
      have ho34 : ∀ W, Only (More fp w wo) w4 W → Only (More fp w wo) w3 W := fun W hW => (Only.of_ext (S := More fp w wo) hN4.bel).trans hW (fun _ _ x => x)
      have hat : ∀ W, Only (More fp w wo) w4 W → ∀ j (hj : j < nd), ∃ g3 o3, A3 = some ⟨g3, o3, none⟩ ∧ W.cell? ⟨g3, o3 + j, none⟩ = some (.int .i64 ((sl.getD j 0 : Nat) : Int)) := fun W hW j hj => by
        have hjl : j < (sl.map iv').length := by rw [List.length_map, hsn]; exact hj
        obtain ⟨g3, o3, rfl, hc⟩ := hN3.at_ (ho34 W hW) (fun q hq => by have := hfoT q hq; rw [Hwa.out]; omega) hjl
        refine ⟨g3, o3, rfl, hc.trans ?_⟩
        rw [List.getElem_map, List.getD_eq_getElem?_getD, List.getElem?_eq_getElem (by rw [hsn]; exact hj)]; rfl
      have hch : ∀ W, Only (More fp w wo) w4 W → ∀ j, j < nd → ∃ g4 o4 X, A4 = some ⟨g4, o4, none⟩ ∧ W.cell? ⟨g4, o4 + j, none⟩ = some (.slice X (chunkB dt j).length (chunkB dt j).length) ∧ Rd W X ((chunkB dt j).map bv) := fun W hW j hj => by
        have hdd : needN dt.length = nd := Hnd.out
        obtain ⟨X, hX1, hX2, hX3⟩ := chunk_rd hdrd (k := j) (by rw [hdd]; exact hj)
        have hjl : j < ((chunksOf D dt.length).map encS).length := by rw [List.length_map, chunksOf_length D _ hD0, hdd]; exact hj
        obtain ⟨g4, o4, rfl, hc⟩ := hN4.at_ hW (fun q hq => by have := hfoT q hq; omega) hjl
        refine ⟨g4, o4, X, rfl, ?_, ?_⟩
        · rw [hc]
          rw [List.getElem_map]
          have := List.getElem?_eq_getElem (l := chunksOf D dt.length) (i := j) (by simpa using hjl)
          rw [hX1] at this
          injection this with this
          rw [← this]; rfl
        · have hoW : Only (More fp w wo) w W := ((ho.mono (T := More fp w wo) (fun _ _ x => .inl x)).trans (Only.of_ext (S := More fp w wo) hb4) (fun _ _ x => x)).trans hW (fun _ _ x => x)
          refine hX2.only hoW (fun ad e hne => ?_)
          have hlt := hX2.blk_lt hne ad e
          exact not_more (hX3 (fun q => ¬ fp q) (hdf (fun e' => by rw [e'] at hdd; have : needN ([] : List UInt8).length = 0 := rfl; omega)) ad e) hlt
      have hvd : ∀ W, Only (More fp w wo) w4 W → W.cell? ⟨g, 0, none⟩ = some (.pointer (some ⟨gd, 0, none⟩)) := fun W hW => by
        have hgl := World.block_lt_of_cell? w _ b0
        have hoW : Only (More fp w wo) w W := ((ho.mono (T := More fp w wo) (fun _ _ x => .inl x)).trans (Only.of_ext (S := More fp w wo) hb4) (fun _ _ x => x)).trans hW (fun _ _ x => x)
        exact (World.cell?_of_block (a := ⟨g, 0, none⟩) (hoW.block g hgl (not_more hg hgl))).trans b0
      have hpj : ∀ j, j < nd → pa.drop j = (sl.getD j 0, chunkB dt j) :: pa.drop (j + 1) := fun j hj => by
        have hdd : needN dt.length = nd := Hnd.out
        have h1 : pa[j]? = some (sl.getD j 0, chunkB dt j) := by
          have h2 := pairK_get ⟨nm, ln, sm, xs⟩ dt Hse.out (j := j) (by rw [hdd]; exact hj)
          rw [Hpe.out, h2]
          congr 2
          rw [← Hsl.out, List.getD_eq_getElem?_getD, List.getElem?_eq_getElem (by rw [Hse.out, hdd]; exact hj)]; rfl
        obtain ⟨h3, h4⟩ := List.getElem?_eq_some_iff.1 h1
        rw [List.drop_eq_getElem_cons h3, h4]
      have hS4 : Sup w4 (More (More fp w wo) w4 w4) gs gd (withD s S' l') := SupAt.mono (hS1.ext hb4) (fun _ hk _ => .inl hk)
      have hput0 : putTo S' l' (pa.drop 0 ++ (pk.drop (k + 1)).flatten) = Rs := by
        rw [List.drop_zero, ← Hdrop.out]; exact Hput.out
      have hfin : ∀ W, Only (More fp w wo) w4 W → ∀ S'' l'', Sup W (More (More fp w wo) w4 W) gs gd (withD s S'' l'') → Sup W (More fp w W) gs gd (withD s S'' l'') ∧ Only fp w W := fun W hW S'' l'' hs => by
        refine ⟨SupAt.mono hs (fun q hq _ => More.join ho.size hb4.size hW.size hq), ?_⟩
        refine Only.join ((ho.trans (Only.of_ext (S := fp) hb4) (fun _ _ x => x))) hW
      have Hsn := Lib.hid hsn
      have Hat := Lib.hid hat
      have Hch := Lib.hid hch
      have Hvd := Lib.hid hvd
      have Hpj := Lib.hid hpj
      have Hfin := Lib.hid hfin
      have Hput0 := Lib.hid hput0
      have hndb : nd ≤ 100000 := by rw [← hsn]; exact hx2
      clear hat hch hvd hpj hfin hput0 hsn p1'
      go_wp2
      go_loopw [33] (fun i w1 => ∃ (j : Nat) (S'' : Sec) (l'' : Int), j ≤ nd ∧ i = .int .i64 (j : Int) ∧ Sup w1 (More (More fp w wo) w4 w1) gs gd (withD s S'' l'') ∧ Only (More fp w wo) w4 w1 ∧ Small (400000 + cnt k + j) S'' ∧ putTo S'' l'' (pa.drop j ++ (pk.drop (k + 1)).flatten) = Rs) (fun i _ => nd - (intOf i).toNat)
      case atStart => exact ⟨0, S', l', Nat.zero_le _, rfl, hS4, Only.refl _ _, hsm1, Hput0.out⟩
      case round =>
        obtain ⟨j, S2, l2, hj, rfl, hS2, ho2, hsm2, hput2⟩ := hrel
        by_cases hjl : j < nd
        · have hji : (j : Int) < (nd : Int) := by omega
          have hjs : (j : Int) < (sl.length : Int) := by rw [Hsn.out]; exact hji
          obtain ⟨g3, o3, rfl, c3⟩ := Hat.out _ ho2 j hjl
          obtain ⟨g4, o4, X, rfl, c4, hX⟩ := Hch.out _ ho2 j hjl
          have hv0 := Hvd.out _ ho2
          have hdj := Hpj.out j hjl
          have hst : ∀ W, Only (More fp w wo) w4 W → W.cell? ⟨g3, o3 + j, none⟩ = some (.int .i64 ((sl.getD j 0 : Nat) : Int)) := fun W hW => by
            obtain ⟨g5, o5, e5, c5⟩ := Hat.out W hW j hjl
            injection e5 with e5
            injection e5 with e5 e6
            subst e5 e6
            exact c5
          obtain ⟨i, hi⟩ : ∃ i, sl.getD j 0 = i := ⟨_, rfl⟩
          rw [hi] at hst
          have Hst := Lib.hid hst
          clear hst
          rw [hi] at c3 hdj
          obtain ⟨ch, hchk⟩ : ∃ ch, chunkB dt j = ch := ⟨_, rfl⟩
          rw [hchk] at c4 hX hdj
          rw [hdj] at hput2
          obtain ⟨z, hz⟩ : ∃ z, writeCode S2.length l2 (i : Int) ch = z := ⟨_, rfl⟩
          have hzor := writeCode_or S2.length l2 (i : Int) ch
          rw [hz] at hzor
          have hwrite : ∀ W, Below wr.heap.size wr W → Calls Tryz.prog 39 #[.pointer (some ⟨gd, 0, none⟩), .int .i64 (i : Int), .slice X ch.length ch.length] W fun e w' => e = .returned (.int .i64 z) ∧ Sup w' (More (More fp w wo) w4 w') gs gd (withD s (writeS S2 l2 (i : Int) ch) (writeL S2.length l2 (i : Int) ch)) ∧ Only (More fp w wo) w4 w' := fun W hW => by
            refine (sup_write (hS2.ext hW) (small_mono hsm2 (by omega)) (i : Int) X ch.length ch.length ch rfl (hX.ext hW)).mono ?_
            rintro e w' ⟨rfl, h1, h2⟩
            exact ⟨by rw [← hz]; rfl, SupAt.mono h1 (fun q hq _ => More.join ho2.size hW.size h2.size hq), Only.join (ho2.trans (Only.of_ext (S := More fp w wo) hW) (fun _ _ x => x)) h2⟩
          have Hwrite := Lib.hid hwrite
          have Hz := Lib.hid hz
          have Hput2 := Lib.hid hput2
          have hsw := small_write hsm2 l2 (i : Int) ch
          have Hsw := Lib.hid hsw
          have HS2 := Lib.hid hS2
          clear hwrite hz hput2 hi hchk hdj hX hsw hS2
          go_wp2
          go_region_held3 (fun w' => w'.cell? ⟨g, 0, none⟩ = some (.pointer (some ⟨gd, 0, none⟩)) ∧ w'.cell? ⟨g3, o3 + j, none⟩ = some (.int .i64 (i : Int))) (first | exact ⟨hv0, c3⟩ | exact ⟨Hvd.out _ ho9, Hst.out _ ho9⟩) (first
            | (go_at_call 39; ((with_reducible refine (Hwrite.out _ ?_).mono ?_)); (repeat (first | apply ext_drew | exact Below.refl _ _)); rintro e w9 ⟨rfl, hS9, ho9⟩))
          all_goals
            by_cases hz0 : z = 0
            · subst hz0
              have hwc0 := Hz.out
              have hws : writeL S2.length l2 (i : Int) ch = tick l2 := by unfold writeL; rw [if_pos hwc0]
              rw [hws] at hS9
              have hp9 := Hput2.out
              rw [List.cons_append, putTo_ok _ _ _ _ _ hwc0] at hp9
              have Hp9 := Lib.hid hp9
              clear hws hwc0 hp9
              go_wp2
              go_roundw
              case rel => exact ⟨j + 1, _, _, by omega, by go_num, hS9, ho9, by have := Hsw.out; rw [Nat.add_assoc] at this; exact this, Hp9.out⟩
              case measure => simp [intOf]; omega
            · have hwc0 := Hz.out
              have hne : writeCode S2.length l2 (i : Int) ch ≠ 0 := by rw [hwc0]; exact hz0
              have hws : writeL S2.length l2 (i : Int) ch = l2 ∧ writeS S2 l2 (i : Int) ch = S2 := by unfold writeL writeS; rw [if_neg hne, if_neg hne]; exact ⟨rfl, rfl⟩
              rw [hws.1, hws.2] at hS9
              have hp9 := Hput2.out
              rw [List.cons_append, putTo_no _ _ _ _ _ hne, hwc0] at hp9
              have hw9 := Hwr.out (by rw [← hp9]; exact hz0)
              rw [← hp9] at hw9
              have Hw9 := Lib.hid hw9
              obtain ⟨hf1, hf2⟩ := Hfin.out w9 ho9 S2 l2 hS9
              clear hws hwc0 hp9 hne hw9
              rcases hzor with rfl | rfl | rfl
              · exact absurd rfl hz0
              all_goals
                go_wp2
                go_ret
                rw [Hw9.out]
                exact ⟨rfl, hf1, hf2⟩
        · obtain rfl : j = nd := by omega
          have hdd : pa.drop j = [] := by rw [List.drop_eq_nil_iff, Hplen.out, Hnd.out]; exact Nat.le_refl _
          rw [hdd, List.nil_append] at hput2
          obtain ⟨hf1, hf2⟩ := Hfin.out wr ho2 S2 l2 hS2
          have hc1 : cnt (k + 1) = cnt k + j := by rw [Htake.out, Hplen.out, Hnd.out]
          have hsn' : (sl.length : Int) = (j : Int) := by rw [Hsn.out]
          have hwrp : IntKind.i64.wrap ((cnt k : Int) + (sl.length : Int)) = ((cnt k : Int) + (sl.length : Int)) := IntWalk.i64_in _ (by omega)
          have Hc1 := Lib.hid hc1
          have Hput2 := Lib.hid hput2
          have Hsn' := Lib.hid hsn'
          clear hput2 hdd hc1 hsn'
          go_wp2
          go_roundw
          case rel => exact ⟨k + 1, S2, l2, by omega, by go_num, by rw [Hsn'.out, Hc1.out]; go_num, hf1, hf2, by rw [Hc1.out, ← Nat.add_assoc]; exact hsm2, Hput2.out⟩
          case measure => simp [intOf]; omega
    · obtain rfl : k = Rl.length := by omega
      have hfl : cnt Rl.length = pk.flatten.length := by rw [Hcnt.out, Hlen.out, ← Hpl.out, List.take_length]
      have hdr : pk.drop Rl.length = [] := by rw [Hlen.out, ← Hpl.out, List.drop_length]
      have hput := Hput.out
      rw [hdr] at hput
      have hput : (0, S', l') = Rs := hput
      subst hput
      have htw : Tab wo := ht.only ho htf
      have htn : ¬ More fp w wo 0 := not_more htf ht.block_lt
      have hbw : Bs wo I m d bs := ⟨hI.1, hI.2.1, hI.2.2.only ho (fun ad e _ => hIf ad e)⟩
      have hv0 : ∀ W, Only (More fp w wo) wo W → W.cell? ⟨g, 0, none⟩ = some (.pointer (some ⟨gd, 0, none⟩)) ∧ W.cell? ⟨g, 1, none⟩ = some (.pointer (some ⟨gs, 0, none⟩)) := fun W hW => by
        have hgl := World.block_lt_of_cell? w _ b0
        have hoW := (ho.mono (T := More fp w wo) (fun _ _ x => .inl x)).trans hW (fun _ _ x => x)
        exact ⟨(World.cell?_of_block (a := ⟨g, 0, none⟩) (hoW.block g hgl (not_more hg hgl))).trans b0, (World.cell?_of_block (a := ⟨g, 1, none⟩) (hoW.block g hgl (not_more hg hgl))).trans b1⟩
      obtain ⟨u0, u1⟩ := hv0 wo (Only.refl _ _)
      -- the last call
      have hcom : ∀ W S2 l2, Only (More fp w wo) wo W → Sup W (More (More fp w wo) wo W) gs gd (withD s S2 l2) → Small 900000 S2 → Calls Tryz.prog 84 #[.pointer (some ⟨gs, 0, none⟩), .slice I m d] W fun e w' => e = .returned (.int .i64 (commitS (withD s S2 l2) bs).1) ∧ Sup w' (More fp w w') gs gd (commitS (withD s S2 l2) bs).2 ∧ Only fp w w' := fun W S2 l2 hW hs2 hsm2 => by
        have hbW : Bs W I m d bs := ⟨hbw.1, hbw.2.1, hbw.2.2.only hW (fun ad e hne => not_more (hIf ad e) (hI.2.2.blk_lt hne ad e))⟩
        refine (commit_any (htw.only hW htn) hs2 hsm2 I m d bs hbW (by unfold maxLen; omega)).mono ?_
        rintro e w' ⟨rfl, h1, h2⟩
        have h3 : Only fp w W := Only.join ho hW
        have h4 : Only (More fp w wo) wo w' := Only.join hW h2
        refine ⟨rfl, SupAt.mono h1 (fun q hq _ => ?_), Only.join ho h4⟩
        have e1 := ho.size
        have e2 := hW.size
        have e3 := h2.size
        rcases hq with ((hq | hq) | hq) | hq
        · exact .inl hq
        all_goals exact .inr (by omega)
      have Hcom := Lib.hid hcom
      have Hv0 := Lib.hid hv0
      have Hfl := Lib.hid hfl
      have hW0 := Hw0.out rfl
      have HW0 := Lib.hid hW0
      have hsme : Small 900000 S' := small_mono hsm1 (by omega)
      have hSo : Sup wo (More (More fp w wo) wo wo) gs gd (withD s S' l') := SupAt.mono hS1 (fun _ hk _ => .inl hk)
      have HSo := Lib.hid hSo
      have Hsme := Lib.hid hsme
      clear hcom hv0 hfl hW0 hdr hSo hsme
      by_cases hn0 : cnt Rl.length = 0
      · have hpe : pk.flatten = [] := List.length_eq_zero_iff.1 (by rw [← Hfl.out]; exact hn0)
        have hWW := HW0.out hpe
        have HWW := Lib.hid hWW
        rw [hn0]
        clear hpe hWW
        go_wp2_with fail
        refine (Hcom.out wo S' l' (Only.refl _ _) HSo.out Hsme.out).mono ?_
        rintro e w9 ⟨rfl, h1, h2⟩
        go_wp2
        go_ret
        rw [HWW.out]
        exact ⟨rfl, h1, h2⟩
      · have hci : (0 : Int) < (cnt Rl.length : Int) := by omega
        have hpe : pk.flatten ≠ [] := fun e => hn0 (by rw [Hfl.out, e]; rfl)
        have hflush : Calls Tryz.prog 104 #[.pointer (some ⟨gd, 0, none⟩)] wo fun e w' => e = .returned (.int .i64 (flushCode l')) ∧ Sup w' (More (More fp w wo) wo w') gs gd (withD s (if l' = 0 then S' else flushS S') (tick l')) ∧ Only (More fp w wo) wo w' := by
          refine (sup_flush hS1 (small_mono hsm1 (by omega))).mono ?_
          rintro e w' ⟨rfl, h1, h2⟩
          exact ⟨rfl, h1, h2⟩
        by_cases hl0 : l' = 0
        · have hWW : W = (6, withD s S' (tick l')) := Hw6.out rfl hpe hl0
          have hfc : flushCode l' = 6 := by unfold flushCode; rw [if_pos hl0]
          rw [hfc, if_pos hl0] at hflush
          have HWW := Lib.hid hWW
          have Hflush := Lib.hid hflush
          clear hpe hWW hfc hflush
          go_wp2_with fail
          refine Hflush.out.mono ?_
          rintro e w9 ⟨rfl, h1, h2⟩
          go_wp2
          go_ret
          rw [HWW.out]
          refine ⟨rfl, SupAt.mono h1 (fun q hq _ => ?_), Only.join ho h2⟩
          have e1 := ho.size
          have e2 := h2.size
          rcases hq with (hq | hq) | hq
          · exact .inl hq
          all_goals exact .inr (by omega)
        · have hWW : W = commitS (withD s (flushS S') (tick l')) bs := Hwc.out rfl hpe hl0
          have hfc : flushCode l' = 0 := by unfold flushCode; rw [if_neg hl0]
          rw [hfc, if_neg hl0] at hflush
          have hsf : Small 900000 (flushS S') := small_flush S' (by omega)
          have HWW := Lib.hid hWW
          have Hflush := Lib.hid hflush
          have Hsf := Lib.hid hsf
          clear hpe hWW hfc hflush hsf
          go_wp2_with fail
          refine Hflush.out.mono ?_
          rintro e w9 ⟨rfl, h1, h2⟩
          obtain ⟨v0, v1⟩ := Hv0.out w9 h2
          go_wp2_with fail
          refine (Hcom.out w9 _ _ h2 h1 Hsf.out).mono ?_
          rintro e w10 ⟨rfl, h3, h4⟩
          go_wp2
          go_ret
          rw [HWW.out]
          exact ⟨rfl, h3, h4⟩
end Go.Proofs.YtdpmfcifgimleaaGreatDoor

/-
  A vault's directory, as it must be. No statement of the seat is proved here.
-/
namespace Go.Proofs.YtdpmfcifgimleaaGreatDoor
open Go Go.RowKit

structure EntOk (N : Nat) (e : Ent) : Prop where
  name : nameB e.name = true
  len : e.len ≤ 32768
  sum : e.sum < 4294967296
  room : (secs e.ext).length = needN e.len
  ext : ∀ x ∈ e.ext, 32 ≤ x.1 ∧ 1 ≤ x.2 ∧ x.1 + x.2 ≤ N
structure VOk (N : Nat) (L : List Ent) : Prop where
  rises : Rises L
  ent : ∀ e ∈ L, EntOk N e
  apart : (L.flatMap fun e => secs e.ext).Nodup

theorem ext_le_secs : ∀ {l : List (Nat × Nat)}, (∀ x ∈ l, 1 ≤ x.2) → l.length ≤ (secs l).length
  | [], _ => Nat.le_refl _
  | x :: r, h => by
    have ih := ext_le_secs (l := r) (fun y hy => h y (List.mem_cons_of_mem _ hy))
    have h1 := h x (List.mem_cons_self ..)
    have e1 : secs (x :: r) = runL x ++ secs r := rfl
    rw [e1, List.length_append, runL_length, List.length_cons]; omega
theorem EntOk.exts {N : Nat} {e : Ent} (h : EntOk N e) : e.ext.length ≤ 512 := by
  have h1 := ext_le_secs (l := e.ext) (fun x hx => (h.ext x hx).2.1)
  have h2 := h.room
  have h3 := h.len
  unfold needN at h2
  omega
theorem EntOk.secs_le {N : Nat} {e : Ent} (h : EntOk N e) : (secs e.ext).length ≤ 512 := by
  have h2 := h.room
  have h3 := h.len
  unfold needN at h2
  omega
theorem nameB_len {s : List UInt8} (h : nameB s = true) : 1 ≤ s.length ∧ s.length ≤ 8 := by
  unfold nameB at h
  simp only [Bool.and_eq_true, decide_eq_true_eq] at h
  exact ⟨h.1.1, h.1.2⟩
theorem EntOk.ne {N : Nat} {e : Ent} (h : EntOk N e) : e.name ≠ [] := fun hh => by
  have := nameB_len h.name
  rw [hh] at this
  simp at this

/-! ### what is free -/
theorem ownerFold_getD (L : List Ent) (hn : ∀ e ∈ L, e.name ≠ []) : ∀ (l : List (List UInt8)) (i : Nat), i < l.length → ((L.foldl markE l).getD i [] = [] ↔ l.getD i [] = [] ∧ ∀ e ∈ L, i ∉ secs e.ext) := by
  induction L with
  | nil => intro l i _; simp
  | cons e r ih =>
    intro l i hi
    rw [List.foldl_cons, ih (fun x hx => hn x (List.mem_cons_of_mem _ hx)) _ _ (by rw [markE_length]; exact hi), markE_getD _ _ _ hi]
    have he := hn e (List.mem_cons_self ..)
    constructor
    · rintro ⟨h1, h2⟩
      by_cases hm : i ∈ secs e.ext
      · rw [if_pos hm] at h1; exact absurd h1 he
      · rw [if_neg hm] at h1
        refine ⟨h1, fun x hx => ?_⟩
        rcases List.mem_cons.1 hx with rfl | hx
        · exact hm
        · exact h2 x hx
    · rintro ⟨h1, h2⟩
      have hm := h2 e (List.mem_cons_self ..)
      rw [if_neg hm]
      exact ⟨h1, fun x hx => h2 x (List.mem_cons_of_mem _ hx)⟩
theorem mem_freeL {n : Nat} {L : List Ent} (hn : ∀ e ∈ L, e.name ≠ []) {i : Nat} : i ∈ freeL n L ↔ i < n ∧ 32 ≤ i ∧ ∀ e ∈ L, i ∉ secs e.ext := by
  unfold freeL
  rw [List.mem_filter, List.mem_range]
  constructor
  · rintro ⟨h1, h2⟩
    have h2 := of_decide_eq_true h2
    unfold ownerL at h2
    rw [ownerFold_getD L hn _ _ (by rw [markL_length, List.length_replicate]; exact h1), markL_getD _ _ _ _ (by rw [List.length_replicate]; exact h1)] at h2
    refine ⟨h1, ?_, h2.2⟩
    rcases Nat.lt_or_ge i 32 with hl | hl
    · have h3 := h2.1
      rw [if_pos ⟨Nat.zero_le _, by omega⟩] at h3
      cases h3
    · exact hl
  · rintro ⟨h1, h2, h3⟩
    refine ⟨h1, decide_eq_true ?_⟩
    unfold ownerL
    rw [ownerFold_getD L hn _ _ (by rw [markL_length, List.length_replicate]; exact h1), markL_getD _ _ _ _ (by rw [List.length_replicate]; exact h1)]
    refine ⟨?_, h3⟩
    rw [if_neg (by rintro ⟨_, h⟩; simp at h; omega), List.getD_eq_getElem?_getD, List.getElem?_replicate]
    split <;> rfl
theorem freeL_nodup (n : Nat) (L : List Ent) : (freeL n L).Nodup := List.Pairwise.filter _ List.nodup_range
theorem freeL_le (n : Nat) (L : List Ent) : (freeL n L).length ≤ n := by
  have := List.length_filter_le (fun i => decide ((ownerL n L).getD i [] = [])) (List.range n)
  rw [List.length_range] at this
  exact this

/-! ### what is laid -/
theorem joinL_ext (s : List Nat) (N : Nat) (h : ∀ i ∈ s, 32 ≤ i ∧ i < N) : ∀ x ∈ joinL s, 32 ≤ x.1 ∧ 1 ≤ x.2 ∧ x.1 + x.2 ≤ N := fun x hx => by
  obtain ⟨h1, h2, _⟩ := joinL_mem s x hx
  refine ⟨(h _ h2).1, h1, ?_⟩
  have h3 : x.1 + (x.2 - 1) ∈ s := by
    rw [← secs_joinL s]
    exact List.mem_flatMap.2 ⟨x, hx, mem_runL.2 (by omega)⟩
  have := (h _ h3).2
  omega
theorem laid_secs (B : List Blb) (f : List Nat) (k : Nat) : secs (entK B f k).ext = (f.drop (offs B k)).take (needN (B.getD k default).data.length) := by
  unfold entK
  exact secs_joinL _
theorem laid_ok {N : Nat} {B : List Blb} {f : List Nat} (hf : ∀ i ∈ f, 32 ≤ i ∧ i < N) (hn : ∀ b ∈ B, nameB b.name = true) (hd : ∀ b ∈ B, b.data.length ≤ 32768) (ho : offs B B.length ≤ f.length) {k : Nat} (hk : k < B.length) : EntOk N (entK B f k) := by
  have hb : B.getD k default = B[k] := by rw [List.getD_eq_getElem?_getD, List.getElem?_eq_getElem hk]; rfl
  have hm : B[k] ∈ B := List.getElem_mem hk
  have h1 := offs_succ B k hk
  have h2 := offs_mono B (i := k + 1) (j := B.length) (by omega)
  refine ⟨by unfold entK; rw [hb]; exact hn _ hm, by unfold entK; rw [hb]; exact hd _ hm, by unfold entK; exact sumOf_lt _, ?_, ?_⟩
  · rw [laid_secs, List.length_take, List.length_drop, hb]
    have e : (entK B f k).len = B[k].data.length := by unfold entK; rw [hb]
    rw [e]
    omega
  · have e : (entK B f k).ext = joinL ((f.drop (offs B k)).take (needN (B.getD k default).data.length)) := rfl
    rw [e]
    exact joinL_ext _ N (fun i hi => hf i (List.mem_of_mem_drop (List.mem_of_mem_take hi)))
theorem laidTo_mem {B : List Blb} {f : List Nat} {e : Ent} : e ∈ laidTo B f B.length ↔ ∃ k, k < B.length ∧ entK B f k = e := by
  unfold laidTo
  rw [List.mem_map]
  constructor
  · rintro ⟨k, h1, h2⟩; exact ⟨k, List.mem_range.1 h1, h2⟩
  · rintro ⟨k, h1, h2⟩; exact ⟨k, List.mem_range.2 h1, h2⟩
theorem laidTo_length (B : List Blb) (f : List Nat) (k : Nat) : (laidTo B f k).length = k := by simp [laidTo]
theorem laidTo_names (B : List Blb) (f : List Nat) : (laidTo B f B.length).map (·.name) = B.map (·.name) := by
  unfold laidTo
  rw [List.map_map]
  apply List.ext_getElem (by simp)
  intro i h1 h2
  have hi : i < B.length := by simpa using h1
  simp [entK, List.getElem?_eq_getElem hi]
theorem laidTo_secs (B : List Blb) (f : List Nat) : ∀ k, k ≤ B.length → offs B k ≤ f.length → (laidTo B f k).flatMap (fun e => secs e.ext) = f.take (offs B k)
  | 0, _, _ => by simp [laidTo, offs]
  | k + 1, hk, ho => by
    have hlt : k < B.length := by omega
    have h1 := offs_succ B k hlt
    have hb : B.getD k default = B[k] := by rw [List.getD_eq_getElem?_getD, List.getElem?_eq_getElem hlt]; rfl
    rw [laidTo_succ, List.flatMap_append, laidTo_secs B f k (by omega) (by omega)]
    have : [entK B f k].flatMap (fun e => secs e.ext) = secs (entK B f k).ext := by simp
    rw [this, laid_secs, hb, h1, List.take_add]

theorem sub_flat {α β : Type} (F : α → List β) {a b : List α} (h : a.Sublist b) : (a.flatMap F).Sublist (b.flatMap F) := by
  induction h with
  | slnil => exact List.Sublist.refl _
  | cons x _ ih => rw [List.flatMap_cons]; exact ih.trans (List.sublist_append_right _ _)
  | cons_cons x _ ih => rw [List.flatMap_cons, List.flatMap_cons]; exact List.Sublist.append (List.Sublist.refl _) ih

/-! ### the directory behind -/
def leE (a b : Ent) : Bool := !decide (b.name < a.name)
def staysE (ns : List (List UInt8)) (e : Ent) : Bool := !decide (e.name ∈ ns)
def nextL (L : List Ent) (ns : List (List UInt8)) (laid : List Ent) : List Ent := (laid ++ L.filter (staysE ns)).mergeSort leE
theorem nextL_perm (L : List Ent) (ns : List (List UInt8)) (laid : List Ent) : (nextL L ns laid).Perm (laid ++ L.filter (staysE ns)) := List.mergeSort_perm _ _
theorem staysE_congr {ns ms : List (List UInt8)} (h : ns.Perm ms) : staysE ns = staysE ms := by
  funext e
  unfold staysE
  rw [decide_eq_decide.2 h.mem_iff]
theorem nextL_congr (L : List Ent) {ns ms : List (List UInt8)} (h : ns.Perm ms) (laid : List Ent) : nextL L ns laid = nextL L ms laid := by
  unfold nextL
  rw [staysE_congr h]
theorem calm_rises {L : List Ent} (h : L.Pairwise fun a b => ¬ b.name < a.name) (hn : (L.map (·.name)).Nodup) : Rises L := by
  unfold Rises
  have h2 : L.Pairwise fun a b => a.name ≠ b.name := by
    have := List.pairwise_map.1 hn
    exact this
  exact (h.and h2).imp (fun {a b} hab => by
    rcases not_lt_of hab.1 with e | e
    · exact absurd e.symm hab.2
    · exact e)
theorem nextL_calm (L : List Ent) (ns : List (List UInt8)) (laid : List Ent) : (nextL L ns laid).Pairwise fun a b => ¬ b.name < a.name := by
  have := List.pairwise_mergeSort (le := leE) (fun a b c h1 h2 => by
    unfold leE at h1 h2 ⊢
    simp only [Bool.not_eq_true', decide_eq_false_iff_not] at h1 h2 ⊢
    intro h3
    rcases not_lt_of h1 with e | e
    · rw [← e] at h3; exact h2 h3
    · exact h2 (lt_tr h3 e)) (fun a b => by
    unfold leE
    rcases Decidable.em (b.name < a.name) with h | h
    · have := lt_asy h
      simp [h, this]
    · simp [h]) (laid ++ L.filter (staysE ns))
  exact this.imp (fun {a b} h => by unfold leE at h; simpa using h)
theorem next_names {L : List Ent} {ns : List (List UInt8)} {laid : List Ent} (hL : Rises L) (hl : (laid.map (·.name)).Nodup) (hs : ∀ e ∈ laid, e.name ∈ ns) : ((laid ++ L.filter (staysE ns)).map (·.name)).Nodup := by
  rw [List.map_append, List.nodup_append]
  refine ⟨hl, ?_, ?_⟩
  · have h1 : (L.map (·.name)).Nodup := by
      refine List.pairwise_map.2 (hL.imp (fun {a b} h e => lt_ne h e))
    exact h1.sublist (List.Sublist.map _ List.filter_sublist)
  · rintro a ha b hb rfl
    obtain ⟨e, he, rfl⟩ := List.mem_map.1 ha
    obtain ⟨e2, he2, h2⟩ := List.mem_map.1 hb
    have h3 := (List.mem_filter.1 he2).2
    unfold staysE at h3
    rw [h2] at h3
    have := hs e he
    simp [this] at h3
theorem nextL_rises {L : List Ent} {ns : List (List UInt8)} {laid : List Ent} (hL : Rises L) (hl : (laid.map (·.name)).Nodup) (hs : ∀ e ∈ laid, e.name ∈ ns) : Rises (nextL L ns laid) :=
  calm_rises (nextL_calm L ns laid) (((nextL_perm L ns laid).map _).nodup_iff.2 (next_names hL hl hs))
theorem nextL_ok {N : Nat} {L : List Ent} {ns : List (List UInt8)} {B : List Blb} (hL : VOk N L) (hn : ∀ b ∈ B, nameB b.name = true) (hnd : (B.map (·.name)).Nodup) (hd : ∀ b ∈ B, b.data.length ≤ 32768) (hs : ∀ b ∈ B, b.name ∈ ns) (ho : offs B B.length ≤ (freeL N L).length) : VOk N (nextL L ns (laidTo B (freeL N L) B.length)) := by
  have hne : ∀ e ∈ L, e.name ≠ [] := fun e he => (hL.ent e he).ne
  have hf : ∀ i ∈ freeL N L, 32 ≤ i ∧ i < N := fun i hi => by
    have := (mem_freeL hne).1 hi
    exact ⟨this.2.1, this.1⟩
  have hnames := laidTo_names B (freeL N L)
  have hp := nextL_perm L ns (laidTo B (freeL N L) B.length)
  refine ⟨nextL_rises hL.rises (by rw [hnames]; exact hnd) (fun e he => ?_), fun e he => ?_, ?_⟩
  · have h1 : e.name ∈ B.map (·.name) := by rw [← hnames]; exact List.mem_map_of_mem he
    obtain ⟨b, hb, h2⟩ := List.mem_map.1 h1
    rw [← h2]; exact hs b hb
  · have h1 := hp.mem_iff.1 he
    rcases List.mem_append.1 h1 with h1 | h1
    · obtain ⟨k, hk, rfl⟩ := laidTo_mem.1 h1
      exact laid_ok hf hn hd ho hk
    · exact hL.ent e (List.mem_filter.1 h1).1
  · have h1 : ((nextL L ns (laidTo B (freeL N L) B.length)).flatMap fun e => secs e.ext).Perm ((laidTo B (freeL N L) B.length ++ L.filter (staysE ns)).flatMap fun e => secs e.ext) := hp.flatMap_right _
    rw [h1.nodup_iff, List.flatMap_append, laidTo_secs B _ _ (Nat.le_refl _) ho, List.nodup_append]
    refine ⟨(freeL_nodup N L).sublist (List.take_sublist _ _), ?_, ?_⟩
    · refine hL.apart.sublist ?_
      exact sub_flat _ List.filter_sublist
    · rintro a ha b hb rfl
      obtain ⟨e, he, h2⟩ := List.mem_flatMap.1 hb
      exact ((mem_freeL hne).1 (List.mem_of_mem_take ha)).2.2 e (List.mem_filter.1 he).1 h2

/-! ### how long it is as bytes -/
theorem dirB_ge (L : List Ent) : L.length ≤ (dirB L).length := by
  unfold dirB
  rw [List.length_append, List.length_flatMap]
  have : ∀ M : List Ent, M.length ≤ (M.map fun e => (entB e).length).sum := by
    intro M
    induction M with
    | nil => exact Nat.le_refl _
    | cons e r ih =>
      rw [List.map_cons, List.sum_cons, List.length_cons]
      have : 1 ≤ (entB e).length := by
        unfold entB rowsB
        have := dig_pos e.name.length
        simp only [List.flatMap_cons, List.flatMap_nil, List.append_nil, List.length_append]
        omega
      omega
  have := this L
  omega
end Go.Proofs.YtdpmfcifgimleaaGreatDoor
