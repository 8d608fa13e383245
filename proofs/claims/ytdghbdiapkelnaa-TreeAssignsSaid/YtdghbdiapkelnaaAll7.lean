/-
  Texts of this claim, joined (part 7): contracts and lemmas that the last text goes by. No statement of the seat is proved here.
-/
import Derived.Test.YtdghbdiapkelnaaAll6
import Derived.Test.YtdghbdiapkelnaaAll1
import Derived.Test.YtdghbdiapkelnaaAll0
import Derived.Laws.IdiomStrings
import Derived.Test.YtdghbdiapkelnaaRows
import Derived.Lib.BufferRead
set_option linter.unusedVariables false
set_option linter.unusedSimpArgs false
/-
  The contract of octet's (*Writer).num. No statement of the seat is proved here.
-/
namespace Go.Proofs.Ytdghbdiapkelnaa
open Go Go.RowKit

theorem low_digit (n : Nat) (_ : ¬ n < 128) : Value.int .u8 (bits .or .u8 (bits .and .i64 (n : Int) 127 % 256) 128) = bv (n % 128 + 128).toUInt8 := by
  have h1 : bits .and .i64 (n : Int) 127 % 256 = ((n % 128 : Nat) : Int) := by rw [i64_and127]; omega
  have h2 : bits .or .u8 ((n % 128 : Nat) : Int) ((128 : Nat) : Int) = ((n % 128 ||| 128 : Nat) : Int) := u8_or_nat _ _ (by omega) (by omega)
  have h3 : n % 128 ||| 128 = n % 128 + 128 := by rw [Nat.or_comm, nat_join 7 128 (n % 128) rfl (by omega), Nat.add_comm]
  rw [h1]
  rw [show (128 : Int) = ((128 : Nat) : Int) from rfl, h2, h3]
  unfold bv
  rw [show (n % 128 + 128).toUInt8.toNat = n % 128 + 128 by simp [Nat.toUInt8, UInt8.toNat_ofNat']; omega]
theorem last_digit (n : Nat) (h : n < 128) : Value.int .u8 (n : Int) = bv n.toUInt8 := by
  unfold bv
  rw [show n.toUInt8.toNat = n by simp [Nat.toUInt8, UInt8.toNat_ofNat']; omega]

/-- the relation of num's loop -/
def NumRel (fp : Nat → Prop) (g : Nat) (N : Nat) (xs : List Value) (w : World) (n : Nat) (w1 : World) : Prop :=
  n ≤ 4611686018427387904 ∧ ∃ ds : List UInt8, ds ++ dig n = dig N ∧ Wr w1 (More fp w w1) g (xs ++ ds.map bv) ∧ Only fp w w1

theorem NumRel.put {fp : Nat → Prop} {g N : Nat} {xs : List Value} {w w1 w2 : World} {n : Nat} {ds : List UInt8} {d : UInt8} {o : Obj} (hn : n ≤ 4611686018427387904) (he : ds ++ dig n = dig N) (ho : Only fp w w1) (hd : dig n = d :: dig (n / 128))
    (h1 : Wr w2 (More (More fp w w1) (w1.alloc o) w2) g ((xs ++ ds.map bv) ++ [bv d])) (h2 : Only (More fp w w1) (w1.alloc o) w2) : NumRel fp g N xs w (n / 128) w2 := by
  refine ⟨by omega, ds ++ [d], by rw [List.append_assoc, List.singleton_append, ← hd, he], ?_, ?_⟩
  · have e : xs ++ (ds ++ [d]).map bv = (xs ++ ds.map bv) ++ [bv d] := by simp
    rw [e]
    refine h1.mono (fun k hk _ => ?_)
    rcases hk with (hk | hk) | hk
    · exact .inl hk
    · exact .inr ⟨hk.1, by have := h2.size; simp at this; omega⟩
    · exact .inr ⟨by have := ho.size; have := hk.1; simp at this; omega, hk.2⟩
  · exact (ho.alloc o).trans h2 (fun k hk hm => by
      rcases hm with hm | hm
      · exact hm
      · omega)

theorem NumRel.end_ {fp : Nat → Prop} {g N : Nat} {xs : List Value} {w w1 w2 : World} {n : Nat} {ds : List UInt8} {o : Obj} (he : ds ++ dig n = dig N) (ho : Only fp w w1) (hn : n < 128)
    (h1 : Wr w2 (More (More fp w w1) (w1.alloc o) w2) g ((xs ++ ds.map bv) ++ [bv n.toUInt8])) (h2 : Only (More fp w w1) (w1.alloc o) w2) :
    Wr w2 (More fp w w2) g (xs ++ (dig N).map bv) ∧ Only fp w w2 := by
  have e : xs ++ (dig N).map bv = (xs ++ ds.map bv) ++ [bv n.toUInt8] := by rw [← he, dig_lt hn]; simp
  refine ⟨?_, ?_⟩
  · rw [e]
    refine h1.mono (fun k hk _ => ?_)
    rcases hk with (hk | hk) | hk
    · exact .inl hk
    · exact .inr ⟨hk.1, by have := h2.size; simp at this; omega⟩
    · exact .inr ⟨by have := ho.size; have := hk.1; simp at this; omega, hk.2⟩
  · exact (ho.alloc o).trans h2 (fun k hk hm => by
      rcases hm with hm | hm
      · exact hm
      · omega)

theorem NumRel.len {n : Nat} {v : Int} {ds : List UInt8} (he : ds ++ dig n = dig (clamp v)) : (ds.map bv).length ≤ 8 := by
  have h1 := dig_clamp_len v
  have h2 := dig_pos n
  rw [← he, List.length_append] at h1
  rw [List.length_map]
  omega

set_option maxHeartbeats 1000000 in
theorem num_any (fp : Nat → Prop) (g : Nat) (v : Int) (xs : List Value) (w : World) (hw : Wr w fp g xs) (hv1 : -9223372036854775808 ≤ v) (hv2 : v ≤ 9223372036854775807) (hb : xs.length ≤ 549755813888) :
    Calls Try.prog 75 #[.pointer (some ⟨g, 0, none⟩), .int .i64 v] w fun e w' => e = .returned (.tuple #[]) ∧ Wr w' (More fp w w') g (xs ++ (dig (clamp v)).map bv) ∧ Only fp w w' := by
  have hcase : v < 0 ∨ (0 ≤ v ∧ v ≤ 4611686018427387904) ∨ 4611686018427387904 < v := by omega
  rcases hcase with ha | ⟨ha, hc⟩ | ha
  all_goals
    go_enter Try.func75, Try.ntmps75
    go_wp2
    go_loopw [4] (fun r w1 => ∃ n : Nat, r = .int .i64 (n : Int) ∧ NumRel fp g (clamp v) xs w n w1) (fun r _ => (intOf r).toNat)
    case atStart => exact ⟨clamp v, congrArg (Value.int .i64) (by unfold clamp; omega), clamp_le v, [], rfl, by simpa using hw.mono (fun k hk _ => .inl hk), Only.refl _ _⟩
    case round =>
      obtain ⟨n, rfl, hn, ds, he, hw1, ho⟩ := hrel
      have hl := NumRel.len he
      have He := Lib.hid he
      clear he
      by_cases hlt : n < 128
      · go_wp2_with fail
        rw [last_digit n hlt]
        refine (raw_any _ g _ 1 1 (xs ++ ds.map bv) [bv n.toUInt8] _ (hw1.alloc _) rfl (Rd.lit _ _ _) (by simp [bv_one]) (by simp at hl ⊢; omega)).mono ?_
        rintro e w2 ⟨rfl, h1, h2⟩
        go_wp2
        go_end0
        exact ⟨rfl, NumRel.end_ He.out ho hlt h1 h2⟩
      · go_wp2_with fail
        rw [low_digit n hlt]
        refine (raw_any _ g _ 1 1 (xs ++ ds.map bv) [bv (n % 128 + 128).toUInt8] _ (hw1.alloc _) rfl (Rd.lit _ _ _) (by simp [bv_one]) (by simp at hl ⊢; omega)).mono ?_
        rintro e w2 ⟨rfl, h1, h2⟩
        go_wp2
        go_roundw
        case rel => exact ⟨n / 128, by go_num, NumRel.put hn He.out ho (dig_ge hlt) h1 h2⟩
        case measure => simp [intOf]; omega
end Go.Proofs.Ytdghbdiapkelnaa

/-
  The contract of octet's Join. No statement of the seat is proved here.
-/
namespace Go.Proofs.Ytdghbdiapkelnaa
open Go Go.RowKit

/-- bytes in a list of the call's own, which was made between two worlds -/
def New (w w' : World) (A : Option Addr) (c : Nat) (bs : List UInt8) : Prop := Own w' (fun k => w.heap.size ≤ k ∧ k < w'.heap.size) 5 A c (bs.map bv)

theorem make_bytes (W : World) (t : Nat) (h : t ≤ 1099511627776) : (Instr.makeSlice 48 (.int .i64 0) (.int .i64 (t : Int))).run Try.prog W =
    .ok (.slice (some ⟨W.heap.size, 0, none⟩) 0 t) (W.alloc (.cells (madeCells #[.int .u8 0] (t * 1)) 5)) := by
  obtain ⟨i, hi, hz, hsz, hby⟩ := info_parts info_u8
  have hr := run_make (P := Try.prog) W 48 5 i _ Try.underlying48 hi hz .i64 .i64 ((0 : Nat) : Int) t (by omega) (by omega) (by rw [hby]; omega) (by omega)
  simp only [Int.toNat_natCast, hsz] at hr
  exact hr

theorem flat_take_succ (xss : List (List UInt8)) (k : Nat) (h : k < xss.length) : (xss.take (k + 1)).flatten = (xss.take k).flatten ++ xss[k] := by
  rw [List.take_succ_eq_append_getElem h, List.flatten_append]; simp
theorem flat_take_le (xss : List (List UInt8)) (k : Nat) : (xss.take k).flatten.length ≤ xss.flatten.length := by
  have h : xss.flatten = (xss.take k).flatten ++ (xss.drop k).flatten := by rw [← List.flatten_append, List.take_append_drop]
  rw [h, List.length_append]; omega
/-- the bytes of the first k rows; how many they are: under a name, so that the walk leaves them alone -/
def upTo (xss : List (List UInt8)) (k : Nat) : List UInt8 := (xss.take k).flatten
def lenTo (xss : List (List UInt8)) (k : Nat) : Nat := (upTo xss k).length
theorem lenTo_zero (xss : List (List UInt8)) : lenTo xss 0 = 0 := rfl
theorem upTo_succ (xss : List (List UInt8)) (k : Nat) (h : k < xss.length) : upTo xss (k + 1) = upTo xss k ++ xss[k] := flat_take_succ xss k h
theorem lenTo_succ (xss : List (List UInt8)) (k : Nat) (h : k < xss.length) : lenTo xss (k + 1) = lenTo xss k + xss[k].length := by unfold lenTo; rw [upTo_succ xss k h, List.length_append]
theorem lenTo_le (xss : List (List UInt8)) (k : Nat) : lenTo xss k ≤ xss.flatten.length := flat_take_le xss k
theorem upTo_all (xss : List (List UInt8)) : upTo xss xss.length = xss.flatten := by unfold upTo; rw [List.take_length]
theorem lenTo_all (xss : List (List UInt8)) : lenTo xss xss.length = xss.flatten.length := by unfold lenTo; rw [upTo_all]

theorem New.start (w : World) (n : Nat) (h : n ≤ 1099511627776) : New w (w.alloc (.cells (madeCells #[.int .u8 0] n) 5)) (some ⟨w.heap.size, 0, none⟩) n [] := by
  refine ⟨?_, fun ad h => by injection h with h; subst h; simp⟩
  exact World.ownsRow_made w _ n (Nat.zero_le _) (by unfold maxLen; omega) (by simp [madeCells])
theorem New.grow {w w1 w2 : World} {A : Option Addr} {c : Nat} {bs cs : List UInt8} (hb : Below w.heap.size w w1) (h : Own w2 (More (fun k => w.heap.size ≤ k ∧ k < w1.heap.size) w1 w2) 5 A c (bs.map bv ++ cs.map bv)) (ho : Only (fun k => w.heap.size ≤ k ∧ k < w1.heap.size) w1 w2) :
    New w w2 A c (bs ++ cs) ∧ Below w.heap.size w w2 := by
  have h1 := hb.size
  have h2 := ho.size
  refine ⟨?_, hb.trans (ho.below (fun _ h => h.1) hb.size)⟩
  unfold New
  rw [List.map_append]
  refine h.mono (fun _ hk _ => ?_)
  rcases hk with hk | hk <;> omega
/-- .. a literal laid in between -/
theorem New.grow1 {w w1 w2 : World} {A : Option Addr} {c : Nat} {bs cs : List UInt8} {o : Obj} (hb : Below w.heap.size w w1) (h : Own w2 (More (fun k => w.heap.size ≤ k ∧ k < w1.heap.size) (w1.alloc o) w2) 5 A c (bs.map bv ++ cs.map bv)) (ho : Only (fun k => w.heap.size ≤ k ∧ k < w1.heap.size) (w1.alloc o) w2) :
    New w w2 A c (bs ++ cs) ∧ Below w.heap.size w w2 := by
  have h1 := hb.size
  have h2 := ho.size
  rw [World.size_alloc] at h2
  refine ⟨?_, (hb.alloc h1 o).trans (ho.below (fun _ h => h.1) (by rw [World.size_alloc]; omega))⟩
  unfold New
  rw [List.map_append]
  refine h.mono (fun _ hk _ => ?_)
  rcases hk with hk | hk
  · omega
  · rw [World.size_alloc] at hk; omega
theorem New.ext {w w1 w2 : World} {A : Option Addr} {c : Nat} {bs : List UInt8} (h : New w w1 A c bs) (hb : Below w1.heap.size w1 w2) : New w w2 A c bs :=
  (Own.ext h hb).mono (fun _ hk _ => ⟨hk.1, Nat.lt_of_lt_of_le hk.2 hb.size⟩)

theorem New.rd {w w1 : World} {A : Option Addr} {c : Nat} {bs : List UInt8} (h : New w w1 A c bs) : Rd w1 A (bs.map bv) := Own.rd h
theorem New.back {w w0 w1 : World} {A : Option Addr} {c : Nat} {bs : List UInt8} (h : New w w1 A c bs) (hs : w0.heap.size ≤ w.heap.size) : New w0 w1 A c bs :=
  Own.mono h (fun _ hk _ => ⟨Nat.le_trans hs hk.1, hk.2⟩)

set_option maxHeartbeats 1000000 in
theorem join_any (A : Option Addr) (n c : Nat) (xss : List (List UInt8)) (bs : List UInt8) (w : World) (hn : n = xss.length) (hbs : xss.flatten = bs) (hr : RowsF (fun _ => False) w A xss) (hb : bs.length ≤ 1099511627776) (hb2 : xss.length ≤ 1099511627776) :
    Calls Try.prog 77 #[.slice A n c] w fun e w' => ∃ A' c', e = .returned (.slice A' bs.length c') ∧ New w w' A' c' bs ∧ Below w.heap.size w w' := by
  subst hn
  have hmk := fun W => make_bytes W bs.length hb
  have hall := lenTo_all xss
  have hle := lenTo_le xss
  rw [hbs] at hall hle
  have Hbs := Lib.hid hbs
  have Hall := Lib.hid hall
  have Hle := Lib.hid hle
  clear hall hbs hle
  go_enter Try.func77, Try.ntmps77
  go_wp2
  go_loop [3, 11] (fun s i => ∃ k : Nat, k ≤ xss.length ∧ i = .int .i64 (k : Int) ∧ s = .int .i64 (lenTo xss k : Int)) (fun _ i => xss.length - (intOf i).toNat)
  case atStart => exact ⟨0, Nat.zero_le _, rfl, by rw [lenTo_zero]; rfl⟩
  case round =>
    obtain ⟨k, hk, rfl, rfl⟩ := hrel
    have hle := Hle.out k
    by_cases hlt : k < xss.length
    · obtain ⟨ad, B, cb, rfl, hcell, hl, hrd⟩ := hr.at_ hlt
      have hsucc := Lib.hid (lenTo_succ xss k hlt)
      have hle' := Hle.out (k + 1)
      rw [lenTo_succ xss k hlt] at hle'
      go_wp2
      go_round
      case rel => exact ⟨k + 1, by omega, by go_num, by rw [hsucc.out]; go_num⟩
      case measure => simp [intOf]; omega
    · obtain rfl : k = xss.length := by omega
      rw [Hall.out]
      clear hle
      go_wp2
      go_loopw [6, 24] (fun s i w1 => ∃ (k : Nat) (A' : Option Addr) (c' : Nat), k ≤ xss.length ∧ i = .int .i64 (k : Int) ∧ s = .slice A' (lenTo xss k) c' ∧ New w w1 A' c' (upTo xss k) ∧ Below w.heap.size w w1) (fun _ i _ => xss.length - (intOf i).toNat)
      case atStart => exact ⟨0, _, _, Nat.zero_le _, rfl, rfl, by first | exact New.start w bs.length hb | (rw [Nat.mul_one]; exact New.start w bs.length hb), (Below.refl _ _).alloc (Nat.le_refl _) _⟩
      case round =>
        obtain ⟨k, A', c', hk, rfl, rfl, hnew, hbel⟩ := hrel
        by_cases hlt : k < xss.length
        · obtain ⟨ad, B, cb, rfl, hcell, hl, hrd⟩ := (hr.ext hbel).at_ hlt
          have hsucc := Lib.hid (lenTo_succ xss k hlt)
          have usucc := Lib.hid (upTo_succ xss k hlt)
          have hle' := Hle.out (k + 1)
          rw [lenTo_succ xss k hlt] at hle'
          have hk1 : lenTo xss k + xss[k].length ≤ maxLen := by unfold maxLen; omega
          have hk2 : (lenTo xss k + xss[k].length) * 1 ≤ 140737488355328 := by omega
          have hl0 := Lib.hid (show lenTo xss k = ((upTo xss k).map bv).length by rw [List.length_map]; rfl)
          have hl1 := Lib.hid (show xss[k].length = (xss[k].map bv).length by rw [List.length_map])
          go_wp2_with (at_builtin
                       refine wpList_app _ rfl (.tmp 28) (.tmp 29) _ rfl _ _ 1 Try.underlying48 info_u8 rfl A' (lenTo xss k) c' _ rfl ?_ hnew B _ cb (xss[k].map bv) rfl ?_ hrd.1 (bvs_one _) hk1 hk2 ?_
                       · rw [List.length_map]; rfl
                       · rw [List.length_map]
                       intro A2 c2 w2 hown2 honly2)
          go_roundw
          case rel =>
            obtain ⟨g1, g2⟩ := New.grow hbel hown2 honly2
            exact ⟨k + 1, A2, c2, by omega, by go_num, by rw [hsucc.out], by rw [usucc.out]; exact g1, g2⟩
          case measure => simp [intOf]; omega
        · obtain rfl : k = xss.length := by omega
          rw [Hall.out]
          go_wp2
          go_ret
          refine ⟨A', c', rfl, ?_, hbel⟩
          rw [upTo_all, Hbs.out] at hnew
          exact hnew
end Go.Proofs.Ytdghbdiapkelnaa

/-
  The contracts of octet's (*Writer).Nums, Bytes, Out. No statement of the seat is proved here.
-/
namespace Go.Proofs.Ytdghbdiapkelnaa
open Go Go.RowKit

/-- numbers as bytes -/
def numsB (vs : List Int) : List UInt8 := vs.flatMap fun v => dig (clamp v)
def numsTo (vs : List Int) (k : Nat) : List UInt8 := numsB (vs.take k)
theorem numsTo_succ (vs : List Int) (k : Nat) (h : k < vs.length) : numsTo vs (k + 1) = numsTo vs k ++ dig (clamp vs[k]) := by
  unfold numsTo numsB
  rw [List.take_succ_eq_append_getElem h, List.flatMap_append]; simp
theorem numsTo_all (vs : List Int) : numsTo vs vs.length = numsB vs := by unfold numsTo; rw [List.take_length]
theorem numsTo_len (vs : List Int) : ∀ k, (numsTo vs k).length ≤ 9 * k
  | 0 => by simp [numsTo, numsB]
  | k + 1 => by
    have ih := numsTo_len vs k
    by_cases h : k < vs.length
    · rw [numsTo_succ vs k h, List.length_append]
      have := dig_clamp_len vs[k]
      omega
    · have e : numsTo vs (k + 1) = numsTo vs k := by unfold numsTo; rw [List.take_of_length_le (by omega), List.take_of_length_le (by omega)]
      rw [e]; omega

set_option maxHeartbeats 1000000 in
theorem nums_any (fp : Nat → Prop) (g : Nat) (A : Option Addr) (n c : Nat) (vs : List Int) (xs : List Value) (w : World) (hw : Wr w fp g xs) (hn : n = vs.length) (hr : RdF fp w A (vs.map iv)) (hi : ∀ v ∈ vs, isInt v)
    (hb : xs.length + 9 * vs.length ≤ 549755813888) :
    Calls Try.prog 46 #[.pointer (some ⟨g, 0, none⟩), .slice A n c] w fun e w' => e = .returned (.tuple #[]) ∧ Wr w' (More fp w w') g (xs ++ (numsB vs).map bv) ∧ Only fp w w' := by
  subst hn
  go_enter Try.func46, Try.ntmps46
  go_wp2
  go_loopw [8] (fun i w1 => ∃ k : Nat, k ≤ vs.length ∧ i = .int .i64 (k : Int) ∧ Wr w1 (More fp w w1) g (xs ++ (numsTo vs k).map bv) ∧ Only fp w w1) (fun i _ => vs.length - (intOf i).toNat)
  case atStart => exact ⟨0, Nat.zero_le _, rfl, by simpa [numsTo, numsB] using hw.mono (fun k hk _ => .inl hk), Only.refl _ _⟩
  case round =>
    obtain ⟨k, hk, rfl, hw1, ho⟩ := hrel
    by_cases hlt : k < vs.length
    · obtain ⟨ad, rfl, hc⟩ := (hr.only ho).1.at_ (k := k) (by simpa using hlt)
      simp only [List.getElem_map, iv] at hc
      have hik := hi vs[k] (List.getElem_mem hlt)
      have hlen := numsTo_len vs k
      have hs := Lib.hid (numsTo_succ vs k hlt)
      go_wp2_with fail
      refine (num_any _ g _ _ _ hw1 hik.1 hik.2 (by simp at hlen ⊢; omega)).mono ?_
      rintro e w2 ⟨rfl, h1, h2⟩
      go_wp2
      go_roundw
      case rel => exact ⟨k + 1, by omega, by go_num, by rw [hs.out, List.map_append, ← List.append_assoc]; exact Wr.join ho.size (Nat.le_refl _) h2.size h1, ho.join h2⟩
      case measure => simp [intOf]; omega
    · obtain rfl : k = vs.length := by omega
      rw [numsTo_all] at hw1
      go_wp2
      go_end0
      exact ⟨rfl, hw1, ho⟩

/-- rows as bytes, each with its length -/
def rowsB (xss : List (List UInt8)) : List UInt8 := xss.flatMap fun xs => dig xs.length ++ xs
def rowsTo (xss : List (List UInt8)) (k : Nat) : List UInt8 := rowsB (xss.take k)
theorem rowsTo_succ (xss : List (List UInt8)) (k : Nat) (h : k < xss.length) : rowsTo xss (k + 1) = rowsTo xss k ++ dig xss[k].length ++ xss[k] := by
  unfold rowsTo rowsB
  rw [List.take_succ_eq_append_getElem h, List.flatMap_append]; simp
theorem rowsTo_all (xss : List (List UInt8)) : rowsTo xss xss.length = rowsB xss := by unfold rowsTo; rw [List.take_length]
theorem rowsTo_le (xss : List (List UInt8)) (k : Nat) : (rowsTo xss k).length ≤ (rowsB xss).length := by
  have h : rowsB xss = rowsTo xss k ++ rowsB (xss.drop k) := by unfold rowsTo rowsB; rw [← List.flatMap_append, List.take_append_drop]
  rw [h, List.length_append]; omega

set_option maxHeartbeats 1000000 in
theorem bytes_any (fp : Nat → Prop) (g : Nat) (A : Option Addr) (n c : Nat) (xss : List (List UInt8)) (xs : List Value) (w : World) (hw : Wr w fp g xs) (hn : n = xss.length) (hr : RowsF fp w A xss)
    (hb : xs.length + (rowsB xss).length ≤ 549755813888) (hb2 : xss.length ≤ 549755813888) :
    Calls Try.prog 48 #[.pointer (some ⟨g, 0, none⟩), .slice A n c] w fun e w' => e = .returned (.tuple #[]) ∧ Wr w' (More fp w w') g (xs ++ (rowsB xss).map bv) ∧ Only fp w w' := by
  subst hn
  go_enter Try.func48, Try.ntmps48
  go_wp2
  go_loopw [8] (fun i w1 => ∃ k : Nat, k ≤ xss.length ∧ i = .int .i64 (k : Int) ∧ Wr w1 (More fp w w1) g (xs ++ (rowsTo xss k).map bv) ∧ Only fp w w1) (fun i _ => xss.length - (intOf i).toNat)
  case atStart => exact ⟨0, Nat.zero_le _, rfl, by simpa [rowsTo, rowsB] using hw.mono (fun k hk _ => .inl hk), Only.refl _ _⟩
  case round =>
    obtain ⟨k, hk, rfl, hw1, ho⟩ := hrel
    by_cases hlt : k < xss.length
    · obtain ⟨ad, B, cb, rfl, hcell, hl, hrd⟩ := (hr.more ho).at_ hlt
      have hlen := rowsTo_le xss (k + 1)
      rw [rowsTo_succ xss k hlt] at hlen
      simp only [List.length_append] at hlen
      have hs := Lib.hid (rowsTo_succ xss k hlt)
      have hcl := Lib.hid (clamp_of_nat (n := xss[k].length) (by omega))
      go_wp2_with fail
      refine (num_any _ g _ _ _ hw1 (by omega) (by omega) (by simp; omega)).mono ?_
      rintro e w2 ⟨rfl, h1, h2⟩
      rw [hcl.out] at h1
      have h1' := Wr.join ho.size (Nat.le_refl _) h2.size h1
      have ho2 := ho.join h2
      go_wp2_with fail
      refine (raw_any _ g B _ cb _ (xss[k].map bv) _ h1' (by simp) (hrd.only h2).1 (bvs_one _) (by simp; omega)).mono ?_
      rintro e w3 ⟨rfl, h3, h4⟩
      go_wp2
      go_roundw
      case rel => exact ⟨k + 1, by omega, by go_num, by rw [hs.out, List.map_append, List.map_append, ← List.append_assoc, ← List.append_assoc]; exact Wr.join ho2.size (Nat.le_refl _) h4.size h3, ho2.join h4⟩
      case measure => simp [intOf]; omega
    · obtain rfl : k = xss.length := by omega
      rw [rowsTo_all] at hw1
      go_wp2
      go_end0
      exact ⟨rfl, hw1, ho⟩

set_option maxHeartbeats 1000000 in
theorem out_any (fp : Nat → Prop) (g : Nat) (bs : List UInt8) (w : World) (hw : Wr w fp g (bs.map bv)) (hb : bs.length ≤ 1099511627776) :
    Calls Try.prog 49 #[.pointer (some ⟨g, 0, none⟩)] w fun e w' => ∃ A' c', e = .returned (.slice A' bs.length c') ∧ New w w' A' c' bs ∧ Below w.heap.size w w' := by
  obtain ⟨hg, A, c, hblk, hown⟩ := hw
  have h0 := hblk.cell 0
  simp only [List.getElem?_toArray, List.getElem?_cons_zero, List.length_map] at h0
  have hcap := hown.cap
  rw [List.length_map] at hcap
  go_enter Try.func49, Try.ntmps49
  go_wp2_with fail
  refine (join_any _ 1 1 [bs] bs _ rfl (by simp) (RowsF.one (RdF.of hown.rd) hcap _ rfl id) hb (by simp)).mono ?_
  rintro e w' ⟨A', c', rfl, hnew, hbel⟩
  go_wp2
  go_ret
  exact ⟨A', c', rfl, hnew.back (by simp), ((Below.refl _ _).alloc (Nat.le_refl _) _).trans (hbel.mono (by simp))⟩
end Go.Proofs.Ytdghbdiapkelnaa

/-
  A text as a row of bytes in new memory; what was laid, and its sum (package exact). No statement of the seat is proved here.
-/
namespace Go.Proofs.Ytdghbdiapkelnaa
open Go Go.RowKit
set_option maxRecDepth 100000

theorem str_row (w : World) (bs : List UInt8) : ∃ c w1, (convert 9 48 (.string ⟨bs.toArray⟩)).run Try.prog w = .ok (.slice (some ⟨w.heap.size, 0, none⟩) bs.length c) w1 ∧ bs.length ≤ c ∧ Rd w1 (some ⟨w.heap.size, 0, none⟩) (bs.map bv) ∧ Below w.heap.size w w1 ∧ w1.heap.size = w.heap.size + 1 := by
  have h := run_bytes_of_string (P := Try.prog) w 9 48 5 ⟨bs.toArray⟩ Try.underlying9 Try.underlying48 Try.underlying5
  refine ⟨_, _, h, ?_, ?_, ?_, ?_⟩
  · exact grownCap_ge w bs.length 0 5
  · intro j u hu
    refine ⟨_, rfl, ?_⟩
    refine World.news_of_block (heap_alloc_new w.drew _) j u ?_
    unfold bytesRow
    have hj : j < bs.length := by have := (List.getElem?_eq_some_iff.1 hu).1; simpa using this
    rw [Array.getElem?_toList, Array.getElem?_append_left (by simpa using hj), Array.getElem?_map]
    simp only [List.getElem?_map] at hu
    simpa [bv] using hu
  · exact ((Below.refl _ _).drew).alloc (Nat.le_refl _) _
  · simp
end Go.Proofs.Ytdghbdiapkelnaa

/-
  The contracts of winnowerref1's Num, Nums, Bytes. No statement of the seat is proved here.
-/
namespace Go.Proofs.Ytdghbdiapkelnaa
open Go Go.RowKit

theorem low_digit64 (n : Nat) (hn : n < 18446744073709551616) : Value.int .u8 (bits .or .u8 (bits .and .u64 (n : Int) 127 % 256) 128) = bv (n % 128 + 128).toUInt8 := by
  have h0 := u64_and_nat n 127 hn (by omega)
  rw [nat_mask7] at h0
  have h1 : bits .and .u64 (n : Int) 127 % 256 = ((n % 128 : Nat) : Int) := by
    rw [show (127 : Int) = ((127 : Nat) : Int) from rfl, h0]; omega
  have h2 : bits .or .u8 ((n % 128 : Nat) : Int) ((128 : Nat) : Int) = ((n % 128 ||| 128 : Nat) : Int) := u8_or_nat _ _ (by omega) (by omega)
  have h3 : n % 128 ||| 128 = n % 128 + 128 := by rw [Nat.or_comm, nat_join 7 128 (n % 128) rfl (by omega), Nat.add_comm]
  rw [h1]
  rw [show (128 : Int) = ((128 : Nat) : Int) from rfl, h2, h3]
  unfold bv
  rw [show (n % 128 + 128).toUInt8.toNat = n % 128 + 128 by simp [Nat.toUInt8, UInt8.toNat_ofNat']; omega]

set_option maxRecDepth 100000 in
set_option maxHeartbeats 1000000 in
theorem refnum_any (v : Int) (w : World) (hv : isInt v) :
    Calls Try.prog 72 #[.int .i64 v] w fun e w' => ∃ A' c', e = .returned (.slice A' (dig (clamp v)).length c') ∧ New w w' A' c' (dig (clamp v)) ∧ Below w.heap.size w w' := by
  obtain ⟨hv1, hv2⟩ := hv
  have hcase : v ≤ 0 ∨ (1 ≤ v ∧ v ≤ 4611686018427387904) ∨ 4611686018427387904 < v := by omega
  rcases hcase with ha | ⟨ha, hc⟩ | ha
  all_goals
    obtain ⟨b0, hd0⟩ : ∃ b0, decide ((0 : Int) < v) = b0 := ⟨_, rfl⟩
    have hb0 : b0 = true ∨ b0 = false := by cases b0 <;> simp
    first
      | (have e0 : b0 = true := by rw [← hd0]; exact decide_eq_true (by omega)
         rw [e0] at hd0)
      | (have e0 : b0 = false := by rw [← hd0]; exact decide_eq_false (by omega)
         rw [e0] at hd0)
    clear hb0 e0
    go_enter Try.func72, Try.ntmps72
    go_wp2
    go_loopw [3, 4] (fun r s w1 => ∃ (n : Nat) (ds : List UInt8) (A' : Option Addr) (c' : Nat), r = .int .u64 (n : Int) ∧ n ≤ 4611686018427387904 ∧ ds ++ dig n = dig (clamp v) ∧ s = .slice A' ds.length c' ∧ New w w1 A' c' ds ∧ Below w.heap.size w w1) (fun r _ _ => (intOf r).toNat)
    case atStart => exact ⟨clamp v, [], none, 0, congrArg (Value.int .u64) (by unfold clamp; omega), clamp_le v, rfl, rfl, Own.none_ _ _ _, Below.refl _ _⟩
    case round =>
      obtain ⟨n, ds, A', c', rfl, hn, he, rfl, hnew, hb⟩ := hrel
      have hl : ds.length ≤ 8 := by
        have h1 := dig_clamp_len v
        have h2 := dig_pos n
        rw [← he, List.length_append] at h1
        omega
      have hk1 : ds.length + 1 ≤ maxLen := by unfold maxLen; omega
      have hk2 : (ds.length + 1) * 1 ≤ 140737488355328 := by omega
      have He := Lib.hid he
      clear he
      by_cases hlt : n < 128
      · have hx := Lib.hid (last_digit n hlt)
        go_wp2_with (at_builtin
                     refine wpList_app _ rfl (.tmp 22) (.tmp 25) _ rfl _ _ 1 Try.underlying48 info_u8 rfl A' ds.length c' (ds.map bv) rfl (by rw [List.length_map]) (hnew.alloc _) (some ⟨wr.heap.size, 0, none⟩) 1 1 ([n.toUInt8].map bv) rfl rfl (by rw [last_digit n hlt]; exact Rd.lit wr #[bv n.toUInt8] _) (bvs_one _) hk1 hk2 ?_
                     intro A2 c2 w2 hown2 honly2)
        go_ret
        obtain ⟨g1, g2⟩ := New.grow1 hb hown2 honly2
        have e1 : ds ++ [n.toUInt8] = dig (clamp v) := by rw [← He.out, dig_lt hlt]
        rw [e1] at g1
        refine ⟨A2, c2, ?_, g1, g2⟩
        rw [← e1, List.length_append]; rfl
      · go_wp2_with (at_builtin
                     refine wpList_app _ rfl (.tmp 13) (.tmp 18) _ rfl _ _ 1 Try.underlying48 info_u8 rfl A' ds.length c' (ds.map bv) rfl (by rw [List.length_map]) (hnew.alloc _) (some ⟨wr.heap.size, 0, none⟩) 1 1 ([(n % 128 + 128).toUInt8].map bv) rfl rfl (by rw [low_digit64 n (by omega)]; exact Rd.lit wr #[bv (n % 128 + 128).toUInt8] _) (bvs_one _) hk1 hk2 ?_
                     intro A2 c2 w2 hown2 honly2)
        go_roundw
        case rel =>
          obtain ⟨g1, g2⟩ := New.grow1 hb hown2 honly2
          have g3 : ds ++ [(n % 128 + 128).toUInt8] ++ dig (n / 128) = dig (clamp v) := by rw [← He.out, dig_ge hlt]; simp
          exact ⟨n / 128, ds ++ [(n % 128 + 128).toUInt8], A2, c2, by go_num, by omega, g3, by rw [List.length_append]; rfl, g1, g2⟩
        case measure => simp [intOf]; omega

set_option maxRecDepth 100000 in
set_option maxHeartbeats 1000000 in
theorem refnums_any (A : Option Addr) (n c : Nat) (vs : List Int) (bs : List UInt8) (w : World) (hn : n = vs.length) (hbs : numsB vs = bs) (hr : Rd w A (vs.map iv)) (hi : ∀ v ∈ vs, isInt v) (hb : vs.length ≤ 1073741824) :
    Calls Try.prog 74 #[.slice A n c] w fun e w' => ∃ A' c', e = .returned (.slice A' bs.length c') ∧ New w w' A' c' bs ∧ Below w.heap.size w w' := by
  subst hn
  have Hbs := Lib.hid hbs
  clear hbs
  go_enter Try.func74, Try.ntmps74
  go_wp2
  go_loopw [3, 4] (fun s i w1 => ∃ (k : Nat) (ds : List UInt8) (A' : Option Addr) (c' : Nat), k ≤ vs.length ∧ i = .int .i64 (k : Int) ∧ ds = numsTo vs k ∧ s = .slice A' ds.length c' ∧ New w w1 A' c' ds ∧ Below w.heap.size w w1) (fun _ i _ => vs.length - (intOf i).toNat)
  case atStart => exact ⟨0, [], none, 0, Nat.zero_le _, rfl, rfl, rfl, Own.none_ _ _ _, Below.refl _ _⟩
  case round =>
    obtain ⟨k, ds, A', c', hk, rfl, hds, rfl, hnew, hb1⟩ := hrel
    by_cases hlt : k < vs.length
    · obtain ⟨ad, rfl, hc⟩ := (hr.ext hb1).at_ (k := k) (by simpa using hlt)
      simp only [List.getElem_map, iv] at hc
      have hik := hi vs[k] (List.getElem_mem hlt)
      have hlen := numsTo_len vs k
      rw [← hds] at hlen
      have hs := Lib.hid (show ds ++ dig (clamp vs[k]) = numsTo vs (k + 1) by rw [numsTo_succ vs k hlt, hds])
      have h9 := dig_clamp_len vs[k]
      clear hds
      generalize vs[k] = v at *
      go_wp2_with fail
      refine (refnum_any v wr hik).mono ?_
      rintro e w2 ⟨A2, c2, rfl, hnew2, hb2⟩
      generalize dig (clamp v) = ys at *
      have hk1 : ds.length + ys.length ≤ maxLen := by unfold maxLen; omega
      have hk2 : (ds.length + ys.length) * 1 ≤ 140737488355328 := by omega
      have hb2' := ext_trans hb1 hb2
      go_wp2_with (at_builtin
                   refine wpList_app _ rfl (.tmp 11) (.tmp 16) _ rfl _ _ 1 Try.underlying48 info_u8 rfl A' ds.length c' (ds.map bv) rfl (by rw [List.length_map]) (hnew.ext hb2) A2 ys.length c2 (ys.map bv) rfl (by rw [List.length_map]) hnew2.rd (bvs_one _) hk1 hk2 ?_
                   intro A3 c3 w3 hown3 honly3)
      go_roundw
      case rel =>
        obtain ⟨g1, g2⟩ := New.grow hb2' hown3 honly3
        exact ⟨k + 1, ds ++ ys, A3, c3, by omega, by go_num, hs.out, by rw [List.length_append], g1, g2⟩
      case measure => simp [intOf]; omega
    · obtain rfl : k = vs.length := by omega
      rw [numsTo_all, Hbs.out] at hds
      subst hds
      go_wp2
      go_ret
      exact ⟨A', c', rfl, hnew, hb1⟩

set_option maxRecDepth 100000 in
set_option maxHeartbeats 1000000 in
theorem refbytes_any (A : Option Addr) (n c : Nat) (xs : List UInt8) (bs : List UInt8) (w : World) (hn : n = xs.length) (hbs : dig xs.length ++ xs = bs) (hr : Rd w A (xs.map bv)) (hb : xs.length ≤ 1099511627776) :
    Calls Try.prog 73 #[.slice A n c] w fun e w' => ∃ A' c', e = .returned (.slice A' bs.length c') ∧ New w w' A' c' bs ∧ Below w.heap.size w w' := by
  subst hn
  have hcl := clamp_of_nat (n := xs.length) (by omega)
  have Hbs := Lib.hid hbs
  have h9 := dig_clamp_len (xs.length : Int)
  rw [hcl] at h9
  have Hcl := Lib.hid hcl
  clear hcl hbs
  go_enter Try.func73, Try.ntmps73
  go_wp2_with fail
  refine (refnum_any (xs.length : Int) _ ⟨by omega, by omega⟩).mono ?_
  rw [Hcl.out]
  rintro e w2 ⟨A2, c2, rfl, hnew2, hb2⟩
  generalize dig xs.length = ys at *
  have hk1 : ys.length + xs.length ≤ maxLen := by unfold maxLen; omega
  have hk2 : (ys.length + xs.length) * 1 ≤ 140737488355328 := by omega
  go_wp2_with (at_builtin
               refine wpList_app _ rfl (.tmp 5) (.tmp 6) _ rfl _ _ 1 Try.underlying48 info_u8 rfl A2 ys.length c2 (ys.map bv) rfl (by rw [List.length_map]) hnew2 A xs.length c (xs.map bv) rfl (by rw [List.length_map]) (hr.ext hb2) (bvs_one _) hk1 hk2 ?_
               intro A3 c3 w3 hown3 honly3)
  go_ret
  obtain ⟨g1, g2⟩ := New.grow hb2 hown3 honly3
  rw [Hbs.out] at g1
  refine ⟨A3, c3, ?_, g1, g2⟩
  rw [← Hbs.out, List.length_append]; rfl
end Go.Proofs.Ytdghbdiapkelnaa

/-
  Bytes as a string, as the laws compare them. No statement of the seat is proved here.
-/
namespace Go.Proofs.Ytdghbdiapkelnaa
open Go Go.RowKit

theorem conv_bytes (w : World) (A : Option Addr) (n c : Nat) (bs : List UInt8) (hn : n = bs.length) (hr : Rd w A (bs.map bv)) :
    (convert 48 9 (.slice A n c)).run Try.prog w = .ok (.string ⟨bs.toArray⟩) w := by
  subst hn
  rcases A with _ | ad
  · have hnil : bs = [] := by
      rcases bs with _ | ⟨b, r⟩
      · rfl
      · obtain ⟨ad, h0, _⟩ := hr 0 _ rfl
        cases h0
    subst hnil
    exact Lib.run_convert_nil_bytes w _ _ 5 c Try.underlying48 Try.underlying5 Try.underlying9
  · refine run_convert_bytes_back w _ _ 5 ad c bs Try.underlying48 Try.underlying5 Try.underlying9 (fun j hj => ?_)
    obtain ⟨ad', h1, h2⟩ := hr j (bv bs[j]) (by simp [hj])
    injection h1 with h1
    subst h1
    exact h2
end Go.Proofs.Ytdghbdiapkelnaa
