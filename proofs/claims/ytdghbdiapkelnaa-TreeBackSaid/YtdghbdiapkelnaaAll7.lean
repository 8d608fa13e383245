/-
  Texts of this claim, joined (part 7): contracts and lemmas that the last text goes by. No statement of the seat is proved here.
-/
import Derived.Test.YtdghbdiapkelnaaAll0
import Derived.Test.YtdghbdiapkelnaaRows
set_option linter.unusedVariables false
set_option linter.unusedSimpArgs false
/-
  Plain mathematics of octet: a number's digits to the base 128. No Go here.
-/
namespace Go.Proofs.Ytdghbdiapkelnaa

/-- a number as bytes: seven binary digits a byte, the lowest first -/
def dig (n : Nat) : List UInt8 := if n < 128 then [n.toUInt8] else (n % 128 + 128).toUInt8 :: dig (n / 128)
termination_by n

theorem dig_lt {n : Nat} (h : n < 128) : dig n = [n.toUInt8] := by rw [dig, if_pos h]
theorem dig_ge {n : Nat} (h : ¬ n < 128) : dig n = (n % 128 + 128).toUInt8 :: dig (n / 128) := by rw [dig, if_neg h]
theorem dig_pos (n : Nat) : 0 < (dig n).length := by
  rw [dig]; split <;> simp

/-- so many bytes at the most -/
theorem dig_len : ∀ (k n : Nat), n < 128 ^ k → 0 < k → (dig n).length ≤ k
  | 0, _, _, h => absurd h (by omega)
  | k + 1, n, h, _ => by
    by_cases hn : n < 128
    · rw [dig_lt hn]; simp
    · rw [dig_ge hn]
      have hk : 0 < k := by
        rcases k with _ | k
        · simp at h; omega
        · omega
      have h2 : n / 128 < 128 ^ k := by
        rw [Nat.pow_succ] at h
        exact Nat.div_lt_of_lt_mul (by rw [Nat.mul_comm]; exact h)
      have := dig_len k (n / 128) h2 hk
      simp only [List.length_cons]
      omega

/-- a number brought into the bounds of what may be laid -/
def clamp (v : Int) : Nat := (min (max v 0) 4611686018427387904).toNat
theorem clamp_le (v : Int) : clamp v ≤ 4611686018427387904 := by unfold clamp; omega
theorem clamp_of_nat {n : Nat} (h : n ≤ 4611686018427387904) : clamp (n : Int) = n := by unfold clamp; omega
theorem dig_clamp_len (v : Int) : (dig (clamp v)).length ≤ 9 := dig_len 9 _ (by have := clamp_le v; have : (128 : Nat) ^ 9 = 9223372036854775808 := rfl; omega) (by omega)

/-- how many bytes the rest has: none, if nothing is left -/
def dlen (k : Nat) : Nat := if k = 0 then 0 else (dig k).length
theorem dig_len_eq (m : Nat) : (dig m).length = 1 + dlen (m / 128) := by
  by_cases h : m < 128
  · rw [dig_lt h, dlen, if_pos (by omega)]; rfl
  · rw [dig_ge h, dlen, if_neg (by omega), List.length_cons]; omega
theorem dlen_pos {k : Nat} (h : 0 < k) : dlen k = 1 + dlen (k / 128) := by rw [dlen, if_neg (by omega), dig_len_eq]
/-- the first byte tells whether the number is below 128 -/
theorem dig_first (m : Nat) (h : ¬ m < 128) : ∃ u r, dig m = u :: r ∧ 128 ≤ u.toNat ∧ r = dig (m / 128) := by
  refine ⟨_, _, dig_ge h, ?_, rfl⟩
  simp [Nat.toUInt8, UInt8.toNat_ofNat']; omega
/-- the last byte of several is not 0 -/
theorem dig_last : ∀ (n m : Nat), m ≤ n → 0 < m → ∃ p u, dig m = p ++ [u] ∧ 0 < u.toNat
  | 0, m, h, h0 => by omega
  | n + 1, m, h, h0 => by
    by_cases hm : m < 128
    · exact ⟨[], m.toUInt8, by rw [dig_lt hm]; rfl, by simp [Nat.toUInt8, UInt8.toNat_ofNat']; omega⟩
    · obtain ⟨p, u, e, hu⟩ := dig_last n (m / 128) (by omega) (by omega)
      exact ⟨_ :: p, u, by rw [dig_ge hm, e]; rfl, hu⟩

/-! ### the number at the beginning of bytes -/
def scan : Nat → Nat → List UInt8 → Option (Nat × Nat)
  | _, _, [] => none
  | i, n, c :: r =>
    if i = 9 then none
    else if 127 < c.toNat then scan (i + 1) (n + c.toNat % 128 * 128 ^ i) r
    else if 4611686018427387904 < n + c.toNat % 128 * 128 ^ i ∨ (0 < i ∧ c.toNat = 0) then none
    else some (n + c.toNat % 128 * 128 ^ i, i + 1)
def num? (bs : List UInt8) : Option (Nat × Nat) := scan 0 0 bs
def resN (r : Option (Nat × Nat)) : Nat := (r.getD (0, 0)).1
def resK (r : Option (Nat × Nat)) : Nat := (r.getD (0, 0)).2
/-- what is left behind a number, and whether there was none -/
def restOf (bs : List UInt8) : Option (Nat × Nat) → List UInt8
  | some (_, k) => bs.drop k
  | none => []
def badOf : Option (Nat × Nat) → Bool
  | some _ => false
  | none => true

/-- a number that was laid is met again -/
theorem scan_dig : ∀ (k n i a : Nat) (r : List UInt8), n ≤ k → (i = 0 ∨ 0 < n) → a + n * 128 ^ i ≤ 4611686018427387904 → scan i a (dig n ++ r) = some (a + n * 128 ^ i, i + (dig n).length)
  | k, n, i, a, r, hk, h0, hle => by
    have hi : i ≤ 8 := by
      rcases h0 with h0 | h0
      · omega
      · rcases Nat.lt_or_ge i 9 with h | h
        · omega
        · have h1 : 128 ^ 9 ≤ 128 ^ i := Nat.pow_le_pow_right (by omega) h
          have h2 : 1 * 128 ^ i ≤ n * 128 ^ i := Nat.mul_le_mul_right _ h0
          have h3 : (128 : Nat) ^ 9 = 9223372036854775808 := rfl
          omega
    by_cases hn : n < 128
    · have e : n.toUInt8.toNat = n := by simp [Nat.toUInt8, UInt8.toNat_ofNat']; omega
      rw [dig_lt hn]
      simp only [List.singleton_append, scan, e]
      rw [if_neg (by omega), if_neg (by omega), Nat.mod_eq_of_lt hn, if_neg (by omega)]
      simp
    · have e : (n % 128 + 128).toUInt8.toNat = n % 128 + 128 := by simp [Nat.toUInt8, UInt8.toNat_ofNat']; omega
      have e2 : (n % 128 + 128) % 128 = n % 128 := by omega
      have e3 : a + n % 128 * 128 ^ i + n / 128 * 128 ^ (i + 1) = a + n * 128 ^ i := by
        have h1 : n * 128 ^ i = (n % 128 + 128 * (n / 128)) * 128 ^ i := by rw [Nat.mod_add_div]
        rw [h1, Nat.add_mul, Nat.pow_succ, Nat.mul_comm 128 (n / 128), Nat.mul_assoc (n / 128), Nat.mul_comm 128]
        omega
      rw [dig_ge hn]
      simp only [List.cons_append, scan, e]
      rw [if_neg (by omega), if_pos (by omega), e2, scan_dig (n / 128) (n / 128) (i + 1) _ r (Nat.le_refl _) (.inr (by omega)) (by rw [e3]; exact hle), e3]
      simp only [List.length_cons]
      congr 2; omega
termination_by _ n => n
theorem num_dig (n : Nat) (r : List UInt8) (h : n ≤ 4611686018427387904) : num? (dig n ++ r) = some (n, (dig n).length) := by
  have := scan_dig n n 0 0 r (Nat.le_refl _) (.inl rfl) (by simpa using h)
  simpa [num?] using this

/-! ### the check sum, four digits at a time -/
def tab (i : Nat) : Nat := [0, 498536548, 997073096, 651767980, 1994146192, 1802195444, 1303535960, 1342533948, 3988292384, 4027552580, 3604390888, 3412177804, 2607071920, 2262029012, 2685067896, 3183342108].getD i 0
theorem tab_lt (i : Nat) : tab i < 4294967296 := by
  have h : ∀ j, j < 16 → tab j < 4294967296 := by decide
  by_cases hi : i < 16
  · exact h i hi
  · unfold tab; rw [List.getD_eq_getElem?_getD, List.getElem?_eq_none (by simp; omega)]; decide
def nib (s : Nat) : Nat := s / 16 ^^^ tab (s % 16)
theorem nib_lt {s : Nat} (h : s < 4294967296) : nib s < 4294967296 :=
  Nat.xor_lt_two_pow (n := 32) (by have : s / 16 < 2 ^ 32 := by omega
                                   exact this) (tab_lt _)
def crcB (s : Nat) (b : UInt8) : Nat := nib (nib (s ^^^ b.toNat))
theorem xorb_lt {s : Nat} (h : s < 4294967296) (b : UInt8) : s ^^^ b.toNat < 4294967296 :=
  Nat.xor_lt_two_pow (n := 32) h (by have := b.toNat_lt; have : (2 : Nat) ^ 32 = 4294967296 := rfl; omega)
theorem crcB_lt {s : Nat} (h : s < 4294967296) (b : UInt8) : crcB s b < 4294967296 := nib_lt (nib_lt (xorb_lt h b))
def crcL (s : Nat) (bs : List UInt8) : Nat := bs.foldl crcB s
theorem crcL_lt (bs : List UInt8) : ∀ {s : Nat}, s < 4294967296 → crcL s bs < 4294967296 := by
  induction bs with
  | nil => intro s h; exact h
  | cons b r ih => intro s h; exact ih (crcB_lt h b)
theorem crcL_append (s : Nat) (a b : List UInt8) : crcL s (a ++ b) = crcL (crcL s a) b := List.foldl_append
theorem crcL_snoc (s : Nat) (a : List UInt8) (b : UInt8) : crcL s (a ++ [b]) = crcB (crcL s a) b := by rw [crcL_append]; rfl
theorem crcL_take_succ (s : Nat) (xs : List UInt8) (k : Nat) (h : k < xs.length) : crcL s (xs.take (k + 1)) = crcB (crcL s (xs.take k)) xs[k] := by
  rw [List.take_succ_eq_append_getElem h, crcL_snoc]
/-- the check sum of bytes -/
def sumOf (bs : List UInt8) : Nat := 4294967295 - crcL 4294967295 bs
theorem sumOf_known : sumOf [49, 50, 51, 52, 53, 54, 55, 56, 57] = 3421780262 := by decide

end Go.Proofs.Ytdghbdiapkelnaa

/-
  The contracts of package octet's Writer: Raw, num, Nums, Bytes, Out. No statement of the seat is proved here.
-/
namespace Go.Proofs.Ytdghbdiapkelnaa
open Go Go.RowKit

theorem info_u8 : (Try.prog.info? 5).map (fun i => (i.zero, i.size, i.bytes)) = some (some (.int .u8 0), 1, 1) := by kernel_rfl

/-- A Writer in block 'g', which has laid the cells 'xs'; what it owns lies in 'fp'. -/
def Wr (w : World) (fp : Nat → Prop) (g : Nat) (xs : List Value) : Prop :=
  fp g ∧ ∃ A c, Blk w g 89 #[.slice A xs.length c] ∧ Own w fp 5 A c xs

section
variable {S fp fp' : Nat → Prop} {w w' : World} {g : Nat} {xs : List Value}
theorem Wr.mono (h : Wr w fp g xs) (hs : ∀ k, fp k → k < w.heap.size → fp' k) : Wr w fp' g xs := by
  obtain ⟨h1, A, c, hb, ho⟩ := h
  exact ⟨hs _ h1 hb.lt, A, c, hb, ho.mono hs⟩
theorem Wr.only (h : Wr w fp g xs) (ho : Only S w w') (hn : ∀ k, fp k → ¬ S k) : Wr w' fp g xs := by
  obtain ⟨h1, A, c, hb, hown⟩ := h
  exact ⟨h1, A, c, hb.only ho (hn _ h1), hown.only ho hn⟩
theorem Wr.ext (h : Wr w fp g xs) (hb : Below w.heap.size w w') : Wr w' fp g xs := by
  obtain ⟨h1, A, c, hb1, hown⟩ := h
  exact ⟨h1, A, c, hb1.ext hb, hown.ext hb⟩
theorem Wr.drewN (h : Wr w fp g xs) (n : Nat) : Wr (w.drewN n) fp g xs := h
theorem Wr.alloc (h : Wr w fp g xs) (o : Obj) : Wr (w.alloc o) fp g xs := h.ext ((Below.refl _ _).alloc (Nat.le_refl _) o)
theorem Wr.lt (h : Wr w fp g xs) : g < w.heap.size := by
  obtain ⟨_, _, _, hb, _⟩ := h
  exact hb.lt
theorem Wr.new (w : World) (fp : Nat → Prop) (hf : fp w.heap.size) : Wr (w.alloc (.cells #[.slice none 0 0] 89)) fp w.heap.size [] :=
  ⟨hf, none, 0, Blk.new w _ _, Own.none_ _ _ _⟩
end

theorem raw_nil (v : Value) (w : World) : Calls Try.prog 76 #[.pointer none, v] w fun e w' => e = .returned (.tuple #[]) ∧ w = w' := by
  go_enter Try.func76, Try.ntmps76
  go_wp2
  go_end0
  exact ⟨rfl, rfl⟩

/-- what a Writer is behind an append to its row and the store of it -/
theorem Wr.step {fp : Nat → Prop} {g : Nat} {A A' : Option Addr} {c c' : Nat} {xs ys : List Value} {w w1 : World} (hg : fp g) (hblk : Blk w g 89 #[.slice A xs.length c])
    (ho : Only (fun k => fp k ∧ k ≠ g) w w1) (hown : Own w1 (More (fun k => fp k ∧ k ≠ g) w w1) 5 A' c' ys) :
    Wr (w1.setCell ⟨g, 0, none⟩ (.slice A' ys.length c')) (More fp w (w1.setCell ⟨g, 0, none⟩ (.slice A' ys.length c'))) g ys ∧ Only fp w (w1.setCell ⟨g, 0, none⟩ (.slice A' ys.length c')) := by
  have hb1 : Blk w1 g 89 #[.slice A xs.length c] := hblk.only ho (fun h => h.2 rfl)
  refine ⟨⟨.inl hg, A', c', hb1.put 0 _, ?_⟩, (ho.mono (fun _ _ h => h.1)).setCell (.inl hg) _⟩
  refine (hown.setCell (hown.ne_blk hb1 (by decide)) _).mono (fun k hk _ => ?_)
  rcases hk with hk | hk
  · exact .inl hk.1
  · exact .inr (by simpa [World.setCell] using hk)

set_option maxHeartbeats 400000 in
theorem raw_any (fp : Nat → Prop) (g : Nat) (A2 : Option Addr) (m c2 : Nat) (xs news : List Value) (w : World) (hw : Wr w fp g xs) (hm : m = news.length) (hr : Rd w A2 news) (h1 : ∀ u ∈ news, u.oneCell' = true)
    (hb : xs.length + news.length ≤ 1099511627776) :
    Calls Try.prog 76 #[.pointer (some ⟨g, 0, none⟩), .slice A2 m c2] w fun e w' => e = .returned (.tuple #[]) ∧ Wr w' (More fp w w') g (xs ++ news) ∧ Only fp w w' := by
  obtain ⟨hg, A, c, hblk, hown⟩ := hw
  have h0 := hblk.cell 0
  simp only [List.getElem?_toArray, List.getElem?_cons_zero] at h0
  have f0 := hblk.free 0
  have hk1 : xs.length + m ≤ maxLen := by unfold maxLen; omega
  have hk2 : (xs.length + m) * 1 ≤ 140737488355328 := by omega
  have hown' : Own w (fun k => fp k ∧ k ≠ g) 5 A c xs := ⟨hown.1, fun ad e => ⟨hown.2 ad e, hown.ne_blk hblk (by decide) ad e⟩⟩
  have hm' := Lib.hid hm
  clear hm
  go_enter Try.func76, Try.ntmps76
  go_wp2_with (at_builtin
               refine wpList_app _ rfl (.tmp 10) (.tmp 11) _ rfl _ _ 1 Try.underlying48 info_u8 rfl A _ c xs rfl rfl hown' A2 m c2 news rfl hm'.out hr h1 hk1 hk2 ?_
               intro A' c' w1 hown1 honly1
               have hb1 := hblk.only honly1 (fun h => h.2 rfl)
               have g0 : w1.cell? ⟨g, 0, none⟩ = some (.slice A xs.length c) := hb1.cell 0
               have g1 : w1.frozen? ⟨g, 0, none⟩ = false := hb1.free 0)
  go_end0
  refine ⟨rfl, ?_⟩
  have key := Wr.step hg hblk honly1 hown1
  rw [List.length_append, ← hm'.out] at key
  exact key

theorem Wr.join {fp : Nat → Prop} {a b b' c : World} {g : Nat} {xs : List Value} (h1 : a.heap.size ≤ b.heap.size) (h2 : b.heap.size ≤ b'.heap.size) (h3 : b'.heap.size ≤ c.heap.size) (h : Wr c (More (More fp a b) b' c) g xs) : Wr c (More fp a c) g xs :=
  h.mono fun _ hk _ => More.join h1 h2 h3 hk
end Go.Proofs.Ytdghbdiapkelnaa

/-
  The contract of octet's Join. No statement of the seat is proved here.
-/
namespace Go.Proofs.Ytdghbdiapkelnaa
open Go Go.RowKit

/-- bytes in a list of the call's own, which was made between two worlds -/
def New (w w' : World) (A : Option Addr) (c : Nat) (bs : List UInt8) : Prop := Own w' (fun k => w.heap.size ≤ k ∧ k < w'.heap.size) 5 A c (bs.map bv)

theorem make_bytes (W : World) (t : Nat) (h : t ≤ 1099511627776) : (Instr.makeSlice 48 (.int .i64 0) (.int .i64 (t : Int))).run Try.prog W =
    .ok (.slice (some ⟨W.heap.size, 0, none⟩) 0 t) (W.alloc (.cells (madeCells #[.int .u8 0] (t * 1)) 5)) := by
  obtain ⟨i, hi, hz, hsz, hby⟩ := info_parts info_u8
  have hr := run_make (P := Try.prog) W 48 5 i _ Try.underlying48 hi hz .i64 .i64 ((0 : Nat) : Int) t (by omega) (by omega) (by rw [hby]; omega) (by omega)
  simp only [Int.toNat_natCast, hsz] at hr
  exact hr

theorem flat_take_succ (xss : List (List UInt8)) (k : Nat) (h : k < xss.length) : (xss.take (k + 1)).flatten = (xss.take k).flatten ++ xss[k] := by
  rw [List.take_succ_eq_append_getElem h, List.flatten_append]; simp
theorem flat_take_le (xss : List (List UInt8)) (k : Nat) : (xss.take k).flatten.length ≤ xss.flatten.length := by
  have h : xss.flatten = (xss.take k).flatten ++ (xss.drop k).flatten := by rw [← List.flatten_append, List.take_append_drop]
  rw [h, List.length_append]; omega
/-- the bytes of the first k rows; how many they are: under a name, so that the walk leaves them alone -/
def upTo (xss : List (List UInt8)) (k : Nat) : List UInt8 := (xss.take k).flatten
def lenTo (xss : List (List UInt8)) (k : Nat) : Nat := (upTo xss k).length
theorem lenTo_zero (xss : List (List UInt8)) : lenTo xss 0 = 0 := rfl
theorem upTo_succ (xss : List (List UInt8)) (k : Nat) (h : k < xss.length) : upTo xss (k + 1) = upTo xss k ++ xss[k] := flat_take_succ xss k h
theorem lenTo_succ (xss : List (List UInt8)) (k : Nat) (h : k < xss.length) : lenTo xss (k + 1) = lenTo xss k + xss[k].length := by unfold lenTo; rw [upTo_succ xss k h, List.length_append]
theorem lenTo_le (xss : List (List UInt8)) (k : Nat) : lenTo xss k ≤ xss.flatten.length := flat_take_le xss k
theorem upTo_all (xss : List (List UInt8)) : upTo xss xss.length = xss.flatten := by unfold upTo; rw [List.take_length]
theorem lenTo_all (xss : List (List UInt8)) : lenTo xss xss.length = xss.flatten.length := by unfold lenTo; rw [upTo_all]

theorem New.start (w : World) (n : Nat) (h : n ≤ 1099511627776) : New w (w.alloc (.cells (madeCells #[.int .u8 0] n) 5)) (some ⟨w.heap.size, 0, none⟩) n [] := by
  refine ⟨?_, fun ad h => by injection h with h; subst h; simp⟩
  exact World.ownsRow_made w _ n (Nat.zero_le _) (by unfold maxLen; omega) (by simp [madeCells])
theorem New.grow {w w1 w2 : World} {A : Option Addr} {c : Nat} {bs cs : List UInt8} (hb : Below w.heap.size w w1) (h : Own w2 (More (fun k => w.heap.size ≤ k ∧ k < w1.heap.size) w1 w2) 5 A c (bs.map bv ++ cs.map bv)) (ho : Only (fun k => w.heap.size ≤ k ∧ k < w1.heap.size) w1 w2) :
    New w w2 A c (bs ++ cs) ∧ Below w.heap.size w w2 := by
  have h1 := hb.size
  have h2 := ho.size
  refine ⟨?_, hb.trans (ho.below (fun _ h => h.1) hb.size)⟩
  unfold New
  rw [List.map_append]
  refine h.mono (fun _ hk _ => ?_)
  rcases hk with hk | hk <;> omega
/-- .. a literal laid in between -/
theorem New.grow1 {w w1 w2 : World} {A : Option Addr} {c : Nat} {bs cs : List UInt8} {o : Obj} (hb : Below w.heap.size w w1) (h : Own w2 (More (fun k => w.heap.size ≤ k ∧ k < w1.heap.size) (w1.alloc o) w2) 5 A c (bs.map bv ++ cs.map bv)) (ho : Only (fun k => w.heap.size ≤ k ∧ k < w1.heap.size) (w1.alloc o) w2) :
    New w w2 A c (bs ++ cs) ∧ Below w.heap.size w w2 := by
  have h1 := hb.size
  have h2 := ho.size
  rw [World.size_alloc] at h2
  refine ⟨?_, (hb.alloc h1 o).trans (ho.below (fun _ h => h.1) (by rw [World.size_alloc]; omega))⟩
  unfold New
  rw [List.map_append]
  refine h.mono (fun _ hk _ => ?_)
  rcases hk with hk | hk
  · omega
  · rw [World.size_alloc] at hk; omega
theorem New.ext {w w1 w2 : World} {A : Option Addr} {c : Nat} {bs : List UInt8} (h : New w w1 A c bs) (hb : Below w1.heap.size w1 w2) : New w w2 A c bs :=
  (Own.ext h hb).mono (fun _ hk _ => ⟨hk.1, Nat.lt_of_lt_of_le hk.2 hb.size⟩)

theorem New.rd {w w1 : World} {A : Option Addr} {c : Nat} {bs : List UInt8} (h : New w w1 A c bs) : Rd w1 A (bs.map bv) := Own.rd h
theorem New.back {w w0 w1 : World} {A : Option Addr} {c : Nat} {bs : List UInt8} (h : New w w1 A c bs) (hs : w0.heap.size ≤ w.heap.size) : New w0 w1 A c bs :=
  Own.mono h (fun _ hk _ => ⟨Nat.le_trans hs hk.1, hk.2⟩)

set_option maxHeartbeats 1000000 in
theorem join_any (A : Option Addr) (n c : Nat) (xss : List (List UInt8)) (bs : List UInt8) (w : World) (hn : n = xss.length) (hbs : xss.flatten = bs) (hr : RowsF (fun _ => False) w A xss) (hb : bs.length ≤ 1099511627776) (hb2 : xss.length ≤ 1099511627776) :
    Calls Try.prog 77 #[.slice A n c] w fun e w' => ∃ A' c', e = .returned (.slice A' bs.length c') ∧ New w w' A' c' bs ∧ Below w.heap.size w w' := by
  subst hn
  have hmk := fun W => make_bytes W bs.length hb
  have hall := lenTo_all xss
  have hle := lenTo_le xss
  rw [hbs] at hall hle
  have Hbs := Lib.hid hbs
  have Hall := Lib.hid hall
  have Hle := Lib.hid hle
  clear hall hbs hle
  go_enter Try.func77, Try.ntmps77
  go_wp2
  go_loop [3, 11] (fun s i => ∃ k : Nat, k ≤ xss.length ∧ i = .int .i64 (k : Int) ∧ s = .int .i64 (lenTo xss k : Int)) (fun _ i => xss.length - (intOf i).toNat)
  case atStart => exact ⟨0, Nat.zero_le _, rfl, by rw [lenTo_zero]; rfl⟩
  case round =>
    obtain ⟨k, hk, rfl, rfl⟩ := hrel
    have hle := Hle.out k
    by_cases hlt : k < xss.length
    · obtain ⟨ad, B, cb, rfl, hcell, hl, hrd⟩ := hr.at_ hlt
      have hsucc := Lib.hid (lenTo_succ xss k hlt)
      have hle' := Hle.out (k + 1)
      rw [lenTo_succ xss k hlt] at hle'
      go_wp2
      go_round
      case rel => exact ⟨k + 1, by omega, by go_num, by rw [hsucc.out]; go_num⟩
      case measure => simp [intOf]; omega
    · obtain rfl : k = xss.length := by omega
      rw [Hall.out]
      clear hle
      go_wp2
      go_loopw [6, 24] (fun s i w1 => ∃ (k : Nat) (A' : Option Addr) (c' : Nat), k ≤ xss.length ∧ i = .int .i64 (k : Int) ∧ s = .slice A' (lenTo xss k) c' ∧ New w w1 A' c' (upTo xss k) ∧ Below w.heap.size w w1) (fun _ i _ => xss.length - (intOf i).toNat)
      case atStart => exact ⟨0, _, _, Nat.zero_le _, rfl, rfl, by first | exact New.start w bs.length hb | (rw [Nat.mul_one]; exact New.start w bs.length hb), (Below.refl _ _).alloc (Nat.le_refl _) _⟩
      case round =>
        obtain ⟨k, A', c', hk, rfl, rfl, hnew, hbel⟩ := hrel
        by_cases hlt : k < xss.length
        · obtain ⟨ad, B, cb, rfl, hcell, hl, hrd⟩ := (hr.ext hbel).at_ hlt
          have hsucc := Lib.hid (lenTo_succ xss k hlt)
          have usucc := Lib.hid (upTo_succ xss k hlt)
          have hle' := Hle.out (k + 1)
          rw [lenTo_succ xss k hlt] at hle'
          have hk1 : lenTo xss k + xss[k].length ≤ maxLen := by unfold maxLen; omega
          have hk2 : (lenTo xss k + xss[k].length) * 1 ≤ 140737488355328 := by omega
          have hl0 := Lib.hid (show lenTo xss k = ((upTo xss k).map bv).length by rw [List.length_map]; rfl)
          have hl1 := Lib.hid (show xss[k].length = (xss[k].map bv).length by rw [List.length_map])
          go_wp2_with (at_builtin
                       refine wpList_app _ rfl (.tmp 28) (.tmp 29) _ rfl _ _ 1 Try.underlying48 info_u8 rfl A' (lenTo xss k) c' _ rfl ?_ hnew B _ cb (xss[k].map bv) rfl ?_ hrd.1 (bvs_one _) hk1 hk2 ?_
                       · rw [List.length_map]; rfl
                       · rw [List.length_map]
                       intro A2 c2 w2 hown2 honly2)
          go_roundw
          case rel =>
            obtain ⟨g1, g2⟩ := New.grow hbel hown2 honly2
            exact ⟨k + 1, A2, c2, by omega, by go_num, by rw [hsucc.out], by rw [usucc.out]; exact g1, g2⟩
          case measure => simp [intOf]; omega
        · obtain rfl : k = xss.length := by omega
          rw [Hall.out]
          go_wp2
          go_ret
          refine ⟨A', c', rfl, ?_, hbel⟩
          rw [upTo_all, Hbs.out] at hnew
          exact hnew
end Go.Proofs.Ytdghbdiapkelnaa

/-
  The contracts of octet's NewReader and of Reader's Good, Bad, Raw. No statement of the seat is proved here.
-/
namespace Go.Proofs.Ytdghbdiapkelnaa
open Go Go.RowKit

/-- A Reader in block 'g': 'bs' is left of it; has it erred?; what it holds lies in 'fp'. -/
def Rdr (w : World) (fp : Nat → Prop) (g : Nat) (bs : List UInt8) (bad : Bool) : Prop :=
  fp g ∧ (bad = true → bs = []) ∧ ∃ A c, Blk w g 136 #[.slice A bs.length c, .bool bad] ∧ Rd w A (bs.map bv) ∧ (∀ ad, A = some ad → bs ≠ [] → fp ad.block ∧ ad.block ≠ g) ∧ bs.length ≤ c

section
variable {S fp fp' : Nat → Prop} {w w' : World} {g : Nat} {bs : List UInt8} {bad : Bool}
theorem Rdr.lt (h : Rdr w fp g bs bad) : g < w.heap.size := by
  obtain ⟨_, _, _, _, hb, _⟩ := h
  exact hb.lt
theorem Rdr.only (h : Rdr w fp g bs bad) (ho : Only S w w') (hn : ∀ k, fp k → ¬ S k) : Rdr w' fp g bs bad := by
  obtain ⟨h1, h2, A, c, hb, hr, ha, hc⟩ := h
  exact ⟨h1, h2, A, c, hb.only ho (hn _ h1), hr.only ho (fun ad e hne => hn _ (ha ad e (by intro h; exact hne (by rw [h]; rfl))).1), ha, hc⟩
theorem Rdr.ext (h : Rdr w fp g bs bad) (hb : Below w.heap.size w w') : Rdr w' fp g bs bad := by
  obtain ⟨h1, h2, A, c, hb1, hr, ha, hc⟩ := h
  exact ⟨h1, h2, A, c, hb1.ext hb, hr.ext hb, ha, hc⟩
theorem Rdr.drewN (h : Rdr w fp g bs bad) (n : Nat) : Rdr (w.drewN n) fp g bs bad := h
theorem Rdr.mono (h : Rdr w fp g bs bad) (hs : ∀ k, fp k → k < w.heap.size → fp' k) : Rdr w fp' g bs bad := by
  obtain ⟨h1, h2, A, c, hb1, hr, ha, hc⟩ := h
  refine ⟨hs _ h1 hb1.lt, h2, A, c, hb1, hr, fun ad e hne => ?_, hc⟩
  obtain ⟨ad', e', hcell⟩ := hr.at_ (k := 0) (by have := List.length_pos_iff.2 hne; simpa using this)
  rw [e] at e'; injection e' with e'; subst e'
  have hl := World.block_lt_of_cell? w _ hcell
  rw [block_add] at hl
  exact ⟨hs _ (ha ad e hne).1 hl, (ha ad e hne).2⟩
end

theorem rgood (fp : Nat → Prop) (g : Nat) (bs : List UInt8) (bad : Bool) (w : World) (h : Rdr w fp g bs bad) :
    Calls Try.prog 82 #[.pointer (some ⟨g, 0, none⟩)] w fun e w' => e = .returned (.bool (!bad)) ∧ w = w' := by
  obtain ⟨_, _, A, c, hb, _⟩ := h
  have h1 := hb.cell 1
  simp only [List.getElem?_toArray, List.getElem?_cons_zero, List.getElem?_cons_succ] at h1
  go_enter Try.func82, Try.ntmps82
  go_wp2
  go_ret
  exact ⟨rfl, rfl⟩
theorem rbad (fp : Nat → Prop) (g : Nat) (bs : List UInt8) (bad : Bool) (w : World) (h : Rdr w fp g bs bad) :
    Calls Try.prog 79 #[.pointer (some ⟨g, 0, none⟩)] w fun e w' => e = .returned (.tuple #[]) ∧ Rdr w' fp g [] true ∧ Only (fun k => k = g) w w' := by
  obtain ⟨hg, _, A, c, hb, _⟩ := h
  have h0 := hb.cell 0
  have h1 := hb.cell 1
  simp only [List.getElem?_toArray, List.getElem?_cons_zero, List.getElem?_cons_succ] at h0 h1
  have f0 := hb.free 0
  have f1 := hb.free 1
  go_enter Try.func79, Try.ntmps79
  go_wp2
  go_end0
  refine ⟨rfl, ⟨hg, fun _ => rfl, none, 0, (hb.put 0 _).put 1 _, Rd.nil _ _, (fun ad e => by cases e), Nat.le_refl _⟩, ?_⟩
  exact ((Only.refl (fun k => k = g) w).setCell (p := ⟨g, 0, none⟩) (.inl rfl) _).setCell (p := ⟨g, 1, none⟩) (.inl rfl) _

theorem Rd.add {w : World} {A : Option Addr} {xs : List Value} (h : Rd w A xs) (k : Nat) : Rd w (A.map fun x => x.add k) (xs.drop k) := fun j u hu => by
  rw [List.getElem?_drop] at hu
  obtain ⟨ad, rfl, hc⟩ := h _ u hu
  exact ⟨ad.add k, rfl, by rw [add_add_]; exact hc⟩

/-- the Reader takes what stands at the beginning: k bytes are gone -/
theorem Rdr.cut {fp : Nat → Prop} {w : World} {g k d : Nat} {bs : List UInt8} {A B : Option Addr} {c : Nat} (hg : fp g) (hb : Blk w g 136 #[.slice A bs.length c, .bool false]) (hr : Rd w A (bs.map bv)) (ha : ∀ ad, A = some ad → bs ≠ [] → fp ad.block ∧ ad.block ≠ g) (hc : bs.length ≤ c) (hk : k ≤ bs.length)
    (hB : c = k ∨ B = A.map (fun x => x.add k)) (hd : bs.length - k ≤ d) : Rdr (w.setCell ⟨g, 0, none⟩ (.slice B (bs.length - k) d)) fp g (bs.drop k) false ∧ Only (fun k => k = g) w (w.setCell ⟨g, 0, none⟩ (.slice B (bs.length - k) d)) := by
  refine ⟨⟨hg, fun h => by simp at h, B, d, ?_, ?_, ?_, by rw [List.length_drop]; omega⟩, (Only.refl (fun k => k = g) w).setCell (p := ⟨g, 0, none⟩) (.inl rfl) _⟩
  · have := hb.put 0 (.slice B (bs.length - k) d)
    rw [List.length_drop]
    exact this
  · rcases hbs : bs.drop k with _ | ⟨x, r⟩
    · exact Rd.nil _ _
    · rcases hB with hB | hB
      · have : bs.drop k = [] := List.drop_eq_nil_iff.2 (by omega)
        rw [this] at hbs; cases hbs
      · subst hB
        have h1 := hr.add k
        rw [← List.map_drop, hbs] at h1
        refine h1.setCell (fun ad e => ?_) _
        have hne : bs ≠ [] := by rintro rfl; simp at hbs
        obtain ⟨a0, e0, rfl⟩ := Option.map_eq_some_iff.1 e
        rw [block_add]
        exact (ha a0 e0 hne).2
  · intro ad e hne
    have hne' : bs ≠ [] := by rintro rfl; simp at hne
    rcases hB with hB | hB
    · exact absurd (List.drop_eq_nil_iff.2 (by omega)) hne
    · rw [hB] at e
      obtain ⟨a0, e0, rfl⟩ := Option.map_eq_some_iff.1 e
      rw [block_add]
      exact ha a0 e0 hne'

set_option maxHeartbeats 1000000 in
theorem newreader (A : Option Addr) (n c : Nat) (bs : List UInt8) (w : World) (hn : n = bs.length) (hc : bs.length ≤ c) (hr : Rd w A (bs.map bv)) (hb : bs.length ≤ 1099511627776) :
    Calls Try.prog 50 #[.slice A n c] w fun e w' => ∃ g, e = .returned (.pointer (some ⟨g, 0, none⟩)) ∧ Rdr w' (fun k => w.heap.size ≤ k ∧ k < w'.heap.size) g bs false ∧ Below w.heap.size w w' := by
  subst hn
  go_enter Try.func50, Try.ntmps50
  go_wp2_with fail
  refine (join_any _ 1 1 [bs] bs _ rfl (by simp) (RowsF.one (RdF.of hr) hc _ rfl id) hb (by simp)).mono ?_
  rintro e w1 ⟨A1, c1, rfl, hnew, hbel⟩
  go_wp2
  go_ret
  have hs1 := hbel.size
  rw [World.size_alloc] at hs1
  refine ⟨w1.heap.size, rfl, ⟨?_, fun h => by simp at h, A1, c1, Blk.new _ _ _, hnew.rd.alloc _, fun ad e _ => ?_, ?_⟩, ?_⟩
  · rw [World.size_alloc]; omega
  · rcases Own.some_ hnew with ⟨h, _⟩ | ⟨g, h, hf, hl⟩
    · rw [h] at e; cases e
    · rw [h] at e; injection e with e; subst e
      rw [World.size_alloc] at hf ⊢
      show (_ ≤ g ∧ g < _) ∧ g ≠ _
      omega
  · have := Own.cap hnew; simpa using this
  · exact (((Below.refl _ _).alloc (Nat.le_refl _) _).trans (hbel.mono (by simp))).alloc (by omega) _

set_option maxHeartbeats 1000000 in
/-- Raw: so many bytes, or an error -/
theorem rraw_ok (fp : Nat → Prop) (g : Nat) (bs : List UInt8) (k : Nat) (w : World) (h : Rdr w fp g bs false) (hk : k ≤ bs.length) (hb : bs.length ≤ 1099511627776) :
    Calls Try.prog 99 #[.pointer (some ⟨g, 0, none⟩), .int .i64 (k : Int)] w fun e w' => ∃ A' c', e = .returned (.slice A' k c') ∧ New w w' A' c' (bs.take k) ∧ Rdr w' fp g (bs.drop k) false ∧ Only (fun k => k = g) w w' := by
  have h' := h
  obtain ⟨hg, _, A, c, hblk, hr, ha, hc⟩ := h
  have h0 := hblk.cell 0
  have h1 := hblk.cell 1
  simp only [List.getElem?_toArray, List.getElem?_cons_zero, List.getElem?_cons_succ] at h0 h1
  have f0 := hblk.free 0
  go_enter Try.func99, Try.ntmps99
  go_wp2_with fail
  refine (rgood fp g bs false _ h').mono ?_
  rintro e w' ⟨rfl, rfl⟩
  have htk : (bs.take k).length = k := by rw [List.length_take]; omega
  have hrow : RowsF (fun _ => False) (w.alloc (.cells #[.slice A (bs.take k).length c] 48)) (some ⟨w.heap.size, 0, none⟩) [bs.take k] :=
    RowsF.one (RdF.of (by rw [List.map_take]; exact hr.take k)) (by rw [htk]; omega) _ rfl id
  rw [htk] at hrow
  have Htk := Lib.hid htk
  clear htk
  go_wp2_with fail
  refine (join_any _ 1 1 [bs.take k] (bs.take k) _ rfl (by simp) hrow (by rw [Htk.out]; omega) (by simp)).mono ?_
  rw [Htk.out]
  rintro e w1 ⟨A1, c1, rfl, hnew, hbel⟩
  have hbel' : Below w.heap.size w w1 := ((Below.refl _ _).alloc (Nat.le_refl _) _).trans (hbel.mono (by simp))
  have hnew' : New w w1 A1 c1 (bs.take k) := hnew.back (by simp)
  have hb1 := hblk.ext hbel'
  have hr1 := hr.ext hbel'
  have g0 := hb1.cell 0
  simp only [List.getElem?_toArray, List.getElem?_cons_zero] at g0
  have g1 := hb1.free 0
  have hgl := hblk.lt
  have hfin : ∀ v, New w (w1.setCell ⟨g, 0, none⟩ v) A1 c1 (bs.take k) := fun v => by
    have h1 := Own.setCell hnew' (p := ⟨g, 0, none⟩) (fun ad e => by have := (hnew'.2 ad e).1; show ad.block ≠ g; omega) v
    exact h1.mono (fun j hj _ => ⟨hj.1, by simpa [World.setCell] using hj.2⟩)
  clear hrow hnew
  go_wp2
  · have hck : c = k := by assumption
    go_ret
    obtain ⟨q1, q2⟩ := Rdr.cut (B := A) (d := 0) hg hb1 hr1 ha hc hk (.inl hck) (by omega)
    exact ⟨A1, c1, rfl, hfin _, q1, (Only.of_ext hbel').trans q2 (fun _ _ h => h)⟩
  · go_ret
    obtain ⟨q1, q2⟩ := Rdr.cut (d := c - k) hg hb1 hr1 ha hc hk (.inr rfl) (by omega)
    exact ⟨A1, c1, rfl, hfin _, q1, (Only.of_ext hbel').trans q2 (fun _ _ h => h)⟩
theorem rraw_none (fp : Nat → Prop) (g : Nat) (bs : List UInt8) (v : Int) (w : World) (h : Rdr w fp g bs false) (_ : isInt v) (hk : v < 0 ∨ (bs.length : Int) < v) (hb : bs.length ≤ 1099511627776) :
    Calls Try.prog 99 #[.pointer (some ⟨g, 0, none⟩), .int .i64 v] w fun e w' => e = .returned (.slice none 0 0) ∧ Rdr w' fp g [] true ∧ Only (fun k => k = g) w w' := by
  have h' := h
  obtain ⟨hg, _, A, c, hblk, hr, ha, hc⟩ := h
  have h0 := hblk.cell 0
  simp only [List.getElem?_toArray, List.getElem?_cons_zero] at h0
  rcases hk with hk | hk
  · go_enter Try.func99, Try.ntmps99
    go_wp2_with fail
    refine (rgood fp g bs false _ h').mono ?_
    rintro e w' ⟨rfl, rfl⟩
    go_wp2_with fail
    refine (rbad fp g bs false _ h').mono ?_
    rintro e w2 ⟨rfl, hrd, ho⟩
    go_wp2
    go_ret
    exact ⟨rfl, hrd, ho⟩
  · have hk2 : ¬ v < 0 := by omega
    have hk3 : decide (v < 0) = false := decide_eq_false hk2
    go_enter Try.func99, Try.ntmps99
    go_wp2_with fail
    refine (rgood fp g bs false _ h').mono ?_
    rintro e w' ⟨rfl, rfl⟩
    go_wp2_with fail
    refine (rbad fp g bs false _ h').mono ?_
    rintro e w2 ⟨rfl, hrd, ho⟩
    go_wp2
    go_ret
    exact ⟨rfl, hrd, ho⟩
theorem rraw_dead (fp : Nat → Prop) (g : Nat) (bs : List UInt8) (v : Int) (w : World) (h : Rdr w fp g bs true) :
    Calls Try.prog 99 #[.pointer (some ⟨g, 0, none⟩), .int .i64 v] w fun e w' => e = .returned (.slice none 0 0) ∧ w = w' := by
  go_enter Try.func99, Try.ntmps99
  go_wp2_with fail
  refine (rgood fp g bs true _ h).mono ?_
  rintro e w' ⟨rfl, rfl⟩
  go_wp2
  go_ret
  exact ⟨rfl, rfl⟩
end Go.Proofs.Ytdghbdiapkelnaa

/-
  The contracts of octet's NewReader, firstNum and Reader. No statement of the seat is proved here.
-/
namespace Go.Proofs.Ytdghbdiapkelnaa
open Go Go.RowKit

theorem i64_or_nat (a b : Nat) (ha : a < 9223372036854775808) (hb : b < 9223372036854775808) : bits .or .i64 (a : Int) (b : Int) = ((a ||| b : Nat) : Int) := by
  have hx : a ||| b < 2 ^ 63 := Nat.or_lt_two_pow (by omega) (by omega)
  show IntKind.i64.wrap ((BitVec.ofInt 64 (a : Int) ||| BitVec.ofInt 64 (b : Int)).toNat : Int) = _
  rw [BitVec.toNat_or, ofInt_u64 a (by omega), ofInt_u64 b (by omega), IntKind.wrap_i64]
  omega

/-- one byte more of a number, in the walk's own words -/
theorem num_step (b : UInt8) (k N : Nat) (hk : k ≤ 8) (hN : N < 128 ^ k) : ∃ m s N' : Nat, (m : Int) ≤ 127 ∧ bits .and .u8 (b.toNat : Int) 127 = (m : Int) ∧ wrap64 ((m : Int) * 2 ^ (7 * k)) = (s : Int) ∧ bits .or .i64 (N : Int) (s : Int) = (N' : Int) ∧
    N' = N + b.toNat % 128 * 128 ^ k ∧ N' < 128 ^ (k + 1) ∧ (N' : Int) ≤ 9223372036854775807 := by
  have hb := b.toNat_lt
  have h1 := u8_and_nat b.toNat 127 (by omega) (by omega)
  rw [nat_mask7] at h1
  have e : (128 : Nat) ^ k = 2 ^ (7 * k) := by rw [show (128 : Nat) = 2 ^ 7 from rfl, ← Nat.pow_mul]
  have hm : b.toNat % 128 * 128 ^ k ≤ 127 * 128 ^ k := Nat.mul_le_mul_right _ (by omega)
  have hp : 128 ^ (k + 1) = 128 * 128 ^ k := by rw [Nat.pow_succ, Nat.mul_comm]
  have hk9 : 128 ^ (k + 1) ≤ 128 ^ 9 := Nat.pow_le_pow_right (by omega) (by omega)
  have h9 : (128 : Nat) ^ 9 = 9223372036854775808 := rfl
  have hlt : N + b.toNat % 128 * 128 ^ k < 128 ^ (k + 1) := by omega
  refine ⟨b.toNat % 128, b.toNat % 128 * 128 ^ k, N + b.toNat % 128 * 128 ^ k, by omega, h1, ?_, ?_, rfl, hlt, by omega⟩
  · have e2 : ((b.toNat % 128 : Nat) : Int) * 2 ^ (7 * k) = ((b.toNat % 128 * 128 ^ k : Nat) : Int) := by
      rw [e, Int.natCast_mul, Int.natCast_pow]; rfl
    rw [e2, IntWalk.wrap64_in _ ⟨by omega, by omega⟩]
  · rw [i64_or_nat N _ (by omega) (by omega), Nat.or_comm, nat_join (7 * k) _ N (by rw [e]; exact Nat.mul_mod_left _ _) (by rw [← e]; exact hN), Nat.add_comm]

theorem scan_more (i n : Nat) (c : UInt8) (r : List UInt8) (hi : i ≤ 8) (h : 127 < c.toNat) : scan i n (c :: r) = scan (i + 1) (n + c.toNat % 128 * 128 ^ i) r := by rw [scan, if_neg (by omega), if_pos h]
theorem scan_bad (i n : Nat) (c : UInt8) (r : List UInt8) (hi : i ≤ 8) (h : ¬ 127 < c.toNat) (hb : 4611686018427387904 < n + c.toNat % 128 * 128 ^ i ∨ (0 < i ∧ c.toNat = 0)) : scan i n (c :: r) = none := by rw [scan, if_neg (by omega), if_neg h, if_pos hb]
theorem scan_good (i n : Nat) (c : UInt8) (r : List UInt8) (hi : i ≤ 8) (h : ¬ 127 < c.toNat) (hb : ¬ (4611686018427387904 < n + c.toNat % 128 * 128 ^ i ∨ (0 < i ∧ c.toNat = 0))) : scan i n (c :: r) = some (n + c.toNat % 128 * 128 ^ i, i + 1) := by rw [scan, if_neg (by omega), if_neg h, if_neg hb]
theorem scan_nine (n : Nat) (xs : List UInt8) : scan 9 n xs = none := by cases xs <;> simp [scan]

set_option maxRecDepth 100000 in
set_option maxHeartbeats 4000000 in
theorem first_any (A : Option Addr) (n c : Nat) (xs : List UInt8) (R : Option (Nat × Nat)) (w : World) (hn : n = xs.length) (hc : xs.length ≤ c) (hr : Rd w A (xs.map bv)) (hR : num? xs = R) (hb : xs.length ≤ 1099511627776) :
    Calls Try.prog 94 #[.slice A n c] w fun e w' => e = .returned (.tuple #[.int .i64 (resN R : Int), .int .i64 (resK R : Int)]) ∧ w = w' := by
  subst hn
  have HR := Lib.hid hR
  clear hR
  by_cases hlen : xs.length ≤ 9
  · go_enter Try.func94, Try.ntmps94
    go_wp2
    go_loop [2, 12] (fun s i => ∃ k N : Nat, k ≤ xs.length ∧ i = .int .i64 (k : Int) ∧ s = .int .i64 (N : Int) ∧ N < 128 ^ k ∧ scan k N (xs.drop k) = R) (fun _ i => xs.length - (intOf i).toNat)
    case atStart => exact ⟨0, 0, Nat.zero_le _, rfl, rfl, by simp, HR.out⟩
    case round =>
      obtain ⟨k, N, hk, rfl, rfl, hN, hs⟩ := hrel
      have Hs := Lib.hid hs
      have HN := Lib.hid hN
      clear hs hN
      by_cases hlt : k < xs.length
      · have hlt' : k < xs.length := by omega
        obtain ⟨ad, rfl, hc1⟩ := hr.at_ (k := k) (by simpa using hlt')
        simp only [List.getElem_map, bv] at hc1
        have hk8 : k ≤ 8 := by omega
        obtain ⟨m1, s1, N1, lm, e1, e2, e3, hN1, hN2, lN⟩ := num_step xs[k] k N hk8 HN.out
        have hd := List.drop_eq_getElem_cons hlt'
        have Hd : Hid (scan k N (xs[k] :: xs.drop (k + 1)) = R) := by rw [← hd]; exact Hs.out
        have HN1 := Lib.hid hN1
        have HN2 := Lib.hid hN2
        clear hd hN1 hN2
        generalize xs[k] = b at *
        by_cases hb1 : 127 < b.toNat
        · have hb2 : (127 : Int) < (b.toNat : Int) := by omega
          go_wp2
          go_round
          case rel => exact ⟨k + 1, N1, by omega, by go_num, rfl, HN2.out, by rw [HN1.out, ← scan_more k N b _ hk8 hb1]; exact Hd.out⟩
          case measure => simp [intOf]; omega
        · have hb2 : (b.toNat : Int) ≤ 127 := by omega
          have hbn : decide ((127 : Int) < (b.toNat : Int)) = false := decide_eq_false (by omega)
          by_cases g1 : 4611686018427387904 < N1
          · have hRn := scan_bad k N b (xs.drop (k + 1)) hk8 hb1 (.inl (by rw [← HN1.out]; exact g1))
            rw [Hd.out] at hRn
            have HRn := Lib.hid hRn
            have g2 : (4611686018427387904 : Int) < (N1 : Int) := by omega
            clear hRn
            go_wp2
            go_ret2
            exact ⟨by rw [HRn.out]; rfl, rfl⟩
          · have g2 : (N1 : Int) ≤ 4611686018427387904 := by omega
            have g2n : decide ((4611686018427387904 : Int) < (N1 : Int)) = false := decide_eq_false (by omega)
            by_cases g3 : 0 < k ∧ b.toNat = 0
            · have hRn := scan_bad k N b (xs.drop (k + 1)) hk8 hb1 (.inr g3)
              rw [Hd.out] at hRn
              have HRn := Lib.hid hRn
              have g4 : (0 : Int) < (k : Int) := by omega
              have g4n : decide ((0 : Int) < (k : Int)) = true := decide_eq_true g4
              have g5 : ((b.toNat : Int) == 0) = true := beq_iff_eq.2 (by omega)
              clear hRn g3
              go_wp2
              go_ret2
              exact ⟨by rw [HRn.out]; rfl, rfl⟩
            · have hRs := scan_good k N b (xs.drop (k + 1)) hk8 hb1 (by rw [← HN1.out]; intro h; rcases h with h | h; exact g1 h; exact g3 h)
              rw [Hd.out, ← HN1.out] at hRs
              have HRs := Lib.hid hRs
              by_cases g4 : 0 < k
              · have g4i : (0 : Int) < (k : Int) := by omega
                have g4n : decide ((0 : Int) < (k : Int)) = true := decide_eq_true g4i
                have g5 : ((b.toNat : Int) == 0) = false := beq_eq_false_iff_ne.2 (by omega)
                clear hRs g3
                go_wp2
                go_ret2
                exact ⟨by rw [HRs.out]; rfl, rfl⟩
              · have g4n : decide ((0 : Int) < (k : Int)) = false := decide_eq_false (by omega)
                clear hRs g3
                go_wp2
                go_ret2
                exact ⟨by rw [HRs.out]; rfl, rfl⟩
      · obtain rfl : k = xs.length := by omega
        have hRn : R = none := by
          rw [← Hs.out]; rw [List.drop_length]; rfl
        have HRn := Lib.hid hRn
        clear hRn
        go_wp2
        go_ret2
        exact ⟨by rw [HRn.out]; rfl, rfl⟩
  · go_enter Try.func94, Try.ntmps94
    go_wp2
    go_loop [2, 12] (fun s i => ∃ k N : Nat, k ≤ 9 ∧ i = .int .i64 (k : Int) ∧ s = .int .i64 (N : Int) ∧ N < 128 ^ k ∧ scan k N (xs.drop k) = R) (fun _ i => 9 - (intOf i).toNat)
    case atStart => exact ⟨0, 0, Nat.zero_le _, rfl, rfl, by simp, HR.out⟩
    case round =>
      obtain ⟨k, N, hk, rfl, rfl, hN, hs⟩ := hrel
      have Hs := Lib.hid hs
      have HN := Lib.hid hN
      clear hs hN
      by_cases hlt : k < 9
      · have hlt' : k < xs.length := by omega
        obtain ⟨ad, rfl, hc1⟩ := hr.at_ (k := k) (by simpa using hlt')
        simp only [List.getElem_map, bv] at hc1
        have hk8 : k ≤ 8 := by omega
        obtain ⟨m1, s1, N1, lm, e1, e2, e3, hN1, hN2, lN⟩ := num_step xs[k] k N hk8 HN.out
        have hd := List.drop_eq_getElem_cons hlt'
        have Hd : Hid (scan k N (xs[k] :: xs.drop (k + 1)) = R) := by rw [← hd]; exact Hs.out
        have HN1 := Lib.hid hN1
        have HN2 := Lib.hid hN2
        clear hd hN1 hN2
        generalize xs[k] = b at *
        by_cases hb1 : 127 < b.toNat
        · have hb2 : (127 : Int) < (b.toNat : Int) := by omega
          go_wp2
          go_round
          case rel => exact ⟨k + 1, N1, by omega, by go_num, rfl, HN2.out, by rw [HN1.out, ← scan_more k N b _ hk8 hb1]; exact Hd.out⟩
          case measure => simp [intOf]; omega
        · have hb2 : (b.toNat : Int) ≤ 127 := by omega
          have hbn : decide ((127 : Int) < (b.toNat : Int)) = false := decide_eq_false (by omega)
          by_cases g1 : 4611686018427387904 < N1
          · have hRn := scan_bad k N b (xs.drop (k + 1)) hk8 hb1 (.inl (by rw [← HN1.out]; exact g1))
            rw [Hd.out] at hRn
            have HRn := Lib.hid hRn
            have g2 : (4611686018427387904 : Int) < (N1 : Int) := by omega
            clear hRn
            go_wp2
            go_ret2
            exact ⟨by rw [HRn.out]; rfl, rfl⟩
          · have g2 : (N1 : Int) ≤ 4611686018427387904 := by omega
            have g2n : decide ((4611686018427387904 : Int) < (N1 : Int)) = false := decide_eq_false (by omega)
            by_cases g3 : 0 < k ∧ b.toNat = 0
            · have hRn := scan_bad k N b (xs.drop (k + 1)) hk8 hb1 (.inr g3)
              rw [Hd.out] at hRn
              have HRn := Lib.hid hRn
              have g4 : (0 : Int) < (k : Int) := by omega
              have g4n : decide ((0 : Int) < (k : Int)) = true := decide_eq_true g4
              have g5 : ((b.toNat : Int) == 0) = true := beq_iff_eq.2 (by omega)
              clear hRn g3
              go_wp2
              go_ret2
              exact ⟨by rw [HRn.out]; rfl, rfl⟩
            · have hRs := scan_good k N b (xs.drop (k + 1)) hk8 hb1 (by rw [← HN1.out]; intro h; rcases h with h | h; exact g1 h; exact g3 h)
              rw [Hd.out, ← HN1.out] at hRs
              have HRs := Lib.hid hRs
              by_cases g4 : 0 < k
              · have g4i : (0 : Int) < (k : Int) := by omega
                have g4n : decide ((0 : Int) < (k : Int)) = true := decide_eq_true g4i
                have g5 : ((b.toNat : Int) == 0) = false := beq_eq_false_iff_ne.2 (by omega)
                clear hRs g3
                go_wp2
                go_ret2
                exact ⟨by rw [HRs.out]; rfl, rfl⟩
              · have g4n : decide ((0 : Int) < (k : Int)) = false := decide_eq_false (by omega)
                clear hRs g3
                go_wp2
                go_ret2
                exact ⟨by rw [HRs.out]; rfl, rfl⟩
      · obtain rfl : k = 9 := by omega
        have hRn : R = none := by
          rw [← Hs.out]; exact scan_nine _ _
        have HRn := Lib.hid hRn
        clear hRn
        go_wp2
        go_ret2
        exact ⟨by rw [HRn.out]; rfl, rfl⟩
end Go.Proofs.Ytdghbdiapkelnaa

/-
  The contract of octet's (*Writer).num. No statement of the seat is proved here.
-/
namespace Go.Proofs.Ytdghbdiapkelnaa
open Go Go.RowKit

theorem low_digit (n : Nat) (_ : ¬ n < 128) : Value.int .u8 (bits .or .u8 (bits .and .i64 (n : Int) 127 % 256) 128) = bv (n % 128 + 128).toUInt8 := by
  have h1 : bits .and .i64 (n : Int) 127 % 256 = ((n % 128 : Nat) : Int) := by rw [i64_and127]; omega
  have h2 : bits .or .u8 ((n % 128 : Nat) : Int) ((128 : Nat) : Int) = ((n % 128 ||| 128 : Nat) : Int) := u8_or_nat _ _ (by omega) (by omega)
  have h3 : n % 128 ||| 128 = n % 128 + 128 := by rw [Nat.or_comm, nat_join 7 128 (n % 128) rfl (by omega), Nat.add_comm]
  rw [h1]
  rw [show (128 : Int) = ((128 : Nat) : Int) from rfl, h2, h3]
  unfold bv
  rw [show (n % 128 + 128).toUInt8.toNat = n % 128 + 128 by simp [Nat.toUInt8, UInt8.toNat_ofNat']; omega]
theorem last_digit (n : Nat) (h : n < 128) : Value.int .u8 (n : Int) = bv n.toUInt8 := by
  unfold bv
  rw [show n.toUInt8.toNat = n by simp [Nat.toUInt8, UInt8.toNat_ofNat']; omega]

/-- the relation of num's loop -/
def NumRel (fp : Nat → Prop) (g : Nat) (N : Nat) (xs : List Value) (w : World) (n : Nat) (w1 : World) : Prop :=
  n ≤ 4611686018427387904 ∧ ∃ ds : List UInt8, ds ++ dig n = dig N ∧ Wr w1 (More fp w w1) g (xs ++ ds.map bv) ∧ Only fp w w1

theorem NumRel.put {fp : Nat → Prop} {g N : Nat} {xs : List Value} {w w1 w2 : World} {n : Nat} {ds : List UInt8} {d : UInt8} {o : Obj} (hn : n ≤ 4611686018427387904) (he : ds ++ dig n = dig N) (ho : Only fp w w1) (hd : dig n = d :: dig (n / 128))
    (h1 : Wr w2 (More (More fp w w1) (w1.alloc o) w2) g ((xs ++ ds.map bv) ++ [bv d])) (h2 : Only (More fp w w1) (w1.alloc o) w2) : NumRel fp g N xs w (n / 128) w2 := by
  refine ⟨by omega, ds ++ [d], by rw [List.append_assoc, List.singleton_append, ← hd, he], ?_, ?_⟩
  · have e : xs ++ (ds ++ [d]).map bv = (xs ++ ds.map bv) ++ [bv d] := by simp
    rw [e]
    refine h1.mono (fun k hk _ => ?_)
    rcases hk with (hk | hk) | hk
    · exact .inl hk
    · exact .inr ⟨hk.1, by have := h2.size; simp at this; omega⟩
    · exact .inr ⟨by have := ho.size; have := hk.1; simp at this; omega, hk.2⟩
  · exact (ho.alloc o).trans h2 (fun k hk hm => by
      rcases hm with hm | hm
      · exact hm
      · omega)

theorem NumRel.end_ {fp : Nat → Prop} {g N : Nat} {xs : List Value} {w w1 w2 : World} {n : Nat} {ds : List UInt8} {o : Obj} (he : ds ++ dig n = dig N) (ho : Only fp w w1) (hn : n < 128)
    (h1 : Wr w2 (More (More fp w w1) (w1.alloc o) w2) g ((xs ++ ds.map bv) ++ [bv n.toUInt8])) (h2 : Only (More fp w w1) (w1.alloc o) w2) :
    Wr w2 (More fp w w2) g (xs ++ (dig N).map bv) ∧ Only fp w w2 := by
  have e : xs ++ (dig N).map bv = (xs ++ ds.map bv) ++ [bv n.toUInt8] := by rw [← he, dig_lt hn]; simp
  refine ⟨?_, ?_⟩
  · rw [e]
    refine h1.mono (fun k hk _ => ?_)
    rcases hk with (hk | hk) | hk
    · exact .inl hk
    · exact .inr ⟨hk.1, by have := h2.size; simp at this; omega⟩
    · exact .inr ⟨by have := ho.size; have := hk.1; simp at this; omega, hk.2⟩
  · exact (ho.alloc o).trans h2 (fun k hk hm => by
      rcases hm with hm | hm
      · exact hm
      · omega)

theorem NumRel.len {n : Nat} {v : Int} {ds : List UInt8} (he : ds ++ dig n = dig (clamp v)) : (ds.map bv).length ≤ 8 := by
  have h1 := dig_clamp_len v
  have h2 := dig_pos n
  rw [← he, List.length_append] at h1
  rw [List.length_map]
  omega

set_option maxHeartbeats 1000000 in
theorem num_any (fp : Nat → Prop) (g : Nat) (v : Int) (xs : List Value) (w : World) (hw : Wr w fp g xs) (hv1 : -9223372036854775808 ≤ v) (hv2 : v ≤ 9223372036854775807) (hb : xs.length ≤ 549755813888) :
    Calls Try.prog 75 #[.pointer (some ⟨g, 0, none⟩), .int .i64 v] w fun e w' => e = .returned (.tuple #[]) ∧ Wr w' (More fp w w') g (xs ++ (dig (clamp v)).map bv) ∧ Only fp w w' := by
  have hcase : v < 0 ∨ (0 ≤ v ∧ v ≤ 4611686018427387904) ∨ 4611686018427387904 < v := by omega
  rcases hcase with ha | ⟨ha, hc⟩ | ha
  all_goals
    go_enter Try.func75, Try.ntmps75
    go_wp2
    go_loopw [4] (fun r w1 => ∃ n : Nat, r = .int .i64 (n : Int) ∧ NumRel fp g (clamp v) xs w n w1) (fun r _ => (intOf r).toNat)
    case atStart => exact ⟨clamp v, congrArg (Value.int .i64) (by unfold clamp; omega), clamp_le v, [], rfl, by simpa using hw.mono (fun k hk _ => .inl hk), Only.refl _ _⟩
    case round =>
      obtain ⟨n, rfl, hn, ds, he, hw1, ho⟩ := hrel
      have hl := NumRel.len he
      have He := Lib.hid he
      clear he
      by_cases hlt : n < 128
      · go_wp2_with fail
        rw [last_digit n hlt]
        refine (raw_any _ g _ 1 1 (xs ++ ds.map bv) [bv n.toUInt8] _ (hw1.alloc _) rfl (Rd.lit _ _ _) (by simp [bv_one]) (by simp at hl ⊢; omega)).mono ?_
        rintro e w2 ⟨rfl, h1, h2⟩
        go_wp2
        go_end0
        exact ⟨rfl, NumRel.end_ He.out ho hlt h1 h2⟩
      · go_wp2_with fail
        rw [low_digit n hlt]
        refine (raw_any _ g _ 1 1 (xs ++ ds.map bv) [bv (n % 128 + 128).toUInt8] _ (hw1.alloc _) rfl (Rd.lit _ _ _) (by simp [bv_one]) (by simp at hl ⊢; omega)).mono ?_
        rintro e w2 ⟨rfl, h1, h2⟩
        go_wp2
        go_roundw
        case rel => exact ⟨n / 128, by go_num, NumRel.put hn He.out ho (dig_ge hlt) h1 h2⟩
        case measure => simp [intOf]; omega
end Go.Proofs.Ytdghbdiapkelnaa

/-
  The contracts of octet's (*Writer).Nums, Bytes, Out. No statement of the seat is proved here.
-/
namespace Go.Proofs.Ytdghbdiapkelnaa
open Go Go.RowKit

/-- numbers as bytes -/
def numsB (vs : List Int) : List UInt8 := vs.flatMap fun v => dig (clamp v)
def numsTo (vs : List Int) (k : Nat) : List UInt8 := numsB (vs.take k)
theorem numsTo_succ (vs : List Int) (k : Nat) (h : k < vs.length) : numsTo vs (k + 1) = numsTo vs k ++ dig (clamp vs[k]) := by
  unfold numsTo numsB
  rw [List.take_succ_eq_append_getElem h, List.flatMap_append]; simp
theorem numsTo_all (vs : List Int) : numsTo vs vs.length = numsB vs := by unfold numsTo; rw [List.take_length]
theorem numsTo_len (vs : List Int) : ∀ k, (numsTo vs k).length ≤ 9 * k
  | 0 => by simp [numsTo, numsB]
  | k + 1 => by
    have ih := numsTo_len vs k
    by_cases h : k < vs.length
    · rw [numsTo_succ vs k h, List.length_append]
      have := dig_clamp_len vs[k]
      omega
    · have e : numsTo vs (k + 1) = numsTo vs k := by unfold numsTo; rw [List.take_of_length_le (by omega), List.take_of_length_le (by omega)]
      rw [e]; omega

set_option maxHeartbeats 1000000 in
theorem nums_any (fp : Nat → Prop) (g : Nat) (A : Option Addr) (n c : Nat) (vs : List Int) (xs : List Value) (w : World) (hw : Wr w fp g xs) (hn : n = vs.length) (hr : RdF fp w A (vs.map iv)) (hi : ∀ v ∈ vs, isInt v)
    (hb : xs.length + 9 * vs.length ≤ 549755813888) :
    Calls Try.prog 46 #[.pointer (some ⟨g, 0, none⟩), .slice A n c] w fun e w' => e = .returned (.tuple #[]) ∧ Wr w' (More fp w w') g (xs ++ (numsB vs).map bv) ∧ Only fp w w' := by
  subst hn
  go_enter Try.func46, Try.ntmps46
  go_wp2
  go_loopw [8] (fun i w1 => ∃ k : Nat, k ≤ vs.length ∧ i = .int .i64 (k : Int) ∧ Wr w1 (More fp w w1) g (xs ++ (numsTo vs k).map bv) ∧ Only fp w w1) (fun i _ => vs.length - (intOf i).toNat)
  case atStart => exact ⟨0, Nat.zero_le _, rfl, by simpa [numsTo, numsB] using hw.mono (fun k hk _ => .inl hk), Only.refl _ _⟩
  case round =>
    obtain ⟨k, hk, rfl, hw1, ho⟩ := hrel
    by_cases hlt : k < vs.length
    · obtain ⟨ad, rfl, hc⟩ := (hr.only ho).1.at_ (k := k) (by simpa using hlt)
      simp only [List.getElem_map, iv] at hc
      have hik := hi vs[k] (List.getElem_mem hlt)
      have hlen := numsTo_len vs k
      have hs := Lib.hid (numsTo_succ vs k hlt)
      go_wp2_with fail
      refine (num_any _ g _ _ _ hw1 hik.1 hik.2 (by simp at hlen ⊢; omega)).mono ?_
      rintro e w2 ⟨rfl, h1, h2⟩
      go_wp2
      go_roundw
      case rel => exact ⟨k + 1, by omega, by go_num, by rw [hs.out, List.map_append, ← List.append_assoc]; exact Wr.join ho.size (Nat.le_refl _) h2.size h1, ho.join h2⟩
      case measure => simp [intOf]; omega
    · obtain rfl : k = vs.length := by omega
      rw [numsTo_all] at hw1
      go_wp2
      go_end0
      exact ⟨rfl, hw1, ho⟩

/-- rows as bytes, each with its length -/
def rowsB (xss : List (List UInt8)) : List UInt8 := xss.flatMap fun xs => dig xs.length ++ xs
def rowsTo (xss : List (List UInt8)) (k : Nat) : List UInt8 := rowsB (xss.take k)
theorem rowsTo_succ (xss : List (List UInt8)) (k : Nat) (h : k < xss.length) : rowsTo xss (k + 1) = rowsTo xss k ++ dig xss[k].length ++ xss[k] := by
  unfold rowsTo rowsB
  rw [List.take_succ_eq_append_getElem h, List.flatMap_append]; simp
theorem rowsTo_all (xss : List (List UInt8)) : rowsTo xss xss.length = rowsB xss := by unfold rowsTo; rw [List.take_length]
theorem rowsTo_le (xss : List (List UInt8)) (k : Nat) : (rowsTo xss k).length ≤ (rowsB xss).length := by
  have h : rowsB xss = rowsTo xss k ++ rowsB (xss.drop k) := by unfold rowsTo rowsB; rw [← List.flatMap_append, List.take_append_drop]
  rw [h, List.length_append]; omega

set_option maxHeartbeats 1000000 in
theorem bytes_any (fp : Nat → Prop) (g : Nat) (A : Option Addr) (n c : Nat) (xss : List (List UInt8)) (xs : List Value) (w : World) (hw : Wr w fp g xs) (hn : n = xss.length) (hr : RowsF fp w A xss)
    (hb : xs.length + (rowsB xss).length ≤ 549755813888) (hb2 : xss.length ≤ 549755813888) :
    Calls Try.prog 48 #[.pointer (some ⟨g, 0, none⟩), .slice A n c] w fun e w' => e = .returned (.tuple #[]) ∧ Wr w' (More fp w w') g (xs ++ (rowsB xss).map bv) ∧ Only fp w w' := by
  subst hn
  go_enter Try.func48, Try.ntmps48
  go_wp2
  go_loopw [8] (fun i w1 => ∃ k : Nat, k ≤ xss.length ∧ i = .int .i64 (k : Int) ∧ Wr w1 (More fp w w1) g (xs ++ (rowsTo xss k).map bv) ∧ Only fp w w1) (fun i _ => xss.length - (intOf i).toNat)
  case atStart => exact ⟨0, Nat.zero_le _, rfl, by simpa [rowsTo, rowsB] using hw.mono (fun k hk _ => .inl hk), Only.refl _ _⟩
  case round =>
    obtain ⟨k, hk, rfl, hw1, ho⟩ := hrel
    by_cases hlt : k < xss.length
    · obtain ⟨ad, B, cb, rfl, hcell, hl, hrd⟩ := (hr.more ho).at_ hlt
      have hlen := rowsTo_le xss (k + 1)
      rw [rowsTo_succ xss k hlt] at hlen
      simp only [List.length_append] at hlen
      have hs := Lib.hid (rowsTo_succ xss k hlt)
      have hcl := Lib.hid (clamp_of_nat (n := xss[k].length) (by omega))
      go_wp2_with fail
      refine (num_any _ g _ _ _ hw1 (by omega) (by omega) (by simp; omega)).mono ?_
      rintro e w2 ⟨rfl, h1, h2⟩
      rw [hcl.out] at h1
      have h1' := Wr.join ho.size (Nat.le_refl _) h2.size h1
      have ho2 := ho.join h2
      go_wp2_with fail
      refine (raw_any _ g B _ cb _ (xss[k].map bv) _ h1' (by simp) (hrd.only h2).1 (bvs_one _) (by simp; omega)).mono ?_
      rintro e w3 ⟨rfl, h3, h4⟩
      go_wp2
      go_roundw
      case rel => exact ⟨k + 1, by omega, by go_num, by rw [hs.out, List.map_append, List.map_append, ← List.append_assoc, ← List.append_assoc]; exact Wr.join ho2.size (Nat.le_refl _) h4.size h3, ho2.join h4⟩
      case measure => simp [intOf]; omega
    · obtain rfl : k = xss.length := by omega
      rw [rowsTo_all] at hw1
      go_wp2
      go_end0
      exact ⟨rfl, hw1, ho⟩

set_option maxHeartbeats 1000000 in
theorem out_any (fp : Nat → Prop) (g : Nat) (bs : List UInt8) (w : World) (hw : Wr w fp g (bs.map bv)) (hb : bs.length ≤ 1099511627776) :
    Calls Try.prog 49 #[.pointer (some ⟨g, 0, none⟩)] w fun e w' => ∃ A' c', e = .returned (.slice A' bs.length c') ∧ New w w' A' c' bs ∧ Below w.heap.size w w' := by
  obtain ⟨hg, A, c, hblk, hown⟩ := hw
  have h0 := hblk.cell 0
  simp only [List.getElem?_toArray, List.getElem?_cons_zero, List.length_map] at h0
  have hcap := hown.cap
  rw [List.length_map] at hcap
  go_enter Try.func49, Try.ntmps49
  go_wp2_with fail
  refine (join_any _ 1 1 [bs] bs _ rfl (by simp) (RowsF.one (RdF.of hown.rd) hcap _ rfl id) hb (by simp)).mono ?_
  rintro e w' ⟨A', c', rfl, hnew, hbel⟩
  go_wp2
  go_ret
  exact ⟨A', c', rfl, hnew.back (by simp), ((Below.refl _ _).alloc (Nat.le_refl _) _).trans (hbel.mono (by simp))⟩
end Go.Proofs.Ytdghbdiapkelnaa

/-
  The contracts of a Reader's Left, Whole, Num. No statement of the seat is proved here.
-/
namespace Go.Proofs.Ytdghbdiapkelnaa
open Go Go.RowKit

set_option maxHeartbeats 1000000 in
/-- Num, where a number stands, or none, or behind an error -/
theorem rnum_ok (fp : Nat → Prop) (g : Nat) (bs : List UInt8) (n k : Nat) (w : World) (h : Rdr w fp g bs false) (hs : num? bs = some (n, k)) (hk0 : 0 < k) (hk : k ≤ bs.length) (hb : bs.length ≤ 1099511627776) :
    Calls Try.prog 78 #[.pointer (some ⟨g, 0, none⟩)] w fun e w' => e = .returned (.int .i64 (n : Int)) ∧ Rdr w' fp g (bs.drop k) false ∧ Only (fun k => k = g) w w' := by
  have h' := h
  obtain ⟨hg, _, A, c, hblk, hr, ha, hc⟩ := h
  have h0 := hblk.cell 0
  have h1 := hblk.cell 1
  simp only [List.getElem?_toArray, List.getElem?_cons_zero, List.getElem?_cons_succ] at h0 h1
  have f0 := hblk.free 0
  have k1 : ((k : Int) == 0) = false := beq_eq_false_iff_ne.2 (by omega)
  have Hs := Lib.hid hs
  clear hs
  go_enter Try.func78, Try.ntmps78
  go_wp2_with fail
  refine (rgood fp g bs false _ h').mono ?_
  rintro e w' ⟨rfl, rfl⟩
  go_wp2_with fail
  refine (first_any A _ c bs (some (n, k)) _ rfl hc hr Hs.out hb).mono ?_
  rintro e w' ⟨rfl, rfl⟩
  rw [show resN (some (n, k)) = n from rfl, show resK (some (n, k)) = k from rfl]
  go_wp2
  · have hck : c = k := by assumption
    go_ret
    exact ⟨rfl, Rdr.cut hg hblk hr ha hc hk (.inl hck) (by omega)⟩
  · go_ret
    exact ⟨rfl, Rdr.cut hg hblk hr ha hc hk (.inr rfl) (by omega)⟩

set_option maxHeartbeats 1000000 in
theorem rnum_none (fp : Nat → Prop) (g : Nat) (bs : List UInt8) (w : World) (h : Rdr w fp g bs false) (hs : num? bs = none) (hb : bs.length ≤ 1099511627776) :
    Calls Try.prog 78 #[.pointer (some ⟨g, 0, none⟩)] w fun e w' => e = .returned (.int .i64 0) ∧ Rdr w' fp g [] true ∧ Only (fun k => k = g) w w' := by
  have h' := h
  obtain ⟨hg, _, A, c, hblk, hr, ha, hc⟩ := h
  have h0 := hblk.cell 0
  have h1 := hblk.cell 1
  simp only [List.getElem?_toArray, List.getElem?_cons_zero, List.getElem?_cons_succ] at h0 h1
  have Hs := Lib.hid hs
  clear hs
  go_enter Try.func78, Try.ntmps78
  go_wp2_with fail
  refine (rgood fp g bs false _ h').mono ?_
  rintro e w' ⟨rfl, rfl⟩
  go_wp2_with fail
  refine (first_any A _ c bs none _ rfl hc hr Hs.out hb).mono ?_
  rintro e w' ⟨rfl, rfl⟩
  rw [show resN none = 0 from rfl, show resK none = 0 from rfl]
  go_wp2_with fail
  refine (rbad fp g bs false _ h').mono ?_
  rintro e w2 ⟨rfl, hrd, ho⟩
  go_wp2
  go_ret
  exact ⟨rfl, hrd, ho⟩
theorem rnum_dead (fp : Nat → Prop) (g : Nat) (bs : List UInt8) (w : World) (h : Rdr w fp g bs true) :
    Calls Try.prog 78 #[.pointer (some ⟨g, 0, none⟩)] w fun e w' => e = .returned (.int .i64 0) ∧ w = w' := by
  go_enter Try.func78, Try.ntmps78
  go_wp2_with fail
  refine (rgood fp g bs true _ h).mono ?_
  rintro e w' ⟨rfl, rfl⟩
  go_wp2
  go_ret
  exact ⟨rfl, rfl⟩

end Go.Proofs.Ytdghbdiapkelnaa
