/-
  Texts of this claim, joined (part 6): contracts and lemmas that the last text goes by. No statement of the seat is proved here.
-/
import Derived.Test.YtmggajpecgnjkaaDoorAll4
import Derived.Test.YtmggajpecgnjkaaDoorAll1
import Derived.Test.YtmggajpecgnjkaaDoorAll2
import Derived.Shelf.Small.Strs
import Derived.Ground.NamesProg
import Derived.Test.YtmggajpecgnjkaaDoorProg
set_option linter.unusedVariables false
set_option linter.unusedSimpArgs false
/-
  DERIVED: THE SHELF's CONTRACTS AT THIS DUMP, IN PLAIN WORDS (tools/lay-plain.mjs out of 'YtmggajpecgnjkaaDoorShelfI0.lean', which tools/lay-shelf.mjs wrote): THE SAME DECLARATIONS UNDER THE SAME NAMES: 'import', 'namespace', 'open', 'def', 'theorem' AND NOTHING ELSE: no command of the shelf's: FOR A HAND-IN. Each laying: the table of numbers ('.._ren') and one theorem, a field a fact of the dump's own or the kernel's comparison; each contract: ONE APPLICATION.
-/
namespace Go.Proofs
open Go.Shelf
def Tryd.layIndexByte_ren : Go.Shelf.Ren := ⟨fun | 137 => 116 | 217 => 129 | 266 => 133 | n => n, fun | 9 => 9 | 5 => 5 | 3 => 3 | n => n, fun | n => n⟩
theorem Tryd.layIndexByte : Go.Proofs.Lays.n137 Tryd.prog Tryd.layIndexByte_ren := {
  mixed := by kernel_rfl
  f137 := Tryd.func116.trans (congrArg some (by kernel_rfl))
  f217 := Tryd.func129.trans (congrArg some (by kernel_rfl))
  f266 := Tryd.func133.trans (congrArg some (by kernel_rfl))
  t3 := Tryd.underlying3
  a3 := Tryd.isAgg3
  z3 := Tryd.sizeOf3
  v3 := Tryd.zeroValue3
  t5 := Tryd.underlying5
  a5 := Tryd.isAgg5
  z5 := Tryd.sizeOf5
  v5 := Tryd.zeroValue5
  t9 := Tryd.underlying9
  a9 := Tryd.isAgg9
  z9 := Tryd.sizeOf9
  v9 := Tryd.zeroValue9 }
end Go.Proofs

/-
  Contracts of the program's parser: digit, stroked, oneByte. No statement of the seat is proved here.
-/
namespace Go.Proofs.YtmggajpecgnjkaaDoor
open Go Go.RowKit
set_option maxRecDepth 100000

/-- Behind a method that was to take 'res': if it is taken, it is answered, with true, as 'V' says, and the parser stands behind it; if not, false is answered, with something as 'U' says, and the parser stands at the error. -/
def TookP {α : Type} (w : World) (g : Nat) (s : ByteArray) (res : PR α) (V : α → Value → World → Prop) (U : Value → World → Prop) (e : Ending) (w' : World) : Prop :=
  Only (fun x => x = g) w w' ∧ match res with
    | .ok x rest => ∃ v p, e = .returned (.tuple #[v, .bool true]) ∧ V x v w' ∧ p ≤ s.size ∧ rest = (natsOf s).drop p ∧ PaS w' g s p
    | .bad left => ∃ v, e = .returned (.tuple #[v, .bool false]) ∧ U v w' ∧ left ≤ s.size ∧ PaS w' g s (s.size - left)
section
variable {α : Type} {w w' : World} {g : Nat} {s : ByteArray} {V : α → Value → World → Prop} {U : Value → World → Prop} {v : Value} {p : Nat}
theorem TookP.ok {x : α} {rest : List Nat} (ho : Only (fun x => x = g) w w') (hv : V x v w') (hp : p ≤ s.size) (hr : rest = (natsOf s).drop p) (h : PaS w' g s p) : TookP w g s (.ok x rest) V U (.returned (.tuple #[v, .bool true])) w' :=
  ⟨ho, v, p, rfl, hv, hp, hr, h⟩
theorem TookP.bad {left : Nat} (ho : Only (fun x => x = g) w w') (hv : U v w') (hl : left ≤ s.size) (hp : p = s.size - left) (h : PaS w' g s p) : TookP (α := α) w g s (.bad left) V U (.returned (.tuple #[v, .bool false])) w' :=
  ⟨ho, v, rfl, hv, hl, by rw [← hp]; exact h⟩
end
/-- an answer that is a byte -/
def isB (n : Nat) (v : Value) (_ : World) : Prop := v = .int .u8 (n : Int) ∧ n < 256
def anyB (v : Value) (_ : World) : Prop := ∃ n : Nat, v = .int .u8 (n : Int) ∧ n < 256

/-! ### where a byte stands in a text -/
def sgB : ByteArray := ⟨#[46, 124, 42, 43, 63, 40, 41, 91, 93, 123, 125, 92, 94, 45]⟩
def dgB : ByteArray := ⟨#[48, 49, 50, 51, 52, 53, 54, 55, 56, 57, 97, 98, 99, 100, 101, 102]⟩
def sgI (c : Nat) : Int := Lib.indexByte sgB.data.toList c.toUInt8
theorem sgI_iff : ∀ c : Fin 256, (decide (0 ≤ sgI c.val) = inS c.val) ∧ -1 ≤ sgI c.val ∧ sgI c.val ≤ 255 := by decide +kernel
def halfI (c : Nat) : Int := match halfD c with | none => -1 | some x => (x : Int)
theorem dgI_eq : ∀ c : Fin 256, Lib.indexByte dgB.data.toList c.val.toUInt8 = halfI c.val := by decide +kernel
theorem half_lt {c x : Nat} (h : halfD c = some x) : x < 16 := by
  unfold halfD at h
  repeat' split at h
  all_goals first
    | (injection h with h; omega)
    | cases h
theorem idx_signs (c : Nat) (w : World) : Calls Tryd.prog 116 #[.string ⟨#[46, 124, 42, 43, 63, 40, 41, 91, 93, 123, 125, 92, 94, 45]⟩, .int .u8 (c : Int)] w fun e w' => e = .returned (.int .i64 (sgI c)) ∧ w' = w := by
  have h := Go.Proofs.Any.strings_IndexByte Go.Proofs.Tryd.layIndexByte ⟨#[46, 124, 42, 43, 63, 40, 41, 91, 93, 123, 125, 92, 94, 45]⟩ (c : Int) w
  exact h
theorem idx_digits (c : Nat) (hc : c < 256) (w : World) : Calls Tryd.prog 116 #[.string ⟨#[48, 49, 50, 51, 52, 53, 54, 55, 56, 57, 97, 98, 99, 100, 101, 102]⟩, .int .u8 (c : Int)] w fun e w' => e = .returned (.int .i64 (halfI c)) ∧ w' = w := by
  have h := Go.Proofs.Any.strings_IndexByte Go.Proofs.Tryd.layIndexByte ⟨#[48, 49, 50, 51, 52, 53, 54, 55, 56, 57, 97, 98, 99, 100, 101, 102]⟩ (c : Int) w
  rw [← dgI_eq ⟨c, hc⟩]
  exact h

/-- a call that leaves every world as it was, behind draws -/
theorem calls_drawn {P : Program} {f : FuncId} {args : Array Value} {v : Value} (h : ∀ W, Calls P f args W fun e w' => e = .returned v ∧ w' = W) (w : World) (a n : Nat) :
    Calls P f args (w.drewN (a + n)) fun e w' => e = .returned v ∧ ∃ m, w' = w.drewN (a + m) := (h _).mono fun _ _ ⟨he, hw⟩ => ⟨he, n, hw⟩

/-! ### a digit of sixteen -/
def digP (l : List Nat) : PR Nat :=
  match l with
  | [] => .bad 0
  | a :: l1 => match halfD a with
    | none => .bad (l1.length + 1)
    | some x => .ok x l1
theorem hexP_digP (l : List Nat) : hexP l = (digP l).bind fun x l1 => (digP l1).bind fun y l2 => .ok (16 * x + y) l2 := by
  match l with
  | [] => rfl
  | a :: l1 =>
    simp only [hexP, digP]
    cases halfD a with
    | none => rfl
    | some x =>
      match l1 with
      | [] => rfl
      | b :: l2 =>
        simp only [PR.bind]
        cases halfD b <;> rfl
def zeroB_ (v : Value) (_ : World) : Prop := v = .int .u8 0
def isD (n : Nat) (v : Value) (_ : World) : Prop := v = .int .u8 (n : Int) ∧ n < 16

set_option maxHeartbeats 4000000 in
theorem digit_any (w : World) (g : Nat) (s : ByteArray) (p : Nat) (hs : s.size ≤ 1000000) (hp : p ≤ s.size) (h : PaS w g s p) :
    Calls Tryd.prog 128 #[.pointer (some ⟨g, 0, none⟩)] w (TookP w g s (digP ((natsOf s).drop p)) isD zeroB_) := by
  have hsi : (s.size : Int) ≤ 1000000 := by omega
  have x0 := h.c0
  have x1 := h.c1
  have H := Lib.hid h
  clear h
  rcases Nat.lt_or_ge p s.size with hlt | hge
  case inr =>
    have he : p = s.size := by omega
    subst he
    have HP : Hid (digP ((natsOf s).drop s.size) = .bad 0) := Lib.hid (by rw [nats_end]; rfl)
    go_enter Tryd.func128, Tryd.ntmps128
    go_wp2
    go_quiet (fail)
    go_wp2
    go_ret2
    rw [HP.out]
    exact TookP.bad ((Only.refl (fun x => x = g) w).drewN _) rfl (by omega) (by omega) (H.out.drewN _)
  obtain ⟨c, hc⟩ : ∃ c, (s[p]'hlt).toNat = c := ⟨_, rfl⟩
  have hc256 : c < 256 := by rw [← hc]; exact (s[p]'hlt).toNat_lt
  have hdr : (natsOf s).drop p = c :: (natsOf s).drop (p + 1) := by rw [nats_drop s p hlt, hc]
  have hpi : (p : Int) < (s.size : Int) := by omega
  have hp0 : (0 : Int) ≤ (p : Int) := by omega
  have hpe : ((p : Int) == (s.size : Int)) = false := by rw [beq_eq_false_iff_ne]; omega
  have hpe2 : (p == s.size) = false := by rw [beq_eq_false_iff_ne]; omega
  have hlen := nats_len s (p + 1)
  have HI := Lib.hid fun W => idx_digits c hc256 W
  cases hx : halfD c with
  | none =>
    have hh : halfI c = -1 := by simp only [halfI, hx]
    rw [hh] at HI
    have HP : Hid (digP ((natsOf s).drop p) = .bad (s.size - p)) := Lib.hid (by rw [hdr]; simp only [digP, hx]; congr 1; omega)
    clear hdr hx hh
    go_enter Tryd.func128, Tryd.ntmps128
    go_wp2
    go_quiet (fail)
    go_wp2
    go_quiet ((go_at_call 116; exact calls_drawn HI.out _ _ _))
    go_wp2
    go_ret2
    rw [HP.out]
    exact TookP.bad (p := p) ((Only.refl (fun x => x = g) w).drewN _) rfl (by omega) (by omega) (H.out.drewN _)
  | some x =>
    have hh : halfI c = (x : Int) := by simp only [halfI, hx]
    have hx16 := half_lt hx
    rw [hh] at HI
    have HP : Hid (digP ((natsOf s).drop p) = .ok x ((natsOf s).drop (p + 1))) := Lib.hid (by rw [hdr]; simp only [digP, hx])
    have hxi : (x : Int) < 16 := by omega
    have hx0 : (0 : Int) ≤ (x : Int) := by omega
    have f1 := H.out.f1
    have hw8 : IntKind.u8.wrap (x : Int) = (x : Int) := by rw [IntKind.wrap_u8]; omega
    clear hdr hx hh
    go_enter Tryd.func128, Tryd.ntmps128
    go_wp2
    go_quiet (fail)
    go_wp2
    go_quiet ((go_at_call 116; exact calls_drawn HI.out _ _ _))
    go_wp2
    go_ret2
    rw [HP.out]
    exact TookP.ok (p := p + 1) (((Only.refl (fun x => x = g) w).drewN _).setCell (p := ⟨g, 1, none⟩) (.inl rfl) _) ⟨rfl, by omega⟩ (by omega) rfl ((H.out.drewN _).set1 (p + 1))

/-! ### a sign taken, or not -/
set_option maxHeartbeats 1000000 in
theorem take_no (w : World) (g : Nat) (s : ByteArray) (p c : Nat) (hs : s.size ≤ 1000000) (hp : p ≤ s.size) (hn : isNext c ((natsOf s).drop p) = false) (h : PaS w g s p) :
    Calls Tryd.prog 62 #[.pointer (some ⟨g, 0, none⟩), .int .u8 (c : Int)] w fun e w' => e = .returned (.bool false) ∧ ∃ n, w' = w.drewN n := by
  have hst := stands_any w g s p c hs hp h
  rw [hn] at hst
  have Hst := Lib.hid hst
  clear h hst hn
  go_enter Tryd.func62, Tryd.ntmps62
  go_wp2_with fail
  refine Hst.out.mono ?_
  rintro e w2 ⟨rfl, n, rfl⟩
  go_wp2
  go_ret
  exact ⟨rfl, n, rfl⟩
theorem take_yes (w : World) (g : Nat) (s : ByteArray) (p c : Nat) (hs : s.size ≤ 1000000) (hp : p ≤ s.size) (hn : isNext c ((natsOf s).drop p) = true) (h : PaS w g s p) :
    Calls Tryd.prog 62 #[.pointer (some ⟨g, 0, none⟩), .int .u8 (c : Int)] w fun e w' => e = .returned (.bool true) ∧ Only (fun b => b = g) w w' ∧ PaS w' g s (p + 1) :=
  (take_any w g s p c hs hp h).mono fun e w' ⟨h1, h2, h3⟩ => by
    rw [hn] at h1 h3
    exact ⟨h1, h2, by simpa using h3⟩

/-! ### behind a stroke -/
theorem or16 : ∀ x : Fin 16, ∀ y : Fin 16, bits BinOp.or IntKind.u8 ((x.val : Int) * 16) (y.val : Int) = ((16 * x.val + y.val : Nat) : Int) := by decide +kernel
def strokeV (c : Nat) : Bool := c == 110 || c == 116 || c == 114 || c == 120

set_option maxHeartbeats 8000000 in
theorem stroked_any (w : World) (g : Nat) (s : ByteArray) (p : Nat) (hs : s.size ≤ 1000000) (hp : p ≤ s.size) (h : PaS w g s p) :
    Calls Tryd.prog 115 #[.pointer (some ⟨g, 0, none⟩)] w (TookP w g s (strokeP ((natsOf s).drop p)) isB anyB) := by
  have hsi : (s.size : Int) ≤ 1000000 := by omega
  have H := Lib.hid h
  clear h
  have HN : Hid (∀ k : Nat, isNext k ((natsOf s).drop p) = false → ∀ W, PaS W g s p → Calls Tryd.prog 62 #[.pointer (some ⟨g, 0, none⟩), .int .u8 (k : Int)] W fun e w' => e = .returned (.bool false) ∧ ∃ n, w' = W.drewN n) := Lib.hid fun k hk W hW => take_no W g s p k hs hp hk hW
  have HY : Hid (∀ k : Nat, isNext k ((natsOf s).drop p) = true → ∀ W, PaS W g s p → Calls Tryd.prog 62 #[.pointer (some ⟨g, 0, none⟩), .int .u8 (k : Int)] W fun e w' => e = .returned (.bool true) ∧ Only (fun b => b = g) W w' ∧ PaS w' g s (p + 1)) := Lib.hid fun k hk W hW => take_yes W g s p k hs hp hk hW
  rcases Nat.lt_or_ge p s.size with hlt | hge
  case inr =>
    have he : p = s.size := by omega
    subst he
    have hd := nats_end s
    have HE := Lib.hid hd
    clear hd
    have x0 := H.out.c0
    have x1 := H.out.c1
    go_enter Tryd.func115, Tryd.ntmps115
    go_wp2_with fail
    refine (HN.out 110 (by rw [HE.out]; rfl) _ H.out).mono ?_
    rintro e w1 ⟨rfl, n1, rfl⟩
    go_wp2_with fail
    refine (HN.out 116 (by rw [HE.out]; rfl) _ (H.out.drewN _)).mono ?_
    rintro e w1 ⟨rfl, n2, rfl⟩
    go_wp2_with fail
    refine (HN.out 114 (by rw [HE.out]; rfl) _ (H.out.drewN _)).mono ?_
    rintro e w1 ⟨rfl, n3, rfl⟩
    go_wp2_with fail
    refine (HN.out 120 (by rw [HE.out]; rfl) _ (H.out.drewN _)).mono ?_
    rintro e w1 ⟨rfl, n4, rfl⟩
    go_wp2
    go_quiet (fail)
    go_wp2
    go_ret2
    rw [HE.out]
    exact TookP.bad (left := 0) (((Only.refl (fun x => x = g) w).drewN _).drewN _) ⟨0, rfl, by omega⟩ (by omega) (by omega) H.out
  obtain ⟨c, hc⟩ : ∃ c, (s[p]'hlt).toNat = c := ⟨_, rfl⟩
  have hc256 : c < 256 := by rw [← hc]; exact (s[p]'hlt).toNat_lt
  have hdr : (natsOf s).drop p = c :: (natsOf s).drop (p + 1) := by rw [nats_drop s p hlt, hc]
  have hpi : (p : Int) < (s.size : Int) := by omega
  have hp0 : (0 : Int) ≤ (p : Int) := by omega
  have hpe : ((p : Int) == (s.size : Int)) = false := by rw [beq_eq_false_iff_ne]; omega
  have hlen := nats_len s (p + 1)
  have Hx : Hid (∀ k : Nat, isNext k ((natsOf s).drop p) = decide (c = k)) := Lib.hid fun k => by rw [hdr, isNext, List.head?_cons, Bool.eq_iff_iff]; simp
  have Hdr := Lib.hid hdr
  clear hdr
  by_cases h1 : c = 110
  · have HP : Hid (strokeP ((natsOf s).drop p) = .ok 10 ((natsOf s).drop (p + 1))) := Lib.hid (by rw [Hdr.out, h1]; rfl)
    have H1 := Lib.hid h1
    clear h1 hc
    go_enter Tryd.func115, Tryd.ntmps115
    go_wp2_with fail
    refine (HY.out 110 (by rw [Hx.out, H1.out]; rfl) _ H.out).mono ?_
    rintro e w1 ⟨rfl, ho, hP⟩
    have HO := Lib.hid ho
    have HPa := Lib.hid hP
    clear ho hP
    go_wp2
    go_ret2
    rw [HP.out]
    exact TookP.ok (p := p + 1) HO.out ⟨rfl, by omega⟩ (by omega) rfl HPa.out
  have N1 : isNext 110 ((natsOf s).drop p) = false := by rw [Hx.out]; simpa using h1
  have HN1 := Lib.hid N1
  clear N1
  by_cases h2 : c = 116
  · have HP : Hid (strokeP ((natsOf s).drop p) = .ok 9 ((natsOf s).drop (p + 1))) := Lib.hid (by rw [Hdr.out, h2]; rfl)
    have H2 := Lib.hid h2
    clear h1 h2 hc
    go_enter Tryd.func115, Tryd.ntmps115
    go_wp2_with fail
    refine (HN.out 110 HN1.out _ H.out).mono ?_
    rintro e w1 ⟨rfl, n1, rfl⟩
    go_wp2_with fail
    refine (HY.out 116 (by rw [Hx.out, H2.out]; rfl) _ (H.out.drewN _)).mono ?_
    rintro e w1 ⟨rfl, ho, hP⟩
    have HO : Hid (Only (fun x => x = g) w w1) := Lib.hid (((Only.refl (fun x => x = g) w).drewN _).trans ho (fun _ _ h => h))
    have HPa := Lib.hid hP
    clear ho hP
    go_wp2
    go_ret2
    rw [HP.out]
    exact TookP.ok (p := p + 1) HO.out ⟨rfl, by omega⟩ (by omega) rfl HPa.out
  have N2 : isNext 116 ((natsOf s).drop p) = false := by rw [Hx.out]; simpa using h2
  have HN2 := Lib.hid N2
  clear N2
  by_cases h3 : c = 114
  · have HP : Hid (strokeP ((natsOf s).drop p) = .ok 13 ((natsOf s).drop (p + 1))) := Lib.hid (by rw [Hdr.out, h3]; rfl)
    have H3 := Lib.hid h3
    clear h1 h2 h3 hc
    go_enter Tryd.func115, Tryd.ntmps115
    go_wp2_with fail
    refine (HN.out 110 HN1.out _ H.out).mono ?_
    rintro e w1 ⟨rfl, n1, rfl⟩
    go_wp2_with fail
    refine (HN.out 116 HN2.out _ (H.out.drewN _)).mono ?_
    rintro e w1 ⟨rfl, n2, rfl⟩
    go_wp2_with fail
    refine (HY.out 114 (by rw [Hx.out, H3.out]; rfl) _ (H.out.drewN _)).mono ?_
    rintro e w1 ⟨rfl, ho, hP⟩
    have HO : Hid (Only (fun x => x = g) w w1) := Lib.hid (((Only.refl (fun x => x = g) w).drewN _).trans ho (fun _ _ h => h))
    have HPa := Lib.hid hP
    clear ho hP
    go_wp2
    go_ret2
    rw [HP.out]
    exact TookP.ok (p := p + 1) HO.out ⟨rfl, by omega⟩ (by omega) rfl HPa.out
  have N3 : isNext 114 ((natsOf s).drop p) = false := by rw [Hx.out]; simpa using h3
  have HN3 := Lib.hid N3
  clear N3
  by_cases h4 : c = 120
  · have HP : Hid (strokeP ((natsOf s).drop p) = (digP ((natsOf s).drop (p + 1))).bind fun x l1 => (digP l1).bind fun y l2 => .ok (16 * x + y) l2) := Lib.hid (by rw [Hdr.out, h4, ← hexP_digP]; rfl)
    have H4 := Lib.hid h4
    have HD : Hid (∀ q, q ≤ s.size → ∀ W, PaS W g s q → Calls Tryd.prog 128 #[.pointer (some ⟨g, 0, none⟩)] W (TookP W g s (digP ((natsOf s).drop q)) isD zeroB_)) := Lib.hid fun q hq W hW => digit_any W g s q hs hq hW
    clear h1 h2 h3 h4 hc
    go_enter Tryd.func115, Tryd.ntmps115
    go_wp2_with fail
    refine (HN.out 110 HN1.out _ H.out).mono ?_
    rintro e w1 ⟨rfl, n1, rfl⟩
    go_wp2_with fail
    refine (HN.out 116 HN2.out _ (H.out.drewN _)).mono ?_
    rintro e w1 ⟨rfl, n2, rfl⟩
    go_wp2_with fail
    refine (HN.out 114 HN3.out _ (H.out.drewN _)).mono ?_
    rintro e w1 ⟨rfl, n3, rfl⟩
    go_wp2_with fail
    refine (HY.out 120 (by rw [Hx.out, H4.out]; rfl) _ (H.out.drewN _)).mono ?_
    rintro e w1 ⟨rfl, ho, hP⟩
    have HO : Hid (Only (fun x => x = g) w w1) := Lib.hid (((Only.refl (fun x => x = g) w).drewN _).trans ho (fun _ _ h => h))
    have HPa := Lib.hid hP
    clear ho hP
    go_wp2_with fail
    refine (HD.out (p + 1) (by omega) _ HPa.out).mono ?_
    rintro e w2 ⟨ho2, hr⟩
    have HO2 : Hid (Only (fun x => x = g) w w2) := Lib.hid (HO.out.trans ho2 (fun _ _ h => h))
    clear ho2
    have hp' := HP.out
    cases hd1 : digP ((natsOf s).drop (p + 1)) with
    | bad left =>
      rw [hd1] at hr hp'
      obtain ⟨v, rfl, hv, hl, hPa2⟩ := hr
      obtain rfl : v = .int .u8 0 := hv
      have HPa2 := Lib.hid hPa2
      have Hp' := Lib.hid hp'
      clear hPa2 hp' hd1
      go_wp2
      go_ret2
      rw [Hp'.out]
      exact TookP.bad (left := left) HO2.out ⟨0, rfl, by omega⟩ hl rfl HPa2.out
    | ok x l1 =>
      rw [hd1] at hr hp'
      obtain ⟨v, q, rfl, ⟨rfl, hx16⟩, hq, rfl, hPa2⟩ := hr
      have HPa2 := Lib.hid hPa2
      have Hp' := Lib.hid hp'
      clear hPa2 hp' hd1
      go_wp2_with fail
      refine (HD.out q hq _ HPa2.out).mono ?_
      rintro e w3 ⟨ho3, hr⟩
      have HO3 : Hid (Only (fun x => x = g) w w3) := Lib.hid (HO2.out.trans ho3 (fun _ _ h => h))
      clear ho3
      have hp' := Hp'.out
      have hxi : (x : Int) < 16 := by omega
      cases hd2 : digP ((natsOf s).drop q) with
      | bad left =>
        simp only [PR.bind] at hp'
        rw [hd2] at hr hp'
        obtain ⟨v, rfl, hv, hl, hPa3⟩ := hr
        obtain rfl : v = .int .u8 0 := hv
        have HPa3 := Lib.hid hPa3
        have Hp2 := Lib.hid hp'
        have ho16 : bits BinOp.or IntKind.u8 ((x : Int) * 16) 0 = ((16 * x + 0 : Nat) : Int) := or16 ⟨x, hx16⟩ ⟨0, by omega⟩
        have HO16 := Lib.hid ho16
        clear hPa3 hp' hd2 ho16
        go_wp2
        go_ret2
        rw [Hp2.out]
        have ho16 := HO16.out
        exact TookP.bad (left := left) HO3.out ⟨16 * x, by rw [show ((16 * x : Nat) : Int) = bits BinOp.or IntKind.u8 ((x : Int) * 16) 0 by rw [ho16]; simp]; rfl, by omega⟩ hl rfl HPa3.out
      | ok y l2 =>
        simp only [PR.bind] at hp'
        rw [hd2] at hr hp'
        obtain ⟨v, q3, rfl, ⟨rfl, hy16⟩, hq3, rfl, hPa3⟩ := hr
        have HPa3 := Lib.hid hPa3
        have Hp2 := Lib.hid hp'
        have ho16 : bits BinOp.or IntKind.u8 ((x : Int) * 16) (y : Int) = ((16 * x + y : Nat) : Int) := or16 ⟨x, hx16⟩ ⟨y, hy16⟩
        have HO16 := Lib.hid ho16
        clear hPa3 hp' hd2 ho16
        go_wp2
        go_ret2
        rw [Hp2.out]
        have ho16 := HO16.out
        exact TookP.ok (p := q3) HO3.out ⟨by rw [← ho16]; rfl, by omega⟩ hq3 rfl HPa3.out
  have N4 : isNext 120 ((natsOf s).drop p) = false := by rw [Hx.out]; simpa using h4
  have HN4 := Lib.hid N4
  have hsp : strokeP ((natsOf s).drop p) = if inS c then .ok c ((natsOf s).drop (p + 1)) else .bad (((natsOf s).drop (p + 1)).length + 1) := by
    rw [Hdr.out]
    simp only [strokeP]
    rw [if_neg h1, if_neg h2, if_neg h3, if_neg h4]
  have hsg := sgI_iff ⟨c, hc256⟩
  simp only at hsg
  have HI := Lib.hid fun W => idx_signs c W
  obtain ⟨r, hr⟩ : ∃ r, sgI c = r := ⟨_, rfl⟩
  rw [hr] at hsg HI
  obtain ⟨hsg1, hsg2, hsg3⟩ := hsg
  obtain ⟨ib, hib⟩ : ∃ b, inS c = b := ⟨_, rfl⟩
  rw [hib] at hsg1 hsp
  have Hsp := Lib.hid hsp
  clear N4 h1 h2 h3 h4 hsp hr hib
  cases ib with
  | true =>
    have hr0 : 0 ≤ r := by simpa using hsg1
    clear hsg1
    have f1 := H.out.f1
    have x0 := H.out.c0
    have x1 := H.out.c1
    go_enter Tryd.func115, Tryd.ntmps115
    go_wp2_with fail
    refine (HN.out 110 HN1.out _ H.out).mono ?_
    rintro e w1 ⟨rfl, n1, rfl⟩
    go_wp2_with fail
    refine (HN.out 116 HN2.out _ (H.out.drewN _)).mono ?_
    rintro e w1 ⟨rfl, n2, rfl⟩
    go_wp2_with fail
    refine (HN.out 114 HN3.out _ (H.out.drewN _)).mono ?_
    rintro e w1 ⟨rfl, n3, rfl⟩
    go_wp2_with fail
    refine (HN.out 120 HN4.out _ (H.out.drewN _)).mono ?_
    rintro e w1 ⟨rfl, n4, rfl⟩
    go_wp2
    go_quiet ((go_at_call 116; exact calls_drawn HI.out _ _ _))
    go_wp2
    have hR := Blk.put H.out 1 (.int .i64 ((p : Int) + 1))
    have y0 := Blk.cell hR 0
    have y1 := Blk.cell hR 1
    have hw1 : IntKind.i64.wrap ((p : Int) + 1 - 1) = (p : Int) := by rw [show (p : Int) + 1 - 1 = (p : Int) by omega]; exact IntWalk.i64_in _ (by omega)
    clear hR
    go_quiet (fail)
    go_wp2
    go_ret2
    rw [Hsp.out, if_pos trivial]
    exact TookP.ok (p := p + 1) ((((Only.refl (fun x => x = g) w).drewN _).setCell (p := ⟨g, 1, none⟩) (.inl rfl) _).drewN _) ⟨rfl, hc256⟩ (by omega) rfl (((H.out.drewN _).set1 (p + 1)).drewN _)
  | false =>
    have hr0 : r < 0 := by simpa using hsg1
    clear hsg1
    have x0 := H.out.c0
    have x1 := H.out.c1
    go_enter Tryd.func115, Tryd.ntmps115
    go_wp2_with fail
    refine (HN.out 110 HN1.out _ H.out).mono ?_
    rintro e w1 ⟨rfl, n1, rfl⟩
    go_wp2_with fail
    refine (HN.out 116 HN2.out _ (H.out.drewN _)).mono ?_
    rintro e w1 ⟨rfl, n2, rfl⟩
    go_wp2_with fail
    refine (HN.out 114 HN3.out _ (H.out.drewN _)).mono ?_
    rintro e w1 ⟨rfl, n3, rfl⟩
    go_wp2_with fail
    refine (HN.out 120 HN4.out _ (H.out.drewN _)).mono ?_
    rintro e w1 ⟨rfl, n4, rfl⟩
    go_wp2
    go_quiet ((go_at_call 116; exact calls_drawn HI.out _ _ _))
    go_wp2
    go_ret2
    rw [Hsp.out, if_neg (by simp)]
    exact TookP.bad (p := p) (((Only.refl (fun x => x = g) w).drewN _).drewN _) ⟨0, rfl, by omega⟩ (by omega) (by omega) H.out
end Go.Proofs.YtmggajpecgnjkaaDoor

/-
  Contract of the program's oneByte. No statement of the seat is proved here.
-/
namespace Go.Proofs.YtmggajpecgnjkaaDoor
open Go Go.RowKit
set_option maxRecDepth 100000

set_option maxHeartbeats 8000000 in
theorem onebyte_any (w : World) (g : Nat) (s : ByteArray) (p : Nat) (hs : s.size ≤ 1000000) (hp : p ≤ s.size) (h : PaS w g s p) :
    Calls Tryd.prog 95 #[.pointer (some ⟨g, 0, none⟩)] w (TookP w g s (byteP ((natsOf s).drop p)) isB anyB) := by
  have hsi : (s.size : Int) ≤ 1000000 := by omega
  have H := Lib.hid h
  clear h
  have HN : Hid (∀ k : Nat, isNext k ((natsOf s).drop p) = false → ∀ W, PaS W g s p → Calls Tryd.prog 62 #[.pointer (some ⟨g, 0, none⟩), .int .u8 (k : Int)] W fun e w' => e = .returned (.bool false) ∧ ∃ n, w' = W.drewN n) := Lib.hid fun k hk W hW => take_no W g s p k hs hp hk hW
  have HY : Hid (∀ k : Nat, isNext k ((natsOf s).drop p) = true → ∀ W, PaS W g s p → Calls Tryd.prog 62 #[.pointer (some ⟨g, 0, none⟩), .int .u8 (k : Int)] W fun e w' => e = .returned (.bool true) ∧ Only (fun b => b = g) W w' ∧ PaS w' g s (p + 1)) := Lib.hid fun k hk W hW => take_yes W g s p k hs hp hk hW
  rcases Nat.lt_or_ge p s.size with hlt | hge
  case inr =>
    have he : p = s.size := by omega
    subst he
    have hd := nats_end s
    have HE := Lib.hid hd
    clear hd
    have x0 := H.out.c0
    have x1 := H.out.c1
    go_enter Tryd.func95, Tryd.ntmps95
    go_wp2_with fail
    refine (HN.out 92 (by rw [HE.out]; rfl) _ H.out).mono ?_
    rintro e w1 ⟨rfl, n1, rfl⟩
    go_wp2
    go_quiet (fail)
    go_wp2
    go_ret2
    rw [HE.out]
    exact TookP.bad (left := 0) (((Only.refl (fun x => x = g) w).drewN _).drewN _) ⟨0, rfl, by omega⟩ (by omega) (by omega) H.out
  obtain ⟨c, hc⟩ : ∃ c, (s[p]'hlt).toNat = c := ⟨_, rfl⟩
  have hc256 : c < 256 := by rw [← hc]; exact (s[p]'hlt).toNat_lt
  have hdr : (natsOf s).drop p = c :: (natsOf s).drop (p + 1) := by rw [nats_drop s p hlt, hc]
  have hpi : (p : Int) < (s.size : Int) := by omega
  have hp0 : (0 : Int) ≤ (p : Int) := by omega
  have hpe : ((p : Int) == (s.size : Int)) = false := by rw [beq_eq_false_iff_ne]; omega
  have hlen := nats_len s (p + 1)
  have Hx : Hid (∀ k : Nat, isNext k ((natsOf s).drop p) = decide (c = k)) := Lib.hid fun k => by rw [hdr, isNext, List.head?_cons, Bool.eq_iff_iff]; simp
  have Hdr := Lib.hid hdr
  clear hdr
  by_cases h1 : c = 92
  · have HP : Hid (byteP ((natsOf s).drop p) = strokeP ((natsOf s).drop (p + 1))) := Lib.hid (by rw [Hdr.out, h1]; rfl)
    have H1 := Lib.hid h1
    clear h1 hc
    go_enter Tryd.func95, Tryd.ntmps95
    go_wp2_with fail
    refine (HY.out 92 (by rw [Hx.out, H1.out]; rfl) _ H.out).mono ?_
    rintro e w1 ⟨rfl, ho, hP⟩
    have HO := Lib.hid ho
    have HPa := Lib.hid hP
    clear ho hP
    go_wp2_with fail
    refine (stroked_any w1 g s (p + 1) hs (by omega) HPa.out).mono ?_
    rintro e w2 ⟨ho2, hr⟩
    have HO2 : Hid (Only (fun x => x = g) w w2) := Lib.hid (HO.out.trans ho2 (fun _ _ h => h))
    clear ho2
    have hp' := HP.out
    cases hd1 : strokeP ((natsOf s).drop (p + 1)) with
    | bad left =>
      rw [hd1] at hr hp'
      obtain ⟨v, rfl, ⟨n, rfl, hn⟩, hl, hPa2⟩ := hr
      have HPa2 := Lib.hid hPa2
      have Hp' := Lib.hid hp'
      clear hPa2 hp' hd1
      go_wp2
      go_ret2
      rw [Hp'.out]
      exact TookP.bad (left := left) HO2.out ⟨n, rfl, hn⟩ hl rfl HPa2.out
    | ok x l1 =>
      rw [hd1] at hr hp'
      obtain ⟨v, q, rfl, ⟨rfl, hx⟩, hq, rfl, hPa2⟩ := hr
      have HPa2 := Lib.hid hPa2
      have Hp' := Lib.hid hp'
      clear hPa2 hp' hd1
      go_wp2
      go_ret2
      rw [Hp'.out]
      exact TookP.ok (p := q) HO2.out ⟨rfl, hx⟩ hq rfl HPa2.out
  have N1 : isNext 92 ((natsOf s).drop p) = false := by rw [Hx.out]; simpa using h1
  have HN1 := Lib.hid N1
  have hsp : byteP ((natsOf s).drop p) = if inS c then .bad (((natsOf s).drop (p + 1)).length + 1) else .ok c ((natsOf s).drop (p + 1)) := by
    rw [Hdr.out]
    simp only [byteP]
    rw [if_neg h1]
  have hsg := sgI_iff ⟨c, hc256⟩
  simp only at hsg
  have HI := Lib.hid fun W => idx_signs c W
  obtain ⟨r, hr⟩ : ∃ r, sgI c = r := ⟨_, rfl⟩
  rw [hr] at hsg HI
  obtain ⟨hsg1, hsg2, hsg3⟩ := hsg
  obtain ⟨ib, hib⟩ : ∃ b, inS c = b := ⟨_, rfl⟩
  rw [hib] at hsg1 hsp
  have Hsp := Lib.hid hsp
  clear N1 h1 hsp hr hib
  have x0 := H.out.c0
  have x1 := H.out.c1
  cases ib with
  | true =>
    have hr0 : 0 ≤ r := by simpa using hsg1
    clear hsg1
    go_enter Tryd.func95, Tryd.ntmps95
    go_wp2_with fail
    refine (HN.out 92 HN1.out _ H.out).mono ?_
    rintro e w1 ⟨rfl, n1, rfl⟩
    go_wp2
    go_quiet ((go_at_call 116; exact calls_drawn HI.out _ _ _))
    go_wp2
    go_ret2
    rw [Hsp.out, if_pos trivial]
    exact TookP.bad (p := p) (((Only.refl (fun x => x = g) w).drewN _).drewN _) ⟨0, rfl, by omega⟩ (by omega) (by omega) H.out
  | false =>
    have hr0 : r < 0 := by simpa using hsg1
    have hr1 : r ≤ -1 := by omega
    clear hsg1
    have f1 := H.out.f1
    go_enter Tryd.func95, Tryd.ntmps95
    go_wp2_with fail
    refine (HN.out 92 HN1.out _ H.out).mono ?_
    rintro e w1 ⟨rfl, n1, rfl⟩
    go_wp2
    go_quiet ((go_at_call 116; exact calls_drawn HI.out _ _ _))
    go_wp2
    have hR := Blk.put H.out 1 (.int .i64 ((p : Int) + 1))
    have y0 := Blk.cell hR 0
    have y1 := Blk.cell hR 1
    have hw1 : IntKind.i64.wrap ((p : Int) + 1 - 1) = (p : Int) := by rw [show (p : Int) + 1 - 1 = (p : Int) by omega]; exact IntWalk.i64_in _ (by omega)
    clear hR
    go_quiet (fail)
    go_wp2
    go_ret2
    rw [Hsp.out, if_neg (by simp)]
    exact TookP.ok (p := p + 1) ((((Only.refl (fun x => x = g) w).drewN _).setCell (p := ⟨g, 1, none⟩) (.inl rfl) _).drewN _) ⟨rfl, hc256⟩ (by omega) rfl (((H.out.drewN _).set1 (p + 1)).drewN _)
end Go.Proofs.YtmggajpecgnjkaaDoor

/-
  Contract of the program's span. No statement of the seat is proved here.
-/
namespace Go.Proofs.YtmggajpecgnjkaaDoor
open Go Go.RowKit
set_option maxRecDepth 100000

/-- two results, the first of which lies in a cell -/
theorem results_set2 {fn : Func} {t u : Tmp} (h : fn.results = #[.cell t 24, .tmp u]) (tmps : Array Value) (w : World) (g : Nat) (e : TypeId) (ws : List Nat) (hs : SetOk ws)
    (ht : tmps.getD t undef = .pointer (some ⟨g, 0, none⟩)) (hb : Blk w g e (cellsU ws)) : (results fn tmps).run Tryd.prog w = .ok (.tuple #[setV ws, tmps.getD u undef]) w := by
  have hl := run_loadVar_row (P := Tryd.prog) w g e 24 (cellsU ws) (0, 0) _ hb Tryd.underlying24 rfl (size_set hs)
  rw [Array.getD_eq_getD_getElem?] at ht
  simp [results, h, ht, asAddr, hl, setV]
theorem results_re2 {fn : Func} {t u : Tmp} (h : fn.results = #[.cell t 27, .tmp u]) (tmps : Array Value) (w : World) (g : Nat) (e : TypeId) (cs : Array Value) (hc : cs.size = 8)
    (ht : tmps.getD t undef = .pointer (some ⟨g, 0, none⟩)) (hb : Blk w g e cs) : (results fn tmps).run Tryd.prog w = .ok (.tuple #[.agg cs, tmps.getD u undef]) w := by
  have hl := run_loadVar_row (P := Tryd.prog) w g e 27 cs (0, 0) _ hb Tryd.underlying27 rfl (size_re hc)
  rw [Array.getD_eq_getD_getElem?] at ht
  simp [results, h, ht, asAddr, hl]
/-- an answer that is a set -/
def isS (p : Nat × Nat) (v : Value) (_ : World) : Prop := v = setV (ofB (rangeB p.1 p.2))
def anyS (v : Value) (_ : World) : Prop := ∃ ws, SetOk ws ∧ v = setV ws
theorem rangeB_self (n : Nat) : rangeB n n = [n] := by unfold rangeB; rw [show n + 1 - n = 1 by omega]; rfl
theorem size_z : (cellsU zeroB).size = 4 := rfl

theorem only_store {w w' : World} {g : Nat} (hfar : ∀ k, k ≠ g → w'.heap[k]? = w.heap[k]?) (hbel : ∀ B, B ≤ g → Below B w w') : Only (fun k => k = g) w w' :=
  ⟨(hbel 0 (Nat.zero_le _)).os, (hbel 0 (Nat.zero_le _)).tape, (hbel 0 (Nat.zero_le _)).output, (hbel 0 (Nat.zero_le _)).size, fun k _ hn => hfar k hn⟩
/-- behind a store into the result's own cell -/
theorem fin_store {w w3 w5 : World} {g q R : Nat} {s : ByteArray} (hR : w.heap.size ≤ R) (hgl : g < w.heap.size) (ho : Only (fun x => x = g) w w3) (hP : PaS w3 g s q) (h5 : Only (fun k => k = R) w3 w5) : Only (fun x => x = g) w w5 ∧ PaS w5 g s q :=
  ⟨ho.trans h5 (fun i hi h => by omega), hP.only h5 (by omega)⟩
set_option maxHeartbeats 8000000 in
theorem span_any (w : World) (g : Nat) (s : ByteArray) (p : Nat) (hs : s.size ≤ 1000000) (hp : p ≤ s.size) (h : PaS w g s p) :
    Calls Tryd.prog 112 #[.pointer (some ⟨g, 0, none⟩)] w (TookP w g s (rangeP ((natsOf s).drop p)) isS anyS) := by
  have hz := zeros_set
  have hgl := h.lt
  have h1 := h.alloc (Obj.cells (cellsU zeroB) 24)
  have hR := Blk.new w 24 (cellsU zeroB)
  have H1 := Lib.hid h1
  have HR := Lib.hid hR
  have HO1 : Hid (Only (fun x => x = g) w (w.alloc (Obj.cells (cellsU zeroB) 24))) := Lib.hid ((Only.refl _ _).alloc _)
  clear h h1 hR
  go_enter Tryd.func112, Tryd.ntmps112
  go_wp2_with fail
  refine (onebyte_any _ g s p hs hp H1.out).mono ?_
  rintro e w2 ⟨ho2, hr⟩
  have HR2 := Lib.hid (HR.out.only ho2 (by omega))
  have HO2 : Hid (Only (fun x => x = g) w w2) := Lib.hid (HO1.out.trans ho2 (fun _ _ h => h))
  clear ho2
  have hRG : rangeP ((natsOf s).drop p) = (byteP ((natsOf s).drop p)).bind fun low l1 => match l1 with
    | 45 :: l2 => (byteP l2).bind fun high l3 => if high < low then .bad l2.length else .ok (low, high) l3
    | _ => .ok (low, low) l1 := rfl
  cases hb1 : byteP ((natsOf s).drop p) with
  | bad left =>
    rw [hb1] at hr hRG
    obtain ⟨v, rfl, ⟨n, rfl, hn⟩, hl, hPa⟩ := hr
    have HPa := Lib.hid hPa
    have HRG := Lib.hid hRG
    clear hPa hRG hb1
    go_wp2_with fail
    refine (of_any (some ⟨_, 0, none⟩) 1 1 [n] _ rfl (by simpa using hn) (by simp) (Rd.lit w2 #[.int .u8 (n : Int)] 5)).mono ?_
    rintro e w3 ⟨rfl, hb3⟩
    have hb23 : Below w2.heap.size w2 w3 := ext_trans ((Below.refl _ _).alloc (Nat.le_refl _) _) hb3
    have hR3 := HR2.out.ext hb23
    have HPa3 := Lib.hid (HPa.out.ext hb23)
    have HO3 : Hid (Only (fun x => x = g) w w3) := Lib.hid (HO2.out.trans (Only.of_ext hb23) (fun _ _ h => h))
    have hok : SetOk (ofB [n]) := ofB_ok _
    clear hb3 hb23
    unfold setV
    go_wp2_with (refine wpList_store_set rfl _ _ rfl w.heap.size rfl rfl hok zero_ok hR3 ?_; intro w5 hB5 hfar5 hsz5 hbel5)
    refine bodyPost_ret (results_set2 rfl _ _ w.heap.size _ _ hok rfl hB5) rfl ?_
    have hfin := fin_store (Nat.le_refl _) hgl HO3.out HPa3.out (only_store hfar5 hbel5)
    rw [HRG.out]
    exact TookP.bad (left := left) hfin.1 ⟨_, hok, rfl⟩ hl rfl hfin.2
  | ok low l1 =>
    rw [hb1] at hr hRG
    obtain ⟨v, q, rfl, ⟨rfl, hlow⟩, hq, rfl, hPa⟩ := hr
    have HPa := Lib.hid hPa
    simp only [PR.bind] at hRG
    clear hPa hb1
    by_cases hn45 : isNext 45 ((natsOf s).drop q) = true
    · obtain ⟨hqs, hqd⟩ := next_true hn45
      rw [hqd] at hRG
      simp only at hRG
      have HT := Lib.hid fun (W : World) (hW : PaS W g s q) => take_yes W g s q 45 hs hq hn45 hW
      have HRG := Lib.hid hRG
      clear hRG hn45 hqd
      go_wp2_with fail
      refine (HT.out _ HPa.out).mono ?_
      rintro e w3 ⟨rfl, ho3, hPa3⟩
      have HR3 := Lib.hid (HR2.out.only ho3 (by omega))
      have HO3 : Hid (Only (fun x => x = g) w w3) := Lib.hid (HO2.out.trans ho3 (fun _ _ h => h))
      have HPa3 := Lib.hid hPa3
      clear ho3 hPa3
      have x1 := HPa3.out.c1
      go_wp2_with fail
      refine (onebyte_any _ g s (q + 1) hs (by omega) HPa3.out).mono ?_
      rintro e w4 ⟨ho4, hr⟩
      have HR4 := Lib.hid (HR3.out.only ho4 (by omega))
      have HO4 : Hid (Only (fun x => x = g) w w4) := Lib.hid (HO3.out.trans ho4 (fun _ _ h => h))
      clear ho4 x1
      have hRG := HRG.out
      cases hb2 : byteP ((natsOf s).drop (q + 1)) with
      | bad left =>
        rw [hb2] at hr hRG
        obtain ⟨v, rfl, ⟨n, rfl, hn⟩, hl, hPa⟩ := hr
        have HPa4 := Lib.hid hPa
        have HRG2 := Lib.hid hRG
        clear hPa hRG hb2
        go_wp2_with fail
        refine (range_any low n _ hlow hn).mono ?_
        rintro e w3 ⟨rfl, hb23⟩
        have hR3 := HR4.out.ext hb23
        have HPa3 := Lib.hid (HPa4.out.ext hb23)
        have HO3 : Hid (Only (fun x => x = g) w w3) := Lib.hid (HO4.out.trans (Only.of_ext hb23) (fun _ _ h => h))
        have hok : SetOk (ofB (rangeB low n)) := ofB_ok _
        clear hb23
        unfold setV
        go_wp2_with (refine wpList_store_set rfl _ _ rfl w.heap.size rfl rfl hok zero_ok hR3 ?_; intro w5 hB5 hfar5 hsz5 hbel5)
        refine bodyPost_ret (results_set2 rfl _ _ w.heap.size _ _ hok rfl hB5) rfl ?_
        have hfin := fin_store (Nat.le_refl _) hgl HO3.out HPa3.out (only_store hfar5 hbel5)
        rw [HRG2.out]
        exact TookP.bad (left := left) hfin.1 ⟨_, hok, rfl⟩ hl rfl hfin.2
      | ok high l3 =>
        rw [hb2] at hr hRG
        obtain ⟨v, q3, rfl, ⟨rfl, hhigh⟩, hq3, rfl, hPa⟩ := hr
        have HPa4 := Lib.hid hPa
        simp only [PR.bind] at hRG
        clear hPa hb2
        by_cases hlt : high < low
        · rw [if_pos hlt, nats_len] at hRG
          have HRG2 := Lib.hid hRG
          have hlti : (high : Int) < (low : Int) := by omega
          have f1 := HPa4.out.f1
          have x1 := HPa4.out.c1
          have hPa5 := HPa4.out.set1 (q + 1)
          have HPa5 := Lib.hid hPa5
          have HO3 : Hid (Only (fun x => x = g) w (w4.setCell ⟨g, 1, none⟩ (.int .i64 ((q + 1 : Nat) : Int)))) := Lib.hid (HO4.out.setCell (p := ⟨g, 1, none⟩) (.inl rfl) _)
          have hR3 := HR4.out.far (p := ⟨g, 1, none⟩) (by simp; omega) (.int .i64 ((q + 1 : Nat) : Int))
          have hok := zero_ok
          clear hRG hlt hPa5
          go_wp2_with (refine wpList_store_set rfl _ _ rfl w.heap.size rfl rfl hok zero_ok hR3 ?_; intro w5 hB5 hfar5 hsz5 hbel5)
          refine bodyPost_ret (results_set2 rfl _ _ w.heap.size _ _ hok rfl hB5) rfl ?_
          have hfin := fin_store (Nat.le_refl _) hgl HO3.out HPa5.out (only_store hfar5 hbel5)
          rw [HRG2.out]
          exact TookP.bad (left := s.size - (q + 1)) hfin.1 ⟨_, hok, rfl⟩ (by omega) (by omega) hfin.2
        · rw [if_neg hlt] at hRG
          have HRG2 := Lib.hid hRG
          have hlti : (low : Int) ≤ (high : Int) := by omega
          clear hRG hlt
          go_wp2_with fail
          refine (range_any low high _ hlow hhigh).mono ?_
          rintro e w3 ⟨rfl, hb23⟩
          have hR3 := HR4.out.ext hb23
          have HPa3 := Lib.hid (HPa4.out.ext hb23)
          have HO3 : Hid (Only (fun x => x = g) w w3) := Lib.hid (HO4.out.trans (Only.of_ext hb23) (fun _ _ h => h))
          have hok : SetOk (ofB (rangeB low high)) := ofB_ok _
          clear hb23
          unfold setV
          go_wp2_with (refine wpList_store_set rfl _ _ rfl w.heap.size rfl rfl hok zero_ok hR3 ?_; intro w5 hB5 hfar5 hsz5 hbel5)
          refine bodyPost_ret (results_set2 rfl _ _ w.heap.size _ _ hok rfl hB5) rfl ?_
          have hfin := fin_store (Nat.le_refl _) hgl HO3.out HPa3.out (only_store hfar5 hbel5)
          rw [HRG2.out]
          exact TookP.ok (p := q3) hfin.1 rfl hq3 rfl hfin.2
    · have hn45' : isNext 45 ((natsOf s).drop q) = false := by simpa using hn45
      have hRG2 : rangeP ((natsOf s).drop p) = .ok (low, low) ((natsOf s).drop q) := by
        rw [hRG]
        split
        · rename_i l2 he
          rw [he] at hn45'
          simp [isNext] at hn45'
        · rfl
      have HT := Lib.hid fun (W : World) (hW : PaS W g s q) => take_no W g s q 45 hs hq hn45' hW
      have HRG2 := Lib.hid hRG2
      clear hRG hRG2 hn45 hn45'
      go_wp2_with fail
      refine (HT.out _ HPa.out).mono ?_
      rintro e w3 ⟨rfl, n3, rfl⟩
      have HR3 := Lib.hid (HR2.out.drewN n3)
      have HO4 : Hid (Only (fun x => x = g) w (w2.drewN n3)) := Lib.hid (HO2.out.drewN n3)
      have HPa4 := Lib.hid (HPa.out.drewN n3)
      obtain ⟨w2', hw2⟩ : ∃ w2', w2' = w2.drewN n3 := ⟨_, rfl⟩
      rw [← hw2] at HR3 HO4 HPa4 ⊢
      clear hw2
      go_wp2_with fail
      refine (of_any (some ⟨_, 0, none⟩) 1 1 [low] _ rfl (by simpa using hlow) (by simp) (Rd.lit w2' #[.int .u8 (low : Int)] 5)).mono ?_
      rintro e w3 ⟨rfl, hb3⟩
      have hb23 : Below w2'.heap.size w2' w3 := ext_trans ((Below.refl _ _).alloc (Nat.le_refl _) _) hb3
      have hR3 := HR3.out.ext hb23
      have HPa3 := Lib.hid (HPa4.out.ext hb23)
      have HO3 : Hid (Only (fun x => x = g) w w3) := Lib.hid (HO4.out.trans (Only.of_ext hb23) (fun _ _ h => h))
      have hok : SetOk (ofB [low]) := ofB_ok _
      clear hb3 hb23
      unfold setV
      go_wp2_with (refine wpList_store_set rfl _ _ rfl w.heap.size rfl rfl hok zero_ok hR3 ?_; intro w5 hB5 hfar5 hsz5 hbel5)
      refine bodyPost_ret (results_set2 rfl _ _ w.heap.size _ _ hok rfl hB5) rfl ?_
      have hfin := fin_store (Nat.le_refl _) hgl HO3.out HPa3.out (only_store hfar5 hbel5)
      rw [HRG2.out]
      exact TookP.ok (p := q) hfin.1 (by show _ = setV (ofB (rangeB low low)); rw [rangeB_self]) hq rfl hfin.2
end Go.Proofs.YtmggajpecgnjkaaDoor

/-
  Contract of the program's set (what stands in brackets). No statement of the seat is proved here.
-/
namespace Go.Proofs.YtmggajpecgnjkaaDoor
open Go Go.RowKit
set_option maxRecDepth 100000

theorem step_store_set {ops : Array Oper} {o : Oper} {a : Act} {w : World} {K : Act → World → Prop} {Q : Exit → Act → World → Prop} {E : Prop} (hgd : o.guard = none) (x y : Operand) (ho : o.op = .store 24 x y)
    (g : Nat) (hx : a.eval x = .pointer (some ⟨g, 0, none⟩)) {t : TypeId} {ws us : List Nat} (hy : a.eval y = .agg (cellsU ws)) (hs : SetOk ws) (hu : SetOk us) (hB : Blk w g t (cellsU us))
    (h : ∀ w', Blk w' g t (cellsU ws) → Only (fun k => k = g) w w' → K (a.put o.dst undef) w') : if Region.wanted o (yielded ops a.tmps) = true then Oper.wp Tryd.prog o a w K Q else E := by
  have hw : Region.wanted o (yielded ops a.tmps) = true := by simp [Region.wanted, hgd]
  rw [if_pos hw]
  have hsz := cellsU_size hs
  have hsu := cellsU_size hu
  refine wp_store_mid 24 x y ho g 0 (cellsU ws) hx hy (hB.there 0 _ (by omega)) (size_set hs) (cellsU_one ws) (h _ ?_ ?_)
  · have := hB.whole (cellsU ws).toList (by simp [hsz, hsu])
    simpa using this
  · exact (Only.refl (fun k => k = g) w).setCells (.inl rfl) (cellsU ws).toList 0
theorem step_store_re {ops : Array Oper} {o : Oper} {a : Act} {w : World} {K : Act → World → Prop} {Q : Exit → Act → World → Prop} {E : Prop} (hgd : o.guard = none) (x y : Operand) (ho : o.op = .store 27 x y)
    (g : Nat) (hx : a.eval x = .pointer (some ⟨g, 0, none⟩)) {t : TypeId} {cs ds : Array Value} (hy : a.eval y = .agg ds) (hd : ds.size = 8) (hc : cs.size = 8) (h1 : ds.all (·.oneCell') = true) (hB : Blk w g t cs)
    (h : ∀ w', Blk w' g t ds → Only (fun k => k = g) w w' → K (a.put o.dst undef) w') : if Region.wanted o (yielded ops a.tmps) = true then Oper.wp Tryd.prog o a w K Q else E := by
  have hw : Region.wanted o (yielded ops a.tmps) = true := by simp [Region.wanted, hgd]
  rw [if_pos hw]
  refine wp_store_mid 27 x y ho g 0 ds hx hy (hB.there 0 _ (by omega)) (size_re hd) h1 (h _ ?_ ?_)
  · have := hB.whole ds.toList (by simp [hc, hd])
    simpa using this
  · exact (Only.refl (fun k => k = g) w).setCells (.inl rfl) ds.toList 0

/-- where a parser stands, read out of memory -/
def posOf (w : World) (g : Nat) : Nat := match w.cell? ⟨g, 1, none⟩ with | some (.int _ v) => v.toNat | _ => 0
theorem PaS.pos {w : World} {g : Nat} {s : ByteArray} {p : Nat} (h : PaS w g s p) : posOf w g = p := by unfold posOf; rw [h.c1]; simp

/-- sets so far: if there is more, what stands here is one; if not, the bracket stands here -/
def SetAt (T : PR (List Nat)) (s : ByteArray) (m : Bool) (q : Nat) (ws : List Nat) : Prop :=
  if m = true then ∃ f, T = (rangeP ((natsOf s).drop q)).bind (fun p l1 => rangesP f false (joinB [ws, ofB (rangeB p.1 p.2)]) l1) ∧ ((natsOf s).drop q).length ≤ f
  else T = .ok ws ((natsOf s).drop q) ∧ isNext 93 ((natsOf s).drop q) = true
theorem rangesP_first (f : Nat) (s l : List Nat) : rangesP (f + 1) true s l = (rangeP l).bind fun p l1 => rangesP f false (joinB [s, ofB (rangeB p.1 p.2)]) l1 := by
  simp only [rangesP]
  rw [if_neg (by simp)]
theorem setAt_next {T : PR (List Nat)} {s : ByteArray} {q q' : Nat} {ws : List Nat} {p : Nat × Nat} (h : SetAt T s true q ws) (hr : rangeP ((natsOf s).drop q) = .ok p ((natsOf s).drop q')) :
    SetAt T s (!isNext 93 ((natsOf s).drop q')) q' (joinB [ws, ofB (rangeB p.1 p.2)]) := by
  unfold SetAt at h
  rw [if_pos rfl] at h
  obtain ⟨f, hT, hf⟩ := h
  have hl := len_rangeP hr
  rw [hr] at hT
  simp only [PR.bind] at hT
  obtain ⟨f', rfl⟩ : ∃ f', f = f' + 1 := ⟨f - 1, by omega⟩
  unfold SetAt
  cases hn : isNext 93 ((natsOf s).drop q') with
  | true =>
    rw [if_neg (by simp)]
    refine ⟨?_, rfl⟩
    rw [hT]
    simp only [rangesP]
    rw [if_pos ⟨trivial, by simpa [isNext] using hn⟩]
  | false =>
    rw [if_pos (by simp)]
    refine ⟨f', ?_, by omega⟩
    rw [hT]
    conv => lhs; simp only [rangesP]
    rw [if_neg]
    rintro ⟨_, h2⟩
    rw [isNext, h2] at hn
    simp at hn
theorem setAt_bad {T : PR (List Nat)} {s : ByteArray} {q n : Nat} {ws : List Nat} (h : SetAt T s true q ws) (hr : rangeP ((natsOf s).drop q) = .bad n) : T = .bad n := by
  unfold SetAt at h
  rw [if_pos rfl] at h
  obtain ⟨f, hT, hf⟩ := h
  rw [hr] at hT
  exact hT

/-- an answer that is an expression of a set -/
def isC (x : Ex) (v : Value) (_ : World) : Prop := ∃ ws, SetOk ws ∧ x = classE ws ∧ v = setV ws
theorem joinB_ok2 {a b : List Nat} (ha : SetOk a) (hb : SetOk b) : SetOk (joinB [a, b]) := join_ok fun x hx => by
  simp at hx
  rcases hx with rfl | rfl
  · exact ha
  · exact hb
/-- in brackets: by what was taken, and what is left -/
theorem classP_eq (l : List Nat) (t : Bool) (l0 : List Nat) (ht : isNext 94 l = t) (hl : l0 = if t = true then l.tail else l) :
    classP l = (rangesP (l0.length + 1) true zeroB l0).bind fun s l1 => if (if t = true then notB s else s) = zeroB then .bad l1.length else .ok (classE (if t = true then notB s else s)) l1.tail := by
  have e : (l.head? = some 94) ↔ t = true := by rw [← ht, isNext]; simp
  unfold classP
  subst hl
  cases t with
  | true => simp only [e, if_true]
  | false => simp only [e, Bool.false_eq_true, if_false]
theorem listB_pos {ws : List Nat} (hs : SetOk ws) : (listB ws).length = 0 ↔ ws = zeroB := by
  constructor
  · intro h
    have h0 : listB ws = [] := List.eq_nil_of_length_eq_zero h
    have := of_list hs
    rw [h0] at this
    rw [← this]; rfl
  · rintro rfl; decide

theorem join_two (W : World) (g : Nat) (hg : g = W.heap.size) {a0 a1 a2 a3 b0 b1 b2 b3 : Nat} (ha : SetOk [a0, a1, a2, a3]) (hb : SetOk [b0, b1, b2, b3]) : Calls Tryd.prog 113 #[.slice (some ⟨g, 0, none⟩) 2 2] (W.alloc (Obj.cells #[.int .u64 (a0 : Int), .int .u64 (a1 : Int), .int .u64 (a2 : Int), .int .u64 (a3 : Int), .int .u64 (b0 : Int), .int .u64 (b1 : Int), .int .u64 (b2 : Int), .int .u64 (b3 : Int)] 24)) fun e w' => e = .returned (setV (joinB [[a0, a1, a2, a3], [b0, b1, b2, b3]])) ∧ Below (W.alloc (Obj.cells #[.int .u64 (a0 : Int), .int .u64 (a1 : Int), .int .u64 (a2 : Int), .int .u64 (a3 : Int), .int .u64 (b0 : Int), .int .u64 (b1 : Int), .int .u64 (b2 : Int), .int .u64 (b3 : Int)] 24)).heap.size (W.alloc (Obj.cells #[.int .u64 (a0 : Int), .int .u64 (a1 : Int), .int .u64 (a2 : Int), .int .u64 (a3 : Int), .int .u64 (b0 : Int), .int .u64 (b1 : Int), .int .u64 (b2 : Int), .int .u64 (b3 : Int)] 24)) w' := by
  subst hg
  exact join_any (some ⟨W.heap.size, 0, none⟩) 2 2 [[a0, a1, a2, a3], [b0, b1, b2, b3]] _ rfl (by simp) ⟨fun _ ad h => by injection h with h; exact ⟨_, _, h.symm⟩, Rd.lit W #[.int .u64 (a0 : Int), .int .u64 (a1 : Int), .int .u64 (a2 : Int), .int .u64 (a3 : Int), .int .u64 (b0 : Int), .int .u64 (b1 : Int), .int .u64 (b2 : Int), .int .u64 (b3 : Int)] 24, by simp; exact ⟨ha, hb⟩⟩
set_option maxHeartbeats 16000000 in
theorem set_any (w : World) (g : Nat) (s : ByteArray) (p : Nat) (hs : s.size ≤ 1000000) (hp : p ≤ s.size) (h : PaS w g s p) :
    Calls Tryd.prog 94 #[.pointer (some ⟨g, 0, none⟩)] w (TookP w g s (classP ((natsOf s).drop p)) isC anyS) := by
  have hz := zeros_set
  have hgl := h.lt
  have h1 := (h.alloc (Obj.cells (cellsU zeroB) 24)).alloc (Obj.cells (cellsU zeroB) 24)
  have hR := (Blk.new w 24 (cellsU zeroB)).alloc (Obj.cells (cellsU zeroB) 24)
  have hD := Blk.new (w.alloc (Obj.cells (cellsU zeroB) 24)) 24 (cellsU zeroB)
  rw [World.size_alloc] at hD
  have HR := Lib.hid hR
  have HD := Lib.hid hD
  have H1 := Lib.hid h1
  have HO1 : Hid (Only (fun x => x = g) w ((w.alloc (Obj.cells (cellsU zeroB) 24)).alloc (Obj.cells (cellsU zeroB) 24))) := Lib.hid (((Only.refl _ _).alloc _).alloc _)
  have htk := take_any _ g s p 94 hs hp h1
  obtain ⟨tb, htb⟩ : ∃ tb, isNext 94 ((natsOf s).drop p) = tb := ⟨_, rfl⟩
  have hp0' : (if tb = true then p + 1 else p) ≤ s.size := by
    cases tb with
    | true => have := (next_true htb).1; simp; omega
    | false => simpa using hp
  have hcp := classP_eq ((natsOf s).drop p) tb ((natsOf s).drop (if tb = true then p + 1 else p)) htb (by cases tb <;> simp)
  rw [htb] at htk
  obtain ⟨p0, hp0⟩ : ∃ p0, (if tb = true then p + 1 else p) = p0 := ⟨_, rfl⟩
  rw [hp0] at htk hcp hp0'
  have hT0 : SetAt (rangesP (((natsOf s).drop p0).length + 1) true zeroB ((natsOf s).drop p0)) s true p0 zeroB := by
    unfold SetAt
    rw [if_pos rfl]
    exact ⟨_, rangesP_first _ _ _, Nat.le_refl _⟩
  obtain ⟨T, hT⟩ : ∃ T, rangesP (((natsOf s).drop p0).length + 1) true zeroB ((natsOf s).drop p0) = T := ⟨_, rfl⟩
  rw [hT] at hcp hT0
  have Htk := Lib.hid htk
  have HCp := Lib.hid hcp
  have HT0 := Lib.hid hT0
  clear h h1 hR hD htk htb hcp hp0 hT hT0
  go_enter Tryd.func94, Tryd.ntmps94
  go_wp2_with fail
  refine Htk.out.mono ?_
  rintro e w2 ⟨rfl, ho2, hPa2⟩
  have HR2 := Lib.hid (HR.out.only ho2 (by omega))
  have HD2 := Lib.hid (HD.out.only ho2 (by omega))
  have HO2 : Hid (Only (fun x => x = g) w w2) := Lib.hid (HO1.out.trans ho2 (fun _ _ h => h))
  have HPa2 := Lib.hid hPa2
  clear ho2 hPa2
  go_wp2
  go_loopw [6] (fun mv wr => ∃ (m : Bool) (q : Nat) (ws : List Nat), mv = .bool m ∧ q ≤ s.size ∧ SetOk ws ∧ Hid (SetAt T s m q ws) ∧ PaS wr g s q ∧ Blk wr (w.heap.size + 1) 24 (cellsU ws) ∧ Blk wr w.heap.size 24 (cellsU zeroB) ∧ Only (fun x => x = g) w wr) (fun _ wr => s.size + 1 - posOf wr g)
  case atStart => exact ⟨true, p0, zeroB, rfl, hp0', zero_ok, HT0, HPa2.out, HD2.out, HR2.out, HO2.out⟩
  case round =>
    clear HR2 HD2 HO2 HPa2 HR HD H1 HO1 HT0 Htk
    obtain ⟨m, q, ws, rfl, hq, hok, hT, hPa, hD, hR, hO⟩ := hrel
    have HPa := Lib.hid hPa
    have HD := Lib.hid hD
    have HR := Lib.hid hR
    have HO := Lib.hid hO
    clear hPa hD hR hO
    cases m with
    | true =>
      go_wp2_with fail
      refine (span_any _ g s q hs hq HPa.out).mono ?_
      rintro e w3 ⟨ho3, hr⟩
      have HR3 := Lib.hid (HR.out.only ho3 (by omega))
      have HD3 := Lib.hid (HD.out.only ho3 (by omega))
      have HO3 : Hid (Only (fun x => x = g) w w3) := Lib.hid (HO.out.trans ho3 (fun _ _ h => h))
      clear ho3
      cases hb1 : rangeP ((natsOf s).drop q) with
      | bad left =>
        rw [hb1] at hr
        obtain ⟨v, rfl, ⟨us, hus, hv⟩, hl, hPa3⟩ := hr
        have HPa3 := Lib.hid hPa3
        have HTb : Hid (T = .bad left) := Lib.hid (setAt_bad hT.out hb1)
        obtain ⟨b0, b1, b2, b3, rfl⟩ := four_words hus
        have hR4 := HR3.out.alloc (Obj.cells #[.int .u64 (b0 : Int), .int .u64 (b1 : Int), .int .u64 (b2 : Int), .int .u64 (b3 : Int)] 24)
        have HPa4 := Lib.hid (HPa3.out.alloc (Obj.cells #[.int .u64 (b0 : Int), .int .u64 (b1 : Int), .int .u64 (b2 : Int), .int .u64 (b3 : Int)] 24))
        have HO4 : Hid (Only (fun x => x = g) w (w3.alloc (Obj.cells #[.int .u64 (b0 : Int), .int .u64 (b1 : Int), .int .u64 (b2 : Int), .int .u64 (b3 : Int)] 24))) := Lib.hid (HO3.out.alloc _)
        have hv2 : v = .agg #[.int .u64 (b0 : Int), .int .u64 (b1 : Int), .int .u64 (b2 : Int), .int .u64 (b3 : Int)] := hv
        subst hv2
        clear hPa3 hb1 hz hv
        go_wp2_with (refine wpList_store_set rfl _ _ rfl w.heap.size rfl rfl zero_ok zero_ok hR4 ?_; intro w5 hB5 hfar5 hsz5 hbel5)
        refine bodyPost_ret (results_set2 rfl _ _ w.heap.size _ _ zero_ok rfl hB5) rfl ?_
        have hfin := fin_store (Nat.le_refl _) hgl HO4.out HPa4.out (only_store hfar5 hbel5)
        rw [HCp.out, HTb.out]
        exact TookP.bad (left := left) hfin.1 ⟨_, zero_ok, rfl⟩ hl rfl hfin.2
      | ok pr l1 =>
        rw [hb1] at hr
        obtain ⟨v, q', rfl, hv, hq', rfl, hPa3⟩ := hr
        have hv : v = setV (ofB (rangeB pr.1 pr.2)) := hv
        have HPa3 := Lib.hid hPa3
        have hlq := len_rangeP hb1
        rw [nats_len, nats_len] at hlq
        have hTn := setAt_next hT.out hb1
        have hus := ofB_ok (rangeB pr.1 pr.2)
        obtain ⟨us, hue⟩ : ∃ us, ofB (rangeB pr.1 pr.2) = us := ⟨_, rfl⟩
        rw [hue] at hv hTn hus
        have HTn := Lib.hid hTn
        clear hPa3 hb1 hTn hue
        have hj := joinB_ok2 hok hus
        obtain ⟨a0, a1, a2, a3, rfl⟩ := four_words hok
        obtain ⟨b0, b1, b2, b3, rfl⟩ := four_words hus
        have hv2 : v = .agg #[.int .u64 (b0 : Int), .int .u64 (b1 : Int), .int .u64 (b2 : Int), .int .u64 (b3 : Int)] := hv
        subst hv2
        have HJ : Hid (Calls Tryd.prog 113 #[.slice (some ⟨w3.heap.size + 1, 0, none⟩) 2 2] ((w3.alloc (Obj.cells #[.int .u64 (b0 : Int), .int .u64 (b1 : Int), .int .u64 (b2 : Int), .int .u64 (b3 : Int)] 24)).alloc (Obj.cells #[.int .u64 (a0 : Int), .int .u64 (a1 : Int), .int .u64 (a2 : Int), .int .u64 (a3 : Int), .int .u64 (b0 : Int), .int .u64 (b1 : Int), .int .u64 (b2 : Int), .int .u64 (b3 : Int)] 24)) fun e w' => e = .returned (setV (joinB [[a0, a1, a2, a3], [b0, b1, b2, b3]])) ∧ Below ((w3.alloc (Obj.cells #[.int .u64 (b0 : Int), .int .u64 (b1 : Int), .int .u64 (b2 : Int), .int .u64 (b3 : Int)] 24)).alloc (Obj.cells #[.int .u64 (a0 : Int), .int .u64 (a1 : Int), .int .u64 (a2 : Int), .int .u64 (a3 : Int), .int .u64 (b0 : Int), .int .u64 (b1 : Int), .int .u64 (b2 : Int), .int .u64 (b3 : Int)] 24)).heap.size ((w3.alloc (Obj.cells #[.int .u64 (b0 : Int), .int .u64 (b1 : Int), .int .u64 (b2 : Int), .int .u64 (b3 : Int)] 24)).alloc (Obj.cells #[.int .u64 (a0 : Int), .int .u64 (a1 : Int), .int .u64 (a2 : Int), .int .u64 (a3 : Int), .int .u64 (b0 : Int), .int .u64 (b1 : Int), .int .u64 (b2 : Int), .int .u64 (b3 : Int)] 24)) w') := Lib.hid (join_two _ _ (by rw [World.size_alloc]) hok hus)
        have d0 : (w3.alloc (Obj.cells #[.int .u64 (b0 : Int), .int .u64 (b1 : Int), .int .u64 (b2 : Int), .int .u64 (b3 : Int)] 24)).cell? ⟨w.heap.size + 1, 0, none⟩ = some (.int .u64 (a0 : Int)) := (HD3.out.alloc _).cell 0
        have d1 : (w3.alloc (Obj.cells #[.int .u64 (b0 : Int), .int .u64 (b1 : Int), .int .u64 (b2 : Int), .int .u64 (b3 : Int)] 24)).cell? ⟨w.heap.size + 1, 1, none⟩ = some (.int .u64 (a1 : Int)) := (HD3.out.alloc _).cell 1
        have d2 : (w3.alloc (Obj.cells #[.int .u64 (b0 : Int), .int .u64 (b1 : Int), .int .u64 (b2 : Int), .int .u64 (b3 : Int)] 24)).cell? ⟨w.heap.size + 1, 2, none⟩ = some (.int .u64 (a2 : Int)) := (HD3.out.alloc _).cell 2
        have d3 : (w3.alloc (Obj.cells #[.int .u64 (b0 : Int), .int .u64 (b1 : Int), .int .u64 (b2 : Int), .int .u64 (b3 : Int)] 24)).cell? ⟨w.heap.size + 1, 3, none⟩ = some (.int .u64 (a3 : Int)) := (HD3.out.alloc _).cell 3
        have Hj := Lib.hid hj
        clear hj hz hv
        go_wp2_with fail
        refine HJ.out.mono ?_
        rintro e w4 ⟨rfl, hb4⟩
        clear d0 d1 d2 d3
        have hb34 : Below w3.heap.size w3 w4 := ext_trans (ext2 w3 (Obj.cells #[.int .u64 (b0 : Int), .int .u64 (b1 : Int), .int .u64 (b2 : Int), .int .u64 (b3 : Int)] 24) (Obj.cells (cellsS [[a0, a1, a2, a3], [b0, b1, b2, b3]]).toArray 24)) hb4
        have hD4 := HD3.out.ext hb34
        have HR4 := Lib.hid (HR3.out.ext hb34)
        have HPa4 := Lib.hid (HPa3.out.ext hb34)
        have HO4 : Hid (Only (fun x => x = g) w w4) := Lib.hid (HO3.out.trans (Only.of_ext hb34) (fun _ _ h => h))
        obtain ⟨js, hjs⟩ : ∃ js, joinB [[a0, a1, a2, a3], [b0, b1, b2, b3]] = js := ⟨_, rfl⟩
        rw [hjs] at Hj HTn ⊢
        have hjok := Hj.out
        have hwok : SetOk [a0, a1, a2, a3] := hok
        clear hb4 hb34 hjs
        unfold setV
        go_wp2_with (refine wpList_store_set rfl _ _ rfl (w.heap.size + 1) rfl rfl hjok hwok hD4 ?_; intro w5 hB5 hfar5 hsz5 hbel5)
        have ho5 := only_store hfar5 hbel5
        have HPa5 := Lib.hid (HPa4.out.only ho5 (by omega))
        have HR5 := Lib.hid (HR4.out.only ho5 (by omega))
        have HO5 : Hid (Only (fun x => x = g) w w5) := Lib.hid (HO4.out.trans ho5 (fun i hi h => by omega))
        have HB5 := Lib.hid hB5
        clear hB5 hfar5 hsz5 hbel5 ho5 hD4
        refine (stands_any w5 g s q' 93 hs hq' HPa5.out).mono ?_
        rintro e w6 ⟨rfl, n6, rfl⟩
        go_wp2
        go_roundw
        case rel => exact ⟨_, q', js, rfl, hq', Hj.out, HTn, HPa5.out.drewN _, HB5.out.drewN _, HR5.out.drewN _, HO5.out.drewN _⟩
        case measure =>
          have h1 := (HPa5.out.drewN n6).pos
          have h2 := HPa.out.pos
          rw [h1, h2]
          omega
    | false =>
      have hT' := hT.out
      unfold SetAt at hT'
      rw [if_neg (by simp)] at hT'
      have HT6 := Lib.hid hT'.1
      have Hn93 := Lib.hid hT'.2
      clear hT' hT
      cases tb with
      | false =>
        obtain ⟨w6, hw6⟩ : ∃ w6, w6 = wr := ⟨_, rfl⟩
        have HPa6 := HPa
        have HD6 := HD
        have HR6 := HR
        have HO6 := HO
        have hok6 := hok
        rw [← hw6] at HPa6 HD6 HR6 HO6
        subst hw6
        go_wp2
        obtain ⟨c0, c1, c2, c3, rfl⟩ := four_words hok6
        have d0 : w6.cell? ⟨w.heap.size + 1, 0, none⟩ = some (.int .u64 (c0 : Int)) := HD6.out.cell 0
        have d1 : w6.cell? ⟨w.heap.size + 1, 1, none⟩ = some (.int .u64 (c1 : Int)) := HD6.out.cell 1
        have d2 : w6.cell? ⟨w.heap.size + 1, 2, none⟩ = some (.int .u64 (c2 : Int)) := HD6.out.cell 2
        have d3 : w6.cell? ⟨w.heap.size + 1, 3, none⟩ = some (.int .u64 (c3 : Int)) := HD6.out.cell 3
        have HSd : Hid (∀ W, Below w6.heap.size w6 W → W.cell? ⟨w.heap.size + 1, 0, none⟩ = some (.int .u64 (c0 : Int)) ∧ W.cell? ⟨w.heap.size + 1, 1, none⟩ = some (.int .u64 (c1 : Int)) ∧ W.cell? ⟨w.heap.size + 1, 2, none⟩ = some (.int .u64 (c2 : Int)) ∧ W.cell? ⟨w.heap.size + 1, 3, none⟩ = some (.int .u64 (c3 : Int))) := Lib.hid fun W hW => by
          have h9 := HD6.out.ext hW
          exact ⟨h9.cell 0, h9.cell 1, h9.cell 2, h9.cell 3⟩
        have HSd2 : Hid (∀ W W', Below w6.heap.size w6 W → Only (fun x => x = g) W W' → W'.cell? ⟨w.heap.size + 1, 0, none⟩ = some (.int .u64 (c0 : Int)) ∧ W'.cell? ⟨w.heap.size + 1, 1, none⟩ = some (.int .u64 (c1 : Int)) ∧ W'.cell? ⟨w.heap.size + 1, 2, none⟩ = some (.int .u64 (c2 : Int)) ∧ W'.cell? ⟨w.heap.size + 1, 3, none⟩ = some (.int .u64 (c3 : Int))) := Lib.hid fun W W' hW hO => by
          have h9 := (HD6.out.ext hW).only hO (by omega)
          exact ⟨h9.cell 0, h9.cell 1, h9.cell 2, h9.cell 3⟩
        have hLb := listB_len [c0, c1, c2, c3]
        have hLz := listB_pos hok6
        obtain ⟨L, hL⟩ : ∃ L, (listB [c0, c1, c2, c3]).length = L := ⟨_, rfl⟩
        have HCt : Hid (∀ W, Calls Tryd.prog 104 #[.agg #[.int .u64 (c0 : Int), .int .u64 (c1 : Int), .int .u64 (c2 : Int), .int .u64 (c3 : Int)]] W fun e w' => e = .returned (.int .i64 (L : Int)) ∧ Below W.heap.size W w') := Lib.hid fun W => by
          have := count_any [c0, c1, c2, c3] hok6 W
          rw [hL] at this
          exact this
        rw [hL] at hLb hLz
        have HLz := Lib.hid hLz
        have Hok6 := Lib.hid hok6
        clear hL hLz hok6
        have hLi : (L : Int) ≤ 256 := by omega
        rcases Nat.eq_zero_or_pos L with hL0 | hL0
        · have hLd : decide ((0 : Int) < (L : Int)) = false := by simp; omega
          have hLd3 : decide (0 < L) = false := by simp; omega
          have hLd4 : ¬ (0 : Int) < (L : Int) := by omega
          have hLd2 : (L : Int) ≤ 0 := by omega
          have hz0 : [c0, c1, c2, c3] = zeroB := HLz.out.1 hL0
          have HP6 : Hid (classP ((natsOf s).drop p) = .bad (s.size - q)) := Lib.hid (by rw [HCp.out, HT6.out]; simp only [PR.bind]; simp only [Bool.false_eq_true, if_false]; rw [if_pos hz0, nats_len])
          have Hz0 := Lib.hid hz0
          clear hL0 hz0
          refine wp_region_held_drew (S := fun w' => w'.cell? ⟨w.heap.size + 1, 0, none⟩ = some (.int .u64 (c0 : Int)) ∧ w'.cell? ⟨w.heap.size + 1, 1, none⟩ = some (.int .u64 (c1 : Int)) ∧ w'.cell? ⟨w.heap.size + 1, 2, none⟩ = some (.int .u64 (c2 : Int)) ∧ w'.cell? ⟨w.heap.size + 1, 3, none⟩ = some (.int .u64 (c3 : Int))) (by kernel_rfl) ?_ (fun hHeld => ?_)
          · exact ⟨d0, d1, d2, d3⟩
          refine wpAnyH_take (i := 0) (v := ?_) (take_list rfl) (by kernel_rfl) (by kernel_rfl) (by kernel_rfl) (fun _ _ _ h => h) (Or.inl ⟨by rfl, ?_⟩) (by assumption) ?_
          rotate_left
          · intro w hSw
            try dsimp only at hSw
            first | (go_simp; done) | (go_simp; with_reducible rfl)
          try simp only [Act.put, List.setIfInBounds_toArray, List.set_cons_zero, List.set_cons_succ]
          refine wpAnyH_take (i := 1) (v := ?_) (take_list rfl) (by kernel_rfl) (by kernel_rfl) (by kernel_rfl) (fun _ _ _ h => h) (Or.inl ⟨by rfl, ?_⟩) (by assumption) ?_
          rotate_left
          · intro w hSw
            try dsimp only at hSw
            first | (go_simp; done) | (go_simp; with_reducible rfl)
          try simp only [Act.put, List.setIfInBounds_toArray, List.set_cons_zero, List.set_cons_succ]
          refine wpAnyH_ready (rs := [2]) (by kernel_rfl) (by simp) ?_
          refine AllReadyH.cons (take_list rfl) (fun K hK => ?_) ?_
          · skip
            go_simp
            refine (HCt.out _).mono ?_
            rintro e wx ⟨rfl, hbx'⟩
            dsimp only
            have hbx : Below w6.heap.size w6 wx := (by first | exact hbx' | exact ext_trans (ext_drew (Below.refl _ _)) hbx')
            refine hK.out _ _ ?_ (fun hHeld => ?_)
            · try dsimp only
              exact HSd.out _ hbx
            clear hK K
            refine wpAnyH_take (i := 3) (v := ?_) (take_list rfl) (by kernel_rfl) (by kernel_rfl) (by kernel_rfl) (fun _ _ _ h => h) (Or.inl ⟨by rfl, ?_⟩) (by assumption) ?_
            rotate_left
            · intro w hSw
              try dsimp only at hSw
              first | (go_simp; done) | (go_simp; with_reducible rfl)
            try simp only [Act.put, List.setIfInBounds_toArray, List.set_cons_zero, List.set_cons_succ]
            refine wpAnyH_take (i := 4) (v := ?_) (take_list rfl) (by kernel_rfl) (by kernel_rfl) (by kernel_rfl) (fun _ _ _ h => h) (Or.inl ⟨by rfl, ?_⟩) (by assumption) ?_
            rotate_left
            · intro w hSw
              try dsimp only at hSw
              first | (go_simp; done) | (go_simp; with_reducible rfl)
            try simp only [Act.put, List.setIfInBounds_toArray, List.set_cons_zero, List.set_cons_succ]
            refine wpAnyH_take (i := 5) (v := undef) (take_list rfl) (by kernel_rfl) (by kernel_rfl) (by kernel_rfl) (fun _ _ _ h => h) (Or.inr ⟨by rfl, rfl⟩) (by assumption) ?_
            try simp only [Act.put, List.setIfInBounds_toArray, List.set_cons_zero, List.set_cons_succ]
            refine wpAnyH_take (i := 6) (v := undef) (take_list rfl) (by kernel_rfl) (by kernel_rfl) (by kernel_rfl) (fun _ _ _ h => h) (Or.inr ⟨by rfl, rfl⟩) (by assumption) ?_
            try simp only [Act.put, List.setIfInBounds_toArray, List.set_cons_zero, List.set_cons_succ]
            refine wpAnyH_take (i := 7) (v := ?_) (take_list rfl) (by kernel_rfl) (by kernel_rfl) (by kernel_rfl) (fun _ _ _ h => h) (Or.inl ⟨by rfl, ?_⟩) (by assumption) ?_
            rotate_left
            · intro w hSw
              try dsimp only at hSw
              first | (go_simp; done) | (go_simp; with_reducible rfl)
            try simp only [Act.put, List.setIfInBounds_toArray, List.set_cons_zero, List.set_cons_succ]
            refine wpAnyH_ready (rs := [8]) (by kernel_rfl) (by simp) ?_
            refine AllReadyH.cons (take_list rfl) (fun K hK => ?_) ?_
            · skip
              refine step_store_set rfl _ _ rfl w.heap.size rfl (ws := [c0, c1, c2, c3]) rfl Hok6.out zero_ok (HR6.out.ext hbx) ?_
              intro wy hBy hoy
              have hSy : (fun w' => w'.cell? ⟨w.heap.size + 1, 0, none⟩ = some (.int .u64 (c0 : Int)) ∧ w'.cell? ⟨w.heap.size + 1, 1, none⟩ = some (.int .u64 (c1 : Int)) ∧ w'.cell? ⟨w.heap.size + 1, 2, none⟩ = some (.int .u64 (c2 : Int)) ∧ w'.cell? ⟨w.heap.size + 1, 3, none⟩ = some (.int .u64 (c3 : Int))) wy := by
                have h9 := (HD6.out.ext hbx).only hoy (by omega)
                exact ⟨h9.cell 0, h9.cell 1, h9.cell 2, h9.cell 3⟩
              refine hK.out _ _ ?_ (fun hHeld => ?_)
              · try dsimp only
                exact hSy
              clear hK K
              refine wpAnyH_take (i := 9) (v := ?_) (take_list rfl) (by kernel_rfl) (by kernel_rfl) (by kernel_rfl) (fun _ _ _ h => h) (Or.inl ⟨by rfl, ?_⟩) (by assumption) ?_
              rotate_left
              · intro w hSw
                try dsimp only at hSw
                first | (go_simp; done) | (go_simp; with_reducible rfl)
              try simp only [Act.put, List.setIfInBounds_toArray, List.set_cons_zero, List.set_cons_succ]
              refine wpAnyH_done (by kernel_rfl) ?_ _
              go_wp2
              refine bodyPost_ret (results_set2 rfl _ _ w.heap.size _ _ Hok6.out rfl hBy) rfl ?_
              have hfin := fin_store (Nat.le_refl _) hgl (HO6.out.trans (Only.of_ext (S := fun x => x = g) hbx) (fun _ _ h => h)) (HPa6.out.ext hbx) hoy
              rw [HP6.out]
              exact TookP.bad (left := s.size - q) hfin.1 ⟨_, Hok6.out, rfl⟩ (by omega) (by omega) hfin.2
            exact AllReadyH.nil
          exact AllReadyH.nil
        · have hLd : decide ((0 : Int) < (L : Int)) = true := by simp; omega
          have hLd3 : decide (0 < L) = true := by simp; omega
          have hLd2 : (0 : Int) < (L : Int) := by omega
          have hz0 : [c0, c1, c2, c3] ≠ zeroB := fun h => by have := HLz.out.2 h; omega
          have HP6 : Hid (classP ((natsOf s).drop p) = .ok (classE [c0, c1, c2, c3]) ((natsOf s).drop (q + 1))) := Lib.hid (by rw [HCp.out, HT6.out]; simp only [PR.bind]; simp only [Bool.false_eq_true, if_false]; rw [if_neg hz0, List.tail_drop])
          have HTk := Lib.hid fun (W : World) (hW : PaS W g s q) => take_yes W g s q 93 hs hq Hn93.out hW
          have hqs := (next_true Hn93.out).1
          clear hL0 hz0
          refine wp_region_held_drew (S := fun w' => w'.cell? ⟨w.heap.size + 1, 0, none⟩ = some (.int .u64 (c0 : Int)) ∧ w'.cell? ⟨w.heap.size + 1, 1, none⟩ = some (.int .u64 (c1 : Int)) ∧ w'.cell? ⟨w.heap.size + 1, 2, none⟩ = some (.int .u64 (c2 : Int)) ∧ w'.cell? ⟨w.heap.size + 1, 3, none⟩ = some (.int .u64 (c3 : Int))) (by kernel_rfl) ?_ (fun hHeld => ?_)
          · exact ⟨d0, d1, d2, d3⟩
          refine wpAnyH_take (i := 0) (v := ?_) (take_list rfl) (by kernel_rfl) (by kernel_rfl) (by kernel_rfl) (fun _ _ _ h => h) (Or.inl ⟨by rfl, ?_⟩) (by assumption) ?_
          rotate_left
          · intro w hSw
            try dsimp only at hSw
            first | (go_simp; done) | (go_simp; with_reducible rfl)
          try simp only [Act.put, List.setIfInBounds_toArray, List.set_cons_zero, List.set_cons_succ]
          refine wpAnyH_take (i := 1) (v := ?_) (take_list rfl) (by kernel_rfl) (by kernel_rfl) (by kernel_rfl) (fun _ _ _ h => h) (Or.inl ⟨by rfl, ?_⟩) (by assumption) ?_
          rotate_left
          · intro w hSw
            try dsimp only at hSw
            first | (go_simp; done) | (go_simp; with_reducible rfl)
          try simp only [Act.put, List.setIfInBounds_toArray, List.set_cons_zero, List.set_cons_succ]
          refine wpAnyH_ready (rs := [2]) (by kernel_rfl) (by simp) ?_
          refine AllReadyH.cons (take_list rfl) (fun K hK => ?_) ?_
          · skip
            go_simp
            refine (HCt.out _).mono ?_
            rintro e wx ⟨rfl, hbx'⟩
            dsimp only
            have hbx : Below w6.heap.size w6 wx := (by first | exact hbx' | exact ext_trans (ext_drew (Below.refl _ _)) hbx')
            refine hK.out _ _ ?_ (fun hHeld => ?_)
            · try dsimp only
              exact HSd.out _ hbx
            clear hK K
            refine wpAnyH_take (i := 3) (v := ?_) (take_list rfl) (by kernel_rfl) (by kernel_rfl) (by kernel_rfl) (fun _ _ _ h => h) (Or.inl ⟨by rfl, ?_⟩) (by assumption) ?_
            rotate_left
            · intro w hSw
              try dsimp only at hSw
              first | (go_simp; done) | (go_simp; with_reducible rfl)
            try simp only [Act.put, List.setIfInBounds_toArray, List.set_cons_zero, List.set_cons_succ]
            refine wpAnyH_take (i := 4) (v := ?_) (take_list rfl) (by kernel_rfl) (by kernel_rfl) (by kernel_rfl) (fun _ _ _ h => h) (Or.inl ⟨by rfl, ?_⟩) (by assumption) ?_
            rotate_left
            · intro w hSw
              try dsimp only at hSw
              first | (go_simp; done) | (go_simp; with_reducible rfl)
            try simp only [Act.put, List.setIfInBounds_toArray, List.set_cons_zero, List.set_cons_succ]
            refine wpAnyH_take (i := 5) (v := ?_) (take_list rfl) (by kernel_rfl) (by kernel_rfl) (by kernel_rfl) (fun _ _ _ h => h) (Or.inl ⟨by rfl, ?_⟩) (by assumption) ?_
            rotate_left
            · intro w hSw
              try dsimp only at hSw
              first | (go_simp; done) | (go_simp; with_reducible rfl)
            try simp only [Act.put, List.setIfInBounds_toArray, List.set_cons_zero, List.set_cons_succ]
            refine wpAnyH_ready (rs := [6]) (by kernel_rfl) (by simp) ?_
            refine AllReadyH.cons (take_list rfl) (fun K hK => ?_) ?_
            · skip
              go_simp
              refine (HTk.out _ (HPa6.out.ext hbx)).mono ?_
              rintro e wk ⟨rfl, hok, hPk⟩
              dsimp only
              refine hK.out _ _ ?_ (fun hHeld => ?_)
              · try dsimp only
                exact HSd2.out _ _ hbx hok
              clear hK K
              refine wpAnyH_take (i := 7) (v := ?_) (take_list rfl) (by kernel_rfl) (by kernel_rfl) (by kernel_rfl) (fun _ _ _ h => h) (Or.inl ⟨by rfl, ?_⟩) (by assumption) ?_
              rotate_left
              · intro w hSw
                try dsimp only at hSw
                first | (go_simp; done) | (go_simp; with_reducible rfl)
              try simp only [Act.put, List.setIfInBounds_toArray, List.set_cons_zero, List.set_cons_succ]
              refine wpAnyH_ready (rs := [8]) (by kernel_rfl) (by simp) ?_
              refine AllReadyH.cons (take_list rfl) (fun K hK => ?_) ?_
              · skip
                refine step_store_set rfl _ _ rfl w.heap.size rfl (ws := [c0, c1, c2, c3]) rfl Hok6.out zero_ok ((HR6.out.ext hbx).only hok (by omega)) ?_
                intro wy hBy hoy
                have hSy : (fun w' => w'.cell? ⟨w.heap.size + 1, 0, none⟩ = some (.int .u64 (c0 : Int)) ∧ w'.cell? ⟨w.heap.size + 1, 1, none⟩ = some (.int .u64 (c1 : Int)) ∧ w'.cell? ⟨w.heap.size + 1, 2, none⟩ = some (.int .u64 (c2 : Int)) ∧ w'.cell? ⟨w.heap.size + 1, 3, none⟩ = some (.int .u64 (c3 : Int))) wy := by
                  have h9 := ((HD6.out.ext hbx).only hok (by omega)).only hoy (by omega)
                  exact ⟨h9.cell 0, h9.cell 1, h9.cell 2, h9.cell 3⟩
                refine hK.out _ _ ?_ (fun hHeld => ?_)
                · try dsimp only
                  exact hSy
                clear hK K
                refine wpAnyH_take (i := 9) (v := ?_) (take_list rfl) (by kernel_rfl) (by kernel_rfl) (by kernel_rfl) (fun _ _ _ h => h) (Or.inl ⟨by rfl, ?_⟩) (by assumption) ?_
                rotate_left
                · intro w hSw
                  try dsimp only at hSw
                  first | (go_simp; done) | (go_simp; with_reducible rfl)
                try simp only [Act.put, List.setIfInBounds_toArray, List.set_cons_zero, List.set_cons_succ]
                refine wpAnyH_done (by kernel_rfl) ?_ _
                go_wp2
                refine bodyPost_ret (results_set2 rfl _ _ w.heap.size _ _ Hok6.out rfl hBy) rfl ?_
                have hfin := fin_store (Nat.le_refl _) hgl ((HO6.out.trans (Only.of_ext (S := fun x => x = g) hbx) (fun _ _ h => h)).trans hok (fun _ _ h => h)) hPk hoy
                rw [HP6.out]
                exact TookP.ok (p := q + 1) hfin.1 ⟨_, Hok6.out, rfl, rfl⟩ hqs rfl hfin.2
              exact AllReadyH.nil
            exact AllReadyH.nil
          exact AllReadyH.nil
      | true =>
        have hNt := not_any ws hok
        have hnok := not_ok hok
        have HNt := Lib.hid hNt
        obtain ⟨a0, a1, a2, a3, rfl⟩ := four_words hok
        have d0 : wr.cell? ⟨w.heap.size + 1, 0, none⟩ = some (.int .u64 (a0 : Int)) := HD.out.cell 0
        have d1 : wr.cell? ⟨w.heap.size + 1, 1, none⟩ = some (.int .u64 (a1 : Int)) := HD.out.cell 1
        have d2 : wr.cell? ⟨w.heap.size + 1, 2, none⟩ = some (.int .u64 (a2 : Int)) := HD.out.cell 2
        have d3 : wr.cell? ⟨w.heap.size + 1, 3, none⟩ = some (.int .u64 (a3 : Int)) := HD.out.cell 3
        clear hNt
        go_wp2_with fail
        refine (HNt.out _).mono ?_
        rintro e w4 ⟨rfl, hb4⟩
        clear d0 d1 d2 d3
        have hD4 := HD.out.ext hb4
        have HR4 := Lib.hid (HR.out.ext hb4)
        have HPa4 := Lib.hid (HPa.out.ext hb4)
        have HO4 : Hid (Only (fun x => x = g) w w4) := Lib.hid (HO.out.trans (Only.of_ext hb4) (fun _ _ h => h))
        obtain ⟨ns, hns⟩ : ∃ ns, notB [a0, a1, a2, a3] = ns := ⟨_, rfl⟩
        rw [hns] at hnok HNt ⊢
        have Hns := Lib.hid hns
        have hok6 : SetOk ns := hnok
        have hwok : SetOk [a0, a1, a2, a3] := hok
        clear hb4 hns HNt
        unfold setV
        go_wp2_with (refine wpList_store_set rfl _ _ rfl (w.heap.size + 1) rfl rfl hok6 hwok hD4 ?_; intro w6 hB6 hfar6 hsz6 hbel6)
        have ho6 := only_store hfar6 hbel6
        have HPa6 := Lib.hid (HPa4.out.only ho6 (by omega))
        have HR6 := Lib.hid (HR4.out.only ho6 (by omega))
        have HO6 : Hid (Only (fun x => x = g) w w6) := Lib.hid (HO4.out.trans ho6 (fun i hi h => by omega))
        have HD6 := Lib.hid hB6
        clear hB6 hfar6 hsz6 hbel6 ho6 hD4
        obtain ⟨c0, c1, c2, c3, rfl⟩ := four_words hok6
        have d0 : w6.cell? ⟨w.heap.size + 1, 0, none⟩ = some (.int .u64 (c0 : Int)) := HD6.out.cell 0
        have d1 : w6.cell? ⟨w.heap.size + 1, 1, none⟩ = some (.int .u64 (c1 : Int)) := HD6.out.cell 1
        have d2 : w6.cell? ⟨w.heap.size + 1, 2, none⟩ = some (.int .u64 (c2 : Int)) := HD6.out.cell 2
        have d3 : w6.cell? ⟨w.heap.size + 1, 3, none⟩ = some (.int .u64 (c3 : Int)) := HD6.out.cell 3
        have HSd : Hid (∀ W, Below w6.heap.size w6 W → W.cell? ⟨w.heap.size + 1, 0, none⟩ = some (.int .u64 (c0 : Int)) ∧ W.cell? ⟨w.heap.size + 1, 1, none⟩ = some (.int .u64 (c1 : Int)) ∧ W.cell? ⟨w.heap.size + 1, 2, none⟩ = some (.int .u64 (c2 : Int)) ∧ W.cell? ⟨w.heap.size + 1, 3, none⟩ = some (.int .u64 (c3 : Int))) := Lib.hid fun W hW => by
          have h9 := HD6.out.ext hW
          exact ⟨h9.cell 0, h9.cell 1, h9.cell 2, h9.cell 3⟩
        have HSd2 : Hid (∀ W W', Below w6.heap.size w6 W → Only (fun x => x = g) W W' → W'.cell? ⟨w.heap.size + 1, 0, none⟩ = some (.int .u64 (c0 : Int)) ∧ W'.cell? ⟨w.heap.size + 1, 1, none⟩ = some (.int .u64 (c1 : Int)) ∧ W'.cell? ⟨w.heap.size + 1, 2, none⟩ = some (.int .u64 (c2 : Int)) ∧ W'.cell? ⟨w.heap.size + 1, 3, none⟩ = some (.int .u64 (c3 : Int))) := Lib.hid fun W W' hW hO => by
          have h9 := (HD6.out.ext hW).only hO (by omega)
          exact ⟨h9.cell 0, h9.cell 1, h9.cell 2, h9.cell 3⟩
        have hLb := listB_len [c0, c1, c2, c3]
        have hLz := listB_pos hok6
        obtain ⟨L, hL⟩ : ∃ L, (listB [c0, c1, c2, c3]).length = L := ⟨_, rfl⟩
        have HCt : Hid (∀ W, Calls Tryd.prog 104 #[.agg #[.int .u64 (c0 : Int), .int .u64 (c1 : Int), .int .u64 (c2 : Int), .int .u64 (c3 : Int)]] W fun e w' => e = .returned (.int .i64 (L : Int)) ∧ Below W.heap.size W w') := Lib.hid fun W => by
          have := count_any [c0, c1, c2, c3] hok6 W
          rw [hL] at this
          exact this
        rw [hL] at hLb hLz
        have HLz := Lib.hid hLz
        have Hok6 := Lib.hid hok6
        clear hL hLz hok6
        have hLi : (L : Int) ≤ 256 := by omega
        rcases Nat.eq_zero_or_pos L with hL0 | hL0
        · have hLd : decide ((0 : Int) < (L : Int)) = false := by simp; omega
          have hLd3 : decide (0 < L) = false := by simp; omega
          have hLd4 : ¬ (0 : Int) < (L : Int) := by omega
          have hLd2 : (L : Int) ≤ 0 := by omega
          have hz0 : [c0, c1, c2, c3] = zeroB := HLz.out.1 hL0
          have HP6 : Hid (classP ((natsOf s).drop p) = .bad (s.size - q)) := Lib.hid (by rw [HCp.out, HT6.out]; simp only [PR.bind]; simp only [if_true]; rw [Hns.out]; rw [if_pos hz0, nats_len])
          have Hz0 := Lib.hid hz0
          clear hL0 hz0
          refine wp_region_held_drew (S := fun w' => w'.cell? ⟨w.heap.size + 1, 0, none⟩ = some (.int .u64 (c0 : Int)) ∧ w'.cell? ⟨w.heap.size + 1, 1, none⟩ = some (.int .u64 (c1 : Int)) ∧ w'.cell? ⟨w.heap.size + 1, 2, none⟩ = some (.int .u64 (c2 : Int)) ∧ w'.cell? ⟨w.heap.size + 1, 3, none⟩ = some (.int .u64 (c3 : Int))) (by kernel_rfl) ?_ (fun hHeld => ?_)
          · exact ⟨d0, d1, d2, d3⟩
          refine wpAnyH_take (i := 0) (v := ?_) (take_list rfl) (by kernel_rfl) (by kernel_rfl) (by kernel_rfl) (fun _ _ _ h => h) (Or.inl ⟨by rfl, ?_⟩) (by assumption) ?_
          rotate_left
          · intro w hSw
            try dsimp only at hSw
            first | (go_simp; done) | (go_simp; with_reducible rfl)
          try simp only [Act.put, List.setIfInBounds_toArray, List.set_cons_zero, List.set_cons_succ]
          refine wpAnyH_take (i := 1) (v := ?_) (take_list rfl) (by kernel_rfl) (by kernel_rfl) (by kernel_rfl) (fun _ _ _ h => h) (Or.inl ⟨by rfl, ?_⟩) (by assumption) ?_
          rotate_left
          · intro w hSw
            try dsimp only at hSw
            first | (go_simp; done) | (go_simp; with_reducible rfl)
          try simp only [Act.put, List.setIfInBounds_toArray, List.set_cons_zero, List.set_cons_succ]
          refine wpAnyH_ready (rs := [2]) (by kernel_rfl) (by simp) ?_
          refine AllReadyH.cons (take_list rfl) (fun K hK => ?_) ?_
          · skip
            go_simp
            refine (HCt.out _).mono ?_
            rintro e wx ⟨rfl, hbx'⟩
            dsimp only
            have hbx : Below w6.heap.size w6 wx := (by first | exact hbx' | exact ext_trans (ext_drew (Below.refl _ _)) hbx')
            refine hK.out _ _ ?_ (fun hHeld => ?_)
            · try dsimp only
              exact HSd.out _ hbx
            clear hK K
            refine wpAnyH_take (i := 3) (v := ?_) (take_list rfl) (by kernel_rfl) (by kernel_rfl) (by kernel_rfl) (fun _ _ _ h => h) (Or.inl ⟨by rfl, ?_⟩) (by assumption) ?_
            rotate_left
            · intro w hSw
              try dsimp only at hSw
              first | (go_simp; done) | (go_simp; with_reducible rfl)
            try simp only [Act.put, List.setIfInBounds_toArray, List.set_cons_zero, List.set_cons_succ]
            refine wpAnyH_take (i := 4) (v := ?_) (take_list rfl) (by kernel_rfl) (by kernel_rfl) (by kernel_rfl) (fun _ _ _ h => h) (Or.inl ⟨by rfl, ?_⟩) (by assumption) ?_
            rotate_left
            · intro w hSw
              try dsimp only at hSw
              first | (go_simp; done) | (go_simp; with_reducible rfl)
            try simp only [Act.put, List.setIfInBounds_toArray, List.set_cons_zero, List.set_cons_succ]
            refine wpAnyH_take (i := 5) (v := undef) (take_list rfl) (by kernel_rfl) (by kernel_rfl) (by kernel_rfl) (fun _ _ _ h => h) (Or.inr ⟨by rfl, rfl⟩) (by assumption) ?_
            try simp only [Act.put, List.setIfInBounds_toArray, List.set_cons_zero, List.set_cons_succ]
            refine wpAnyH_take (i := 6) (v := undef) (take_list rfl) (by kernel_rfl) (by kernel_rfl) (by kernel_rfl) (fun _ _ _ h => h) (Or.inr ⟨by rfl, rfl⟩) (by assumption) ?_
            try simp only [Act.put, List.setIfInBounds_toArray, List.set_cons_zero, List.set_cons_succ]
            refine wpAnyH_take (i := 7) (v := ?_) (take_list rfl) (by kernel_rfl) (by kernel_rfl) (by kernel_rfl) (fun _ _ _ h => h) (Or.inl ⟨by rfl, ?_⟩) (by assumption) ?_
            rotate_left
            · intro w hSw
              try dsimp only at hSw
              first | (go_simp; done) | (go_simp; with_reducible rfl)
            try simp only [Act.put, List.setIfInBounds_toArray, List.set_cons_zero, List.set_cons_succ]
            refine wpAnyH_ready (rs := [8]) (by kernel_rfl) (by simp) ?_
            refine AllReadyH.cons (take_list rfl) (fun K hK => ?_) ?_
            · skip
              refine step_store_set rfl _ _ rfl w.heap.size rfl (ws := [c0, c1, c2, c3]) rfl Hok6.out zero_ok (HR6.out.ext hbx) ?_
              intro wy hBy hoy
              have hSy : (fun w' => w'.cell? ⟨w.heap.size + 1, 0, none⟩ = some (.int .u64 (c0 : Int)) ∧ w'.cell? ⟨w.heap.size + 1, 1, none⟩ = some (.int .u64 (c1 : Int)) ∧ w'.cell? ⟨w.heap.size + 1, 2, none⟩ = some (.int .u64 (c2 : Int)) ∧ w'.cell? ⟨w.heap.size + 1, 3, none⟩ = some (.int .u64 (c3 : Int))) wy := by
                have h9 := (HD6.out.ext hbx).only hoy (by omega)
                exact ⟨h9.cell 0, h9.cell 1, h9.cell 2, h9.cell 3⟩
              refine hK.out _ _ ?_ (fun hHeld => ?_)
              · try dsimp only
                exact hSy
              clear hK K
              refine wpAnyH_take (i := 9) (v := ?_) (take_list rfl) (by kernel_rfl) (by kernel_rfl) (by kernel_rfl) (fun _ _ _ h => h) (Or.inl ⟨by rfl, ?_⟩) (by assumption) ?_
              rotate_left
              · intro w hSw
                try dsimp only at hSw
                first | (go_simp; done) | (go_simp; with_reducible rfl)
              try simp only [Act.put, List.setIfInBounds_toArray, List.set_cons_zero, List.set_cons_succ]
              refine wpAnyH_done (by kernel_rfl) ?_ _
              go_wp2
              refine bodyPost_ret (results_set2 rfl _ _ w.heap.size _ _ Hok6.out rfl hBy) rfl ?_
              have hfin := fin_store (Nat.le_refl _) hgl (HO6.out.trans (Only.of_ext (S := fun x => x = g) hbx) (fun _ _ h => h)) (HPa6.out.ext hbx) hoy
              rw [HP6.out]
              exact TookP.bad (left := s.size - q) hfin.1 ⟨_, Hok6.out, rfl⟩ (by omega) (by omega) hfin.2
            exact AllReadyH.nil
          exact AllReadyH.nil
        · have hLd : decide ((0 : Int) < (L : Int)) = true := by simp; omega
          have hLd3 : decide (0 < L) = true := by simp; omega
          have hLd2 : (0 : Int) < (L : Int) := by omega
          have hz0 : [c0, c1, c2, c3] ≠ zeroB := fun h => by have := HLz.out.2 h; omega
          have HP6 : Hid (classP ((natsOf s).drop p) = .ok (classE [c0, c1, c2, c3]) ((natsOf s).drop (q + 1))) := Lib.hid (by rw [HCp.out, HT6.out]; simp only [PR.bind]; simp only [if_true]; rw [Hns.out]; rw [if_neg hz0, List.tail_drop])
          have HTk := Lib.hid fun (W : World) (hW : PaS W g s q) => take_yes W g s q 93 hs hq Hn93.out hW
          have hqs := (next_true Hn93.out).1
          clear hL0 hz0
          refine wp_region_held_drew (S := fun w' => w'.cell? ⟨w.heap.size + 1, 0, none⟩ = some (.int .u64 (c0 : Int)) ∧ w'.cell? ⟨w.heap.size + 1, 1, none⟩ = some (.int .u64 (c1 : Int)) ∧ w'.cell? ⟨w.heap.size + 1, 2, none⟩ = some (.int .u64 (c2 : Int)) ∧ w'.cell? ⟨w.heap.size + 1, 3, none⟩ = some (.int .u64 (c3 : Int))) (by kernel_rfl) ?_ (fun hHeld => ?_)
          · exact ⟨d0, d1, d2, d3⟩
          refine wpAnyH_take (i := 0) (v := ?_) (take_list rfl) (by kernel_rfl) (by kernel_rfl) (by kernel_rfl) (fun _ _ _ h => h) (Or.inl ⟨by rfl, ?_⟩) (by assumption) ?_
          rotate_left
          · intro w hSw
            try dsimp only at hSw
            first | (go_simp; done) | (go_simp; with_reducible rfl)
          try simp only [Act.put, List.setIfInBounds_toArray, List.set_cons_zero, List.set_cons_succ]
          refine wpAnyH_take (i := 1) (v := ?_) (take_list rfl) (by kernel_rfl) (by kernel_rfl) (by kernel_rfl) (fun _ _ _ h => h) (Or.inl ⟨by rfl, ?_⟩) (by assumption) ?_
          rotate_left
          · intro w hSw
            try dsimp only at hSw
            first | (go_simp; done) | (go_simp; with_reducible rfl)
          try simp only [Act.put, List.setIfInBounds_toArray, List.set_cons_zero, List.set_cons_succ]
          refine wpAnyH_ready (rs := [2]) (by kernel_rfl) (by simp) ?_
          refine AllReadyH.cons (take_list rfl) (fun K hK => ?_) ?_
          · skip
            go_simp
            refine (HCt.out _).mono ?_
            rintro e wx ⟨rfl, hbx'⟩
            dsimp only
            have hbx : Below w6.heap.size w6 wx := (by first | exact hbx' | exact ext_trans (ext_drew (Below.refl _ _)) hbx')
            refine hK.out _ _ ?_ (fun hHeld => ?_)
            · try dsimp only
              exact HSd.out _ hbx
            clear hK K
            refine wpAnyH_take (i := 3) (v := ?_) (take_list rfl) (by kernel_rfl) (by kernel_rfl) (by kernel_rfl) (fun _ _ _ h => h) (Or.inl ⟨by rfl, ?_⟩) (by assumption) ?_
            rotate_left
            · intro w hSw
              try dsimp only at hSw
              first | (go_simp; done) | (go_simp; with_reducible rfl)
            try simp only [Act.put, List.setIfInBounds_toArray, List.set_cons_zero, List.set_cons_succ]
            refine wpAnyH_take (i := 4) (v := ?_) (take_list rfl) (by kernel_rfl) (by kernel_rfl) (by kernel_rfl) (fun _ _ _ h => h) (Or.inl ⟨by rfl, ?_⟩) (by assumption) ?_
            rotate_left
            · intro w hSw
              try dsimp only at hSw
              first | (go_simp; done) | (go_simp; with_reducible rfl)
            try simp only [Act.put, List.setIfInBounds_toArray, List.set_cons_zero, List.set_cons_succ]
            refine wpAnyH_take (i := 5) (v := ?_) (take_list rfl) (by kernel_rfl) (by kernel_rfl) (by kernel_rfl) (fun _ _ _ h => h) (Or.inl ⟨by rfl, ?_⟩) (by assumption) ?_
            rotate_left
            · intro w hSw
              try dsimp only at hSw
              first | (go_simp; done) | (go_simp; with_reducible rfl)
            try simp only [Act.put, List.setIfInBounds_toArray, List.set_cons_zero, List.set_cons_succ]
            refine wpAnyH_ready (rs := [6]) (by kernel_rfl) (by simp) ?_
            refine AllReadyH.cons (take_list rfl) (fun K hK => ?_) ?_
            · skip
              go_simp
              refine (HTk.out _ (HPa6.out.ext hbx)).mono ?_
              rintro e wk ⟨rfl, hok, hPk⟩
              dsimp only
              refine hK.out _ _ ?_ (fun hHeld => ?_)
              · try dsimp only
                exact HSd2.out _ _ hbx hok
              clear hK K
              refine wpAnyH_take (i := 7) (v := ?_) (take_list rfl) (by kernel_rfl) (by kernel_rfl) (by kernel_rfl) (fun _ _ _ h => h) (Or.inl ⟨by rfl, ?_⟩) (by assumption) ?_
              rotate_left
              · intro w hSw
                try dsimp only at hSw
                first | (go_simp; done) | (go_simp; with_reducible rfl)
              try simp only [Act.put, List.setIfInBounds_toArray, List.set_cons_zero, List.set_cons_succ]
              refine wpAnyH_ready (rs := [8]) (by kernel_rfl) (by simp) ?_
              refine AllReadyH.cons (take_list rfl) (fun K hK => ?_) ?_
              · skip
                refine step_store_set rfl _ _ rfl w.heap.size rfl (ws := [c0, c1, c2, c3]) rfl Hok6.out zero_ok ((HR6.out.ext hbx).only hok (by omega)) ?_
                intro wy hBy hoy
                have hSy : (fun w' => w'.cell? ⟨w.heap.size + 1, 0, none⟩ = some (.int .u64 (c0 : Int)) ∧ w'.cell? ⟨w.heap.size + 1, 1, none⟩ = some (.int .u64 (c1 : Int)) ∧ w'.cell? ⟨w.heap.size + 1, 2, none⟩ = some (.int .u64 (c2 : Int)) ∧ w'.cell? ⟨w.heap.size + 1, 3, none⟩ = some (.int .u64 (c3 : Int))) wy := by
                  have h9 := ((HD6.out.ext hbx).only hok (by omega)).only hoy (by omega)
                  exact ⟨h9.cell 0, h9.cell 1, h9.cell 2, h9.cell 3⟩
                refine hK.out _ _ ?_ (fun hHeld => ?_)
                · try dsimp only
                  exact hSy
                clear hK K
                refine wpAnyH_take (i := 9) (v := ?_) (take_list rfl) (by kernel_rfl) (by kernel_rfl) (by kernel_rfl) (fun _ _ _ h => h) (Or.inl ⟨by rfl, ?_⟩) (by assumption) ?_
                rotate_left
                · intro w hSw
                  try dsimp only at hSw
                  first | (go_simp; done) | (go_simp; with_reducible rfl)
                try simp only [Act.put, List.setIfInBounds_toArray, List.set_cons_zero, List.set_cons_succ]
                refine wpAnyH_done (by kernel_rfl) ?_ _
                go_wp2
                refine bodyPost_ret (results_set2 rfl _ _ w.heap.size _ _ Hok6.out rfl hBy) rfl ?_
                have hfin := fin_store (Nat.le_refl _) hgl ((HO6.out.trans (Only.of_ext (S := fun x => x = g) hbx) (fun _ _ h => h)).trans hok (fun _ _ h => h)) hPk hoy
                rw [HP6.out]
                exact TookP.ok (p := q + 1) hfin.1 ⟨_, Hok6.out, rfl, rfl⟩ hqs rfl hfin.2
              exact AllReadyH.nil
            exact AllReadyH.nil
          exact AllReadyH.nil
end Go.Proofs.YtmggajpecgnjkaaDoor

/-
  Contracts of the program's number, numbers. No statement of the seat is proved here.
-/
namespace Go.Proofs.YtmggajpecgnjkaaDoor
open Go Go.RowKit
set_option maxRecDepth 100000

def isI (n : Int) (v : Value) (_ : World) : Prop := v = .int .i64 n
def zeroI (v : Value) (_ : World) : Prop := v = .int .i64 0
theorem dig_iff (c : Nat) : digB c = true ↔ 48 ≤ c ∧ c ≤ 57 := by simp [digB]
/-- digits, so far -/
def DigQ (p : Nat) (l : List Nat) (k : Nat) (n : Int) (q : Nat) : Prop :=
  (k = 0 ∧ n = 0 ∧ q = p) ∨ (k = 1 ∧ q = p + 1 ∧ ∃ a r, l = a :: r ∧ digB a = true ∧ n = (a : Int) - 48) ∨
    (k = 2 ∧ q = p + 2 ∧ ∃ a b r, l = a :: b :: r ∧ digB a = true ∧ digB b = true ∧ n = 10 * ((a : Int) - 48) + ((b : Int) - 48))
/-- what is taken when no digit more is -/
theorem digQ_end {p q k : Nat} {n : Int} {s : ByteArray} (h : DigQ p ((natsOf s).drop p) k n q) (hend : k = 2 ∨ (natsOf s).drop q = [] ∨ ∃ c r, (natsOf s).drop q = c :: r ∧ digB c = false) (hps : p ≤ s.size) :
    (k = 0 ∧ n = 0 ∧ q = p ∧ digitsP ((natsOf s).drop p) = .bad (s.size - p)) ∨ (0 < k ∧ digitsP ((natsOf s).drop p) = .ok n ((natsOf s).drop q)) := by
  have hl := nats_len s p
  rcases h with ⟨rfl, rfl, rfl⟩ | ⟨rfl, rfl, a, r, e, ha, rfl⟩ | ⟨rfl, rfl, a, b, r, e, ha, hb, rfl⟩
  · refine .inl ⟨rfl, rfl, rfl, ?_⟩
    rcases hend with h | h | ⟨c, r, h, hc⟩
    · omega
    · rw [h] at hl ⊢
      simp only [digitsP]
      congr 1
    · rw [h] at hl ⊢
      simp only [digitsP]
      rw [if_neg (by simp [hc])]
      simp only [List.length_cons] at hl
      rw [hl]
  · refine .inr ⟨by omega, ?_⟩
    have hr : (natsOf s).drop (p + 1) = r := by
      have := congrArg List.tail e
      rw [List.tail_drop] at this
      exact this
    rw [hr] at hend ⊢
    rw [e]
    simp only [digitsP]
    rw [if_pos ha]
    rcases hend with h | h | ⟨c, r', h, hc⟩
    · omega
    · rw [h]
    · rw [h]
      simp only
      rw [if_neg (by simp [hc])]
  · refine .inr ⟨by omega, ?_⟩
    have hr : (natsOf s).drop (p + 2) = r := by
      have := congrArg (fun l => List.tail (List.tail l)) e
      simp only [List.tail_drop, List.tail_cons] at this
      exact this
    rw [hr, e]
    simp only [digitsP]
    rw [if_pos ha, if_pos hb]
theorem digQ_more {p q k c : Nat} {n : Int} {s : ByteArray} (h : DigQ p ((natsOf s).drop p) k n q) (hk : k < 2) (hc : digB c = true) (hd : (natsOf s).drop q = c :: (natsOf s).drop (q + 1)) : DigQ p ((natsOf s).drop p) (k + 1) (10 * n + ((c : Int) - 48)) (q + 1) := by
  rcases h with ⟨rfl, rfl, rfl⟩ | ⟨rfl, rfl, a, r, e, ha, rfl⟩ | ⟨rfl, _⟩
  · exact .inr (.inl ⟨rfl, rfl, c, _, hd, hc, by omega⟩)
  · have hr : (natsOf s).drop (p + 1) = r := by
      have := congrArg List.tail e
      rw [List.tail_drop] at this
      exact this
    rw [hr] at hd
    rw [hd] at e
    exact .inr (.inr ⟨rfl, rfl, a, c, _, e, ha, hc, rfl⟩)
  · omega
theorem digQ_q {p q k : Nat} {n : Int} {l : List Nat} (h : DigQ p l k n q) (hl : ∀ x ∈ l, x < 256) : q = p + k ∧ k ≤ 2 ∧ 0 ≤ n ∧ n ≤ 99 := by
  rcases h with ⟨rfl, rfl, rfl⟩ | ⟨rfl, rfl, a, r, e, ha, rfl⟩ | ⟨rfl, rfl, a, b, r, e, ha, hb, rfl⟩
  · omega
  · rw [dig_iff] at ha; omega
  · rw [dig_iff] at ha hb; omega

set_option maxHeartbeats 8000000 in
theorem number_any (w : World) (g : Nat) (s : ByteArray) (p : Nat) (hs : s.size ≤ 1000000) (hp : p ≤ s.size) (h : PaS w g s p) :
    Calls Tryd.prog 117 #[.pointer (some ⟨g, 0, none⟩)] w (TookP w g s (digitsP ((natsOf s).drop p)) isI zeroI) := by
  have hsi : (s.size : Int) ≤ 1000000 := by omega
  have hpi0 : (p : Int) ≤ 1000000 := by omega
  have x1 := h.c1
  have H := Lib.hid h
  clear h
  go_enter Tryd.func117, Tryd.ntmps117
  go_wp2
  go_quiet (fail)
  go_wp2
  clear x1
  go_loopw [4] (fun nv wr => ∃ (k q : Nat) (n : Int), nv = .int .i64 n ∧ q ≤ s.size ∧ Hid (DigQ p ((natsOf s).drop p) k n q) ∧ PaS wr g s q ∧ Only (fun x => x = g) w wr) (fun _ wr => p + 3 - posOf wr g)
  case atStart => exact ⟨0, p, 0, rfl, hp, Lib.hid (.inl ⟨rfl, rfl, rfl⟩), H.out.drewN _, (Only.refl _ w).drewN _⟩
  case round =>
    clear H
    obtain ⟨k, q, n, rfl, hq, hD, hPa, hO⟩ := hrel
    obtain ⟨hqk, hk2, hn0, hn9⟩ := digQ_q hD.out (fun x hx => natsOf_lt s x (List.mem_of_mem_drop hx))
    have HPa := Lib.hid hPa
    have HO := Lib.hid hO
    have x0 := hPa.c0
    have x1 := hPa.c1
    have f1 := hPa.f1
    have hqi : (q : Int) = (p : Int) + (k : Int) := by omega
    have Hqi := Lib.hid hqi
    have Hqk := Lib.hid hqk
    clear hPa hO hqi hqk
    rcases Nat.lt_or_ge q s.size with hlt | hge
    case inr =>
      have hqe : (natsOf s).drop q = [] := by rw [show q = s.size by omega]; exact nats_end s
      have Hqe := Lib.hid hqe
      clear hqe
      have g1 : decide ((q : Int) < (s.size : Int)) = false := by simp; omega
      have g2 : decide (q < s.size) = false := by simp; omega
      have HE := Lib.hid (digQ_end hD.out (.inr (.inl Hqe.out)) hp)
      clear hD
      go_wp2
      go_quiet (fail)
      go_wp2
      rcases Nat.eq_zero_or_pos k with hk0 | hk0
      · have hqp : (q : Int) = (p : Int) := by have := Hqi.out; omega
        have hqd : decide ((p : Int) < (q : Int)) = false := by simp; omega
        have hqd2 : decide (p < q) = false := by simp; omega
        have HE2 : Hid (n = 0 ∧ q = p ∧ digitsP ((natsOf s).drop p) = .bad (s.size - p)) := Lib.hid (by rcases HE.out with h | h; exact h.2; omega)
        have Hk0 := Lib.hid hk0
        clear hk0 hqp
        go_quiet (fail)
        go_wp2
        go_ret2
        rw [HE2.out.2.2]
        exact TookP.bad (p := q) (by first | exact HO.out.drewN _ | exact (HO.out.drewN _).drewN _) (by rw [HE2.out.1]; rfl) (by omega) (by have := HE2.out.2.1; omega) HPa.out
      · have hqp : (p : Int) < (q : Int) := by have := Hqi.out; omega
        have hqd : decide ((p : Int) < (q : Int)) = true := by simp; omega
        have hqd2 : decide (p < q) = true := by simp; omega
        have HE2 : Hid (digitsP ((natsOf s).drop p) = .ok n ((natsOf s).drop q)) := Lib.hid (by rcases HE.out with h | h; omega; exact h.2)
        clear hk0
        go_quiet (fail)
        go_wp2
        go_ret2
        rw [HE2.out]
        exact TookP.ok (p := q) (by first | exact HO.out.drewN _ | exact (HO.out.drewN _).drewN _) rfl hq rfl HPa.out
    have g1 : decide ((q : Int) < (s.size : Int)) = true := by simpa using hlt
    have g2 : decide (q < s.size) = true := by simpa using hlt
    have g3 : (q : Int) < (s.size : Int) := by omega
    have g4 : (0 : Int) ≤ (q : Int) := by omega
    by_cases hk : k = 2
    · have g5 : decide ((q : Int) < (p : Int) + 2) = false := by have := Hqi.out; simp; omega
      have g6 : (p : Int) + 2 ≤ (q : Int) := by have := Hqi.out; omega
      have Hk := Lib.hid hk
      clear hk
      skip
      have HE := Lib.hid (digQ_end hD.out (.inl Hk.out) hp)
      clear hD
      go_wp2
      go_quiet (fail)
      go_wp2
      rcases Nat.eq_zero_or_pos k with hk0 | hk0
      · have hqp : (q : Int) = (p : Int) := by have := Hqi.out; omega
        have hqd : decide ((p : Int) < (q : Int)) = false := by simp; omega
        have hqd2 : decide (p < q) = false := by simp; omega
        have HE2 : Hid (n = 0 ∧ q = p ∧ digitsP ((natsOf s).drop p) = .bad (s.size - p)) := Lib.hid (by rcases HE.out with h | h; exact h.2; omega)
        have Hk0 := Lib.hid hk0
        clear hk0 hqp
        go_quiet (fail)
        go_wp2
        go_ret2
        rw [HE2.out.2.2]
        exact TookP.bad (p := q) (by first | exact HO.out.drewN _ | exact (HO.out.drewN _).drewN _) (by rw [HE2.out.1]; rfl) (by omega) (by have := HE2.out.2.1; omega) HPa.out
      · have hqp : (p : Int) < (q : Int) := by have := Hqi.out; omega
        have hqd : decide ((p : Int) < (q : Int)) = true := by simp; omega
        have hqd2 : decide (p < q) = true := by simp; omega
        have HE2 : Hid (digitsP ((natsOf s).drop p) = .ok n ((natsOf s).drop q)) := Lib.hid (by rcases HE.out with h | h; omega; exact h.2)
        clear hk0
        go_quiet (fail)
        go_wp2
        go_ret2
        rw [HE2.out]
        exact TookP.ok (p := q) (by first | exact HO.out.drewN _ | exact (HO.out.drewN _).drewN _) rfl hq rfl HPa.out
    have g5 : decide ((q : Int) < (p : Int) + 2) = true := by have := Hqi.out; simp; omega
    have g6 : (q : Int) < (p : Int) + 2 := by have := Hqi.out; omega
    obtain ⟨a, ha⟩ : ∃ a, (s[q]'hlt).toNat = a := ⟨_, rfl⟩
    have ha256 : a < 256 := by rw [← ha]; exact (s[q]'hlt).toNat_lt
    have hdr : (natsOf s).drop q = a :: (natsOf s).drop (q + 1) := by rw [nats_drop s q hlt, ha]
    have Hdr := Lib.hid hdr
    have Hk := Lib.hid hk
    clear hk hdr
    rcases (show (a < 48 ∨ 57 < a) ∨ (48 ≤ a ∧ a ≤ 57) by omega) with (hd | hd) | ⟨hd1, hd2⟩
    · have g7 : decide (48 ≤ a) = false := by simp; omega
      have g8 : decide ((48 : Int) ≤ (a : Int)) = false := by simp; omega
      have g9 : (a : Int) < 48 := by omega
      have Hd : Hid (digB a = false) := Lib.hid (by rw [Bool.eq_false_iff]; intro h; rw [dig_iff] at h; omega)
      clear hd
      skip
      have HE := Lib.hid (digQ_end hD.out (.inr (.inr ⟨a, _, Hdr.out, Hd.out⟩)) hp)
      clear hD
      go_wp2
      go_quiet (fail)
      go_wp2
      rcases Nat.eq_zero_or_pos k with hk0 | hk0
      · have hqp : (q : Int) = (p : Int) := by have := Hqi.out; omega
        have hqd : decide ((p : Int) < (q : Int)) = false := by simp; omega
        have hqd2 : decide (p < q) = false := by simp; omega
        have HE2 : Hid (n = 0 ∧ q = p ∧ digitsP ((natsOf s).drop p) = .bad (s.size - p)) := Lib.hid (by rcases HE.out with h | h; exact h.2; omega)
        have Hk0 := Lib.hid hk0
        clear hk0 hqp
        go_quiet (fail)
        go_wp2
        go_ret2
        rw [HE2.out.2.2]
        exact TookP.bad (p := q) (by first | exact HO.out.drewN _ | exact (HO.out.drewN _).drewN _) (by rw [HE2.out.1]; rfl) (by omega) (by have := HE2.out.2.1; omega) HPa.out
      · have hqp : (p : Int) < (q : Int) := by have := Hqi.out; omega
        have hqd : decide ((p : Int) < (q : Int)) = true := by simp; omega
        have hqd2 : decide (p < q) = true := by simp; omega
        have HE2 : Hid (digitsP ((natsOf s).drop p) = .ok n ((natsOf s).drop q)) := Lib.hid (by rcases HE.out with h | h; omega; exact h.2)
        clear hk0
        go_quiet (fail)
        go_wp2
        go_ret2
        rw [HE2.out]
        exact TookP.ok (p := q) (by first | exact HO.out.drewN _ | exact (HO.out.drewN _).drewN _) rfl hq rfl HPa.out
    · have g7 : decide (48 ≤ a) = true := by simp; omega
      have g8 : decide ((48 : Int) ≤ (a : Int)) = true := by simp; omega
      have g9 : (48 : Int) ≤ (a : Int) := by omega
      have g10 : decide (a ≤ 57) = false := by simp; omega
      have g11 : decide ((a : Int) ≤ 57) = false := by simp; omega
      have g12 : (57 : Int) < (a : Int) := by omega
      have Hd : Hid (digB a = false) := Lib.hid (by rw [Bool.eq_false_iff]; intro h; rw [dig_iff] at h; omega)
      clear hd
      skip
      have HE := Lib.hid (digQ_end hD.out (.inr (.inr ⟨a, _, Hdr.out, Hd.out⟩)) hp)
      clear hD
      go_wp2
      go_quiet (fail)
      go_wp2
      rcases Nat.eq_zero_or_pos k with hk0 | hk0
      · have hqp : (q : Int) = (p : Int) := by have := Hqi.out; omega
        have hqd : decide ((p : Int) < (q : Int)) = false := by simp; omega
        have hqd2 : decide (p < q) = false := by simp; omega
        have HE2 : Hid (n = 0 ∧ q = p ∧ digitsP ((natsOf s).drop p) = .bad (s.size - p)) := Lib.hid (by rcases HE.out with h | h; exact h.2; omega)
        have Hk0 := Lib.hid hk0
        clear hk0 hqp
        go_quiet (fail)
        go_wp2
        go_ret2
        rw [HE2.out.2.2]
        exact TookP.bad (p := q) (by first | exact HO.out.drewN _ | exact (HO.out.drewN _).drewN _) (by rw [HE2.out.1]; rfl) (by omega) (by have := HE2.out.2.1; omega) HPa.out
      · have hqp : (p : Int) < (q : Int) := by have := Hqi.out; omega
        have hqd : decide ((p : Int) < (q : Int)) = true := by simp; omega
        have hqd2 : decide (p < q) = true := by simp; omega
        have HE2 : Hid (digitsP ((natsOf s).drop p) = .ok n ((natsOf s).drop q)) := Lib.hid (by rcases HE.out with h | h; omega; exact h.2)
        clear hk0
        go_quiet (fail)
        go_wp2
        go_ret2
        rw [HE2.out]
        exact TookP.ok (p := q) (by first | exact HO.out.drewN _ | exact (HO.out.drewN _).drewN _) rfl hq rfl HPa.out
    · have g7 : decide (48 ≤ a) = true := by simp; omega
      have g8 : decide ((48 : Int) ≤ (a : Int)) = true := by simp; omega
      have g9 : (48 : Int) ≤ (a : Int) := by omega
      have g10 : decide (a ≤ 57) = true := by simp; omega
      have g11 : decide ((a : Int) ≤ 57) = true := by simp; omega
      have g12 : (a : Int) ≤ 57 := by omega
      have hDn := digQ_more hD.out (by have := Hk.out; omega) ((dig_iff a).2 ⟨hd1, hd2⟩) Hdr.out
      have HDn := Lib.hid hDn
      have hw8 : IntKind.u8.wrap ((a : Int) - 48) = (a : Int) - 48 := by rw [IntKind.wrap_u8]; omega
      have hwi : IntKind.i64.wrap ((a : Int) - 48) = (a : Int) - 48 := IntWalk.i64_in _ (by omega)
      have hw10 : IntKind.i64.wrap (10 * n) = 10 * n := IntWalk.i64_in _ (by omega)
      have hw11 : IntKind.i64.wrap (10 * n + ((a : Int) - 48)) = 10 * n + ((a : Int) - 48) := IntWalk.i64_in _ (by omega)
      clear hDn hD hd1 hd2
      go_wp2
      go_quiet (fail)
      go_wp2
      go_quiet (fail)
      go_wp2
      go_roundw
      case rel => exact ⟨k + 1, q + 1, _, rfl, by omega, HDn, ((HPa.out.drewN _).set1 (q + 1)), (HO.out.drewN _).setCell (p := ⟨g, 1, none⟩) (.inl rfl) _⟩
      case measure =>
        have h2 := HPa.out.pos
        have h3 := Hqk.out
        refine Nat.lt_of_le_of_lt (Nat.le_of_eq (congrArg (p + 3 - ·) (((HPa.out.drewN _).set1 (q + 1)).pos))) ?_
        rw [h2]
        omega

/-- behind the numbers in curly brackets -/
def TookN (w : World) (g : Nat) (s : ByteArray) (res : PR (Int × Int)) (e : Ending) (w' : World) : Prop :=
  Only (fun x => x = g) w w' ∧ match res with
    | .ok x rest => ∃ p, e = .returned (.tuple #[.int .i64 x.1, .int .i64 x.2, .bool true]) ∧ isInt x.1 ∧ isInt x.2 ∧ p ≤ s.size ∧ rest = (natsOf s).drop p ∧ PaS w' g s p
    | .bad left => ∃ lo hi, e = .returned (.tuple #[.int .i64 lo, .int .i64 hi, .bool false]) ∧ isInt lo ∧ isInt hi ∧ left ≤ s.size ∧ PaS w' g s (s.size - left)
theorem rep_int {lo hi : Int} (h : repB lo hi = true) : isInt lo ∧ isInt hi := by
  simp only [repB, Bool.and_eq_true, Bool.or_eq_true, decide_eq_true_eq] at h
  unfold isInt
  omega
theorem digits_int {l r : List Nat} {n : Int} (hl : ∀ x ∈ l, x < 256) (h : digitsP l = .ok n r) : isInt n := by
  match l with
  | [] => cases h
  | a :: l1 =>
    have ha := hl a (by simp)
    simp only [digitsP] at h
    unfold isInt
    repeat' split at h
    all_goals first
      | (injection h with h _; omega)
      | (rename_i b l2 _; have hb := hl b (by simp); injection h with h _; omega)
      | cases h
theorem curlyEnd_eq (lo hi : Int) (l : List Nat) : curlyEnd lo hi l = if isNext 125 l = true then (if repB lo hi = true then .ok (lo, hi) l.tail else .bad l.length) else .bad l.length := by
  unfold curlyEnd
  split
  · simp [isNext]
  · rename_i h
    rw [if_neg]
    intro hn
    match l with
    | [] => simp [isNext] at hn
    | c :: r =>
      simp [isNext] at hn
      subst hn
      exact h _ rfl

set_option maxHeartbeats 8000000 in
theorem numbers_any (w : World) (g : Nat) (s : ByteArray) (p : Nat) (hs : s.size ≤ 1000000) (hp : p ≤ s.size) (h : PaS w g s p) :
    Calls Tryd.prog 97 #[.pointer (some ⟨g, 0, none⟩)] w (TookN w g s (curlyP ((natsOf s).drop p))) := by
  have H := Lib.hid h
  clear h
  have hC : curlyP ((natsOf s).drop p) = (digitsP ((natsOf s).drop p)).bind fun lo l1 => match l1 with
    | 44 :: l2 => if l2.head? = some 125 then curlyEnd lo (-1) l2 else (digitsP l2).bind fun hi l3 => curlyEnd lo hi l3
    | _ => curlyEnd lo lo l1 := rfl
  go_enter Tryd.func97, Tryd.ntmps97
  go_wp2_with fail
  refine (number_any w g s p hs hp H.out).mono ?_
  rintro e w2 ⟨ho2, hr⟩
  have HO2 := Lib.hid ho2
  clear ho2
  cases hd1 : digitsP ((natsOf s).drop p) with
  | bad left =>
    rw [hd1] at hr hC
    obtain ⟨v, rfl, hv, hl, hPa⟩ := hr
    obtain rfl : v = .int .i64 0 := hv
    have HPa := Lib.hid hPa
    have HC := Lib.hid hC
    clear hPa hC hd1
    go_wp2
    refine bodyPost_ret (results_tmp3 rfl _ _ _) rfl ?_
    rw [HC.out]
    exact ⟨HO2.out, 0, 0, rfl, by unfold isInt; omega, by unfold isInt; omega, hl, HPa.out⟩
  | ok lo l1 =>
    have hloi := digits_int (fun x hx => natsOf_lt s x (List.mem_of_mem_drop hx)) hd1
    rw [hd1] at hr hC
    obtain ⟨v, q, rfl, hv, hq, rfl, hPa⟩ := hr
    obtain rfl : v = .int .i64 lo := hv
    simp only [PR.bind] at hC
    have HPa := Lib.hid hPa
    have Hloi := Lib.hid hloi
    clear hPa hd1 hloi
    by_cases hn44 : isNext 44 ((natsOf s).drop q) = true
    · obtain ⟨hqs, hqd⟩ := next_true hn44
      rw [hqd] at hC
      simp only at hC
      have HT := Lib.hid fun (W : World) (hW : PaS W g s q) => take_yes W g s q 44 hs hq hn44 hW
      clear hn44 hqd
      have HC := Lib.hid hC
      clear hC
      go_wp2_with fail
      refine (HT.out _ HPa.out).mono ?_
      rintro e w3 ⟨rfl, ho3, hPa3⟩
      have HO3 : Hid (Only (fun x => x = g) w w3) := Lib.hid (HO2.out.trans ho3 (fun _ _ h => h))
      have HPa3 := Lib.hid hPa3
      clear ho3 hPa3
      go_wp2_with fail
      refine (stands_any _ g s (q + 1) 125 hs (by omega) HPa3.out).mono ?_
      rintro e w4 ⟨rfl, n4, rfl⟩
      have hC := HC.out
      cases hn125 : isNext 125 ((natsOf s).drop (q + 1)) with
      | true =>
        rw [if_pos (by simpa [isNext] using hn125)] at hC
        have HQ := Lib.hid hn125
        have HC2 := Lib.hid hC
        have HPa4 := Lib.hid (HPa3.out.drewN n4)
        have HO4 := Lib.hid (HO3.out.drewN n4)
        have Hhii : Hid (isInt (-1)) := Lib.hid (by unfold isInt; omega)
        have hq4 : q + 1 ≤ s.size := by omega
        obtain ⟨w4, hw4⟩ : ∃ w4, w4 = w3.drewN n4 := ⟨_, rfl⟩
        rw [← hw4] at HPa4 HO4 ⊢
        clear hC hn125 hw4
        have hE := curlyEnd_eq lo (-1) ((natsOf s).drop (q + 1))
        have hlen := nats_len s ((q + 1))
        cases hn : isNext 125 ((natsOf s).drop (q + 1)) with
        | false =>
          rw [hn, if_neg (by simp), hlen] at hE
          have HE := Lib.hid hE
          have HS := Lib.hid fun (W : World) (hW : PaS W g s (q + 1)) => stands_any W g s (q + 1) 125 hs hq4 hW
          rw [hn] at HS
          clear hE hn
          go_wp2_with fail
          refine (HS.out _ HPa4.out).mono ?_
          rintro e w8 ⟨rfl, n8, rfl⟩
          go_wp2
          refine bodyPost_ret (results_tmp3 rfl _ _ _) rfl ?_
          rw [HC2.out, HE.out]
          exact ⟨HO4.out.drewN _, lo, (-1), rfl, Hloi.out, Hhii.out, by omega, by rw [show s.size - (s.size - (q + 1)) = (q + 1) by omega]; exact HPa4.out⟩
        | true =>
          rw [hn, if_pos rfl, hlen, List.tail_drop] at hE
          have HS := Lib.hid fun (W : World) (hW : PaS W g s (q + 1)) => stands_any W g s (q + 1) 125 hs hq4 hW
          rw [hn] at HS
          have HTk := Lib.hid fun (W : World) (hW : PaS W g s (q + 1)) => take_yes W g s (q + 1) 125 hs hq4 hn hW
          have hqs := (next_true hn).1
          have HM := Lib.hid fun W => mayrep_any lo (-1) W
          obtain ⟨rb, hrb⟩ : ∃ rb, repB lo (-1) = rb := ⟨_, rfl⟩
          rw [hrb] at hE HM
          have Hrb := Lib.hid hrb
          have HE := Lib.hid hE
          clear hE hn hrb
          go_wp2_with fail
          refine (HS.out _ HPa4.out).mono ?_
          rintro e w8 ⟨rfl, n8, rfl⟩
          go_wp2_with fail
          refine (HM.out _).mono ?_
          rintro e w9 ⟨rfl, rfl⟩
          cases rb with
          | false =>
            go_wp2
            refine bodyPost_ret (results_tmp3 rfl _ _ _) rfl ?_
            rw [HC2.out, HE.out]
            exact ⟨HO4.out.drewN _, lo, (-1), rfl, Hloi.out, Hhii.out, by omega, by rw [show s.size - (s.size - (q + 1)) = (q + 1) by omega]; exact HPa4.out⟩
          | true =>
            go_wp2_with fail
            refine (HTk.out _ (HPa4.out.drewN _)).mono ?_
            rintro e w10 ⟨rfl, ho10, hPa10⟩
            have HO10 : Hid (Only (fun x => x = g) w w10) := Lib.hid ((HO4.out.drewN _).trans ho10 (fun _ _ h => h))
            have HPa10 := Lib.hid hPa10
            clear ho10 hPa10
            go_wp2
            refine bodyPost_ret (results_tmp3 rfl _ _ _) rfl ?_
            rw [HC2.out, HE.out]
            exact ⟨HO10.out, (q + 1) + 1, rfl, Hloi.out, Hhii.out, hqs, rfl, HPa10.out⟩
      | false =>
        rw [if_neg (by simpa [isNext] using hn125)] at hC
        have HC2 := Lib.hid hC
        have HPa4 := Lib.hid (HPa3.out.drewN n4)
        have HO4 := Lib.hid (HO3.out.drewN n4)
        clear hC hn125
        go_wp2_with fail
        refine (number_any _ g s (q + 1) hs (by omega) HPa4.out).mono ?_
        rintro e w5 ⟨ho5, hr⟩
        have HO5 : Hid (Only (fun x => x = g) w w5) := Lib.hid (HO4.out.trans ho5 (fun _ _ h => h))
        clear ho5
        have hC := HC2.out
        cases hd2 : digitsP ((natsOf s).drop (q + 1)) with
        | bad left =>
          rw [hd2] at hr hC
          obtain ⟨v, rfl, hv, hl, hPa⟩ := hr
          obtain rfl : v = .int .i64 0 := hv
          have HPa5 := Lib.hid hPa
          have HC3 := Lib.hid hC
          clear hPa hC hd2
          go_wp2
          refine bodyPost_ret (results_tmp3 rfl _ _ _) rfl ?_
          rw [HC3.out]
          exact ⟨HO5.out, lo, 0, rfl, Hloi.out, by unfold isInt; omega, hl, HPa5.out⟩
        | ok hi l3 =>
          have hhii := digits_int (fun x hx => natsOf_lt s x (List.mem_of_mem_drop hx)) hd2
          rw [hd2] at hr hC
          obtain ⟨v, q3, rfl, hv, hq3, rfl, hPa⟩ := hr
          obtain rfl : v = .int .i64 hi := hv
          simp only [PR.bind] at hC
          have HPa4 := Lib.hid hPa
          have HO4 := HO5
          have Hhii := Lib.hid hhii
          have HC2 := Lib.hid hC
          have hq4 := hq3
          obtain ⟨w4, hw4⟩ : ∃ w4, w4 = w5 := ⟨_, rfl⟩
          rw [← hw4] at HPa4 HO4 ⊢
          clear hPa hC hd2 hhii hw4
          have hE := curlyEnd_eq lo hi ((natsOf s).drop q3)
          have hlen := nats_len s (q3)
          cases hn : isNext 125 ((natsOf s).drop q3) with
          | false =>
            rw [hn, if_neg (by simp), hlen] at hE
            have HE := Lib.hid hE
            have HS := Lib.hid fun (W : World) (hW : PaS W g s q3) => stands_any W g s q3 125 hs hq4 hW
            rw [hn] at HS
            clear hE hn
            go_wp2_with fail
            refine (HS.out _ HPa4.out).mono ?_
            rintro e w8 ⟨rfl, n8, rfl⟩
            go_wp2
            refine bodyPost_ret (results_tmp3 rfl _ _ _) rfl ?_
            rw [HC2.out, HE.out]
            exact ⟨HO4.out.drewN _, lo, hi, rfl, Hloi.out, Hhii.out, by omega, by rw [show s.size - (s.size - q3) = q3 by omega]; exact HPa4.out⟩
          | true =>
            rw [hn, if_pos rfl, hlen, List.tail_drop] at hE
            have HS := Lib.hid fun (W : World) (hW : PaS W g s q3) => stands_any W g s q3 125 hs hq4 hW
            rw [hn] at HS
            have HTk := Lib.hid fun (W : World) (hW : PaS W g s q3) => take_yes W g s q3 125 hs hq4 hn hW
            have hqs := (next_true hn).1
            have HM := Lib.hid fun W => mayrep_any lo hi W
            obtain ⟨rb, hrb⟩ : ∃ rb, repB lo hi = rb := ⟨_, rfl⟩
            rw [hrb] at hE HM
            have Hrb := Lib.hid hrb
            have HE := Lib.hid hE
            clear hE hn hrb
            go_wp2_with fail
            refine (HS.out _ HPa4.out).mono ?_
            rintro e w8 ⟨rfl, n8, rfl⟩
            go_wp2_with fail
            refine (HM.out _).mono ?_
            rintro e w9 ⟨rfl, rfl⟩
            cases rb with
            | false =>
              go_wp2
              refine bodyPost_ret (results_tmp3 rfl _ _ _) rfl ?_
              rw [HC2.out, HE.out]
              exact ⟨HO4.out.drewN _, lo, hi, rfl, Hloi.out, Hhii.out, by omega, by rw [show s.size - (s.size - q3) = q3 by omega]; exact HPa4.out⟩
            | true =>
              go_wp2_with fail
              refine (HTk.out _ (HPa4.out.drewN _)).mono ?_
              rintro e w10 ⟨rfl, ho10, hPa10⟩
              have HO10 : Hid (Only (fun x => x = g) w w10) := Lib.hid ((HO4.out.drewN _).trans ho10 (fun _ _ h => h))
              have HPa10 := Lib.hid hPa10
              clear ho10 hPa10
              go_wp2
              refine bodyPost_ret (results_tmp3 rfl _ _ _) rfl ?_
              rw [HC2.out, HE.out]
              exact ⟨HO10.out, q3 + 1, rfl, Hloi.out, Hhii.out, hqs, rfl, HPa10.out⟩
    · have hn44' : isNext 44 ((natsOf s).drop q) = false := by simpa using hn44
      have hC2 : curlyP ((natsOf s).drop p) = curlyEnd lo lo ((natsOf s).drop q) := by
        rw [hC]
        split
        · rename_i l2 he
          rw [he] at hn44'
          simp [isNext] at hn44'
        · rfl
      have HT := Lib.hid fun (W : World) (hW : PaS W g s q) => take_no W g s q 44 hs hq hn44' hW
      have HC2 := Lib.hid hC2
      have Hhii := Hloi
      have hq4 := hq
      clear hC hC2 hn44 hn44'
      go_wp2_with fail
      refine (HT.out _ HPa.out).mono ?_
      rintro e w3 ⟨rfl, n3, rfl⟩
      have HPa4 := Lib.hid (HPa.out.drewN n3)
      have HO4 := Lib.hid (HO2.out.drewN n3)
      obtain ⟨w4, hw4⟩ : ∃ w4, w4 = w2.drewN n3 := ⟨_, rfl⟩
      rw [← hw4] at HPa4 HO4 ⊢
      clear hw4
      have hE := curlyEnd_eq lo lo ((natsOf s).drop q)
      have hlen := nats_len s (q)
      cases hn : isNext 125 ((natsOf s).drop q) with
      | false =>
        rw [hn, if_neg (by simp), hlen] at hE
        have HE := Lib.hid hE
        have HS := Lib.hid fun (W : World) (hW : PaS W g s q) => stands_any W g s q 125 hs hq4 hW
        rw [hn] at HS
        clear hE hn
        go_wp2_with fail
        refine (HS.out _ HPa4.out).mono ?_
        rintro e w8 ⟨rfl, n8, rfl⟩
        go_wp2
        refine bodyPost_ret (results_tmp3 rfl _ _ _) rfl ?_
        rw [HC2.out, HE.out]
        exact ⟨HO4.out.drewN _, lo, lo, rfl, Hloi.out, Hhii.out, by omega, by rw [show s.size - (s.size - q) = q by omega]; exact HPa4.out⟩
      | true =>
        rw [hn, if_pos rfl, hlen, List.tail_drop] at hE
        have HS := Lib.hid fun (W : World) (hW : PaS W g s q) => stands_any W g s q 125 hs hq4 hW
        rw [hn] at HS
        have HTk := Lib.hid fun (W : World) (hW : PaS W g s q) => take_yes W g s q 125 hs hq4 hn hW
        have hqs := (next_true hn).1
        have HM := Lib.hid fun W => mayrep_any lo lo W
        obtain ⟨rb, hrb⟩ : ∃ rb, repB lo lo = rb := ⟨_, rfl⟩
        rw [hrb] at hE HM
        have Hrb := Lib.hid hrb
        have HE := Lib.hid hE
        clear hE hn hrb
        go_wp2_with fail
        refine (HS.out _ HPa4.out).mono ?_
        rintro e w8 ⟨rfl, n8, rfl⟩
        go_wp2_with fail
        refine (HM.out _).mono ?_
        rintro e w9 ⟨rfl, rfl⟩
        cases rb with
        | false =>
          go_wp2
          refine bodyPost_ret (results_tmp3 rfl _ _ _) rfl ?_
          rw [HC2.out, HE.out]
          exact ⟨HO4.out.drewN _, lo, lo, rfl, Hloi.out, Hhii.out, by omega, by rw [show s.size - (s.size - q) = q by omega]; exact HPa4.out⟩
        | true =>
          go_wp2_with fail
          refine (HTk.out _ (HPa4.out.drewN _)).mono ?_
          rintro e w10 ⟨rfl, ho10, hPa10⟩
          have HO10 : Hid (Only (fun x => x = g) w w10) := Lib.hid ((HO4.out.drewN _).trans ho10 (fun _ _ h => h))
          have HPa10 := Lib.hid hPa10
          clear ho10 hPa10
          go_wp2
          refine bodyPost_ret (results_tmp3 rfl _ _ _) rfl ?_
          rw [HC2.out, HE.out]
          exact ⟨HO10.out, q + 1, rfl, Hloi.out, Hhii.out, hqs, rfl, HPa10.out⟩
end Go.Proofs.YtmggajpecgnjkaaDoor
