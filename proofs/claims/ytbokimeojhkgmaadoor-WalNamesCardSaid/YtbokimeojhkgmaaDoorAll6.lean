/-
  Texts of this claim, joined (part 6): contracts and lemmas that the last text goes by. No statement of the seat is proved here.
-/
import Derived.Test.YtbokimeojhkgmaaDoorAll1
import Derived.Shelf.LaysC
import Derived.Shelf.Strconv.ToError
import Derived.Shelf.Strconv.ToErrorRange
import Derived.Ground.NamesProg
import Derived.Test.YtbokimeojhkgmaaDoorProg
import Derived.Stop.LaidErr
set_option linter.unusedVariables false
set_option linter.unusedSimpArgs false
/-
  DERIVED: THE SHELF's CONTRACTS AT THIS DUMP, IN PLAIN WORDS (tools/lay-plain.mjs out of 'YtbokimeojhkgmaaDoorShelfW0.lean', which tools/lay-shelf.mjs wrote): THE SAME DECLARATIONS UNDER THE SAME NAMES: 'import', 'namespace', 'open', 'def', 'theorem' AND NOTHING ELSE: no command of the shelf's: FOR A HAND-IN. Each laying: the table of numbers ('.._ren') and one theorem, a field a fact of the dump's own or the kernel's comparison; each contract: ONE APPLICATION.
-/
namespace Go.Proofs
open Go.Shelf
def Tryd.layToError_ren : Go.Shelf.Ren := ⟨fun | 245 => 58 | 279 => 62 | 280 => 63 | 281 => 64 | 282 => 65 | 316 => 72 | 171 => 74 | 205 => 73 | 243 => 80 | 246 => 59 | 283 => 66 | 284 => 67 | 285 => 68 | 286 => 69 | 129 => 76 | 317 => 75 | 318 => 77 | 319 => 78 | 320 => 79 | 337 => 81 | 338 => 82 | n => n, fun | 9 => 9 | 3 => 3 | 75 => 74 | 167 => 99 | 4 => 4 | 168 => 102 | 210 => 113 | 37 => 26 | 0 => 0 | 127 => 121 | 145 => 124 | 143 => 122 | 2 => 2 | 171 => 105 | 53 => 95 | 5 => 5 | 173 => 108 | 212 => 117 | 51 => 63 | 20 => 20 | 213 => 118 | 46 => 88 | 232 => 126 | 233 => 127 | 80 => 128 | n => n, fun | 15 => 1 | 16 => 2 | 17 => 3 | 18 => 4 | 19 => 5 | n => n⟩
theorem Tryd.layToError : Go.Proofs.LaysC.n245 Tryd.prog Tryd.layToError_ren := {
  mixed := by kernel_rfl
  f129 := Tryd.func76.trans (congrArg some (by kernel_rfl))
  f171 := Tryd.func74.trans (congrArg some (by kernel_rfl))
  f205 := Tryd.func73.trans (congrArg some (by kernel_rfl))
  f243 := Tryd.func80.trans (congrArg some (by kernel_rfl))
  f245 := Tryd.func58.trans (congrArg some (by kernel_rfl))
  f246 := Tryd.func59.trans (congrArg some (by kernel_rfl))
  f279 := Tryd.func62.trans (congrArg some (by kernel_rfl))
  f280 := Tryd.func63.trans (congrArg some (by kernel_rfl))
  f281 := Tryd.func64.trans (congrArg some (by kernel_rfl))
  f282 := Tryd.func65.trans (congrArg some (by kernel_rfl))
  f283 := Tryd.func66.trans (congrArg some (by kernel_rfl))
  f284 := Tryd.func67.trans (congrArg some (by kernel_rfl))
  f285 := Tryd.func68.trans (congrArg some (by kernel_rfl))
  f286 := Tryd.func69.trans (congrArg some (by kernel_rfl))
  f316 := Tryd.func72.trans (congrArg some (by kernel_rfl))
  f317 := Tryd.func75.trans (congrArg some (by kernel_rfl))
  f318 := Tryd.func77.trans (congrArg some (by kernel_rfl))
  f319 := Tryd.func78.trans (congrArg some (by kernel_rfl))
  f320 := Tryd.func79.trans (congrArg some (by kernel_rfl))
  f337 := Tryd.func81.trans (congrArg some (by kernel_rfl))
  f338 := Tryd.func82.trans (congrArg some (by kernel_rfl))
  t0 := Tryd.underlying0
  a0 := Tryd.isAgg0
  z0 := Tryd.sizeOf0
  v0 := Tryd.zeroValue0
  t2 := Tryd.underlying2
  a2 := Tryd.isAgg2
  z2 := Tryd.sizeOf2
  v2 := Tryd.zeroValue2
  t3 := Tryd.underlying3
  a3 := Tryd.isAgg3
  z3 := Tryd.sizeOf3
  v3 := Tryd.zeroValue3
  t4 := Tryd.underlying4
  a4 := Tryd.isAgg4
  z4 := Tryd.sizeOf4
  v4 := Tryd.zeroValue4
  t5 := Tryd.underlying5
  a5 := Tryd.isAgg5
  z5 := Tryd.sizeOf5
  v5 := Tryd.zeroValue5
  t9 := Tryd.underlying9
  a9 := Tryd.isAgg9
  z9 := Tryd.sizeOf9
  v9 := Tryd.zeroValue9
  t20 := Tryd.underlying20
  a20 := Tryd.isAgg20
  z20 := Tryd.sizeOf20
  v20 := Tryd.zeroValue20
  t37 := Tryd.underlying26
  a37 := Tryd.isAgg26
  z37 := Tryd.sizeOf26
  v37 := Tryd.zeroValue26
  t46 := Tryd.underlying88
  a46 := Tryd.isAgg88
  z46 := Tryd.sizeOf88
  v46 := Tryd.zeroValue88
  t51 := Tryd.underlying63
  a51 := Tryd.isAgg63
  z51 := Tryd.sizeOf63
  v51 := Tryd.zeroValue63
  t53 := Tryd.underlying95
  a53 := Tryd.isAgg95
  z53 := Tryd.sizeOf95
  v53 := Tryd.zeroValue95
  t75 := Tryd.underlying74
  a75 := Tryd.isAgg74
  z75 := Tryd.sizeOf74
  v75 := Tryd.zeroValue74
  t127 := Tryd.underlying121
  a127 := Tryd.isAgg121
  z127 := Tryd.sizeOf121
  v127 := Tryd.zeroValue121
  t143 := Tryd.underlying122
  a143 := Tryd.isAgg122
  z143 := Tryd.sizeOf122
  v143 := Tryd.zeroValue122
  t145 := Tryd.underlying124
  a145 := Tryd.isAgg124
  z145 := Tryd.sizeOf124
  v145 := Tryd.zeroValue124
  t167 := Tryd.underlying99
  a167 := Tryd.isAgg99
  z167 := Tryd.sizeOf99
  v167 := Tryd.zeroValue99
  t168 := Tryd.underlying102
  a168 := Tryd.isAgg102
  z168 := Tryd.sizeOf102
  v168 := Tryd.zeroValue102
  t171 := Tryd.underlying105
  a171 := Tryd.isAgg105
  z171 := Tryd.sizeOf105
  v171 := Tryd.zeroValue105
  t173 := Tryd.underlying108
  a173 := Tryd.isAgg108
  z173 := Tryd.sizeOf108
  v173 := Tryd.zeroValue108
  t210 := Tryd.underlying113
  a210 := Tryd.isAgg113
  z210 := Tryd.sizeOf113
  v210 := Tryd.zeroValue113
  t212 := Tryd.underlying117
  a212 := Tryd.isAgg117
  z212 := Tryd.sizeOf117
  v212 := Tryd.zeroValue117
  t213 := Tryd.underlying118
  a213 := Tryd.isAgg118
  z213 := Tryd.sizeOf118
  t232 := Tryd.underlying126
  a232 := Tryd.isAgg126
  z232 := Tryd.sizeOf126
  v232 := Tryd.zeroValue126
  t233 := Tryd.underlying127
  a233 := Tryd.isAgg127
  z233 := Tryd.sizeOf127
  v233 := Tryd.zeroValue127
  g15 := by kernel_rfl
  g16 := by kernel_rfl
  g17 := by kernel_rfl
  g18 := by kernel_rfl
  g19 := by kernel_rfl
  t80 := Tryd.underlying128
  a80 := Tryd.isAgg128
  z80 := Tryd.sizeOf128
  v80 := Tryd.zeroValue128
  i0 := by kernel_rfl
  i2 := by kernel_rfl
  i3 := by kernel_rfl
  i4 := by kernel_rfl
  i5 := by kernel_rfl
  i9 := by kernel_rfl
  i20 := by kernel_rfl
  i37 := by kernel_rfl
  i46 := by kernel_rfl
  i51 := by kernel_rfl
  i53 := by kernel_rfl
  i75 := by kernel_rfl
  i80 := by kernel_rfl
  i127 := by kernel_rfl
  i143 := by kernel_rfl
  i145 := by kernel_rfl
  i167 := by kernel_rfl
  i168 := by kernel_rfl
  i171 := by kernel_rfl
  i173 := by kernel_rfl
  i210 := by kernel_rfl
  i212 := by kernel_rfl
  i232 := by kernel_rfl
  i233 := by kernel_rfl
  m15 := by kernel_rfl
  m16 := by kernel_rfl
  m17 := by kernel_rfl
  m18 := by kernel_rfl
  m19 := by kernel_rfl
  c0 := by kernel_rfl
  c2 := by kernel_rfl
  c3 := by kernel_rfl
  c4 := by kernel_rfl
  c5 := by kernel_rfl
  c9 := by kernel_rfl
  c20 := by kernel_rfl
  c37 := by kernel_rfl
  c46 := by kernel_rfl
  c51 := by kernel_rfl
  c53 := by kernel_rfl
  c75 := by kernel_rfl
  c80 := by kernel_rfl
  c127 := by kernel_rfl
  c143 := by kernel_rfl
  c145 := by kernel_rfl
  c167 := by kernel_rfl
  c168 := by kernel_rfl
  c171 := by kernel_rfl
  c173 := by kernel_rfl
  c210 := by kernel_rfl
  c212 := by kernel_rfl
  c213 := by kernel_rfl
  c232 := by kernel_rfl
  c233 := by kernel_rfl }
end Go.Proofs

/-
  Names: the two errors' variables, strconv's ParseInt at any text, and Number at any text. No statement of the seat is proved here.
-/
namespace Go.Proofs.YtbokimeojhkgmaaDoor
open Go Go.ChangeShapes Go.WideShapes Go.ChangeAt Go.RowKit Go.Shelf
set_option maxRecDepth 100000

/-- the two errors of strconv lie in memory -/
def ErrAt (w : World) : Prop := ∃ p q : Value, w.cell? ⟨2, 0, none⟩ = some (.iface 122 p) ∧ w.cell? ⟨1, 0, none⟩ = some (.iface 122 q)
theorem ErrAt.ext {w w' : World} (h : ErrAt w) (hb : Below w.heap.size w w') : ErrAt w' := by
  obtain ⟨p, q, h1, h2⟩ := h
  have l1 := World.block_lt_of_cell? w _ h1
  have l2 := World.block_lt_of_cell? w _ h2
  exact ⟨p, q, (World.cell?_of_block (hb.block _ l1)).trans h1, (World.cell?_of_block (hb.block _ l2)).trans h2⟩
theorem gRange : Tryd.prog.globalNamed "strconv.ErrRange" = some 2 := by kernel_rfl
theorem gSyntax : Tryd.prog.globalNamed "strconv.ErrSyntax" = some 1 := by kernel_rfl
theorem gRangeType : (Tryd.prog.globals[2]?).map (·.type) = some 74 := by kernel_rfl
theorem gSyntaxType : (Tryd.prog.globals[1]?).map (·.type) = some 74 := by kernel_rfl
theorem starErr : "*" ++ "errors.errorString" = "*errors.errorString" := by decide
theorem rowErr (u : TypeId) (h : Tryd.prog.typeName? 3 u = some "*errors.errorString") : u = 122 :=
  typeName_ptr_named (nm := "errors.errorString") (by rw [starErr]; kernel_rfl) (by kernel_rfl) (by decide) u (by rw [starErr]; exact h)
theorem cellsErr : Tryd.prog.cellsOf 124 = 1 := by kernel_rfl
theorem cellsStr : Tryd.prog.cellsOf 9 = 1 := by kernel_rfl
theorem err_of_laid {W : World} (h : laidMet Tryd.prog [("strconv.ErrRange", Rows.laid_strconv_ErrRange), ("strconv.ErrSyntax", Rows.laid_strconv_ErrSyntax)] W) : ErrAt W := by
  obtain ⟨a, _, hv, _, _, _⟩ := laid_sentinel h gRange gRangeType Tryd.underlying74 rowErr Tryd.underlying122 Tryd.underlying124 rfl rfl Tryd.underlying9 cellsErr cellsStr
  obtain ⟨b, _, hw, _, _, _⟩ := laid_sentinel h.tail gSyntax gSyntaxType Tryd.underlying74 rowErr Tryd.underlying122 Tryd.underlying124 rfl rfl Tryd.underlying9 cellsErr cellsStr
  exact ⟨_, _, by simpa using World.var?_cell gRange hv 0, by simpa using World.var?_cell gSyntax hw 0⟩

/-- a number and no error, or a number and an error -/
def JAns (e : Ending) : Prop := ∃ v : Int, e = .returned (.tuple #[.int .i64 v, .nilIface]) ∨ ∃ p, e = .returned (.tuple #[.int .i64 v, .iface 102 p])
set_option maxHeartbeats 2000000 in
theorem parseJ_any (xs : List UInt8) (w : World) (he : ErrAt w) (hl : xs.length ≤ 1000) :
    Calls Tryd.prog 39 #[strV xs, .int .i64 36, .int .i64 64] w fun e w' => JAns e ∧ Below w.heap.size w w' := by
  have HI := Lib.hid (parseIW_any xs w hl)
  have HE := Lib.hid he
  have hsz : (⟨xs.toArray⟩ : ByteArray).size = xs.length := rfl
  have e1 := fun W => ne_nil 1 W
  have e2 := fun W => ne_nil 2 W
  unfold errV at e1 e2
  unfold strV at HI ⊢
  obtain ⟨Z, hZ⟩ : ∃ Z : ByteArray, (⟨xs.toArray⟩ : ByteArray) = Z := ⟨_, rfl⟩
  have hz : Z.size ≤ 281474976710656 := by rw [← hZ, hsz]; omega
  rw [hZ] at HI ⊢
  clear hZ hsz he
  go_enter Tryd.func39, Tryd.ntmps39
  go_wp2_with fail
  refine HI.out.mono ?_
  rintro e w2 ⟨⟨v, hE⟩, hb⟩
  obtain ⟨p, q, c1, c2⟩ := HE.out.ext hb
  have Hb := Lib.hid hb
  have HR := Lib.hid (fun fn => Any.strconv_toError_range Tryd.layToError fn Z 36 64 _ w2 hz c1 (.inr ⟨_, _, rfl⟩))
  have HS := Lib.hid (fun fn => Any.strconv_toError_syntax Tryd.layToError fn Z 36 64 _ w2 hz c2 (.inr ⟨_, _, rfl⟩))
  clear hb HI c1 c2
  unfold errV at hE
  rcases hE with rfl | rfl | rfl
  · go_wp2
    go_ret2
    exact ⟨⟨v, .inl rfl⟩, Hb.out⟩
  · go_wp2_with fail
    refine (HR.out _).mono ?_
    rintro e w3 ⟨N, rfl, -, -, hb⟩
    have Hb3 := Lib.hid (ext_trans Hb.out hb)
    clear hb
    go_wp2
    go_ret2
    exact ⟨⟨v, .inr ⟨_, rfl⟩⟩, Hb3.out⟩
  · go_wp2_with fail
    refine (HS.out _).mono ?_
    rintro e w3 ⟨N, rfl, -, -, hb⟩
    have Hb3 := Lib.hid (ext_trans Hb.out hb)
    clear hb
    go_wp2
    go_ret2
    exact ⟨⟨v, .inr ⟨_, rfl⟩⟩, Hb3.out⟩

theorem ne_num (p : Value) (W : World) : (binOp .neq 74 (.iface 102 p) .nilIface).run Tryd.prog W = .ok (.bool true) W := by rfl
theorem nameW_ne {k : UInt8} {D : List UInt8} {v : Int} (h : numW (k :: D) = (0, 0, false)) : nameW k.toNat v ≠ k :: D := fun he => by
  by_cases hc : 97 ≤ k.toNat ∧ k.toNat ≤ 122 ∧ 0 ≤ v ∧ v ≤ 34359738368
  · obtain ⟨n, rfl⟩ : ∃ n : Nat, v = n := ⟨v.toNat, by omega⟩
    have e2 := he
    rw [nameW_in hc.1 hc.2.1 (by omega)] at e2
    injection e2 with _ e2
    have h2 : numW (k :: D) = (k.toNat, valD D, true) := by
      show (if nameW k.toNat (valD D) = k :: D then (k.toNat, valD D, true) else (0, 0, false)) = _
      rw [if_pos]
      rw [← e2, valD_d36, e2]
      exact he
    rw [h] at h2
    simp at h2
  · rw [nameW_out hc] at he
    cases he

set_option maxHeartbeats 4000000 in
theorem numberW_any (s : List UInt8) (w : World) (he : ErrAt w) (hs : s.length ≤ 1000) :
    Calls Tryd.prog 17 #[strV s] w fun e w' => e = .returned (numV (numW s)) ∧ Below w.heap.size w w' := by
  rcases s with _ | ⟨k, D⟩
  · unfold strV
    go_enter Tryd.func17, Tryd.ntmps17
    go_wp2
    go_ret3
    exact ⟨rfl, Below.refl _ _⟩
  by_cases hy : nameW k.toNat (valD D) = k :: D
  · have hN : numW (k :: D) = (k.toNat, valD D, true) := by
      show (if nameW k.toNat (valD D) = k :: D then (k.toNat, valD D, true) else (0, 0, false)) = _
      rw [if_pos hy]
    have hc : 97 ≤ k.toNat ∧ k.toNat ≤ 122 ∧ (0 : Int) ≤ (valD D : Int) ∧ (valD D : Int) ≤ 34359738368 := by
      by_cases hc : 97 ≤ k.toNat ∧ k.toNat ≤ 122 ∧ (0 : Int) ≤ (valD D : Int) ∧ (valD D : Int) ≤ 34359738368
      · exact hc
      · rw [nameW_out hc] at hy
        cases hy
    rw [hN, ← hy]
    exact number_any k.toNat (valD D) w hc.1 hc.2.1 (by omega)
  · have hN : numW (k :: D) = (0, 0, false) := by
      show (if nameW k.toNat (valD D) = k :: D then (k.toNat, valD D, true) else (0, 0, false)) = _
      rw [if_neg hy]
    have HN := Lib.hid hN
    have HX := Lib.hid (fun v => nameW_ne (v := v) hN)
    have HI := Lib.hid (parseJ_any D w he (by simp at hs; omega))
    have hsl := fun W => tail_str k D W
    have HM := Lib.hid fun v W => name_any k.toNat v W k.toNat_lt
    unfold SaysName at HM
    have hne := ne_num
    have hsz : (⟨(k :: D).toArray⟩ : ByteArray).size = D.length + 1 := rfl
    unfold strV at HI HM ⊢
    have HV : Hid (∀ v, ((⟨(nameW k.toNat v).toArray⟩ : ByteArray).toList == (⟨(k :: D).toArray⟩ : ByteArray).toList) = false) := Lib.hid (fun v => by
      rw [beq_eq_false_iff_ne]
      intro he
      apply HX.out v
      simpa using he)
    obtain ⟨Y, hY⟩ : ∃ Y : ByteArray, (⟨D.toArray⟩ : ByteArray) = Y := ⟨_, rfl⟩
    rw [hY] at hsl HI
    have hi0 : ((((⟨(k :: D).toArray⟩ : ByteArray)[0]'(by rw [hsz]; omega)).toNat : Nat) : Int) = (k.toNat : Int) := rfl
    obtain ⟨Z, hZ⟩ : ∃ Z : ByteArray, (⟨(k :: D).toArray⟩ : ByteArray) = Z := ⟨_, rfl⟩
    have hZ0 : (Z.toList == []) = false := by rw [← hZ]; simp
    have hZs : 1 ≤ Z.size := by rw [← hZ, hsz]; omega
    have hci2 : ((Z[0]'hZs).toNat : Int) = (k.toNat : Int) := by subst hZ; exact hi0
    rw [hZ] at hsl HV ⊢
    clear hi0 hY hsz hZ hs hN hy he
    go_enter Tryd.func17, Tryd.ntmps17
    go_wp2_with fail
    refine HI.out.mono ?_
    rintro e w2 ⟨⟨v, hE⟩, hb⟩
    have Hb := Lib.hid hb
    clear hb HI
    rcases hE with rfl | ⟨p, rfl⟩
    · obtain ⟨V, hV⟩ : ∃ V : ByteArray, (⟨(nameW k.toNat v).toArray⟩ : ByteArray) = V := ⟨_, rfl⟩
      have hvz := HV.out v
      have HM2 := Lib.hid (fun W => HM.out v W)
      rw [hV] at hvz HM2
      clear hV
      go_wp2_with fail
      refine (HM2.out _).mono ?_
      rintro e w3 ⟨rfl, hb⟩
      have Hb3 := Lib.hid (ext_trans Hb.out hb)
      clear hb
      go_wp2
      go_ret3
      rw [HN.out]
      exact ⟨rfl, Hb3.out⟩
    · go_wp2
      go_ret3
      rw [HN.out]
      exact ⟨rfl, Hb.out⟩
end Go.Proofs.YtbokimeojhkgmaaDoor

/-
  WalNames' walk. No statement of the seat is proved in the part ahead of its closing.
-/
namespace Go.Proofs.YtbokimeojhkgmaaDoor
open Go Go.ChangeShapes Go.WideShapes Go.ChangeAt Go.RowKit
namespace WalNames
set_option maxRecDepth 100000
set_option maxHeartbeats 4000000 in
theorem names_any (k : Nat) (n : Int) (s : List UInt8) (hk : k < 256) (hs : s.length ≤ maxLen) (w : World) (he : ErrAt w) : Calls Tryd.prog 6 #[.int .u8 (k : Int), .int .i64 n, strV s] w fun e w' => e = .returned (.bool true) ∧ Below w.heap.size w w' := by
  unfold maxLen at hs
  have hsz : (⟨s.toArray⟩ : ByteArray).size = s.length := rfl
  by_cases hlong : 100 < s.length
  · unfold strV
    obtain ⟨Z, hZ⟩ : ∃ Z : ByteArray, (⟨s.toArray⟩ : ByteArray) = Z := ⟨_, rfl⟩
    have h1 : 100 < (Z.size : Int) := by rw [← hZ, hsz]; omega
    rw [hZ]
    clear hZ hsz hlong hs
    go_enter Tryd.func6, Tryd.ntmps6
    go_wp2
    go_ret
    exact ⟨rfl, Below.refl _ _⟩
  have HP := Lib.hid fun W (h : Below w.heap.size w W) => numberW_any s W (he.ext h) (by omega)
  have HQ := Lib.hid fun W => rnumber_any s (by omega) W
  have HA := Lib.hid fun W => name_any k n W hk
  have RA := Lib.hid fun W => rname_any k n W hk
  have HK := Lib.hid known20_any
  have HB : Hid (nameW k n = [] ∨ (nameW k n ≠ [] ∧ (nameW k n).length ≤ 8 ∧ ∀ W, Calls Tryd.prog 17 #[strV (nameW k n)] W fun e w' => e = .returned (.tuple #[.int .u8 (k : Int), .int .i64 n, .bool true]) ∧ Below W.heap.size W w')) := Lib.hid (by
    by_cases hc : 97 ≤ k ∧ k ≤ 122 ∧ 0 ≤ n ∧ n ≤ 34359738368
    · obtain ⟨m, rfl⟩ : ∃ m : Nat, n = m := ⟨n.toNat, by omega⟩
      have := d36_seven (n := m) (by omega)
      refine .inr ⟨?_, ?_, fun W => number_any k m W hc.1 hc.2.1 (by omega)⟩
      · rw [nameW_in hc.1 hc.2.1 (by omega)]; simp
      · rw [nameW_in hc.1 hc.2.1 (by omega)]; simp; omega
    · exact .inl (nameW_out hc))
  unfold SaysName at HA RA
  obtain ⟨⟨x, y, z⟩, hr⟩ : ∃ r, numW s = r := ⟨_, rfl⟩
  rw [hr] at HP HQ
  unfold numV at HP HQ
  obtain ⟨X, hX⟩ : ∃ X, nameW k n = X := ⟨_, rfl⟩
  rw [hX] at HA RA HB
  unfold strV at HP HQ HA RA HB ⊢
  obtain ⟨Z, hZ⟩ : ∃ Z : ByteArray, (⟨s.toArray⟩ : ByteArray) = Z := ⟨_, rfl⟩
  have h1 : (Z.size : Int) ≤ 100 := by rw [← hZ, hsz]; omega
  rw [hZ] at HP HQ ⊢
  have hXs : (⟨X.toArray⟩ : ByteArray).size = X.length := rfl
  have hXe : (⟨X.toArray⟩ : ByteArray).toList = X := by simp
  obtain ⟨Y, hY⟩ : ∃ Y : ByteArray, (⟨X.toArray⟩ : ByteArray) = Y := ⟨_, rfl⟩
  rw [hY] at HA RA HB hXs hXe
  have HXs := Lib.hid hXs
  have HXe := Lib.hid hXe
  clear hZ hsz hlong hs hr hX hk he hY hXs hXe
  go_enter Tryd.func6, Tryd.ntmps6
  go_wp2_with fail
  refine (HP.out _ (Below.refl _ _)).mono ?_
  rintro e w1 ⟨rfl, hb⟩
  have Hb1 := Lib.hid hb
  clear hb
  go_wp2_with fail
  refine (HQ.out _).mono ?_
  rintro e w2 ⟨rfl, hb⟩
  have Hb2 := Lib.hid (ext_trans Hb1.out hb)
  clear hb
  go_wp2_with fail
  refine (HA.out _).mono ?_
  rintro e w3 ⟨rfl, hb⟩
  have Hb3 := Lib.hid (ext_trans Hb2.out hb)
  clear hb
  go_wp2_with fail
  refine (RA.out _).mono ?_
  rintro e w4 ⟨rfl, hb⟩
  have Hb4 := Lib.hid (ext_trans Hb3.out hb)
  clear hb HP HQ HA RA
  rcases HB.out with h0 | ⟨h0, h8, hN⟩
  · have hY0 : Y.toList.isEmpty = true := by rw [HXe.out, h0]; rfl
    have hY1 : (Y.toList == []) = true := by rw [HXe.out, h0]; rfl
    clear h0 HB
    go_wp2_with fail
    refine (HK.out _).mono ?_
    rintro e w5 ⟨rfl, hb⟩
    have Hb5 := Lib.hid (ext_trans Hb4.out hb)
    clear hb
    go_wp2
    go_ret
    exact ⟨rfl, Hb5.out⟩
  · have hY0 : Y.toList.isEmpty = false := by rw [HXe.out]; cases X with | nil => exact absurd rfl h0 | cons a b => rfl
    have hY1 : (Y.toList == []) = false := by rw [HXe.out]; cases X with | nil => exact absurd rfl h0 | cons a b => rfl
    have hYs : (Y.size : Int) ≤ 8 := by rw [HXs.out]; omega
    have HN := Lib.hid hN
    clear h0 h8 HB hN
    go_wp2_with fail
    refine (HN.out _).mono ?_
    rintro e w5 ⟨rfl, hb⟩
    have Hb5 := Lib.hid (ext_trans Hb4.out hb)
    clear hb
    go_wp2_with fail
    refine (HK.out _).mono ?_
    rintro e w6 ⟨rfl, hb⟩
    have Hb6 := Lib.hid (ext_trans Hb5.out hb)
    clear hb
    go_wp2
    go_ret
    exact ⟨rfl, Hb6.out⟩
theorem names_int (v n : Int) (s : List UInt8) (h : 0 ≤ v ∧ v ≤ 255) (hs : s.length ≤ maxLen) (w : World) (he : ErrAt w) : Calls Tryd.prog 6 #[.int .u8 v, .int .i64 n, strV s] w fun e w' => e = .returned (.bool true) ∧ Below w.heap.size w w' := by
  obtain ⟨k, rfl⟩ : ∃ k : Nat, v = (k : Int) := ⟨v.toNat, by omega⟩
  exact names_any k n s (by omega) hs w he
end WalNames
theorem err_of_five {W : World} (h : laidMetH Tryd.prog [("math/bits.deBruijn32tab", Rows.laid_math_bits_deBruijn32tab), ("math/bits.deBruijn64tab", Rows.laid_math_bits_deBruijn64tab), ("internal/strconv.uint64pow10", Rows.laid_internal_strconv_uint64pow10), ("strconv.ErrRange", Rows.laid_strconv_ErrRange), ("strconv.ErrSyntax", Rows.laid_strconv_ErrSyntax)] W) : ErrAt W :=
  err_of_laid (laidMet.tail (laidMet.tail (laidMet.tail h)))
end Go.Proofs.YtbokimeojhkgmaaDoor
