/-
  Texts of this claim, joined (part 6): contracts and lemmas that the last text goes by. No statement of the seat is proved here.
-/
import Derived.Test.YtdpmfcifgimleaaGreatDoorAll5
import Derived.Test.YtdpmfcifgimleaaGreatDoorAll3
import Derived.Lib.SlBytesConst
import Derived.Test.YtdpmfcifgimleaaGreatDoorAll0
import Derived.Test.YtdpmfcifgimleaaGreatDoorRows
import Derived.ProofKit
import Derived.OpenShut
import Derived.Deep.DeepHandedRow
import Derived.Deep.Matrix
import Derived.LaidLaws
import Derived.Test.YtdpmfcifgimleaaGreatDoorCards
import Derived.Test.YtdpmfcifgimleaaGreatDoorTie
import Derived.Lib.LaidTab
import Derived.SizedLaws
set_option linter.unusedVariables false
set_option linter.unusedSimpArgs false
/-
  A vault in memory; the contract of its Commit. No statement of the seat is proved here.
-/
namespace Go.Proofs.YtdpmfcifgimleaaGreatDoor
open Go Go.RowKit

structure VauS where
  s : SupS
  L : List Ent
  dead : Bool
structure VauP (w : World) (fp fS : Nat → Prop) (g gs gd : Nat) (v : VauS) (A : Option Addr) (c : Nat) (R : List Raw) : Prop where
  sup : Sup w fS gs gd v.s
  sub : ∀ k, fS k → fp k
  slt : ∀ k, fS k → k < w.heap.size
  fg : fp g
  ng : ¬ fS g
  blk : Blk w g 86 #[.pointer (some ⟨gd, 0, none⟩), .pointer (some ⟨gs, 0, none⟩), .slice A R.length c, .bool v.dead]
  dir : DirF fS w A c R
  eq : R.map (·.e) = v.L
  fA : ∀ ad, A = some ad → fp ad.block ∧ ad.block ≠ g ∧ ad.block < w.heap.size
  fX : ∀ r ∈ R, ∀ ad, r.A = some ad → fp ad.block ∧ ad.block ≠ g ∧ ad.block < w.heap.size
def Vau (w : World) (fp : Nat → Prop) (g gs gd : Nat) (v : VauS) : Prop := ∃ fS A c R, VauP w fp fS g gs gd v A c R

section
variable {w w' : World} {fp fp' fS T : Nat → Prop} {g gs gd : Nat} {v : VauS} {A : Option Addr} {c : Nat} {R : List Raw}
theorem VauP.only (h : VauP w fp fS g gs gd v A c R) (ho : Only T w w') (hn : ∀ k, fp k → ¬ T k) : VauP w' fp fS g gs gd v A c R where
  sup := h.sup.only ho (fun k hk => hn k (h.sub k hk))
  sub := h.sub
  slt := fun k hk => Nat.lt_of_lt_of_le (h.slt k hk) ho.size
  fg := h.fg
  ng := h.ng
  blk := h.blk.only ho (hn _ h.fg)
  dir := ⟨⟨h.dir.dir.le, h.dir.dir.flat, h.dir.dir.rd.only ho (fun ad e _ => hn _ (h.fA ad e).1), fun r hr => ⟨(h.dir.dir.ext r hr).1, (h.dir.dir.ext r hr).2.1, (h.dir.dir.ext r hr).2.2.only ho (fun ad e _ => hn _ (h.fX r hr ad e).1)⟩⟩, h.dir.row, h.dir.ext⟩
  eq := h.eq
  fA := fun ad e => ⟨(h.fA ad e).1, (h.fA ad e).2.1, Nat.lt_of_lt_of_le (h.fA ad e).2.2 ho.size⟩
  fX := fun r hr ad e => ⟨(h.fX r hr ad e).1, (h.fX r hr ad e).2.1, Nat.lt_of_lt_of_le (h.fX r hr ad e).2.2 ho.size⟩
theorem Vau.only (h : Vau w fp g gs gd v) (ho : Only T w w') (hn : ∀ k, fp k → ¬ T k) : Vau w' fp g gs gd v := by
  obtain ⟨fS, A, c, R, h⟩ := h
  exact ⟨fS, A, c, R, h.only ho hn⟩
theorem Vau.ext (h : Vau w fp g gs gd v) (hb : Below w.heap.size w w') : Vau w' fp g gs gd v := h.only (Only.of_ext (S := fun _ => False) hb) (fun _ _ x => x)
theorem Vau.mono (h : Vau w fp g gs gd v) (hs : ∀ k, fp k → fp' k) : Vau w fp' g gs gd v := by
  obtain ⟨fS, A, c, R, h⟩ := h
  exact ⟨fS, A, c, R, { h with
    sub := fun k hk => hs k (h.sub k hk)
    fg := hs _ h.fg
    fA := fun ad e => ⟨hs _ (h.fA ad e).1, (h.fA ad e).2⟩
    fX := fun r hr ad e => ⟨hs _ (h.fX r hr ad e).1, (h.fX r hr ad e).2⟩ }⟩
theorem Vau.imp (h : Vau w fp g gs gd v) : Imp w fp gd v.s.S v.s.l := by
  obtain ⟨fS, A, c, R, h⟩ := h
  exact h.sup.impd.mono (fun k hk _ => h.sub k hk)
theorem VauP.imps (h : VauP w fp fS g gs gd v A c R) : Imp w fS gd v.s.S v.s.l := h.sup.impd
end

/-- the state when the write has failed -/
theorem vau_dead {w w8 w9 : World} {fp fS : Nat → Prop} {g gs gd : Nat} {v : VauS} {A : Option Addr} {c : Nat} {R : List Raw} (h : VauP w fp fS g gs gd v A c R) (hb : Below w.heap.size w w8) (ho : Only fS w8 w9) {s' : SupS} (hs : Sup w9 (More fS w8 w9) gs gd s') :
    Vau (w9.setCell ⟨g, 3, none⟩ (.bool true)) (More fp w (w9.setCell ⟨g, 3, none⟩ (.bool true))) g gs gd ⟨s', v.L, true⟩ ∧ Only fp w (w9.setCell ⟨g, 3, none⟩ (.bool true)) := by
  have hz : (w9.setCell ⟨g, 3, none⟩ (.bool true)).heap.size = w9.heap.size := by simp [World.setCell]
  have hgl := h.blk.lt
  have hz1 := hb.size
  have hz2 := ho.size
  have hg9 : Only (fun k => k = g) w9 (w9.setCell ⟨g, 3, none⟩ (.bool true)) := (Only.refl (fun k => k = g) w9).setCell (p := ⟨g, 3, none⟩) (.inl rfl) _
  have h9 : Only fS w w9 := (Only.of_ext (S := fS) hb).trans ho (fun _ _ x => x)
  have hnm : ¬ More fS w8 w9 g := not_more h.ng (by omega)
  refine ⟨⟨More fS w8 w9, A, c, R, {
    sup := hs.only hg9 (fun k hk e => hnm (e ▸ hk))
    sub := fun k hk => by
      rcases hk with hk | hk
      · exact .inl (h.sub k hk)
      · exact .inr (by omega)
    slt := fun k hk => by
      rcases hk with hk | hk
      · have := h.slt k hk; omega
      · omega
    fg := .inl h.fg
    ng := hnm
    blk := by
      have := (h.blk.only h9 h.ng).put 3 (.bool true)
      simpa using this
    dir := by
      have h1 := h.dir.only h9
      refine ⟨⟨h1.dir.le, h1.dir.flat, h1.dir.rd.only hg9 (fun ad e _ => (h.fA ad e).2.1), fun r hr => ⟨(h1.dir.ext r hr).1, (h1.dir.ext r hr).2.1, (h1.dir.ext r hr).2.2.only hg9 (fun ad e _ => (h.fX r hr ad e).2.1)⟩⟩, ?_, ?_⟩
      · intro ad e hm
        rcases hm with hm | hm
        · exact h.dir.row ad e hm
        · have := (h.fA ad e).2.2; omega
      · intro r hr ad e hm
        rcases hm with hm | hm
        · exact h.dir.ext r hr ad e hm
        · have := (h.fX r hr ad e).2.2; omega
    eq := h.eq
    fA := fun ad e => ⟨.inl (h.fA ad e).1, (h.fA ad e).2.1, by have := (h.fA ad e).2.2; omega⟩
    fX := fun r hr ad e => ⟨.inl (h.fX r hr ad e).1, (h.fX r hr ad e).2.1, by have := (h.fX r hr ad e).2.2; omega⟩ }⟩, ?_⟩
  exact (h9.mono (T := fp) (fun k _ hk => h.sub k hk)).trans hg9 (fun k _ hk => hk ▸ h.fg)
/-- the state when it went -/
theorem vau_next {w w8 w9 : World} {fp fS : Nat → Prop} {g gs gd : Nat} {v : VauS} {A A2 : Option Addr} {c c2 : Nat} {R R2 : List Raw} (h : VauP w fp fS g gs gd v A c R) (hb : Below w.heap.size w w8) (ho : Only fS w8 w9) {s' : SupS} (hs : Sup w9 (More fS w8 w9) gs gd s')
    (hd : DirF fS w8 A2 c2 R2) (hA : ∀ ad, A2 = some ad → (fp ad.block ∨ w.heap.size ≤ ad.block) ∧ ad.block ≠ g ∧ ad.block < w8.heap.size) (hX : ∀ r ∈ R2, ∀ ad, r.A = some ad → (fp ad.block ∨ w.heap.size ≤ ad.block) ∧ ad.block ≠ g ∧ ad.block < w8.heap.size) (hdead : v.dead = false) :
    Vau (w9.setCell ⟨g, 2, none⟩ (.slice A2 R2.length c2)) (More fp w (w9.setCell ⟨g, 2, none⟩ (.slice A2 R2.length c2))) g gs gd ⟨s', R2.map (·.e), false⟩ ∧ Only fp w (w9.setCell ⟨g, 2, none⟩ (.slice A2 R2.length c2)) := by
  have hz : (w9.setCell ⟨g, 2, none⟩ (.slice A2 R2.length c2)).heap.size = w9.heap.size := by simp [World.setCell]
  have hgl := h.blk.lt
  have hz1 := hb.size
  have hz2 := ho.size
  have hg9 : Only (fun k => k = g) w9 (w9.setCell ⟨g, 2, none⟩ (.slice A2 R2.length c2)) := (Only.refl (fun k => k = g) w9).setCell (p := ⟨g, 2, none⟩) (.inl rfl) _
  have h9 : Only fS w w9 := (Only.of_ext (S := fS) hb).trans ho (fun _ _ x => x)
  have hnm : ¬ More fS w8 w9 g := not_more h.ng (by omega)
  refine ⟨⟨More fS w8 w9, A2, c2, R2, {
    sup := hs.only hg9 (fun k hk e => hnm (e ▸ hk))
    sub := fun k hk => by
      rcases hk with hk | hk
      · exact .inl (h.sub k hk)
      · exact .inr (by omega)
    slt := fun k hk => by
      rcases hk with hk | hk
      · have := h.slt k hk; omega
      · omega
    fg := .inl h.fg
    ng := hnm
    blk := by
      have := (h.blk.only h9 h.ng).put 2 (.slice A2 R2.length c2)
      rw [hdead] at this
      simpa using this
    dir := by
      have h1 := hd.only ho
      refine ⟨⟨h1.dir.le, h1.dir.flat, h1.dir.rd.only hg9 (fun ad e _ => (hA ad e).2.1), fun r hr => ⟨(h1.dir.ext r hr).1, (h1.dir.ext r hr).2.1, (h1.dir.ext r hr).2.2.only hg9 (fun ad e _ => (hX r hr ad e).2.1)⟩⟩, ?_, ?_⟩
      · intro ad e hm
        rcases hm with hm | hm
        · exact hd.row ad e hm
        · have := (hA ad e).2.2; omega
      · intro r hr ad e hm
        rcases hm with hm | hm
        · exact hd.ext r hr ad e hm
        · have := (hX r hr ad e).2.2; omega
    eq := rfl
    fA := fun ad e => by
      obtain ⟨q1, q2, q3⟩ := hA ad e
      refine ⟨?_, q2, by omega⟩
      rcases q1 with q1 | q1
      · exact .inl q1
      · exact .inr (by omega)
    fX := fun r hr ad e => by
      obtain ⟨q1, q2, q3⟩ := hX r hr ad e
      refine ⟨?_, q2, by omega⟩
      rcases q1 with q1 | q1
      · exact .inl q1
      · exact .inr (by omega) }⟩, ?_⟩
  exact (h9.mono (T := fp) (fun k _ hk => h.sub k hk)).trans hg9 (fun k _ hk => hk ▸ h.fg)

/-! ### what a Commit makes -/
def laidV (v : VauS) (B : List Blb) : List Ent := laidTo B (freeL v.s.S.length v.L) B.length
def nextV (v : VauS) (gs : List (List UInt8)) (B : List Blb) : List Ent := nextL v.L (gs ++ B.map (·.name)) (laidV v B)
def pairsV (v : VauS) (B : List Blb) : List (List (Nat × List UInt8)) := (List.range B.length).map fun k => pairK (entK B (freeL v.s.S.length v.L) k) (B.getD k default).data
def commitV (v : VauS) (gs : List (List UInt8)) (B : List Blb) : Int × VauS :=
  if v.dead = true then (6, v)
  else if mayL v.L gs B ≠ 0 then (mayL v.L gs B, v)
  else if (freeL v.s.S.length v.L).length < offs B B.length then (4, v)
  else if 814 < (dirB (nextV v gs B)).length then (4, v)
  else if (writeV v.s (pairsV v B).flatten (dirB (nextV v gs B))).1 = 0 then (0, ⟨(writeV v.s (pairsV v B).flatten (dirB (nextV v gs B))).2, nextV v gs B, false⟩)
  else ((writeV v.s (pairsV v B).flatten (dirB (nextV v gs B))).1, ⟨(writeV v.s (pairsV v B).flatten (dirB (nextV v gs B))).2, v.L, true⟩)
theorem mayL_zero {L : List Ent} {gs : List (List UInt8)} {B : List Blb} (h : mayL L gs B = 0) : NamesOk (gs ++ B.map (·.name)) ∧ (∀ g ∈ gs, (findE L g).isSome = true) ∧ ∀ b ∈ B, b.data.length ≤ 32768 := by
  unfold mayL at h
  split at h
  · cases h
  · split at h
    · cases h
    · split at h
      · cases h
      · rename_i h1 h2 h3
        exact ⟨Decidable.not_not.1 h1, Decidable.not_not.1 h2, Decidable.not_not.1 h3⟩
theorem pairs_flat (B : List Blb) (f : List Nat) : ∀ k, k ≤ B.length → offs B k ≤ f.length → (((List.range k).map fun k => pairK (entK B f k) (B.getD k default).data).flatten).length = offs B k
  | 0, _, _ => by simp [offs]
  | k + 1, hk, ho => by
    have hlt : k < B.length := by omega
    have h1 := offs_succ B k hlt
    have hb : B.getD k default = B[k] := by rw [List.getD_eq_getElem?_getD, List.getElem?_eq_getElem hlt]; rfl
    rw [List.range_succ, List.map_append, List.flatten_append, List.length_append, pairs_flat B f k (by omega) (by omega), h1]
    simp only [List.map_cons, List.map_nil, List.flatten_cons, List.flatten_nil, List.append_nil, hb]
    rw [pairK_length _ _ (by rw [laid_secs, List.length_take, List.length_drop, hb]; omega)]
/-- a directory's bytes are not many -/
theorem entB_len {N : Nat} {e : Ent} (h : EntOk N e) : (entB e).length ≤ 10000 := by
  have h1 := nameB_len h.name
  have h2 := h.exts
  unfold entB rowsB numsB
  have h3 : ∀ l : List (Nat × Nat), (l.flatMap extB).length ≤ 18 * l.length := by
    intro l
    induction l with
    | nil => simp
    | cons x r ih =>
      rw [List.flatMap_cons, List.length_append, List.length_cons]
      have : (extB x).length ≤ 18 := by
        unfold extB numsB
        have q1 := dig_clamp_len (x.1 : Int)
        have q2 := dig_clamp_len (x.2 : Int)
        simp only [List.flatMap_cons, List.flatMap_nil, List.append_nil, List.length_append]
        omega
      omega
  have h4 := h3 e.ext
  have q1 := dig_clamp_len (e.len : Int)
  have q2 := dig_clamp_len (e.sum : Int)
  have q3 := dig_clamp_len (e.ext.length : Int)
  have q4 := dig_len 9 e.name.length (by have : (128 : Nat) ^ 9 = 9223372036854775808 := rfl; omega) (by omega)
  simp only [List.flatMap_cons, List.flatMap_nil, List.append_nil, List.length_append]
  omega
theorem dirB_len {N : Nat} {L : List Ent} (h : ∀ e ∈ L, EntOk N e) : (dirB L).length ≤ 9 + 10000 * L.length := by
  have key : ∀ M : List Ent, (∀ e ∈ M, EntOk N e) → (M.flatMap entB).length ≤ 10000 * M.length := by
    intro M
    induction M with
    | nil => intro _; simp
    | cons e r ih =>
      intro hM
      rw [List.flatMap_cons, List.length_append, List.length_cons]
      have h1 := entB_len (hM e (List.mem_cons_self ..))
      have h2 := ih (fun x hx => hM x (List.mem_cons_of_mem _ hx))
      omega
  unfold dirB
  rw [List.length_append]
  have h1 := key L h
  have h2 : (numsB [(L.length : Int)]).length ≤ 9 := by
    unfold numsB
    have q1 := dig_clamp_len (L.length : Int)
    simpa using q1
  omega
theorem VOk.nums {N : Nat} {L : List Ent} (h : VOk N L) (hN : N ≤ 4096) : Nums L := fun e he => by
  have h1 := h.ent e he
  have h2 := nameB_len h1.name
  refine ⟨by have := h1.len; omega, by have := h1.sum; omega, by have := h1.exts; omega, by omega, fun x hx => ?_⟩
  have := h1.ext x hx
  omega
theorem VOk.fit {N : Nat} {L : List Ent} (h : VOk N L) (hl : L.length ≤ 1000000) : Fit N L := ⟨hl, fun e he => ⟨by have := (h.ent e he).exts; omega, fun x hx => ((h.ent e he).ext x hx).2.2⟩⟩
end Go.Proofs.YtdpmfcifgimleaaGreatDoor

/-
  The contract of a vault's Commit. No statement of the seat is proved here.
-/
namespace Go.Proofs.YtdpmfcifgimleaaGreatDoor
open Go Go.RowKit

def Went (w : World) (fp : Nat → Prop) (g gs gd : Nat) (r : Int × VauS) (e : Ending) (w' : World) : Prop :=
  e = .returned (.int .i64 r.1) ∧ Vau w' (More fp w w') g gs gd r.2 ∧ Only fp w w'
theorem Went.still {w w' : World} {fp : Nat → Prop} {g gs gd : Nat} {v : VauS} {z : Int} (h : Vau w fp g gs gd v) (hb : Below w.heap.size w w') : Went w fp g gs gd (z, v) (.returned (.int .i64 z)) w' :=
  ⟨rfl, (h.ext hb).mono (fun _ hk => .inl hk), Only.of_ext hb⟩

set_option maxRecDepth 100000 in
set_option maxHeartbeats 8000000 in
theorem vcommit_any {w : World} {fp : Nat → Prop} {g gs gd : Nat} {v : VauS} (hV : Vau w fp g gs gd v) (ht : Tab w) (htf : ¬ fp 0) (hsm : Small 400000 v.s.S) (h32 : 32 ≤ v.s.S.length) (hok : VOk v.s.S.length v.L) (hl : v.L.length ≤ 100000)
    (G : Option Addr) (cg : Nat) (ns : List (List UInt8)) (hG : Rd w G (ns.map strV)) (hG0 : G = none → ns = [] ∧ cg = 0) (P : Option Addr) (cp : Nat) (B : List Blb) (hB : PutR w P B) (hP : B ≠ [] → ∀ ad, P = some ad → ¬ fp ad.block) (hD : ∀ b ∈ B, b.data ≠ [] → ∀ ad, b.D = some ad → ¬ fp ad.block)
    (h1 : ns.length ≤ 100000) (h2 : B.length ≤ 100000) (h3 : ∀ s ∈ ns, s.length ≤ maxLen) (h4 : ∀ b ∈ B, b.name.length ≤ maxLen ∧ b.data.length ≤ 1000000) :
    Calls Tryz.prog 16 #[.pointer (some ⟨g, 0, none⟩), .slice G ns.length cg, .slice P B.length cp] w (Went w fp g gs gd (commitV v ns B)) := by
  have hV0 := Lib.hid hV
  obtain ⟨fS, A, c, R, hp⟩ := hV
  have b3 := hp.blk.cell 3
  have b2 := hp.blk.cell 2
  simp only [List.getElem?_toArray, List.getElem?_cons_zero, List.getElem?_cons_succ] at b2 b3
  obtain ⟨W, hW⟩ : ∃ W, commitV v ns B = W := ⟨_, rfl⟩
  rw [hW]
  obtain ⟨dead, hdead⟩ : ∃ d, v.dead = d := ⟨_, rfl⟩
  rw [hdead] at b3
  cases dead with
  | true =>
    have hWW : W = (6, v) := by rw [← hW]; unfold commitV; rw [if_pos hdead]
    have HWW := Lib.hid hWW
    have Hp := Lib.hid hp
    clear hW hWW hp hdead hok hB hP hD hsm hG hG0
    go_enter Tryz.func16, Tryz.ntmps16
    go_wp2
    go_ret
    rw [HWW.out]
    exact Went.still hV0.out (Below.refl _ _)
  | false =>
    have hnames := namesof_any G cg ns hG hG0 P cp B hB (by omega) (by omega)
    have Hnames := Lib.hid hnames
    have Hp := Lib.hid hp
    have HB := Lib.hid hB
    have HG := Lib.hid hG
    have HW := Lib.hid hW
    have Hdead := Lib.hid hdead
    have Hsm := Lib.hid hsm
    have Hok := Lib.hid hok
    have HP := Lib.hid hP
    have HD := Lib.hid hD
    have H4 := Lib.hid h4
    have Ht := Lib.hid ht
    have Htf := Lib.hid htf
    have H32 := Lib.hid h32
    have Hl := Lib.hid hl
    clear hnames hp hB hG hW hdead hsm hok hP hD h4 ht htf hG0 h32 hl
    go_enter Tryz.func16, Tryz.ntmps16
    go_wp2_with fail
    refine Hnames.out.mono ?_
    rintro e w1 ⟨A1, c1, nm, rfl, hN1, hperm, hcalm⟩
    have hb1 := hN1.bel
    have hRl : R.length = v.L.length := by rw [← Hp.out.eq, List.length_map]
    have hnl : nm.length = ns.length + B.length := by rw [hperm.length_eq, List.length_append, List.length_map]
    have href := refuses_any (w := w1) _ _ _ A c R (Hp.out.blk.ext hb1) (Hp.out.dir.dir.keep hb1) (by rw [Hp.out.eq]; exact Hok.out.rises) G cg ns (HG.out.ext hb1) P cp B (HB.out.ext hb1) A1 c1 nm hN1.rd hcalm hperm (by have := Hl.out; omega) (by omega) (by omega) (by omega) (fun s hs => by
      rcases List.mem_append.1 (hperm.mem_iff.1 hs) with h | h
      · exact h3 s h
      · obtain ⟨b, hb, rfl⟩ := List.mem_map.1 h
        exact (H4.out b hb).1)
    rw [Hp.out.eq] at href
    obtain ⟨z, hz⟩ : ∃ z, mayL v.L ns B = z := ⟨_, rfl⟩
    rw [hz] at href
    have Href := Lib.hid href
    have Hz := Lib.hid hz
    have HN1 := Lib.hid hN1
    have Hperm := Lib.hid hperm
    have Hcalm := Lib.hid hcalm
    have Hnl := Lib.hid hnl
    have HRl := Lib.hid hRl
    clear href hz hN1 hperm hcalm hnl hRl
    go_wp2_with fail
    refine Href.out.mono ?_
    rintro e w2 ⟨rfl, hb2⟩
    have hb2w : Below w.heap.size w w2 := ext_trans hb1 hb2
    by_cases hz0 : z = 0
    · subst hz0
      obtain ⟨hnok, hgone, hlong⟩ := mayL_zero Hz.out
      have hn4 : v.s.S.length ≤ 4096 := Hp.out.imps.n
      have hfree := fun W (hW : Below w.heap.size w W) => freesectors_any (Hp.out.imps.ext hW) (.pointer (some ⟨gs, 0, none⟩)) v.dead A c R (Hp.out.blk.ext hW) (Hp.out.dir.dir.keep hW) (by rw [Hp.out.eq]; exact Hok.out.fit (by have := Hl.out; omega)) H32.out
      rw [Hp.out.eq] at hfree
      have hfl := freeL_le v.s.S.length v.L
      have hfm : ∀ i ∈ freeL v.s.S.length v.L, 32 ≤ i ∧ i < v.s.S.length := fun i hi => by
        have := (mem_freeL (fun e he => (Hok.out.ent e he).ne)).1 hi
        exact ⟨this.2.1, this.1⟩
      have hnames1 := laidTo_names B (freeL v.s.S.length v.L)
      have hplace := fun W (hW : Below w.heap.size w W) F cf (hF : Rd W F ((freeL v.s.S.length v.L).map iv')) (hcf : (freeL v.s.S.length v.L).length ≤ cf) => place_any W (Ht.out.ext hW) P cp B (HB.out.ext hW) F cf _ hF hcf (fun i hi => by have := hfm i hi; omega) (by omega) (by omega) (fun b hb => (H4.out b hb).2)
      have Hfree := Lib.hid hfree
      have Hplace := Lib.hid hplace
      have Hnok := Lib.hid hnok
      have Hlong := Lib.hid hlong
      have Hfm := Lib.hid hfm
      clear hfree hplace hnok hgone hlong hfm hnames1
      go_wp2_with fail
      refine (Hfree.out _ (by repeat (first | exact hb2w | apply ext_drew))).mono ?_
      rintro e w3 ⟨A3, c3, rfl, hN3⟩
      have hb3 : Below w.heap.size w w3 := ext_trans (by repeat (first | exact hb2w | apply ext_drew)) hN3.bel
      go_wp2_with fail
      refine (Hplace.out w3 hb3 A3 c3 hN3.rd hN3.row.le).mono ?_
      rintro e w4 ⟨hLaid, hb34⟩
      have hb4 : Below w.heap.size w w4 := ext_trans hb3 hb34
      rcases hLaid with ⟨hno, rfl⟩ | ⟨hroom, A4, c4, Rl, rfl, hDN, hRle⟩
      · have hWW : W = (4, v) := by
          rw [← HW.out]
          unfold commitV
          rw [if_neg (by rw [Hdead.out]; decide), if_neg (by rw [Hz.out]; decide), if_pos hno]
        have HWW := Lib.hid hWW
        clear hWW hno
        go_wp2
        go_ret
        rw [HWW.out]
        exact Went.still hV0.out hb4
      · have hBl : B.length = Rl.length := hDN.len
        have hbeh := dirbehind_any (w := w4) A c R (Hp.out.dir.dir.keep hb4) A1 c1 nm (HN1.out.rd.ext (ext_trans hb2 (ext_trans (by repeat (first | exact Below.refl _ _ | apply ext_drew)) (ext_trans hN3.bel hb34)))) Hcalm.out A4 c4 Rl (by rw [← hBl]; exact hDN.new.row) (by rw [HRl.out]; have := Hl.out; omega) (by rw [Hnl.out]; omega) (by omega)
        rw [← hBl] at hbeh
        have Hbeh := Lib.hid hbeh
        have HDN := Lib.hid hDN
        have HRle := Lib.hid hRle
        have HBl := Lib.hid hBl
        have Hroom := Lib.hid hroom
        clear hbeh hDN hRle hBl hroom
        have bv2 : w4.cell? ⟨g, 2, none⟩ = some (.slice A R.length c) := ((Hp.out.blk.ext hb4).cell 2)
        go_wp2_with fail
        refine Hbeh.out.mono ?_
        rintro e w5 ⟨A5, c5, R5, rfl, hN5, hp5, hcalm5⟩
        have hb45 := hN5.bel
        have hb5 : Below w.heap.size w w5 := ext_trans hb4 hb45
        -- what it is
        have hR5 : R5.map (·.e) = nextV v ns B := by
          have hlaid : Rl.map (·.e) = laidV v B := HRle.out
          have hnn : ((laidV v B).map (·.name)).Nodup := by
            unfold laidV
            rw [laidTo_names]
            exact (List.nodup_append.1 Hnok.out.2).2.1
          have hmem : ∀ e ∈ laidV v B, e.name ∈ ns ++ B.map (·.name) := fun e he => by
            have h1 : e.name ∈ (laidV v B).map (·.name) := List.mem_map_of_mem he
            unfold laidV at h1
            rw [laidTo_names] at h1
            exact List.mem_append_right _ h1
          have hpe : (R5.map (·.e)).Perm (laidV v B ++ v.L.filter (staysE (ns ++ B.map (·.name)))) := by
            have h1 := hp5.map (·.e)
            rw [List.map_append, hlaid] at h1
            refine h1.trans (List.Perm.append_left _ ?_)
            rw [← staysE_congr Hperm.out, ← Hp.out.eq, List.filter_map]
            exact List.Perm.refl _
          refine rises_unique (hpe.trans (nextL_perm _ _ _).symm) (calm_rises (List.pairwise_map.2 hcalm5) ?_) (nextL_rises Hok.out.rises hnn hmem)
          exact ((hpe.map _).nodup_iff).2 (next_names Hok.out.rises hnn hmem)
        have hokn : VOk v.s.S.length (nextV v ns B) := nextL_ok Hok.out (fun b hb => Hnok.out.1 _ (List.mem_append_right _ (List.mem_map_of_mem hb))) (List.nodup_append.1 Hnok.out.2).2.1 Hlong.out (fun b hb => List.mem_append_right _ (List.mem_map_of_mem hb)) Hroom.out
        have hext5 : ∀ r ∈ R5, ExtR w5 r.A r.c r.e.ext ∧ ∀ ad, r.A = some ad → (fp ad.block ∨ w.heap.size ≤ ad.block) ∧ ad.block ≠ g ∧ ad.block < w5.heap.size ∧ ¬ fS ad.block := fun r hr => by
          have hgl := Hp.out.blk.lt
          rcases List.mem_append.1 (hp5.mem_iff.1 hr) with h | h
          · have h6 := HDN.out.ext r h
            refine ⟨(ExtR.of h6.1).ext hb45, fun ad e => ?_⟩
            have h7 := h6.2 ad.block ⟨ad, e, rfl⟩
            have h8 := h6.1.lt (k := ad.block) ⟨ad, e, rfl⟩
            have h9 := hb45.size
            have h10 := hb3.size
            refine ⟨.inr (by omega), by omega, by omega, fun hk => ?_⟩
            have := Hp.out.slt _ hk
            omega
          · have h6 : r ∈ R := (List.mem_filter.1 h).1
            refine ⟨(Hp.out.dir.dir.ext r h6).ext hb5, fun ad e => ?_⟩
            have h7 := Hp.out.fX r h6 ad e
            have h8 := hb5.size
            exact ⟨.inl h7.1, h7.2.1, by omega, Hp.out.dir.ext r h6 ad e⟩
        have hrow5 : ∀ ad, A5 = some ad → (fp ad.block ∨ w.heap.size ≤ ad.block) ∧ ad.block ≠ g ∧ ad.block < w5.heap.size ∧ ¬ fS ad.block := fun ad e => by
          have hgl := Hp.out.blk.lt
          have h7 := hN5.2.2 ad.block ⟨ad, e, rfl⟩
          have h8 := hN5.row.lt (k := ad.block) ⟨ad, e, rfl⟩
          have h10 := hb4.size
          refine ⟨.inr (by omega), by omega, by omega, fun hk => ?_⟩
          have := Hp.out.slt _ hk
          omega
        have hd5 : DirR w5 A5 c5 R5 := ⟨hN5.row.le, hN5.row.flat, hN5.rd, fun r hr => (hext5 r hr).1⟩
        have hnl5 : (nextV v ns B).length = R5.length := by rw [← hR5, List.length_map]
        have hnle : R5.length ≤ 200000 := by
          rw [hp5.length_eq, List.length_append]
          have h1 := List.length_filter_le (stays nm) R
          have h2 := HBl.out
          have h3 := HRl.out
          have h4 := Hl.out
          omega
        have himg := dirimage_any (w := w5) A5 c5 R5 hd5 (by rw [hR5]; exact hokn.nums hn4) (by rw [hR5]; have := dirB_len hokn.ent; omega) (by omega)
        rw [hR5] at himg
        obtain ⟨img, himg'⟩ : ∃ img, dirB (nextV v ns B) = img := ⟨_, rfl⟩
        have hil : img.length ≤ 100000000000 := by rw [← himg']; have := dirB_len hokn.ent; omega
        rw [himg'] at himg
        have Himg := Lib.hid himg
        have Himg' := Lib.hid himg'
        have HR5 := Lib.hid hR5
        have Hext5 := Lib.hid hext5
        have Hrow5 := Lib.hid hrow5
        have Hd5 := Lib.hid hd5
        clear himg himg' hR5 hext5 hrow5 hd5 hnl5 hp5 hcalm5 hokn
        go_wp2_with fail
        refine Himg.out.mono ?_
        rintro e w6 ⟨A6, c6, rfl, hI6, hb56⟩
        have hb6 : Below w.heap.size w w6 := ext_trans hb5 hb56
        by_cases hlong6 : 814 < img.length
        · have hWW : W = (4, v) := by
            rw [← HW.out]
            unfold commitV
            rw [if_neg (by rw [Hdead.out]; decide), if_neg (by rw [Hz.out]; decide), if_neg (by have := Hroom.out; omega), if_pos (by rw [Himg'.out]; exact hlong6)]
          have HWW := Lib.hid hWW
          have hli : (814 : Int) < (img.length : Int) := by omega
          clear hWW
          go_wp2
          go_ret
          rw [HWW.out]
          exact Went.still hV0.out hb6
        · have hli : (img.length : Int) ≤ 814 := by omega
          have hgl := Hp.out.blk.lt
          have hz45 := hb34.size
          have hz5 := hb5.size
          have hbd4 : Below w4.heap.size w4 w6 := ext_trans hN5.bel hb56
          have hnew4 : ∀ r ∈ Rl, ∀ ad, r.A = some ad → ¬ fS ad.block := fun r hr ad e hk => by
            have h1 := Hp.out.slt _ hk
            have h2 := (HDN.out.ext r hr).2 ad.block ⟨ad, e, rfl⟩
            have h3 := hb3.size
            omega
          have hlaidk : ∀ k r, Rl[k]? = some r → k < B.length ∧ r.e = entK B (freeL v.s.S.length v.L) k := fun k r hr => by
            have h1 := congrArg (fun l => l[k]?) HRle.out
            simp only [List.getElem?_map, hr, Option.map_some] at h1
            obtain ⟨h2, h3⟩ := List.getElem?_eq_some_iff.1 hr
            have h4 := HBl.out
            refine ⟨by omega, ?_⟩
            unfold laidTo at h1
            rw [List.getElem?_map, List.getElem?_range (by omega)] at h1
            injection h1
          have hlok : ∀ k, k < B.length → EntOk v.s.S.length (entK B (freeL v.s.S.length v.L) k) := fun k hk => laid_ok Hfm.out (fun b hb => Hnok.out.1 _ (List.mem_append_right _ (List.mem_map_of_mem hb))) Hlong.out Hroom.out hk
          have hwr := vwrite_any (w := w6) (fp := fS) (Hp.out.sup.ext hb6) (fun k hk => Nat.lt_of_lt_of_le (Hp.out.slt k hk) hb6.size) Hsm.out (Ht.out.ext hb6) (fun hk => Htf.out (Hp.out.sub _ hk)) _ _ (Hp.out.blk.ext hb6) Hp.out.ng
            A4 c4 Rl ⟨HDN.out.dir.keep hbd4, fun ad e hk => by
              have h1 := Hp.out.slt _ hk
              have h2 := HDN.out.new.2.2 ad.block ⟨ad, e, rfl⟩
              have h3 := hb3.size
              omega, hnew4⟩ P cp B ⟨HB.out.ext hb6, fun hne ad e hk => HP.out hne ad e (Hp.out.sub _ hk), fun b hb hne ad e hk => HD.out b hb hne ad e (Hp.out.sub _ hk)⟩ HBl.out.symm (pairsV v B) (by simp [pairsV])
            (fun k q r b hq hr hb => by
              obtain ⟨h1, h2⟩ := hlaidk k r hr
              have h3 : B.getD k default = b := by rw [List.getD_eq_getElem?_getD, hb]; rfl
              unfold pairsV at hq
              rw [List.getElem?_map, List.getElem?_range h1] at hq
              injection hq with hq
              dsimp only at hq
              rw [h3] at hq
              refine ⟨by rw [h2]; exact hq.symm, ?_⟩
              rw [h2, (hlok k h1).room]
              unfold entK
              rw [h3])
            (fun r hr => by
              obtain ⟨k, hk⟩ := List.getElem?_of_mem hr
              obtain ⟨h1, h2⟩ := hlaidk k r hk
              rw [h2]
              refine ⟨by have := (hlok k h1).exts; omega, by have := (hlok k h1).secs_le; omega, fun x hx => by have := ((hlok k h1).ext x hx).2.2; omega⟩)
            h2 (fun b hb => (H4.out b hb).2) (by
              have h1 := pairs_flat B (freeL v.s.S.length v.L) B.length (Nat.le_refl _) Hroom.out
              have h5 := Hroom.out
              unfold pairsV
              omega)
            A6 img.length c6 img hI6.bs (fun ad e hk => by
              have h1 := Hp.out.slt _ hk
              have h2 := hI6.2 ad e
              omega) (by omega)
          rw [← HBl.out] at hwr
          obtain ⟨q, hq⟩ : ∃ q, writeV v.s (pairsV v B).flatten img = q := ⟨_, rfl⟩
          rw [hq] at hwr
          have hWr : W = if q.1 = 0 then (0, ⟨q.2, nextV v ns B, false⟩) else (q.1, ⟨q.2, v.L, true⟩) := by
            rw [← HW.out]
            unfold commitV
            rw [if_neg (by rw [Hdead.out]; decide), if_neg (by rw [Hz.out]; decide), if_neg (by have := Hroom.out; omega), if_neg (by rw [Himg'.out]; exact hlong6), Himg'.out, hq]
          have HWr := Lib.hid hWr
          have Hwrite := Lib.hid hwr
          clear hwr hWr hq hlaidk hlok hnew4
          go_wp2_with fail
          refine Hwrite.out.mono ?_
          rintro e w9 ⟨rfl, hS9, ho9⟩
          obtain ⟨z, s'⟩ := q
          dsimp only at hS9
          have b93 : w9.cell? ⟨g, 3, none⟩ = some (.bool false) := by
            have h1 := ((Hp.out.blk.ext hb6).only ho9 Hp.out.ng).cell 3
            rw [Hdead.out] at h1
            exact h1
          have b92 : w9.cell? ⟨g, 2, none⟩ = some (.slice A R.length c) := ((Hp.out.blk.ext hb6).only ho9 Hp.out.ng).cell 2
          have f93 : w9.frozen? ⟨g, 3, none⟩ = false := ((Hp.out.blk.ext hb6).only ho9 Hp.out.ng).free 3
          have f92 : w9.frozen? ⟨g, 2, none⟩ = false := ((Hp.out.blk.ext hb6).only ho9 Hp.out.ng).free 2
          by_cases hz9 : z = 0
          · subst hz9
            have hWW : W = (0, ⟨s', nextV v ns B, false⟩) := by rw [HWr.out]; rfl
            have hfin := vau_next (A2 := A5) (c2 := c5) (R2 := R5) Hp.out hb6 ho9 hS9 ⟨Hd5.out.keep hb56, fun ad e => (Hrow5.out ad e).2.2.2, fun r hr ad e => ((Hext5.out r hr).2 ad e).2.2.2⟩
              (fun ad e => by obtain ⟨q1, q2, q3, _⟩ := Hrow5.out ad e; have := hb56.size; exact ⟨q1, q2, by omega⟩) (fun r hr ad e => by obtain ⟨q1, q2, q3, _⟩ := (Hext5.out r hr).2 ad e; have := hb56.size; exact ⟨q1, q2, by omega⟩) Hdead.out
            rw [HR5.out] at hfin
            have HWW := Lib.hid hWW
            have Hfin := Lib.hid hfin
            clear hWW hfin
            go_wp2
            go_ret
            rw [HWW.out]
            exact ⟨rfl, Hfin.out.1, Hfin.out.2⟩
          · have hWW : W = (z, ⟨s', v.L, true⟩) := by rw [HWr.out]; show (if z = 0 then _ else _) = _; rw [if_neg hz9]
            have hfin := vau_dead Hp.out hb6 ho9 hS9
            have hne : (z != 0) = true := by simpa using hz9
            have HWW := Lib.hid hWW
            have Hfin := Lib.hid hfin
            clear hWW hfin
            go_wp2
            go_ret
            rw [HWW.out]
            exact ⟨rfl, Hfin.out.1, Hfin.out.2⟩
    · have hWW : W = (z, v) := by
        rw [← HW.out]
        unfold commitV
        rw [if_neg (by rw [Hdead.out]; decide), if_pos (by rw [Hz.out]; exact hz0), Hz.out]
      have HWW := Lib.hid hWW
      clear hWW
      go_wp2
      go_ret
      rw [HWW.out]
      exact Went.still hV0.out hb2w
end Go.Proofs.YtdpmfcifgimleaaGreatDoor

/-
  What a vault's Commit makes of a disk without a fuse. No statement of the seat is proved here.
-/
namespace Go.Proofs.YtdpmfcifgimleaaGreatDoor
open Go Go.RowKit

/-! ### the data's way -/
def putS (S : Sec) (ps : List (Nat × List UInt8)) : Sec := ps.foldl (fun S p => S.set p.1 (S.getD p.1 [] ++ [pad p.2])) S
theorem putS_length (ps : List (Nat × List UInt8)) : ∀ S : Sec, (putS S ps).length = S.length := by
  induction ps with
  | nil => intro S; rfl
  | cons p r ih => intro S; show (putS (S.set p.1 _) r).length = _; rw [ih, List.length_set]
theorem putTo_live : ∀ (ps : List (Nat × List UInt8)) (S : Sec), (∀ p ∈ ps, p.1 < S.length ∧ p.2.length ≤ 64) → putTo S (-1) ps = (0, putS S ps, -1)
  | [], _, _ => rfl
  | p :: r, S, h => by
    obtain ⟨h1, h2⟩ := h p (List.mem_cons_self ..)
    have hc : writeCode S.length (-1) (p.1 : Int) p.2 = 0 := by
      unfold writeCode
      rw [if_neg (by omega), if_neg (by omega)]
    have hw : writeS S (-1) (p.1 : Int) p.2 = S.set p.1 (S.getD p.1 [] ++ [pad p.2]) := by
      unfold writeS
      rw [if_pos hc]
      rfl
    obtain ⟨i, c⟩ := p
    rw [putTo_ok _ _ _ _ _ hc, hw]
    have ht : tick (-1) = -1 := by decide
    rw [ht, putTo_live r _ (fun q hq => by rw [List.length_set]; exact h q (List.mem_cons_of_mem _ hq))]
    rfl
theorem lasts_set (S : Sec) (i : Nat) (vs : List (List UInt8)) (j : Nat) : (lasts (S.set i vs)).getD j [] = if i = j ∧ i < S.length then lastOf vs else (lasts S).getD j [] := by
  rw [lasts_getD, lasts_getD, List.getD_eq_getElem?_getD, List.getD_eq_getElem?_getD, List.getElem?_set]
  by_cases h : i = j
  · subst h
    by_cases h2 : i < S.length
    · simp [h2]
    · rw [if_pos rfl, if_neg h2, if_neg (by omega), List.getElem?_eq_none (by omega)]
  · rw [if_neg h, if_neg (by omega)]
theorem putS_far (ps : List (Nat × List UInt8)) : ∀ (S : Sec) (j : Nat), (∀ p ∈ ps, p.1 ≠ j) → (lasts (putS S ps)).getD j [] = (lasts S).getD j [] := by
  induction ps with
  | nil => intro S j _; rfl
  | cons p r ih =>
    intro S j h
    show (lasts (putS (S.set p.1 _) r)).getD j [] = _
    rw [ih _ _ (fun q hq => h q (List.mem_cons_of_mem _ hq)), lasts_set, if_neg (fun hh => h p (List.mem_cons_self ..) hh.1)]
theorem putS_at (ps : List (Nat × List UInt8)) : ∀ (S : Sec), (ps.map (·.1)).Nodup → (∀ p ∈ ps, p.1 < S.length) → ∀ p ∈ ps, (lasts (putS S ps)).getD p.1 [] = pad p.2 := by
  induction ps with
  | nil => intro S _ _ p hp; cases hp
  | cons q r ih =>
    intro S hn hl p hp
    rw [List.map_cons, List.nodup_cons] at hn
    show (lasts (putS (S.set q.1 _) r)).getD p.1 [] = _
    rcases List.mem_cons.1 hp with rfl | hp
    · rw [putS_far _ _ _ (fun x hx e => hn.1 (by have h5 := List.mem_map_of_mem (f := fun y : Nat × List UInt8 => y.1) hx; rw [e] at h5; exact h5)), lasts_set, if_pos ⟨rfl, hl p (List.mem_cons_self ..)⟩, lastOf_snoc]
    · exact ih _ hn.2 (fun x hx => by rw [List.length_set]; exact hl x (List.mem_cons_of_mem _ hx)) p hp

/-! ### what is read of it -/
theorem dataAt_lasts (S : Sec) (l : List Nat) : dataAt S l = l.flatMap fun i => (lasts S).getD i [] := by
  unfold dataAt
  congr 1
  funext i
  rw [lasts_getD]
theorem flatMap_congr' {α β : Type} {F G : α → List β} : ∀ {l : List α}, (∀ x ∈ l, F x = G x) → l.flatMap F = l.flatMap G
  | [], _ => rfl
  | x :: r, h => by
    rw [List.flatMap_cons, List.flatMap_cons, h x (List.mem_cons_self ..), flatMap_congr' (fun y hy => h y (List.mem_cons_of_mem _ hy))]
theorem blob_far {S S' : Sec} {e : Ent} (h : ∀ i ∈ secs e.ext, (lasts S').getD i [] = (lasts S).getD i []) : blobOf S' e = blobOf S e := by
  unfold blobOf
  rw [dataAt_lasts, dataAt_lasts, flatMap_congr' h]
theorem chunks64 (b : List UInt8) : ∀ m, 64 * m ≤ b.length → (List.range m).flatMap (chunkB b) = b.take (64 * m)
  | 0, _ => by simp
  | m + 1, h => by
    rw [List.range_succ, List.flatMap_append, chunks64 b m (by omega)]
    have : [m].flatMap (chunkB b) = (b.drop (64 * m)).take 64 := by simp [chunkB]
    rw [this, show 64 * (m + 1) = 64 * m + 64 by omega, List.take_add]
theorem pad_chunk (b : List UInt8) (k : Nat) (h : k < needN b.length) : pad (chunkB b k) = chunkB (b ++ List.replicate (64 * needN b.length - b.length) 0) k := by
  have hn : needN b.length = (b.length + 63) / 64 := rfl
  have h1 : 64 * k < b.length := by omega
  unfold pad
  rw [chunkB_length]
  unfold chunkB
  rw [List.drop_append_of_le_length (by omega), List.take_append, List.length_drop, List.take_replicate]
  congr 2
  omega
theorem pads_take (b : List UInt8) : ((List.range (needN b.length)).flatMap fun k => pad (chunkB b k)).take b.length = b := by
  have hn : needN b.length = (b.length + 63) / 64 := rfl
  have h1 : ((List.range (needN b.length)).flatMap fun k => pad (chunkB b k)) = (List.range (needN b.length)).flatMap (chunkB (b ++ List.replicate (64 * needN b.length - b.length) 0)) := flatMap_congr' (fun k hk => pad_chunk b k (List.mem_range.1 hk))
  rw [h1, chunks64 _ _ (by rw [List.length_append, List.length_replicate]; omega), List.take_take, Nat.min_eq_left (by omega), List.take_append_of_le_length (Nat.le_refl _), List.take_length]
theorem flatMap_getElem {α β : Type} (F : α → List β) (l : List α) (d : α) : l.flatMap F = (List.range l.length).flatMap fun k => F (l.getD k d) := by
  have : l = (List.range l.length).map fun k => l.getD k d := by
    apply List.ext_getElem (by simp)
    intro i h1 h2
    simp [List.getElem?_eq_getElem h1]
  refine (congrArg (List.flatMap F) this).trans ?_
  rw [List.flatMap_map]

/-! ### Commit of the directory leaves the data -/
theorem commit_far {s s' : SupS} (h : Alive s) {bs : List UInt8} (hb : bs.length ≤ 814) (hN : s.N < 1125899906842624) (hc : commitS s bs = (0, s')) {j : Nat} (hj : 32 ≤ j) : (lasts s'.S).getD j [] = (lasts s.S).getD j [] := by
  have hsl := h.tells.slot_le
  have hp : packI ((s.N : Int) + 1) bs = packOf (s.N + 1) bs := by
    unfold packI
    rw [if_pos ⟨by omega, by omega, hb⟩, show ((s.N : Int) + 1).toNat = s.N + 1 by omega]
  have hcast : (((1 - s.slot : Nat) : Int) * 16) = (((1 - s.slot) * 16 : Nat) : Int) := by rw [Int.natCast_mul]; rfl
  unfold commitS at hc
  rw [if_neg (by rw [h.dead]; simp), if_neg (by omega), hp, hcast] at hc
  have hlen := h.len
  have hpl : (packOf (s.N + 1) bs).length = 16 := packOf_length _ _
  have hr : ((1 - s.slot) * 16) + 16 ≤ s.S.length := by omega
  rcases lay_cases (packOf (s.N + 1) bs) s.S s.l ((1 - s.slot) * 16) h.low (by rw [hpl]; exact hr) (fun r hr => by rw [packOf_64 hb r hr]; omega) with ⟨l', e, _⟩ | ⟨_, k, _, e⟩
  · rw [e] at hc
    injection hc with _ hc
    rw [← hc]
    show (lasts (flushS _)).getD j [] = _
    rw [lasts_flush, lasts_wrote _ _ _ (by rw [hpl]; exact hr), over_getD _ _ _ _ (by rw [hpl, lasts_length]; exact hr), if_neg (by rw [hpl]; omega)]
  · rw [e] at hc
    injection hc with hc _
    cases hc

/-! ### a vault that lives -/
structure Good (n K : Nat) (v : VauS) : Prop where
  alive : Alive v.s
  len : v.s.S.length = n
  free : v.s.l = -1
  num : v.s.N ≤ K
  dead : v.dead = false
  ok : VOk n v.L
  img : v.s.img = dirB v.L
  short : (dirB v.L).length ≤ 814
  data : ∀ e ∈ v.L, (blobOf v.s.S e).length = e.len ∧ sumOf (blobOf v.s.S e) = e.sum
theorem Good.count {n K : Nat} {v : VauS} (h : Good n K v) : v.L.length ≤ 814 := Nat.le_trans (dirB_ge v.L) h.short
theorem Good.mono {n K K' : Nat} {v : VauS} (h : Good n K v) (hk : K ≤ K') : Good n K' v := { h with num := Nat.le_trans h.num hk }
theorem tells_far {S S' : Sec} {img : List UInt8} {N slot : Nat} (h : Tells (lasts S) img N slot) (hs : ∀ i, i < 32 → (lasts S').getD i [] = (lasts S).getD i []) : Tells (lasts S') img N slot := by
  have h0 : slotD (lasts S') 0 = slotD (lasts S) 0 := slotD_congr (fun i hi => hs _ (by omega))
  have h1 : slotD (lasts S') 1 = slotD (lasts S) 1 := slotD_congr (fun i hi => hs _ (by omega))
  unfold Tells tellD mostD at *
  rw [h0, h1]
  exact h
/-- behind the data, ahead of the directory -/
theorem put_alive {s : SupS} (h : Alive s) (hl : s.l = -1) (ps : List (Nat × List UInt8)) (hp : ∀ p ∈ ps, 32 ≤ p.1 ∧ p.1 < s.S.length ∧ p.2.length ≤ 64) (bs : List UInt8) :
    ∃ S', writeV s ps bs = commitS (withD s S' (-1)) bs ∧ S'.length = s.S.length ∧ Alive (withD s S' (-1)) ∧ lasts S' = lasts (putS s.S ps) := by
  have ht := putTo_live ps s.S (fun p hp' => ⟨(hp p hp').2.1, (hp p hp').2.2⟩)
  rw [← hl] at ht
  have hfar : ∀ i, i < 32 → (lasts (putS s.S ps)).getD i [] = (lasts s.S).getD i [] := fun i hi => putS_far ps s.S i (fun p hp' e => by have := (hp p hp').1; omega)
  have htick : tick (-1) = -1 := by decide
  by_cases he : ps = []
  · subst he
    refine ⟨s.S, ?_, rfl, ?_, rfl⟩
    · unfold writeV
      rw [ht, if_pos rfl, if_pos rfl]
      show commitS (withD s s.S s.l) bs = _
      rw [hl]
    · exact ⟨h.dead, h.one, h.len, h.tells, by show (-1 : Int) ≤ -1; omega⟩
  · refine ⟨flushS (putS s.S ps), ?_, by rw [flush_length, putS_length], ⟨h.dead, single_flush _, by show 32 ≤ (flushS _).length; rw [flush_length, putS_length]; exact h.len, ?_, by show (-1 : Int) ≤ -1; omega⟩, lasts_flush _⟩
    · unfold writeV
      rw [ht, if_pos rfl, if_neg he, if_neg (by rw [hl]; show ¬ (-1 : Int) = 0; omega)]
      show commitS (withD s (flushS (putS s.S ps)) (tick s.l)) bs = _
      rw [hl, htick]
    · show Tells (lasts (flushS (putS s.S ps))) _ _ _
      exact tells_far h.tells (fun i hi => by rw [lasts_flush]; exact hfar i hi)
theorem pairs_firsts (B : List Blb) (f : List Nat) : ∀ k, k ≤ B.length → offs B k ≤ f.length → (((List.range k).map fun k => pairK (entK B f k) (B.getD k default).data).flatten).map (·.1) = f.take (offs B k)
  | 0, _, _ => by simp [offs]
  | k + 1, hk, ho => by
    have hlt : k < B.length := by omega
    have h1 := offs_succ B k hlt
    have hb : B.getD k default = B[k] := by rw [List.getD_eq_getElem?_getD, List.getElem?_eq_getElem hlt]; rfl
    rw [List.range_succ, List.map_append, List.flatten_append, List.map_append, pairs_firsts B f k (by omega) (by omega), h1, List.take_add]
    congr 1
    simp only [List.map_cons, List.map_nil, List.flatten_cons, List.flatten_nil, List.append_nil, hb]
    unfold pairK
    rw [List.map_fst_zip (by rw [laid_secs, hb, List.length_take, List.length_drop]; simp; omega), laid_secs, hb]
theorem mem_pairs {B : List Blb} {f : List Nat} {p : Nat × List UInt8} : p ∈ ((List.range B.length).map fun k => pairK (entK B f k) (B.getD k default).data).flatten ↔ ∃ k, k < B.length ∧ p ∈ pairK (entK B f k) (B.getD k default).data := by
  rw [List.mem_flatten]
  constructor
  · rintro ⟨l, hl, hp⟩
    obtain ⟨k, hk, rfl⟩ := List.mem_map.1 hl
    exact ⟨k, List.mem_range.1 hk, hp⟩
  · rintro ⟨k, hk, hp⟩
    exact ⟨_, List.mem_map.2 ⟨k, List.mem_range.2 hk, rfl⟩, hp⟩
theorem mem_zip_range {l : List Nat} {F : Nat → List UInt8} {m : Nat} (hl : l.length = m) {k : Nat} (hk : k < m) : (l.getD k 0, F k) ∈ l.zip ((List.range m).map F) := by
  refine List.mem_iff_getElem?.2 ⟨k, ?_⟩
  rw [List.getElem?_zip_eq_some]
  refine ⟨?_, by simp [hk]⟩
  rw [List.getD_eq_getElem?_getD, List.getElem?_eq_getElem (by omega)]; rfl
theorem mem_zip_fst {l : List Nat} {r : List (List UInt8)} {p : Nat × List UInt8} (h : p ∈ l.zip r) : p.1 ∈ l ∧ p.2 ∈ r := by
  obtain ⟨a, b⟩ := p
  exact List.of_mem_zip h
theorem commit_good {n K : Nat} {v : VauS} (h : Good n K v) (hK : K < 1125899906842624) {gs : List (List UInt8)} {B : List Blb} (hm : mayL v.L gs B = 0) (hr : offs B B.length ≤ (freeL n v.L).length) (hs : (dirB (nextV v gs B)).length ≤ 814) :
    ∃ v', commitV v gs B = (0, v') ∧ Good n (K + 1) v' ∧ v'.L = nextV v gs B ∧ (∀ e ∈ v.L, blobOf v'.s.S e = blobOf v.s.S e) ∧ (∀ k (hk : k < B.length), blobOf v'.s.S (entK B (freeL n v.L) k) = B[k].data) := by
  obtain ⟨hnok, hgone, hlong⟩ := mayL_zero hm
  have hne : ∀ e ∈ v.L, e.name ≠ [] := fun e he => (h.ok.ent e he).ne
  have hf : ∀ i ∈ freeL n v.L, 32 ≤ i ∧ i < n := fun i hi => by
    have := (mem_freeL hne).1 hi
    exact ⟨this.2.1, this.1⟩
  have hlen := h.len
  have hnB : ∀ b ∈ B, nameB b.name = true := fun b hb => hnok.1 _ (List.mem_append_right _ (List.mem_map_of_mem hb))
  have hndB : (B.map (·.name)).Nodup := (List.nodup_append.1 hnok.2).2.1
  have hlo : ∀ k, k < B.length → EntOk n (entK B (freeL n v.L) k) := fun k hk => laid_ok hf hnB hlong hr hk
  have hpv : pairsV v B = (List.range B.length).map fun k => pairK (entK B (freeL n v.L) k) (B.getD k default).data := by unfold pairsV; rw [hlen]
  have hgetB : ∀ k (hk : k < B.length), B.getD k default = B[k] := fun k hk => by rw [List.getD_eq_getElem?_getD, List.getElem?_eq_getElem hk]; rfl
  have hsecs : ∀ k, k < B.length → (secs (entK B (freeL n v.L) k).ext).length = needN (B.getD k default).data.length := fun k hk => (hlo k hk).room
  have hsub : ∀ k, ∀ i ∈ secs (entK B (freeL n v.L) k).ext, i ∈ freeL n v.L := fun k i hi => by
    rw [laid_secs] at hi
    exact List.mem_of_mem_drop (List.mem_of_mem_take hi)
  have hps : ∀ p ∈ (pairsV v B).flatten, 32 ≤ p.1 ∧ p.1 < v.s.S.length ∧ p.2.length ≤ 64 := fun p hp => by
    rw [hpv] at hp
    obtain ⟨k, hk, hp⟩ := mem_pairs.1 hp
    obtain ⟨h1, h2⟩ := mem_zip_fst hp
    have h3 := hf _ (hsub k _ h1)
    obtain ⟨j, _, h4⟩ := List.mem_map.1 h2
    refine ⟨h3.1, by omega, ?_⟩
    rw [← h4, chunkB_length]; omega
  obtain ⟨S', hw, hS1, hS2, hS3⟩ := put_alive h.alive h.free (pairsV v B).flatten hps (dirB (nextV v gs B))
  have hNv := h.num
  rcases commit_sem hS2 (dirB (nextV v gs B)) hs (by show v.s.N < _; omega) with ⟨s', e, hA, hi, hN, hl, hlf, _⟩ | ⟨h0, _⟩
  case inr => exact absurd h0 (by show ¬ (0 : Int) ≤ -1; omega)
  have hfar := fun j (hj : 32 ≤ j) => commit_far hS2 hs (by show v.s.N < _; omega) e hj
  have hN' : s'.N = v.s.N + 1 := hN
  have hl' : s'.S.length = n := by rw [hl]; show S'.length = n; rw [hS1, hlen]
  have hold : ∀ e ∈ v.L, blobOf s'.S e = blobOf v.s.S e := fun e he => blob_far (fun i hi => by
    obtain ⟨x, hx, hxi⟩ := List.mem_flatMap.1 hi
    have hx2 := (h.ok.ent e he).ext x hx
    have h32 : 32 ≤ i := by have := mem_runL.1 hxi; omega
    rw [hfar i h32]
    show (lasts S').getD i [] = _
    rw [hS3]
    refine putS_far _ _ _ (fun p hp e' => ?_)
    rw [hpv] at hp
    obtain ⟨k, hk, hp⟩ := mem_pairs.1 hp
    have h3 := hsub k _ (mem_zip_fst hp).1
    rw [e'] at h3
    exact ((mem_freeL hne).1 h3).2.2 e he hi)
  have hnew : ∀ k (hk : k < B.length), blobOf s'.S (entK B (freeL n v.L) k) = B[k].data := fun k hk => by
    have hlk : (entK B (freeL n v.L) k).len = B[k].data.length := by unfold entK; rw [hgetB k hk]
    unfold blobOf
    rw [hlk, dataAt_lasts, flatMap_getElem _ _ 0, hsecs k hk, hgetB k hk]
    have hnd : (((pairsV v B).flatten).map (·.1)).Nodup := by
      rw [hpv, pairs_firsts B _ _ (Nat.le_refl _) hr]
      exact (freeL_nodup n v.L).sublist (List.take_sublist _ _)
    have hcg : ((List.range (needN B[k].data.length)).flatMap fun j => (lasts s'.S).getD ((secs (entK B (freeL n v.L) k).ext).getD j 0) []) = (List.range (needN B[k].data.length)).flatMap fun j => pad (chunkB B[k].data j) := flatMap_congr' (fun j hj => by
      have hj := List.mem_range.1 hj
      have hmem : ((secs (entK B (freeL n v.L) k).ext).getD j 0, chunkB B[k].data j) ∈ (pairsV v B).flatten := by
        rw [hpv]
        refine mem_pairs.2 ⟨k, hk, ?_⟩
        unfold pairK
        rw [hgetB k hk]
        exact mem_zip_range (by rw [hsecs k hk, hgetB k hk]) hj
      have h32 := (hps _ hmem).1
      rw [hfar _ h32]
      show (lasts S').getD _ [] = _
      rw [hS3]
      exact putS_at _ _ hnd (fun p hp => (hps p hp).2.1) _ hmem)
    rw [hcg, pads_take]
  have hnext : nextV v gs B = nextL v.L (gs ++ B.map (·.name)) (laidTo B (freeL n v.L) B.length) := by unfold nextV laidV; rw [hlen]
  have hok : VOk n (nextV v gs B) := by
    rw [hnext]
    exact nextL_ok h.ok hnB hndB hlong (fun b hb => List.mem_append_right _ (List.mem_map_of_mem hb)) hr
  refine ⟨⟨s', nextV v gs B, false⟩, ?_, {
    alive := hA
    len := hl'
    free := hlf rfl
    num := by show s'.N ≤ K + 1; omega
    dead := rfl
    ok := hok
    img := hi
    short := hs
    data := fun e he => ?_ }, rfl, hold, hnew⟩
  · unfold commitV
    rw [if_neg (by rw [h.dead]; decide), if_neg (by rw [hm]; decide), hlen, if_neg (by omega), if_neg (by omega), hw, e, if_pos rfl]
  · have he' : e ∈ nextV v gs B := he
    rw [hnext] at he'
    rcases List.mem_append.1 ((nextL_perm _ _ _).mem_iff.1 he') with h1 | h1
    · obtain ⟨k, hk, rfl⟩ := laidTo_mem.1 h1
      show (blobOf s'.S _).length = _ ∧ _
      have h2 := hnew k hk
      have hlk : (entK B (freeL n v.L) k).len = B[k].data.length ∧ (entK B (freeL n v.L) k).sum = sumOf B[k].data := by unfold entK; rw [hgetB k hk]; exact ⟨rfl, rfl⟩
      rw [hlk.1, hlk.2, h2]
      exact ⟨rfl, rfl⟩
    · have h2 := (List.mem_filter.1 h1).1
      show (blobOf s'.S e).length = _ ∧ sumOf (blobOf s'.S e) = _
      rw [hold e h2]
      exact h.data e h2
/-- a Commit that may not be, or has no room -/
theorem commit_not {n K : Nat} {v : VauS} (h : Good n K v) {gs : List (List UInt8)} {B : List Blb} (hn : ¬ (mayL v.L gs B = 0 ∧ offs B B.length ≤ (freeL n v.L).length ∧ (dirB (nextV v gs B)).length ≤ 814)) : ∃ z, commitV v gs B = (z, v) ∧ z ≠ 0 ∧ 0 ≤ z ∧ z ≤ 5 := by
  have hlen := h.len
  unfold commitV
  rw [if_neg (by rw [h.dead]; decide)]
  by_cases hm : mayL v.L gs B = 0
  · rw [if_neg (by rw [hm]; decide), hlen]
    by_cases hr : (freeL n v.L).length < offs B B.length
    · exact ⟨4, by rw [if_pos hr], by decide, by decide, by decide⟩
    · rw [if_neg hr, if_pos (by
        rcases Nat.lt_or_ge 814 (dirB (nextV v gs B)).length with h1 | h1
        · exact h1
        · exact absurd ⟨hm, by omega, h1⟩ hn)]
      exact ⟨4, rfl, by decide, by decide, by decide⟩
  · refine ⟨mayL v.L gs B, by rw [if_pos hm], hm, ?_⟩
    unfold mayL
    split
    · decide
    · split
      · decide
      · split <;> decide
end Go.Proofs.YtdpmfcifgimleaaGreatDoor

/-
  A vault of a law's own, in the law's words. No statement of the seat is proved here.
-/
namespace Go.Proofs.YtdpmfcifgimleaaGreatDoor
open Go Go.RowKit

/-! ### how many are free -/
theorem secs_sum {n : Nat} {L : List Ent} (h : ∀ e ∈ L, EntOk n e) : (L.flatMap fun e => secs e.ext).length = (L.map fun e => needN e.len).sum := by
  induction L with
  | nil => rfl
  | cons e r ih =>
    rw [List.flatMap_cons, List.length_append, List.map_cons, List.sum_cons, ih (fun x hx => h x (List.mem_cons_of_mem _ hx)), (h e (List.mem_cons_self ..)).room]
theorem free_count {n : Nat} {L : List Ent} (h : VOk n L) (h32 : 32 ≤ n) : (freeL n L).length + (L.map fun e => needN e.len).sum + 32 = n := by
  have hne : ∀ e ∈ L, e.name ≠ [] := fun e he => (h.ent e he).ne
  have hp : (List.range 32 ++ (L.flatMap fun e => secs e.ext) ++ freeL n L).Perm (List.range n) := by
    rw [List.perm_ext_iff_of_nodup ?_ List.nodup_range]
    · intro i
      rw [List.mem_append, List.mem_append, List.mem_range, List.mem_range, mem_freeL hne, List.mem_flatMap]
      constructor
      · rintro ((h1 | ⟨e, he, hi⟩) | h1)
        · omega
        · obtain ⟨x, hx, hxi⟩ := List.mem_flatMap.1 hi
          have := (h.ent e he).ext x hx
          have := mem_runL.1 hxi
          omega
        · exact h1.1
      · intro hi
        by_cases h1 : i < 32
        · exact .inl (.inl h1)
        · by_cases h2 : ∃ e, e ∈ L ∧ i ∈ secs e.ext
          · exact .inl (.inr h2)
          · exact .inr ⟨hi, by omega, fun e he hm => h2 ⟨e, he, hm⟩⟩
    · rw [List.nodup_append, List.nodup_append]
      refine ⟨⟨List.nodup_range, h.apart, ?_⟩, freeL_nodup n L, ?_⟩
      · rintro a ha b hb rfl
        obtain ⟨e, he, hi⟩ := List.mem_flatMap.1 hb
        obtain ⟨x, hx, hxi⟩ := List.mem_flatMap.1 hi
        have h1 := (h.ent e he).ext x hx
        have h2 := mem_runL.1 hxi
        have h3 := List.mem_range.1 ha
        omega
      · rintro a ha b hb rfl
        have h1 := (mem_freeL hne).1 hb
        rcases List.mem_append.1 ha with h2 | h2
        · have := List.mem_range.1 h2; omega
        · obtain ⟨e, he, hi⟩ := List.mem_flatMap.1 h2
          exact h1.2.2 e he hi
  have h1 := hp.length_eq
  rw [List.length_append, List.length_append, List.length_range, List.length_range, secs_sum h.ent] at h1
  omega
theorem Good.count_free {n K : Nat} {v : VauS} (h : Good n K v) : (freeL n v.L).length + (v.L.map fun e => needN e.len).sum + 32 = n := free_count h.ok (by rw [← h.len]; exact h.alive.len)

/-! ### in memory -/
structure OwnV (W w : World) (g gs gd : Nat) (v : VauS) : Prop where
  vau : Vau w (Born W w) g gs gd v
  bel : Below W.heap.size W w
  tab : Tab W
section
variable {W w w' : World} {g gs gd n K : Nat} {v : VauS}
theorem OwnV.tb (h : OwnV W w g gs gd v) : Tab w := h.tab.ext h.bel
theorem OwnV.ext (h : OwnV W w g gs gd v) (hb : Below w.heap.size w w') : OwnV W w' g gs gd v :=
  ⟨(h.vau.ext hb).mono (fun k hk => ⟨hk.1, by have := hk.2; have := hb.size; omega⟩), ext_trans h.bel hb, h.tab⟩
theorem OwnV.imp (h : OwnV W w g gs gd v) : Imp w (Born W w) gd v.s.S v.s.l := h.vau.imp
theorem Good.fit (h : Good n K v) : Fit n v.L := h.ok.fit (by have := h.count; omega)
theorem Good.small (h : Good n K v) (N : Nat) (hN : 1 ≤ N) : Small N v.s.S := Alive.small h.alive N hN
theorem Good.roomy (h : Good n K v) : Roomy n v.L := ⟨h.fit, fun e he => by
  have h1 := h.ok.ent e he
  have h2 := h1.room
  have h3 := h1.secs_le
  unfold needN at h2
  omega⟩
theorem step_vcommit {w0 : World} (h : OwnV W w0 g gs gd v) (hb : Below w0.heap.size w0 w) (hG : Good n K v)
    (G : Option Addr) (cg : Nat) (ns : List (List UInt8)) (hGr : Rd w G (ns.map strV)) (hG0 : G = none → ns = [] ∧ cg = 0) (P : Option Addr) (cp : Nat) (B : List Blb) (hB : PutR w P B) (hP : B ≠ [] → ∀ ad, P = some ad → ¬ Born W w0 ad.block) (hD : ∀ b ∈ B, b.data ≠ [] → ∀ ad, b.D = some ad → ¬ Born W w0 ad.block)
    (h1 : ns.length ≤ 100000) (h2 : B.length ≤ 100000) (h3 : ∀ s ∈ ns, s.length ≤ maxLen) (h4 : ∀ b ∈ B, b.name.length ≤ maxLen ∧ b.data.length ≤ 1000000) :
    Calls Tryz.prog 16 #[.pointer (some ⟨g, 0, none⟩), .slice G ns.length cg, .slice P B.length cp] w fun e w' => e = .returned (.int .i64 (commitV v ns B).1) ∧ OwnV W w' g gs gd (commitV v ns B).2 ∧ Only (Born W w0) w w' := by
  refine (vcommit_any (h.vau.ext hb) (h.tb.ext hb) h.tab.born (hG.small _ (by omega)) (by rw [hG.len]; have := hG.alive.len; rw [hG.len] at this; exact this) (by rw [hG.len]; exact hG.ok) (by have := hG.count; omega) G cg ns hGr hG0 P cp B hB hP hD h1 h2 h3 h4).mono ?_
  rintro e w' ⟨rfl, q1, q2⟩
  have hz := h.bel.size
  have hz2 := hb.size
  have hz3 := q2.size
  refine ⟨rfl, ⟨q1.mono (fun k hk => ?_), (ext_trans h.bel hb).trans (q2.below (fun _ hk => hk.1) (by omega)), h.tab⟩, q2⟩
  rcases hk with hk | hk
  · exact ⟨hk.1, by have := hk.2; omega⟩
  · exact ⟨by omega, hk.2⟩
theorem step_vfree (h : OwnV W w g gs gd v) (hG : Good n K v) :
    Calls Tryz.prog 35 #[.pointer (some ⟨g, 0, none⟩)] w fun e w' => e = .returned (.int .i64 ((freeL n v.L).length : Int)) ∧ OwnV W w' g gs gd v ∧ Below w.heap.size w w' := by
  obtain ⟨fS, A, c, R, hp⟩ := h.vau
  have h1 := free_any hp.imps _ _ A c R hp.blk hp.dir.dir (by rw [hp.eq, hG.len]; exact hG.fit) hG.alive.len
  rw [hp.eq, hG.len] at h1
  refine h1.mono ?_
  rintro e w' ⟨rfl, q2⟩
  exact ⟨rfl, h.ext q2, q2⟩
theorem step_vnames (h : OwnV W w g gs gd v) (hG : Good n K v) :
    Calls Tryz.prog 32 #[.pointer (some ⟨g, 0, none⟩)] w fun e w' => ∃ A c, e = .returned (.slice A v.L.length c) ∧ NewO w w' 9 1 A v.L.length c (v.L.map fun e => strV e.name) ∧ OwnV W w' g gs gd v ∧ Below w.heap.size w w' := by
  obtain ⟨fS, A, c, R, hp⟩ := h.vau
  have hl : R.length = v.L.length := by rw [← hp.eq, List.length_map]
  have h1 := names_any _ _ _ A c R hp.blk hp.dir.dir (by rw [hl]; have := hG.count; omega)
  refine h1.mono ?_
  rintro e w' ⟨A1, c1, rfl, q2⟩
  have hm : (R.map fun r => strV r.e.name) = v.L.map fun e => strV e.name := by rw [← hp.eq, List.map_map]; rfl
  rw [hm, hl] at q2
  rw [hl]
  exact ⟨A1, c1, rfl, q2, h.ext q2.bel, q2.bel⟩
theorem step_vowner (h : OwnV W w g gs gd v) (hG : Good n K v) :
    Calls Tryz.prog 31 #[.pointer (some ⟨g, 0, none⟩)] w fun e w' => ∃ A c, e = .returned (.slice A n c) ∧ NewO w w' 9 1 A n c ((ownerL n v.L).map strV) ∧ OwnV W w' g gs gd v ∧ Below w.heap.size w w' := by
  obtain ⟨fS, A, c, R, hp⟩ := h.vau
  have h1 := owner_any hp.imps _ _ A c R hp.blk hp.dir.dir (by rw [hp.eq, hG.len]; exact hG.fit) hG.alive.len
  rw [hp.eq, hG.len] at h1
  refine h1.mono ?_
  rintro e w' ⟨A1, c1, rfl, q2⟩
  exact ⟨A1, c1, rfl, q2, h.ext q2.bel, q2.bel⟩
theorem step_vdead (h : OwnV W w g gs gd v) :
    Calls Tryz.prog 37 #[.pointer (some ⟨g, 0, none⟩)] w fun e w' => e = .returned (.bool v.dead) ∧ w = w' := by
  obtain ⟨fS, A, c, R, hp⟩ := h.vau
  exact vdead_of _ _ _ _ hp.blk
theorem step_vget (h : OwnV W w g gs gd v) (hG : Good n K v) (s : List UInt8) :
    Calls Tryz.prog 33 #[.pointer (some ⟨g, 0, none⟩), strV s] w fun e w' => ((findE v.L s = none ∧ e = .returned (.tuple #[.slice none 0 0, .int .i64 5])) ∨ (∃ en A c, findE v.L s = some en ∧ e = .returned (.tuple #[.slice A (blobOf v.s.S en).length c, .int .i64 0]) ∧ NewO w w' 5 1 A (blobOf v.s.S en).length c ((blobOf v.s.S en).map bv))) ∧ OwnV W w' g gs gd v ∧ Below w.heap.size w w' := by
  obtain ⟨fS, A, c, R, hp⟩ := h.vau
  have h1 := get_any hp.imps (hG.small _ (by omega)) h.tb _ _ A c R hp.blk hp.dir.dir (by rw [hp.eq]; exact hG.ok.rises) (by rw [hp.eq, hG.len]; exact hG.roomy) s
  rw [hp.eq] at h1
  refine h1.mono ?_
  rintro e w' ⟨q1, q2⟩
  refine ⟨?_, h.ext q2, q2⟩
  rcases q1 with q1 | ⟨en, q3, q4, _⟩ | ⟨en, A1, c1, q3, q4, rfl, q5⟩
  · exact .inl q1
  · exact absurd (hG.data en (findE_some q3).1).2 q4
  · right
    have hl := (hG.data en (findE_some q3).1).1
    rw [← hl] at q5
    rw [← hl]
    exact ⟨en, A1, c1, q3, rfl, q5⟩
end
end Go.Proofs.YtdpmfcifgimleaaGreatDoor

/-
  Open and Format where there is no disk, or too small a one; a disk of noughts. No statement of the seat is proved here.
-/
namespace Go.Proofs.YtdpmfcifgimleaaGreatDoor
open Go Go.RowKit

theorem open_nil (w : World) : Calls Tryz.prog 59 #[.pointer none] w fun e w' => e = .returned (.tuple #[.pointer none, .int .i64 1]) ∧ w = w' := by
  go_enter Tryz.func59, Tryz.ntmps59
  go_wp2_with fail
  refine (hasslots_nil w).mono ?_
  rintro e w1 ⟨rfl, rfl⟩
  go_wp2
  go_ret2
  exact ⟨rfl, rfl⟩
theorem open_small {w : World} {fp : Nat → Prop} {gd : Nat} {S : Sec} {l : Int} (h : Imp w fp gd S l) (hl : S.length < 32) : Calls Tryz.prog 59 #[.pointer (some ⟨gd, 0, none⟩)] w fun e w' => e = .returned (.tuple #[.pointer none, .int .i64 1]) ∧ w = w' := by
  have hh := hasslots_any h
  rw [show decide ((32 : Int) ≤ (S.length : Int)) = false from decide_eq_false (by omega)] at hh
  have Hh := Lib.hid hh
  clear hh
  go_enter Tryz.func59, Tryz.ntmps59
  go_wp2_with fail
  refine Hh.out.mono ?_
  rintro e w1 ⟨rfl, rfl⟩
  go_wp2
  go_ret2
  exact ⟨rfl, rfl⟩
theorem format_nil (w : World) (v : Value) : Calls Tryz.prog 40 #[.pointer none, v] w fun e w' => e = .returned (.tuple #[.pointer none, .int .i64 1]) ∧ w = w' := by
  go_enter Tryz.func40, Tryz.ntmps40
  go_wp2_with fail
  refine (hasslots_nil w).mono ?_
  rintro e w1 ⟨rfl, rfl⟩
  go_wp2
  go_ret2
  exact ⟨rfl, rfl⟩

/-- sectors that bear no number are no slot -/
theorem unpack_noughts {D : List (List UInt8)} {k : Nat} (h : numOf (D.getD (k * 16 + 0) []) = 0) : (unpackS (slotD D k)).1 = 0 := by
  rcases Nat.eq_zero_or_pos (unpackS (slotD D k)).1 with hz | hz
  · exact hz
  · exfalso
    obtain ⟨h1, h2, h3⟩ := unpack_some hz (slotD_length _ _)
    have h4 := slotD_get D k 0 (by omega)
    rw [h1, packOf_get (by omega)] at h4
    injection h4 with h4
    have h5 := numOf_row (n := (unpackS (slotD D k)).1) (k := 0) h2 h3 (by omega)
    rw [h4, h] at h5
    omega
theorem zero_getD (n x : Nat) (h : x < n) : (lasts (zeroS n)).getD x [] = List.replicate 64 0 := by
  rw [lasts_getD]
  have : (zeroS n).getD x [] = [zerosV] := by
    unfold zeroS
    rw [List.getD_eq_getElem?_getD, List.getElem?_replicate, if_pos h]; rfl
  rw [this]; rfl
theorem tell_zero (n : Nat) (h : 32 ≤ n) : (tellD (lasts (zeroS n))).1 = 0 := by
  have h0 : (unpackS (slotD (lasts (zeroS n)) 0)).1 = 0 := unpack_noughts (by rw [zero_getD _ _ (by omega)]; exact zeros_num0)
  have h1 : (unpackS (slotD (lasts (zeroS n)) 1)).1 = 0 := unpack_noughts (by rw [zero_getD _ _ (by omega)]; exact zeros_num0)
  unfold tellD
  rw [if_neg (by omega)]
  exact h0
end Go.Proofs.YtdpmfcifgimleaaGreatDoor

/-
  Format of a vault; Open of nothing. No statement of the seat is proved here.
-/
namespace Go.Proofs.YtdpmfcifgimleaaGreatDoor
open Go Go.RowKit

theorem dirB_nil : dirB [] = [0] := by
  unfold dirB numsB
  have : dig (clamp 0) = [0] := by rw [show (0 : Int) = ((0 : Nat) : Int) from rfl, clamp_of_nat (by omega), dig_lt (by omega)]; rfl
  simp [this]
theorem DirR.nil {w : World} (A : Option Addr) (c : Nat) (hf : Flat A) : DirR w A c [] := ⟨Nat.zero_le _, hf, Rd.nil _ _, fun r hr => by cases hr⟩
theorem image_none (A : Option Addr) (c : Nat) (hf : Flat A) (w : World) :
    Calls Tryz.prog 41 #[.slice A 0 c] w fun e w' => ∃ A' c', e = .returned (.slice A' 1 c') ∧ New w w' A' c' [0] ∧ Below w.heap.size w w' := by
  have h := dirimage_any (w := w) A c [] (DirR.nil A c hf) (fun e he => by cases he) (by simp [dirB_nil]) (by simp)
  simp only [List.map_nil, dirB_nil] at h
  exact h

set_option maxHeartbeats 1000000 in
theorem vformat_nil (w : World) : Calls Tryz.prog 14 #[.pointer none] w fun e w' => e = .returned (.tuple #[.pointer none, .int .i64 1]) ∧ Below w.heap.size w w' := by
  go_enter Tryz.func14, Tryz.ntmps14
  go_wp2_with fail
  refine (image_none _ _ (fun ad e => by injection e with e; exact ⟨_, _, e.symm⟩) _).mono ?_
  rintro e w1 ⟨A1, c1, rfl, hN1, hb1⟩
  have hb1w : Below w.heap.size w w1 := ext_trans (ext_alloc (Below.refl _ _) _) hb1
  go_wp2_with fail
  refine (format_nil _ _).mono ?_
  rintro e w2 ⟨rfl, rfl⟩
  go_wp2
  go_ret2
  exact ⟨rfl, by repeat (first | exact hb1w | apply ext_drew)⟩
set_option maxHeartbeats 1000000 in
theorem vopen_nil (w : World) : Calls Tryz.prog 23 #[.pointer none] w fun e w' => e = .returned (.tuple #[.pointer none, .int .i64 1]) ∧ w = w' := by
  have h := open_nil w
  go_enter Tryz.func23, Tryz.ntmps23
  go_wp2_with fail
  refine h.mono ?_
  rintro e w1 ⟨rfl, rfl⟩
  go_wp2
  go_ret2
  exact ⟨rfl, rfl⟩
set_option maxHeartbeats 1000000 in
theorem step_vformat {W w : World} {gd : Nat} {S : Sec} (hI : Imp w (Born W w) gd S (-1)) (hb : Below W.heap.size W w) (ht : Tab W) (hs : Small 800000 S) (h32 : 32 ≤ S.length) :
    Calls Tryz.prog 14 #[.pointer (some ⟨gd, 0, none⟩)] w fun e w' => ∃ g gs v, e = .returned (.tuple #[.pointer (some ⟨g, 0, none⟩), .int .i64 0]) ∧ OwnV W w' g gs gd v ∧ Good S.length 1 v ∧ v.L = [] := by
  go_enter Tryz.func14, Tryz.ntmps14
  go_wp2_with fail
  refine (image_none _ _ (fun ad e => by injection e with e; exact ⟨_, _, e.symm⟩) _).mono ?_
  rintro e w1 ⟨A1, c1, rfl, hN1, hb1⟩
  have hb1w : Below w.heap.size w w1 := ext_trans (ext_alloc (Below.refl _ _) _) hb1
  go_wp2_with fail
  refine (step_format hI hb ht hs h32 (by repeat (first | exact hb1w | apply ext_drew)) A1 1 c1 [0] (by repeat (first | exact hN1.bs | apply Bs.drew)) (fun ad e _ hk => by
    have h5 := (hN1.2 ad e).1
    have h6 := hk.2
    rw [World.size_alloc] at h5
    omega) (by decide)).mono ?_
  rintro e w2 ⟨gs, s, rfl, hO, hA, hi, hN, -, hl, hlen, -, -⟩
  go_wp2
  go_ret2
  have hz2 := hO.bel.size
  refine ⟨w2.heap.size, gs, ⟨s, [], false⟩, rfl, ⟨⟨Born W w2, none, 0, [], {
    sup := hO.sup.ext (ext_alloc (Below.refl _ _) _)
    sub := fun k hk => ⟨hk.1, by rw [World.size_alloc]; have := hk.2; omega⟩
    slt := fun k hk => by rw [World.size_alloc]; have := hk.2; omega
    fg := ⟨hz2, by rw [World.size_alloc]; omega⟩
    ng := fun hk => Nat.lt_irrefl _ hk.2
    blk := Blk.new _ _ _
    dir := ⟨DirR.nil none 0 (fun ad e => by cases e), (fun ad e => by cases e), (fun r hr => by cases hr)⟩
    eq := rfl
    fA := fun ad e => by cases e
    fX := fun r hr => by cases hr }⟩, ext_alloc hO.bel _, ht⟩, {
    alive := hA
    len := hlen
    free := hl
    num := by show s.N ≤ 1; omega
    dead := rfl
    ok := ⟨List.Pairwise.nil, (fun e he => by cases he), List.nodup_nil⟩
    img := by show s.img = dirB []; rw [hi, dirB_nil]
    short := by show (dirB []).length ≤ 814; rw [dirB_nil]; decide
    data := fun e he => by cases he }, rfl⟩
end Go.Proofs.YtdpmfcifgimleaaGreatDoor

/-
  How long a directory may be; the contract of the laws' helper known (stage 4). No statement of the seat is proved here.
-/
namespace Go.Proofs.YtdpmfcifgimleaaGreatDoor
open Go Go.RowKit

theorem dig_small (n k m : Nat) (h : n < m) (hm : m = 128 ^ k) (hk : 0 < k) : (dig (clamp (n : Int))).length ≤ k := by
  by_cases hc : n ≤ 4611686018427387904
  · rw [clamp_of_nat hc]
    exact dig_len k n (by omega) hk
  · have h1 : clamp (n : Int) ≤ n := by unfold clamp; omega
    exact dig_len k _ (by omega) hk
theorem entB_tight {n : Nat} {e : Ent} (h : EntOk n e) (hn : n ≤ 4096) : (entB e).length ≤ 19 + 4 * needN e.len := by
  have h1 := nameB_len h.name
  have h2 := h.exts
  have h5 := ext_le_secs (l := e.ext) (fun x hx => (h.ext x hx).2.1)
  rw [h.room] at h5
  have h3 : ∀ l : List (Nat × Nat), (∀ x ∈ l, x.1 ≤ 4096 ∧ x.2 ≤ 4096) → (l.flatMap extB).length ≤ 4 * l.length := by
    intro l
    induction l with
    | nil => intro _; simp
    | cons x r ih =>
      intro hx
      rw [List.flatMap_cons, List.length_append, List.length_cons]
      have := ih (fun y hy => hx y (List.mem_cons_of_mem _ hy))
      have h7 := hx x (List.mem_cons_self ..)
      have : (extB x).length ≤ 4 := by
        unfold extB numsB
        have q1 := dig_small x.1 2 16384 (by omega) rfl (by omega)
        have q2 := dig_small x.2 2 16384 (by omega) rfl (by omega)
        simp only [List.flatMap_cons, List.flatMap_nil, List.append_nil, List.length_append]
        omega
      omega
  have h4 := h3 e.ext (fun x hx => by have := h.ext x hx; omega)
  unfold entB rowsB numsB
  have q1 := dig_small e.len 3 2097152 (by have := h.len; omega) rfl (by omega)
  have q2 := dig_small e.sum 5 34359738368 (by have := h.sum; omega) rfl (by omega)
  have q3 := dig_small e.ext.length 2 16384 (by omega) rfl (by omega)
  have q4 := dig_len 1 e.name.length (by have : (128 : Nat) ^ 1 = 128 := rfl; omega) (by omega)
  simp only [List.flatMap_cons, List.flatMap_nil, List.append_nil, List.length_append]
  omega
def wt (e : Ent) : Nat := 19 + 4 * needN e.len
theorem dirB_tight {n : Nat} {L : List Ent} (h : ∀ e ∈ L, EntOk n e) (hn : n ≤ 4096) : (dirB L).length ≤ 9 + (L.map wt).sum := by
  have key : ∀ M : List Ent, (∀ e ∈ M, EntOk n e) → (M.flatMap entB).length ≤ (M.map wt).sum := by
    intro M
    induction M with
    | nil => intro _; simp
    | cons e r ih =>
      intro hM
      rw [List.flatMap_cons, List.length_append, List.map_cons, List.sum_cons]
      have h1 := entB_tight (hM e (List.mem_cons_self ..)) hn
      have h2 := ih (fun x hx => hM x (List.mem_cons_of_mem _ hx))
      unfold wt at *
      omega
  unfold dirB
  rw [List.length_append]
  have h1 := key L h
  have h2 : (numsB [(L.length : Int)]).length ≤ 9 := by
    unfold numsB
    have q1 := dig_clamp_len (L.length : Int)
    simpa using q1
  omega
theorem sum_sub {a b : List Ent} (F : Ent → Nat) (h : a.Sublist b) : (a.map F).sum ≤ (b.map F).sum := by
  induction h with
  | slnil => exact Nat.le_refl _
  | cons x _ ih => rw [List.map_cons, List.sum_cons]; omega
  | cons_cons x _ ih => rw [List.map_cons, List.map_cons, List.sum_cons, List.sum_cons]; omega
theorem laid_wt (B : List Blb) (f : List Nat) : ((laidTo B f B.length).map wt) = B.map fun b => 19 + 4 * needN b.data.length := by
  unfold laidTo
  rw [List.map_map]
  apply List.ext_getElem (by simp)
  intro i h1 h2
  have hi : i < B.length := by simpa using h1
  simp [entK, wt, List.getElem?_eq_getElem hi]
theorem next_short {n K : Nat} {v : VauS} (h : Good n K v) (hn : n ≤ 4096) {gs : List (List UInt8)} {B : List Blb} (hm : mayL v.L gs B = 0) (hr : offs B B.length ≤ (freeL n v.L).length) : (dirB (nextV v gs B)).length ≤ 9 + (B.map fun b => 19 + 4 * needN b.data.length).sum + (v.L.map wt).sum := by
  obtain ⟨hnok, hgone, hlong⟩ := mayL_zero hm
  have hnB : ∀ b ∈ B, nameB b.name = true := fun b hb => hnok.1 _ (List.mem_append_right _ (List.mem_map_of_mem hb))
  have hndB : (B.map (·.name)).Nodup := (List.nodup_append.1 hnok.2).2.1
  have hnext : nextV v gs B = nextL v.L (gs ++ B.map (·.name)) (laidTo B (freeL n v.L) B.length) := by unfold nextV laidV; rw [h.len]
  have hok : VOk n (nextV v gs B) := by
    rw [hnext]
    exact nextL_ok h.ok hnB hndB hlong (fun b hb => List.mem_append_right _ (List.mem_map_of_mem hb)) hr
  have h1 := dirB_tight hok.ent hn
  have h2 : ((nextV v gs B).map wt).sum = (((laidTo B (freeL n v.L) B.length) ++ v.L.filter (staysE (gs ++ B.map (·.name)))).map wt).sum := by
    rw [hnext]
    exact ((nextL_perm _ _ _).map wt).sum_nat
  rw [List.map_append, List.sum_append, laid_wt] at h2
  have h3 := sum_sub wt (List.filter_sublist (p := staysE (gs ++ B.map (·.name))) (l := v.L))
  omega

theorem mayL_of {L : List Ent} {gs : List (List UInt8)} {B : List Blb} (h1 : NamesOk (gs ++ B.map (·.name))) (h2 : ∀ g ∈ gs, (findE L g).isSome = true) (h3 : ∀ b ∈ B, b.data.length ≤ 32768) : mayL L gs B = 0 := by
  unfold mayL
  rw [if_neg (fun h => h h1), if_neg (fun h => h h2), if_neg (fun h => h h3)]
theorem laid_need (B : List Blb) (f : List Nat) : ((laidTo B f B.length).map fun e => needN e.len) = B.map fun b => needN b.data.length := by
  unfold laidTo
  rw [List.map_map]
  apply List.ext_getElem (by simp)
  intro i h1 h2
  have hi : i < B.length := by simpa using h1
  simp [entK, List.getElem?_eq_getElem hi]
theorem next_need (v : VauS) (gs : List (List UInt8)) (B : List Blb) : ((nextV v gs B).map fun e => needN e.len).sum = (B.map fun b => needN b.data.length).sum + ((v.L.filter (staysE (gs ++ B.map (·.name)))).map fun e => needN e.len).sum := by
  have h := ((nextL_perm v.L (gs ++ B.map (·.name)) (laidV v B)).map fun e => needN e.len).sum_nat
  rw [List.map_append, List.sum_append] at h
  unfold laidV at h
  rw [laid_need] at h
  exact h
theorem next_count (v : VauS) (gs : List (List UInt8)) (B : List Blb) : (nextV v gs B).length = B.length + (v.L.filter (staysE (gs ++ B.map (·.name)))).length := by
  have h := (nextL_perm v.L (gs ++ B.map (·.name)) (laidV v B)).length_eq
  rw [List.length_append] at h
  unfold laidV at h
  rw [laidTo_length] at h
  exact h
theorem offs_all (B : List Blb) : offs B B.length = (B.map fun b => needN b.data.length).sum := by unfold offs; rw [List.take_length]

/-! ### a literal of blobs -/
theorem putr_of {w : World} {g : Nat} {B : List Blb} {cs : Array Value} {fr : Nat × Nat} (hb : w.heap[g]? = some (.cells cs 65 fr)) (hc : cs.toList = B.flatMap encB) (hd : ∀ b ∈ B, b.data.length ≤ b.c ∧ Rd w b.D (b.data.map bv)) : PutR w (some ⟨g, 0, none⟩) B := by
  refine ⟨?_, hd⟩
  rw [← hc]
  exact fun j u hu => ⟨_, rfl, World.news_of_block hb j u hu⟩

/-! ### which blobs there are -/
def HasB (v : VauS) (s d : List UInt8) : Prop := ∃ e ∈ v.L, e.name = s ∧ blobOf v.s.S e = d
theorem next_mem_new {v : VauS} {gs : List (List UInt8)} {B : List Blb} {k : Nat} (hk : k < B.length) : entK B (freeL v.s.S.length v.L) k ∈ nextV v gs B :=
  (nextL_perm _ _ _).mem_iff.2 (List.mem_append_left _ (laidTo_mem.2 ⟨k, hk, rfl⟩))
theorem next_mem_old {v : VauS} {gs : List (List UInt8)} {B : List Blb} {e : Ent} (he : e ∈ v.L) (hn : e.name ∉ gs ++ B.map (·.name)) : e ∈ nextV v gs B :=
  (nextL_perm _ _ _).mem_iff.2 (List.mem_append_right _ (List.mem_filter.2 ⟨he, by unfold staysE; simpa using hn⟩))
/-- a Commit that goes, in one -/
theorem commit_goes {n K : Nat} {v : VauS} (h : Good n K v) (hn : n ≤ 4096) (hK : K < 1125899906842624) {gs : List (List UInt8)} {B : List Blb} (hm : mayL v.L gs B = 0) (hr : (B.map fun b => needN b.data.length).sum ≤ (freeL n v.L).length) (hw : 9 + (B.map fun b => 19 + 4 * needN b.data.length).sum + (v.L.map wt).sum ≤ 814) :
    ∃ v', commitV v gs B = (0, v') ∧ Good n (K + 1) v' ∧ v'.L = nextV v gs B ∧ (∀ b ∈ B, HasB v' b.name b.data) ∧ (∀ s d, HasB v s d → s ∉ gs ++ B.map (·.name) → HasB v' s d) := by
  have hro : offs B B.length ≤ (freeL n v.L).length := by rw [offs_all]; exact hr
  have hsh := next_short h hn hm hro
  obtain ⟨v', e, hG, hL, h1, h2⟩ := commit_good h hK hm hro (by omega)
  refine ⟨v', e, hG, hL, fun b hb => ?_, fun s d hs hns => ?_⟩
  · obtain ⟨k, hk, rfl⟩ := List.mem_iff_getElem.1 hb
    refine ⟨entK B (freeL n v.L) k, ?_, ?_, h2 k hk⟩
    · rw [hL, ← h.len]; exact next_mem_new hk
    · unfold entK
      rw [List.getD_eq_getElem?_getD, List.getElem?_eq_getElem hk]; rfl
  · obtain ⟨e0, he, rfl, rfl⟩ := hs
    refine ⟨e0, ?_, rfl, h1 e0 he⟩
    rw [hL]
    exact next_mem_old he hns
theorem step_vget_has {W w : World} {g gs gd n K : Nat} {v : VauS} (h : OwnV W w g gs gd v) (hG : Good n K v) {s d : List UInt8} (hs : HasB v s d) :
    Calls Tryz.prog 33 #[.pointer (some ⟨g, 0, none⟩), strV s] w fun e w' => (∃ A c, e = .returned (.tuple #[.slice A d.length c, .int .i64 0]) ∧ NewO w w' 5 1 A d.length c (d.map bv)) ∧ OwnV W w' g gs gd v ∧ Below w.heap.size w w' := by
  obtain ⟨e0, he, rfl, rfl⟩ := hs
  have hf := findE_of hG.ok.rises he
  refine (step_vget h hG e0.name).mono ?_
  rintro e w' ⟨q1, q2, q3⟩
  refine ⟨?_, q2, q3⟩
  rcases q1 with ⟨q1, _⟩ | ⟨en, A, c, q1, q4, q5⟩
  · rw [hf] at q1; cases q1
  · rw [hf] at q1
    injection q1 with q1
    subst q1
    exact ⟨A, c, q4, q5⟩
end Go.Proofs.YtdpmfcifgimleaaGreatDoor

/-
  The contract of the laws' helper known (stage 4). No statement of the seat is proved here.
-/
namespace Go.Proofs.YtdpmfcifgimleaaGreatDoor
open Go Go.RowKit

theorem make_hundred (W : World) : (Instr.makeSlice 57 (.int .i64 100) (.int .i64 100)).run Tryz.prog W = .ok (.slice (some ⟨W.heap.size, 0, none⟩) 100 100) (W.alloc (.cells (madeCells #[.int .u8 0] 100) 5)) := by
  kernel_rfl
def kB (g : Nat) : Blb := ⟨[97], List.replicate 100 0, some ⟨g, 0, none⟩, 100⟩
theorem made_list (x : Value) (n : Nat) : (madeCells #[x] n).toList = List.replicate n x := by
  refine List.ext_getElem? fun i => ?_
  rw [Array.getElem?_toList]
  by_cases h : i < n <;> simp [madeCells, Nat.mod_one, List.getElem?_replicate, h]
theorem kbel (w : World) : Below w.heap.size w ((w.alloc (.cells (madeCells #[.int .u8 0] 100) 5)).alloc (.cells #[.string ⟨#[97]⟩, .slice (some ⟨w.heap.size, 0, none⟩) 100 100] 65)) := ext_alloc (ext_alloc (Below.refl _ _) _) _
theorem kput (w : World) : PutR ((w.alloc (.cells (madeCells #[.int .u8 0] 100) 5)).alloc (.cells #[.string ⟨#[97]⟩, .slice (some ⟨w.heap.size, 0, none⟩) 100 100] 65)) (some ⟨w.heap.size + 1, 0, none⟩) [kB w.heap.size] := by
  refine putr_of (cs := #[.string ⟨#[97]⟩, .slice (some ⟨w.heap.size, 0, none⟩) 100 100]) (fr := (0, 0)) ?_ rfl ?_
  · have := heap_alloc_new (w.alloc (.cells (madeCells #[.int .u8 0] 100) 5)) (.cells #[.string ⟨#[97]⟩, .slice (some ⟨w.heap.size, 0, none⟩) 100 100] 65)
    rwa [World.size_alloc] at this
  · intro b hb
    obtain rfl := List.mem_singleton.1 hb
    refine ⟨by unfold kB; simp, ?_⟩
    have h1 : Rd (w.alloc (.cells (madeCells #[.int .u8 0] 100) 5)) (some ⟨w.heap.size, 0, none⟩) (madeCells #[.int .u8 0] 100).toList := Rd.lit_at w _ _ rfl
    have h2 : (madeCells #[.int .u8 0] 100).toList = (kB w.heap.size).data.map bv := by
      rw [made_list]
      unfold kB
      rw [List.map_replicate]; rfl
    rw [h2] at h1
    exact h1.ext (ext_alloc (Below.refl _ _) _)
set_option maxRecDepth 100000 in
set_option maxHeartbeats 2000000 in
theorem known_any (w : World) (ht : Tab w) : Calls Tryz.prog 27 #[] w fun e w' => e = .returned (.bool true) ∧ Below w.heap.size w w' := by
  have hnew := new_step 64 w w (Below.refl _ _) (by omega) (by omega)
  have hmk := make_hundred
  have Hnew := Lib.hid hnew
  clear hnew
  go_enter Tryz.func27, Tryz.ntmps27
  go_wp2_with fail
  refine Hnew.out.mono ?_
  rintro e w1 ⟨gd, rfl, hI1, hb1⟩
  go_wp2_with fail
  refine (step_vformat hI1 hb1 ht (small_mono (small_zero 64) (by omega)) (by simp [zeroS])).mono ?_
  rintro e w2 ⟨g, gs, v, rfl, hO, hG, hL⟩
  have Hnow := Lib.hid hG
  clear hG
  obtain ⟨gx, hgx⟩ : ∃ gx, w2.heap.size = gx := ⟨_, rfl⟩
  have hB := kput w2
  have hnd : ∀ b ∈ [kB w2.heap.size], b.name.length ≤ maxLen ∧ b.data.length ≤ 1000000 := fun b hb => by
    obtain rfl := List.mem_singleton.1 hb
    exact ⟨by unfold kB maxLen; simp, by unfold kB; simp⟩
  have hcm := step_vcommit hO (kbel w2) Hnow.out none 0 [] (Rd.nil _ _) (fun _ => ⟨rfl, rfl⟩) (some ⟨w2.heap.size + 1, 0, none⟩) 1 [kB w2.heap.size] hB (fun _ ad e hk => by injection e with e; subst e; exact absurd hk.2 (by simp)) (fun b hb _ ad e hk => by
    obtain rfl := List.mem_singleton.1 hb
    injection e with e; subst e; exact Nat.lt_irrefl _ hk.2) (by simp) (by simp) (fun s hs => by cases hs) hnd
  have hmay : mayL v.L [] [kB w2.heap.size] = 0 := mayL_of (by show NamesOk [[97]]; decide) (fun g hg => by cases hg) (fun b hb => by obtain rfl := List.mem_singleton.1 hb; unfold kB; simp)
  have hz64 : (zeroS 64).length = 64 := by simp [zeroS]
  rw [hz64] at Hnow
  have hfr := Hnow.out.count_free
  rw [hL] at hfr
  have hneed : needN 100 = 2 := rfl
  have hw2 : ([kB w2.heap.size].map fun b => needN b.data.length).sum = 2 := by simp only [List.map_cons, List.map_nil, List.sum_cons, List.sum_nil]; unfold kB; rw [List.length_replicate, hneed]; omega
  have hw27 : ([kB w2.heap.size].map fun b => 19 + 4 * needN b.data.length).sum = 27 := by simp only [List.map_cons, List.map_nil, List.sum_cons, List.sum_nil]; unfold kB; rw [List.length_replicate, hneed]; omega
  have hoff : offs [kB w2.heap.size] [kB w2.heap.size].length = 2 := by rw [offs_all]; exact hw2
  have hro : offs [kB w2.heap.size] [kB w2.heap.size].length ≤ (freeL 64 v.L).length := by rw [hL, hoff]; simp at hfr; omega
  have hsh := next_short Hnow.out (by omega) hmay hro
  obtain ⟨v', e', hG', hL', _, _⟩ := commit_good Hnow.out (by omega) hmay hro (by rw [hw27, hL] at hsh; simp only [List.map_nil, List.sum_nil] at hsh; omega)
  rw [e'] at hcm
  have hfr' := hG'.count_free
  rw [hL', next_need, hL] at hfr'
  have h30 : (freeL 64 v'.L).length = 30 := by
    rw [hL']
    rw [hw2] at hfr'
    simp only [List.filter_nil, List.map_nil, List.sum_nil] at hfr'
    omega
  have Hcm := Lib.hid hcm
  have HG' := Lib.hid hG'
  have H30 := Lib.hid h30
  clear hcm hG' h30 hfr hfr' hoff hro hsh hL' e' hmay hnd hB hgx hL hneed hw2 hw27
  have hn100 := need_any 100
  have hn0 := need_any 0
  go_wp2_with fail
  refine Hcm.out.mono ?_
  rintro e w3 ⟨rfl, hO3, ho3⟩
  go_wp2_with fail
  refine (step_vfree hO3 HG'.out).mono ?_
  rintro e w4 ⟨rfl, hO4, hb4⟩
  rw [H30.out]
  go_wp2_with fail
  refine (hn100 _ (by omega)).mono ?_
  rintro e w5 ⟨rfl, rfl⟩
  go_wp2_with fail
  refine (hn0 _ (by omega)).mono ?_
  rintro e w6 ⟨rfl, rfl⟩
  go_wp2
  go_ret
  exact ⟨rfl, hO4.bel⟩
end Go.Proofs.YtdpmfcifgimleaaGreatDoor

/-
  The walk of VaultOfNothing. No statement of the seat is proved here.
-/
namespace Go.Proofs.YtdpmfcifgimleaaGreatDoor
open Go Go.RowKit

set_option maxHeartbeats 2000000 in
theorem vo_walk (xs : List UInt8) (n : Int) (W : World) (ht : Tab W) (hl : xs.length ≤ maxLen) (hn : isInt n) :
    Calls Tryz.prog 7 #[strV xs, .int .i64 n] W fun e w' => e = .returned (.bool true) ∧ Below W.heap.size W w' := by
  unfold maxLen at hl
  by_cases h : 100 < xs.length
  · have h1 : (100 : Int) < (xs.length : Int) := by omega
    unfold strV
    go_enter Tryz.func7, Tryz.ntmps7
    go_wp2
    go_ret
    exact ⟨rfl, Below.refl _ _⟩
  · have h1 : (xs.length : Int) ≤ 100 := by omega
    have hget := fun W => vget_nil (strV xs) W
    have hlen : ∃ Z : ByteArray, strV xs = .string Z ∧ (Z.size : Int) ≤ 100 := ⟨_, rfl, by show ((xs.toArray.size : Nat) : Int) ≤ 100; simpa using h1⟩
    obtain ⟨Z, hZ, hZl⟩ := hlen
    rw [hZ] at hget ⊢
    clear hZ h1 h hl
    have Hget := Lib.hid hget
    clear hget
    unfold isInt at hn
    by_cases h0 : 0 < n
    · obtain ⟨k, rfl⟩ : ∃ k : Nat, n = (k : Int) := ⟨n.toNat, by omega⟩
      have hmax : max (0 : Int) (k : Int) = (k : Int) := by omega
      have hneed := need_any k
      have hnp := needN_pos (n := k) (by omega)
      have hw1 : IntKind.i64.wrap ((k : Int) - 1) = (((k - 1 : Nat)) : Int) := by rw [IntWalk.i64_in _ (by omega)]; omega
      go_enter Tryz.func7, Tryz.ntmps7
      go_wp2_with fail
      refine (Hget.out _).mono ?_
      rintro e w1 ⟨rfl, rfl⟩
      go_wp2_with fail
      refine (vopen_nil _).mono ?_
      rintro e w1 ⟨rfl, rfl⟩
      go_wp2_with fail
      refine (vformat_nil _).mono ?_
      rintro e w1 ⟨rfl, hb1⟩
      go_wp2_with fail
      refine (vcommit_nil _ _ _).mono ?_
      rintro e w2 ⟨rfl, rfl⟩
      have hb2 : Below W.heap.size W (w1.alloc (.cells #[.string Z, .slice none 0 0] 65)) := ext_alloc hb1 _
      obtain ⟨w2, hw2⟩ : ∃ w2, w1.alloc (.cells #[.string Z, .slice none 0 0] 65) = w2 := ⟨_, rfl⟩
      rw [hw2] at hb2 ⊢
      clear hw2
      go_wp2_with fail
      refine (vnames_nil _).mono ?_
      rintro e w3 ⟨rfl, rfl⟩
      go_wp2_with fail
      refine (vfree_nil _).mono ?_
      rintro e w3 ⟨rfl, rfl⟩
      go_wp2_with fail
      refine (vowner_nil _).mono ?_
      rintro e w3 ⟨rfl, rfl⟩
      go_wp2_with fail
      refine (vdead_nil _).mono ?_
      rintro e w3 ⟨rfl, rfl⟩
      go_wp2_with fail
      refine (hneed _ (by omega)).mono ?_
      rintro e w3 ⟨rfl, rfl⟩
      go_wp2_with fail
      refine (known_any _ (ht.ext hb2)).mono ?_
      rintro e w4 ⟨rfl, hb4⟩
      go_wp2
      go_ret
      exact ⟨rfl, ext_trans hb2 hb4⟩
    · have hmax : max (0 : Int) n = 0 := by omega
      have hneed := fun W => need_neg n W (by omega)
      go_enter Tryz.func7, Tryz.ntmps7
      go_wp2_with fail
      refine (Hget.out _).mono ?_
      rintro e w1 ⟨rfl, rfl⟩
      go_wp2_with fail
      refine (vopen_nil _).mono ?_
      rintro e w1 ⟨rfl, rfl⟩
      go_wp2_with fail
      refine (vformat_nil _).mono ?_
      rintro e w1 ⟨rfl, hb1⟩
      go_wp2_with fail
      refine (vcommit_nil _ _ _).mono ?_
      rintro e w2 ⟨rfl, rfl⟩
      have hb2 : Below W.heap.size W (w1.alloc (.cells #[.string Z, .slice none 0 0] 65)) := ext_alloc hb1 _
      obtain ⟨w2, hw2⟩ : ∃ w2, w1.alloc (.cells #[.string Z, .slice none 0 0] 65) = w2 := ⟨_, rfl⟩
      rw [hw2] at hb2 ⊢
      clear hw2
      go_wp2_with fail
      refine (vnames_nil _).mono ?_
      rintro e w3 ⟨rfl, rfl⟩
      go_wp2_with fail
      refine (vfree_nil _).mono ?_
      rintro e w3 ⟨rfl, rfl⟩
      go_wp2_with fail
      refine (vowner_nil _).mono ?_
      rintro e w3 ⟨rfl, rfl⟩
      go_wp2_with fail
      refine (vdead_nil _).mono ?_
      rintro e w3 ⟨rfl, rfl⟩
      go_wp2_with fail
      refine (hneed _).mono ?_
      rintro e w3 ⟨rfl, rfl⟩
      go_wp2_with fail
      refine (known_any _ (ht.ext hb2)).mono ?_
      rintro e w4 ⟨rfl, hb4⟩
      go_wp2
      go_ret
      exact ⟨rfl, ext_trans hb2 hb4⟩
end Go.Proofs.YtdpmfcifgimleaaGreatDoor

/-
  What the arguments of the laws read as, in this seat's words for memory (numbers, bytes, rows of ints); how a law's contract closes its statement. No statement of the seat is proved here.
-/
namespace Go.Proofs.YtdpmfcifgimleaaGreatDoor
open Go Go.ChangeShapes Go.WideShapes Go.ChangeAt Go.RowKit

theorem own : ownKnob Tryz.prog.godebug = none := by kernel_rfl
theorem laidOut : laidOutB Tryz.prog = true := by kernel_rfl
theorem cells_u8 : Tryz.prog.cellsOf 5 = 1 := by kernel_rfl
theorem cells_int : Tryz.prog.cellsOf 3 = 1 := by kernel_rfl

section
variable {H : Type} {enc : TypeId × Value → H} {W : World} {base : Nat}
theorem bv_of {z : Int} (h : (Lit.int .u8 z).wf = true) : Value.int .u8 z = bv z.toNat.toUInt8 := by
  have h1 : IntKind.u8.min = 0 := rfl
  have h2 : IntKind.u8.max = 255 := rfl
  simp only [Lit.wf, Bool.and_eq_true, decide_eq_true_eq] at h
  unfold bv
  rw [show (z.toNat.toUInt8.toNat : Int) = z by simp [Nat.toUInt8, UInt8.toNat_ofNat']; omega]

/-- the bytes that numbers are -/
def toBytes (zs : List Int) : List UInt8 := zs.map fun z => z.toNat.toUInt8

theorem rd_bytes {a : Addr} {len : Nat} {zs : List Int} (hl : len ≤ zs.length) (hc : ∀ i, i < zs.length → W.cell? (a.add i) = some (.int .u8 (zs.getD i 0))) (hw : ∀ n ∈ zs, (Lit.int .u8 n).wf = true) :
    Rd W (some a) ((toBytes (zs.take len)).map bv) := by
  intro j u hu
  have hj : j < len := by
    have := (List.getElem?_eq_some_iff.1 hu).1
    simp [toBytes] at this; omega
  refine ⟨a, rfl, ?_⟩
  rw [hc j (by omega), ← hu]
  have hz : zs.getD j 0 = zs[j]'(by omega) := by simp [List.getD, show j < zs.length by omega]
  rw [hz, bv_of (hw _ (List.getElem_mem _))]
  simp [toBytes, hj, show j < zs.length by omega]

set_option maxRecDepth 100000 in
theorem arg_bytes {v : Value} {d : DataW H} {p : List MemPlace} (hv : Value.okWide Tryz.prog W .any base 57 v) (h : DataW.Trod enc Tryz.prog W 0 (fun _ => true) true 57 v d p) :
    ∃ (A : Option Addr) (n c : Nat) (xs : List UInt8), v = .slice A n c ∧ n = xs.length ∧ xs.length ≤ c ∧ c ≤ maxLen ∧ Rd W A (xs.map bv) := by
  obtain ⟨a0, len, cap, rfl⟩ := okWide_slice Tryz.underlying57 hv
  obtain ⟨fuel, hf⟩ := h
  rcases open_ints Tryz.underlying57 Tryz.underlying5 cells_u8 hf with ⟨hcs, hx⟩ | ⟨a, len', cap', zs, hcs, _, hl, hm, hz, hx, hcell, hwz⟩
  · simp [Value.cells] at hcs
    obtain ⟨rfl, rfl, rfl⟩ := hcs
    exact ⟨none, 0, 0, [], rfl, rfl, Nat.le_refl _, Nat.zero_le _, Rd.nil _ _⟩
  · simp [Value.cells] at hcs
    obtain ⟨rfl, rfl, rfl⟩ := hcs
    simp only [if_true] at hz
    exact ⟨some a, len, cap, toBytes (zs.take len), rfl, by simp [toBytes]; omega, by simp [toBytes]; omega, hm, rd_bytes (by omega) hcell hwz⟩

set_option maxRecDepth 100000 in
theorem arg_ints {v : Value} {d : DataW H} {p : List MemPlace} (hv : Value.okWide Tryz.prog W .any base 39 v) (h : DataW.Trod enc Tryz.prog W 0 (fun _ => true) true 39 v d p) :
    ∃ (A : Option Addr) (n c : Nat) (vs : List Int), v = .slice A n c ∧ n = vs.length ∧ vs.length ≤ c ∧ c ≤ maxLen ∧ Rd W A (vs.map iv) ∧ ∀ x ∈ vs, isInt x := by
  obtain ⟨a0, len, cap, rfl⟩ := okWide_slice Tryz.underlying39 hv
  obtain ⟨fuel, hf⟩ := h
  rcases open_ints Tryz.underlying39 Tryz.underlying3 cells_int hf with ⟨hcs, hx⟩ | ⟨a, len', cap', zs, hcs, _, hl, hm, hz, hx, hcell, hwz⟩
  · simp [Value.cells] at hcs
    obtain ⟨rfl, rfl, rfl⟩ := hcs
    exact ⟨none, 0, 0, [], rfl, rfl, Nat.le_refl _, Nat.zero_le _, Rd.nil _ _, by simp⟩
  · simp [Value.cells] at hcs
    obtain ⟨rfl, rfl, rfl⟩ := hcs
    simp only [if_true] at hz
    refine ⟨some a, len, cap, zs.take len, rfl, by simp; omega, by simp; omega, hm, fun j u hu => ⟨a, rfl, ?_⟩, fun x hx => ?_⟩
    · have hj : j < len := by
        have := (List.getElem?_eq_some_iff.1 hu).1
        simp at this; omega
      rw [hcell j (by omega), ← hu]
      simp [List.getD, hj, show j < zs.length by omega, iv]
    · have hw := hwz x (List.mem_of_mem_take hx)
      have h1 : IntKind.i64.min = -9223372036854775808 := rfl
      have h2 : IntKind.i64.max = 9223372036854775807 := rfl
      simp only [Lit.wf, Bool.and_eq_true, decide_eq_true_eq] at hw
      unfold isInt
      omega
end

theorem int_of_wf {v : Int} (h : (Lit.int .i64 v).wf = true) : isInt v := by
  have h1 : IntKind.i64.min = -9223372036854775808 := rfl
  have h2 : IntKind.i64.max = 9223372036854775807 := rfl
  simp only [Lit.wf, Bool.and_eq_true, decide_eq_true_eq] at h
  unfold isInt
  omega
theorem u8_of_wf {v : Int} (h : (Lit.int .u8 v).wf = true) : 0 ≤ v ∧ v ≤ 255 := by
  have h1 : IntKind.u8.min = 0 := rfl
  have h2 : IntKind.u8.max = 255 := rfl
  simp only [Lit.wf, Bool.and_eq_true, decide_eq_true_eq] at h
  omega

/-! ### How a contract closes a statement -/
section
variable {H : Type} {enc : TypeId × Value → H}
theorem below_trodAll {P : Program} (hl : laidOutB P = true) {W W' : World} (hb : Below W.heap.size W W') : ∀ {ts : List TypeId} {vs : List Value} {ds : List (DataW H)} {ps : List MemPlace},
    (∀ t ∈ ts, P.readableRec t = true ∧ t < P.types.size) → DataW.TrodAll enc P W 0 (fun _ => true) true ts vs ds ps → (∀ x ∈ ps, x.block < W.heap.size) → DataW.TrodAll enc P W' 0 (fun b => decide (b < W.heap.size)) true ts vs ds ps
  | [], [], [], _, _, h, _ => h
  | t :: ts, v :: vs, d :: ds, _, hr, h, hlt => by
    obtain ⟨p, q, h1, h2, rfl⟩ := h
    exact ⟨p, q, Below.trod hl (hr t (by simp)).1 (hr t (by simp)).2 h1 hb (fun x hx => hlt x (by simp [hx])), below_trodAll hl hb (fun t' ht => hr t' (by simp [ht])) h2 (fun x hx => hlt x (by simp [hx])), rfl⟩
  | [], [], _ :: _, _, _, h, _ => h.elim
  | [], _ :: _, _, _, _, h, _ => h.elim
  | _ :: _, [], _, _, _, h, _ => h.elim
  | _ :: _, _ :: _, [], _, _, h, _ => h.elim

/-- a law that returned true, and left all that was there as it was -/
theorem law_post {f : Func} {s : ChangeSpec} {W W' : World} {args : Array Value} {ds gs : List (DataW H)} {before : List MemPlace} (hvars : s.vars = []) (hf : f.resultTypes = #[4])
    (hread : f.params.toList.all (fun t => Tryz.prog.readableRec t && decide (t < Tryz.prog.types.size)) = true)
    (hs : (s.fn H ds).results = [.lit (.bool true)] ∧ (s.fn H ds).args = ds ∧ (s.fn H ds).vars = []) (hW : DataW.Whole enc Tryz.prog f.params.toList s.vars false W args.toList ds gs before) (hb : Below W.heap.size W W') :
    s.post enc Tryz.prog f false true false false W args (.bool true) W' := by
  have hW' := hW
  have hlt : ∀ x ∈ before, x.block < W.heap.size := fun x hx => by simpa using hW'.lt x hx
  obtain ⟨p, q, hA, hV, he, _, _⟩ := hW
  rw [hvars] at hV
  obtain ⟨hg, hq⟩ := trodVars_none hV
  have hx : ds ++ gs = ds := by rw [hg, List.append_nil]
  refine ⟨ds, gs, before, [] ++ [], p, [], hW', ?_, ?_, ?_, hb.frame _, fun h => by cases h⟩
  · rw [hx, hs.1, hf]
    exact trodAll_cons_mk (shut_bool Tryz.underlying4 _) trodAll_mk0
  · rw [hx, hs.2.1]
    refine below_trodAll laidOut hb (fun t ht => ?_) hA (fun x hx => hlt x (by rw [he]; simp [hx]))
    have := List.all_eq_true.1 hread t ht
    simpa using this
  · rw [hx, hs.2.2, hvars]
    rfl
end

/-- a world for the witness: the settled one -/
noncomputable def plainWorld (os : Os) : World := World.holding Tryz.prog os ⟨#[], #[], []⟩
end Go.Proofs.YtdpmfcifgimleaaGreatDoor

/-
  Rows of bytes as arguments; the table of package octet. No statement of the seat is proved here.
-/
namespace Go.Proofs.YtdpmfcifgimleaaGreatDoor
open Go Go.ChangeShapes Go.WideShapes Go.ChangeAt Go.RowKit

theorem cells_bytes : Tryz.prog.cellsOf 57 = 1 := by kernel_rfl
theorem cells_u32 : Tryz.prog.cellsOf 138 = 1 := by kernel_rfl
theorem cells_tab : Tryz.prog.cellsOf 202 = 16 := by kernel_rfl
theorem gTab : Tryz.prog.globalNamed "winnower/octet.crcSteps" = some 0 := by kernel_rfl
theorem gTabType : (Tryz.prog.globals[0]?).map (·.type) = some 202 := by kernel_rfl

/-- the list of every row of this seat -/
def theLaid : List (String × DataW Unit) := [("winnower/octet.crcSteps", Rows.laid_winnower_octet_crcSteps)]

theorem tab_of_laid {W : World} (h : laidMetH Tryz.prog theLaid W) : Tab W := by
  have h1 : Lib.TabIs Tryz.prog W "winnower/octet.crcSteps" .u32 [0, 498536548, 997073096, 651767980, 1994146192, 1802195444, 1303535960, 1342533948, 3988292384, 4027552580, 3604390888, 3412177804, 2607071920, 2262029012, 2685067896, 3183342108] :=
    Lib.tabIs_of_head (rest := []) gTab gTabType Tryz.underlying202 Tryz.underlying138 cells_u32 cells_tab h
  intro i hi
  have h2 := h1.cell gTab i (by simpa using hi)
  rw [h2]
  match i, hi with
  | 0, _ => rfl
  | 1, _ => rfl
  | 2, _ => rfl
  | 3, _ => rfl
  | 4, _ => rfl
  | 5, _ => rfl
  | 6, _ => rfl
  | 7, _ => rfl
  | 8, _ => rfl
  | 9, _ => rfl
  | 10, _ => rfl
  | 11, _ => rfl
  | 12, _ => rfl
  | 13, _ => rfl
  | 14, _ => rfl
  | 15, _ => rfl
  | n + 16, h => omega

section
variable {H : Type} {enc : TypeId × Value → H} {W : World} {base : Nat}
set_option maxRecDepth 100000 in
theorem arg_rows {v : Value} {d : DataW H} {p : List MemPlace} (hv : Value.okWide Tryz.prog W .any base 150 v) (h : DataW.Trod enc Tryz.prog W 0 (fun _ => true) true 150 v d p) :
    ∃ (A : Option Addr) (n c : Nat) (xss : List (List UInt8)), v = .slice A n c ∧ n = xss.length ∧ xss.length ≤ c ∧ c ≤ maxLen ∧ RowsF (fun _ => False) W A xss ∧ ∀ xs ∈ xss, xs.length ≤ maxLen := by
  obtain ⟨a0, len, cap, rfl⟩ := okWide_slice Tryz.underlying150 hv
  obtain ⟨fuel, hf⟩ := h
  rcases Deep.open_int_rows Tryz.underlying150 Tryz.underlying57 Tryz.underlying5 cells_bytes cells_u8 hf with ⟨hcs, hx⟩ | ⟨a, len', cap', A, L, C, Z, hcs, _, hl, hm, hx, hcell⟩
  · simp [Value.cells] at hcs
    obtain ⟨rfl, rfl, rfl⟩ := hcs
    exact ⟨none, 0, 0, [], rfl, rfl, Nat.le_refl _, Nat.zero_le _, ⟨[], RdF.of (Rd.nil _ _), rfl, fun j v xs h _ => by simp at h⟩, by simp⟩
  · simp [Value.cells] at hcs
    obtain ⟨rfl, rfl, rfl⟩ := hcs
    have hlen : ∀ r, r < cap → (toBytes ((Z r).take (L r))).length = L r := fun r hr => by
      obtain ⟨_, h2, _, h4, _⟩ := hcell r hr
      simp [toBytes]; omega
    refine ⟨some a, len, cap, (List.range len).map fun r => toBytes ((Z r).take (L r)), rfl, by simp, by simpa using hl, hm, ⟨(List.range len).map fun r => .slice (A r) (L r) (C r), RdF.of (fun j u hu => ⟨a, rfl, ?_⟩), by simp, fun j v xs hv hx => ?_⟩, fun xs hx => ?_⟩
    · have hj : j < len := by
        have := (List.getElem?_eq_some_iff.1 hu).1
        simpa using this
      rw [(hcell j (by omega)).1, ← hu]
      simp [hj]
    · have hj : j < len := by
        have := (List.getElem?_eq_some_iff.1 hx).1
        simpa using this
      simp [hj] at hv hx
      subst hv hx
      obtain ⟨h1, h2, h3, h4, h5, h6, h7⟩ := hcell j (by omega)
      refine ⟨A j, C j, by rw [hlen j (by omega)], by rw [hlen j (by omega)]; exact h2, RdF.of ?_⟩
      rcases hA : A j with _ | a'
      · have := h6 hA
        have hl0 : (toBytes ((Z j).take (L j))) = [] := List.eq_nil_of_length_eq_zero (by rw [hlen j (by omega)]; omega)
        rw [hl0]
        exact Rd.nil _ _
      · exact rd_bytes (by omega) (fun i hi => (h7 a' hA).2 i (by omega)) h5
    · obtain ⟨r, hr, rfl⟩ := List.mem_map.1 hx
      have hr' : r < len := by simpa using hr
      rw [hlen r (by omega)]
      obtain ⟨_, h2, h3, _⟩ := hcell r (by omega)
      omega
end

/-- A WORLD FOR THE WITNESS: the settled one, the table holding what its initialiser lays. -/
noncomputable def laidWorld (os : Os) : World :=
  { World.holding Tryz.prog os ⟨#[], #[], []⟩ with heap := (World.holding Tryz.prog os ⟨#[], #[], []⟩).heap.modify 0 fun
      | .cells _ t frozen => .cells #[.int .u32 0, .int .u32 498536548, .int .u32 997073096, .int .u32 651767980, .int .u32 1994146192, .int .u32 1802195444, .int .u32 1303535960, .int .u32 1342533948, .int .u32 3988292384, .int .u32 4027552580, .int .u32 3604390888, .int .u32 3412177804, .int .u32 2607071920, .int .u32 2262029012, .int .u32 2685067896, .int .u32 3183342108] t frozen
      | o => o }
end Go.Proofs.YtdpmfcifgimleaaGreatDoor

/-
  What VaultReplaces' commits make. No statement of the seat is proved here.
-/
namespace Go.Proofs.YtdpmfcifgimleaaGreatDoor
open Go Go.RowKit

theorem wt_sum (L : List Ent) : (L.map wt).sum = 19 * L.length + 4 * (L.map fun e => needN e.len).sum := by
  induction L with
  | nil => rfl
  | cons e r ih =>
    rw [List.map_cons, List.sum_cons, List.map_cons, List.sum_cons, ih, List.length_cons]
    unfold wt
    omega
theorem needN_le (n : Nat) : 64 * needN n ≤ n + 63 := by unfold needN; omega
theorem two_sem {n : Nat} {v : VauS} (hG : Good n 1 v) (hL : v.L = []) (hn : 100 ≤ n) (hn2 : n ≤ 4096) (a o : Blb) (ha : a.name = [120]) (ho : o.name = [121]) (hlen : a.data.length + o.data.length ≤ 2000) :
    ∃ v1, commitV v [] [a, o] = (0, v1) ∧ Good n 2 v1 ∧ HasB v1 [120] a.data ∧ HasB v1 [121] o.data ∧ (freeL n v1.L).length + needN a.data.length + needN o.data.length + 32 = n ∧ v1.L.length = 2 ∧ (v1.L.map fun e => needN e.len).sum = needN a.data.length + needN o.data.length ∧ (v1.L.filter (staysE [[120]])).length = 1 ∧ ((v1.L.filter (staysE [[120]])).map fun e => needN e.len).sum = needN o.data.length ∧ v1.L = nextV v [] [a, o] := by
  have q1 := needN_le a.data.length
  have q2 := needN_le o.data.length
  have hc := hG.count_free
  rw [hL] at hc
  simp only [List.map_nil, List.sum_nil] at hc
  have hm : mayL v.L [] [a, o] = 0 := mayL_of (by show NamesOk [a.name, o.name]; rw [ha, ho]; decide) (fun g hg => by cases hg) (fun b hb => by
    rcases List.mem_cons.1 hb with rfl | hb
    · omega
    · obtain rfl := List.mem_singleton.1 hb; omega)
  have hs : ([a, o].map fun b => needN b.data.length).sum = needN a.data.length + needN o.data.length := by simp
  have hs2 : ([a, o].map fun b => 19 + 4 * needN b.data.length).sum = 38 + 4 * needN a.data.length + 4 * needN o.data.length := by simp; omega
  obtain ⟨v1, e, hG1, hL1, h1, h2⟩ := commit_goes hG hn2 (by omega) hm (by rw [hL, hs]; omega) (by rw [hL, hs2]; simp only [List.map_nil, List.sum_nil]; omega)
  have hneed : (v1.L.map fun e => needN e.len).sum = needN a.data.length + needN o.data.length := by
    rw [hL1, next_need, hs, hL]
    simp
  have hcnt : v1.L.length = 2 := by rw [hL1, next_count, hL]; rfl
  have hfr := hG1.count_free
  rw [hneed] at hfr
  have hp : (v1.L.filter (staysE [[120]])).Perm [entK [a, o] (freeL v.s.S.length v.L) 1] := by
    have h3 : v1.L.Perm (laidV v [a, o] ++ v.L.filter (staysE ([] ++ [a, o].map (·.name)))) := by rw [hL1]; exact nextL_perm _ _ _
    rw [hL] at h3
    have h4 : laidV v [a, o] = [entK [a, o] (freeL v.s.S.length v.L) 0, entK [a, o] (freeL v.s.S.length v.L) 1] := rfl
    rw [h4] at h3
    have h5 := h3.filter (staysE [[120]])
    have n0 : (entK [a, o] (freeL v.s.S.length v.L) 0).name = [120] := ha
    have n1 : (entK [a, o] (freeL v.s.S.length v.L) 1).name = [121] := ho
    have s0 : staysE [[120]] (entK [a, o] (freeL v.s.S.length v.L) 0) = false := by unfold staysE; rw [n0]; decide
    have s1 : staysE [[120]] (entK [a, o] (freeL v.s.S.length v.L) 1) = true := by unfold staysE; rw [n1]; decide
    simpa [s0, s1] using h5
  refine ⟨v1, e, hG1, ?_, ?_, by omega, hcnt, hneed, by rw [hp.length_eq]; rfl, by rw [(hp.map _).sum_nat]; show needN o.data.length + 0 = _; omega, hL1⟩
  · rw [← ha]; exact h1 a (List.mem_cons_self ..)
  · rw [← ho]; exact h1 o (List.mem_cons_of_mem _ (List.mem_cons_self ..))
theorem replaces_sem {v1 : VauS} (hG : Good 150 2 v1) (a b o : Blb) (hb : b.name = [120]) (hlen : a.data.length + b.data.length + o.data.length ≤ 2000)
    (hO : HasB v1 [121] o.data) (hf : (freeL 150 v1.L).length + needN a.data.length + needN o.data.length + 32 = 150) (hc : v1.L.length = 2) (hs : (v1.L.map fun e => needN e.len).sum = needN a.data.length + needN o.data.length) (hc2 : (v1.L.filter (staysE [[120]])).length = 1) (hs2 : ((v1.L.filter (staysE [[120]])).map fun e => needN e.len).sum = needN o.data.length) :
    ∃ v2, commitV v1 [] [b] = (0, v2) ∧ Good 150 3 v2 ∧ HasB v2 [120] b.data ∧ HasB v2 [121] o.data ∧ (freeL 150 v2.L).length + needN b.data.length + needN o.data.length + 32 = 150 ∧ v2.L.length = 2 := by
  have q1 := needN_le a.data.length
  have q2 := needN_le o.data.length
  have q3 := needN_le b.data.length
  have hm : mayL v1.L [] [b] = 0 := mayL_of (by show NamesOk [b.name]; rw [hb]; decide) (fun g hg => by cases hg) (fun x hx => by
    obtain rfl := List.mem_singleton.1 hx; omega)
  have hs1 : ([b].map fun b => needN b.data.length).sum = needN b.data.length := by simp
  have hs3 : ([b].map fun b => 19 + 4 * needN b.data.length).sum = 19 + 4 * needN b.data.length := by simp
  obtain ⟨v2, e, hG2, hL2, h1, h2⟩ := commit_goes hG (by omega) (by omega) hm (by rw [hs1]; omega) (by rw [hs3, wt_sum, hc, hs]; omega)
  have hst : ([] ++ [b].map (·.name) : List (List UInt8)) = [[120]] := by simp [hb]
  have hfr := hG2.count_free
  rw [hL2, next_need, hs1, hst, hs2] at hfr
  refine ⟨v2, e, hG2, ?_, ?_, by rw [hL2]; omega, by rw [hL2, next_count, hst, hc2]; rfl⟩
  · rw [← hb]; exact h1 b (List.mem_cons_self ..)
  · exact h2 _ _ hO (by rw [hst]; decide)
end Go.Proofs.YtdpmfcifgimleaaGreatDoor

/-
  The walk of VaultReplaces. No statement of the seat is proved here.
-/
namespace Go.Proofs.YtdpmfcifgimleaaGreatDoor
open Go Go.RowKit

theorem not_born_arg {W w : World} {A : Option Addr} {xs : List UInt8} (h : Rd W A (xs.map bv)) (hne : xs ≠ []) : ∀ ad, A = some ad → ¬ Born W w ad.block := fun ad e hk => by
  have := h.blk_lt (by simpa using hne) ad e
  have := hk.1
  omega
set_option maxRecDepth 100000 in
set_option maxHeartbeats 4000000 in
theorem vr_walk (A0 : Option Addr) (n0 c0 : Nat) (xs0 : List UInt8) (A1 : Option Addr) (n1 c1 : Nat) (xs1 : List UInt8) (A2 : Option Addr) (n2 c2 : Nat) (xs2 : List UInt8) (W : World) (ht : Tab W)
    (hn0 : n0 = xs0.length) (hc0 : xs0.length ≤ c0) (hm0 : c0 ≤ maxLen) (hr0 : Rd W A0 (xs0.map bv)) (hn1 : n1 = xs1.length) (hc1 : xs1.length ≤ c1) (hm1 : c1 ≤ maxLen) (hr1 : Rd W A1 (xs1.map bv)) (hn2 : n2 = xs2.length) (hc2 : xs2.length ≤ c2) (hm2 : c2 ≤ maxLen) (hr2 : Rd W A2 (xs2.map bv)) (z0 : n0 ≤ 140737488355328) (z1 : n1 ≤ 140737488355328) (z2 : n2 ≤ 140737488355328) :
    Calls Tryz.prog 8 #[.slice A0 n0 c0, .slice A1 n1 c1, .slice A2 n2 c2] W fun e w' => e = .returned (.bool true) ∧ Below W.heap.size W w' := by
  subst hn0 hn1 hn2
  unfold maxLen at hm0 hm1 hm2
  have w1 : IntKind.i64.wrap ((xs0.length : Int) + (xs1.length : Int)) = (xs0.length : Int) + (xs1.length : Int) := IntWalk.i64_in _ (by omega)
  have w2 : IntKind.i64.wrap ((xs0.length : Int) + (xs1.length : Int) + (xs2.length : Int)) = (xs0.length : Int) + (xs1.length : Int) + (xs2.length : Int) := IntWalk.i64_in _ (by omega)
  by_cases hbig : 2000 < xs0.length + xs1.length + xs2.length
  · have hbi : (2000 : Int) < (xs0.length : Int) + (xs1.length : Int) + (xs2.length : Int) := by omega
    go_enter Tryz.func8, Tryz.ntmps8
    go_wp2
    go_ret
    exact ⟨rfl, Below.refl _ _⟩
  · have hbi : (xs0.length : Int) + (xs1.length : Int) + (xs2.length : Int) ≤ 2000 := by omega
    have Hbig := Lib.hid hbig
    have hnew := new_step 150 W W (Below.refl _ _) (by omega) (by omega)
    have Hnew := Lib.hid hnew
    have Hr0 := Lib.hid hr0
    have Hr1 := Lib.hid hr1
    have Hr2 := Lib.hid hr2
    clear hnew hbig hr0 hr1 hr2
    go_enter Tryz.func8, Tryz.ntmps8
    go_wp2_with fail
    refine Hnew.out.mono ?_
    rintro e w1' ⟨gd, rfl, hI1, hb1⟩
    go_wp2_with fail
    refine (step_vformat hI1 hb1 ht (small_mono (small_zero 150) (by omega)) (by simp [zeroS])).mono ?_
    rintro e w3 ⟨g, gs, v, rfl, hO, hG, hL⟩
    have hz150 : (zeroS 150).length = 150 := by simp [zeroS]
    rw [hz150] at hG
    obtain ⟨v1, e1, hG1, hx1, hy1, hf1, hc1', hs1, hcf1, hsf1, -⟩ := two_sem hG hL (by omega) (by omega) ⟨[120], xs0, A0, c0⟩ ⟨[121], xs2, A2, c2⟩ rfl rfl (by have := Hbig.out; show xs0.length + xs2.length ≤ 2000; omega)
    obtain ⟨v2, e2, hG2, hx2, hy2, hf2, hc2'⟩ := replaces_sem hG1 ⟨[120], xs0, A0, c0⟩ ⟨[120], xs1, A1, c1⟩ ⟨[121], xs2, A2, c2⟩ rfl (by have := Hbig.out; show xs0.length + xs1.length + xs2.length ≤ 2000; omega) hy1 hf1 hc1' hs1 hcf1 hsf1
    dsimp only at hf1 hf2 hx2 hy2
    have He1 := Lib.hid e1
    have He2 := Lib.hid e2
    have HG := Lib.hid hG
    have HG1 := Lib.hid hG1
    have HG2 := Lib.hid hG2
    have Hx2 := Lib.hid hx2
    have Hy2 := Lib.hid hy2
    have Hf1 := Lib.hid hf1
    have Hf2 := Lib.hid hf2
    have Hc2 := Lib.hid hc2'
    clear e1 e2 hG hG1 hG2 hx1 hx2 hy1 hy2 hf1 hf2 hc1' hc2' hs1 hcf1 hsf1 hL
    go_wp2_with fail
    have hB0 : Below w3.heap.size w3 (w3.alloc (.cells #[.string ⟨#[120]⟩, .slice A0 xs0.length c0, .string ⟨#[121]⟩, .slice A2 xs2.length c2] 65)) := ext_alloc (Below.refl _ _) _
    have hbw : Below W.heap.size W (w3.alloc (.cells #[.string ⟨#[120]⟩, .slice A0 xs0.length c0, .string ⟨#[121]⟩, .slice A2 xs2.length c2] 65)) := ext_trans hO.bel hB0
    have hput := putr_of (B := [⟨[120], xs0, A0, c0⟩, ⟨[121], xs2, A2, c2⟩]) (heap_alloc_new w3 (.cells #[.string ⟨#[120]⟩, .slice A0 xs0.length c0, .string ⟨#[121]⟩, .slice A2 xs2.length c2] 65)) rfl (fun b hb => by
      rcases List.mem_cons.1 hb with rfl | hb
      · exact ⟨hc0, Hr0.out.ext hbw⟩
      · obtain rfl := List.mem_singleton.1 hb; exact ⟨hc2, Hr2.out.ext hbw⟩)
    have hbg := Hbig.out
    have hcm := step_vcommit hO hB0 HG.out none 0 [] (Rd.nil _ _) (fun _ => ⟨rfl, rfl⟩) (some ⟨w3.heap.size, 0, none⟩) 2 [⟨[120], xs0, A0, c0⟩, ⟨[121], xs2, A2, c2⟩] hput (fun _ ad e hk => by injection e with e; subst e; exact Nat.lt_irrefl _ hk.2) (fun b hb => by
      rcases List.mem_cons.1 hb with rfl | hb
      · exact not_born_arg Hr0.out
      · obtain rfl := List.mem_singleton.1 hb; exact not_born_arg Hr2.out) (by simp) (by simp) (fun s hs => by cases hs) (fun b hb => by
      rcases List.mem_cons.1 hb with rfl | hb
      · exact ⟨by unfold maxLen; simp, by show xs0.length ≤ _; omega⟩
      · obtain rfl := List.mem_singleton.1 hb; exact ⟨by unfold maxLen; simp, by show xs2.length ≤ _; omega⟩)
    rw [He1.out] at hcm
    have Hcm := Lib.hid hcm
    clear hcm hput hbg
    refine Hcm.out.mono ?_
    rintro e w4 ⟨rfl, hO4, ho4⟩
    go_wp2_with fail
    refine (step_vfree hO4 HG1.out).mono ?_
    rintro e w5 ⟨rfl, hO5, hb5⟩
    obtain ⟨f1, hf1⟩ : ∃ f1, (freeL 150 v1.L).length = f1 := ⟨_, rfl⟩
    rw [hf1]
    have Hf1' := Lib.hid hf1
    clear hf1
    go_wp2_with fail
    have hB5 : Below w5.heap.size w5 (w5.alloc (.cells #[.string ⟨#[120]⟩, .slice A1 xs1.length c1] 65)) := ext_alloc (Below.refl _ _) _
    have hbw5 : Below W.heap.size W (w5.alloc (.cells #[.string ⟨#[120]⟩, .slice A1 xs1.length c1] 65)) := ext_trans hO5.bel hB5
    have hput := putr_of (B := [⟨[120], xs1, A1, c1⟩]) (heap_alloc_new w5 (.cells #[.string ⟨#[120]⟩, .slice A1 xs1.length c1] 65)) rfl (fun b hb => by
      obtain rfl := List.mem_singleton.1 hb; exact ⟨hc1, Hr1.out.ext hbw5⟩)
    have hbg := Hbig.out
    have hcm := step_vcommit hO5 hB5 HG1.out none 0 [] (Rd.nil _ _) (fun _ => ⟨rfl, rfl⟩) (some ⟨w5.heap.size, 0, none⟩) 1 [⟨[120], xs1, A1, c1⟩] hput (fun _ ad e hk => by injection e with e; subst e; exact Nat.lt_irrefl _ hk.2) (fun b hb => by
      obtain rfl := List.mem_singleton.1 hb; exact not_born_arg Hr1.out) (by simp) (by simp) (fun s hs => by cases hs) (fun b hb => by
      obtain rfl := List.mem_singleton.1 hb; exact ⟨by unfold maxLen; simp, by show xs1.length ≤ _; omega⟩)
    rw [He2.out] at hcm
    have Hcm2 := Lib.hid hcm
    clear hcm hput hbg
    refine Hcm2.out.mono ?_
    rintro e w6 ⟨rfl, hO6, ho6⟩
    go_wp2_with fail
    refine (step_vget_has hO6 HG2.out Hx2.out).mono ?_
    rintro e w7 ⟨⟨A7, c7, rfl, hN7⟩, hO7, hb7⟩
    go_wp2_with fail
    refine (step_vget_has hO7 HG2.out Hy2.out).mono ?_
    rintro e w8 ⟨⟨A8, c8, rfl, hN8⟩, hO8, hb8⟩
    have cv1 := conv_bytes w8 A7 xs1.length c7 xs1 rfl (hN7.rd.ext hb8)
    have cv2 := conv_bytes w8 A1 xs1.length c1 xs1 rfl (Hr1.out.ext hO8.bel)
    have cv3 := conv_bytes w8 A8 xs2.length c8 xs2 rfl hN8.rd
    have cv4 := conv_bytes w8 A2 xs2.length c2 xs2 rfl (Hr2.out.ext hO8.bel)
    unfold strV at cv1 cv2 cv3 cv4
    go_wp2_with fail
    refine (step_vfree hO8 HG2.out).mono ?_
    rintro e w9 ⟨rfl, hO9, hb9⟩
    have hna := need_any xs0.length
    have hnb := need_any xs1.length
    have g1 := Hf1.out
    have g2 := Hf2.out
    rw [Hf1'.out] at g1
    obtain ⟨f2, hf2⟩ : ∃ f2, (freeL 150 v2.L).length = f2 := ⟨_, rfl⟩
    rw [hf2] at g2 ⊢
    obtain ⟨na, hna'⟩ : ∃ na, needN xs0.length = na := ⟨_, rfl⟩
    obtain ⟨nb, hnb'⟩ : ∃ nb, needN xs1.length = nb := ⟨_, rfl⟩
    rw [hna'] at hna g1
    rw [hnb'] at hnb g2
    have wa : IntKind.i64.wrap ((f1 : Int) + (na : Int)) = (f1 : Int) + (na : Int) := IntWalk.i64_in _ (by omega)
    have wb : IntKind.i64.wrap ((f1 : Int) + (na : Int) - (nb : Int)) = (f2 : Int) := by rw [IntWalk.i64_in _ (by omega)]; omega
    have Hbg' := Lib.hid hbi
    clear hf2 hna' hnb' cv1 cv2 cv3 cv4
    go_wp2_with fail
    refine (hna _ (by omega)).mono ?_
    rintro e w10 ⟨rfl, rfl⟩
    go_wp2_with fail
    refine (hnb _ (by omega)).mono ?_
    rintro e w10 ⟨rfl, rfl⟩
    go_wp2_with fail
    refine (step_vnames hO9 HG2.out).mono ?_
    rintro e w11 ⟨A11, c11, rfl, hN11, hO11, hb11⟩
    rw [Hc2.out]
    go_wp2_with fail
    refine (known_any _ (ht.ext hO11.bel)).mono ?_
    rintro e w12 ⟨rfl, hb12⟩
    go_wp2
    go_ret
    exact ⟨rfl, ext_trans hO11.bel hb12⟩
end Go.Proofs.YtdpmfcifgimleaaGreatDoor

/-
  The reach of the form for arguments that are rows of bytes. No statement of the seat is proved here.
-/
namespace Go.Proofs.YtdpmfcifgimleaaGreatDoor
open Go Go.ChangeShapes Go.WideShapes Go.ChangeAt Go.RowKit

theorem bytes_u8 : Tryz.prog.bytesOf 5 = 1 := by kernel_rfl
set_option maxRecDepth 100000 in
theorem sz_bytes {H : Type} {enc : TypeId × Value → H} {W : World} {A : Option Addr} {n c : Nat} {d : DataW H} {p : List MemPlace} {ts : List TypeId} {ds : List (DataW H)} {j : Nat}
    (h : DataW.Trod enc Tryz.prog W 0 (fun _ => true) true 57 (.slice A n c) d p) (hz : (DataW.weightsEach Tryz.prog ts ds).all (· ≤ reachBytes) = true) (ht : ts[j]? = some 57) (hd : ds[j]? = some d) : n ≤ 140737488355328 := by
  obtain ⟨fuel, hf⟩ := h
  rcases open_ints Tryz.underlying57 Tryz.underlying5 cells_u8 hf with ⟨hcs, hx⟩ | ⟨a, len', cap', zs, hcs, _, hl, hm, hzs, hx, hcell, hwz⟩
  · simp [Value.cells] at hcs
    omega
  · simp [Value.cells] at hcs
    obtain ⟨rfl, rfl, rfl⟩ := hcs
    simp only [if_true] at hzs
    simp only [Prod.mk.injEq] at hx
    rw [hx.1] at hd
    have h1 := sized_slice hz ht hd Tryz.underlying57
    rw [bytes_u8] at h1
    have h2 := reachBytes_lt
    simp [ChangeShapes.lits] at h1
    omega
end Go.Proofs.YtdpmfcifgimleaaGreatDoor

/-
  A byte of a row of the call's own is turned. No statement of the seat is proved here.
-/
namespace Go.Proofs.YtdpmfcifgimleaaGreatDoor
open Go Go.RowKit

theorem row_put {w : World} {A : Option Addr} {n c : Nat} {ys : List UInt8} (h : RowO w 5 1 A n c (ys.map bv)) {k : Nat} (hk : k < n) :
    ∃ g o, A = some ⟨g, o, none⟩ ∧ w.cell? ⟨g, o + k, none⟩ = some (bv (ys.getD k 0)) ∧ w.frozen? ⟨g, o + k, none⟩ = false ∧ ∀ v : UInt8, RowO (w.setCell ⟨g, o + k, none⟩ (bv v)) 5 1 A n c ((ys.set k v).map bv) ∧ Only (inA A) w (w.setCell ⟨g, o + k, none⟩ (bv v)) := by
  have hl : ys.length = n := by have := h.1; simpa using this
  rcases h.2 with ⟨_, h1, _⟩ | ⟨g, off, cs, rfl, h1, h2, h3, h4, h5⟩
  · omega
  · have hg : (ys.map bv)[k]? = some (bv (ys.getD k 0)) := by
      rw [List.getElem?_map, List.getElem?_eq_getElem (by omega), List.getD_eq_getElem?_getD, List.getElem?_eq_getElem (by omega)]
      rfl
    refine ⟨g, off, rfl, by rw [h3.cell]; exact h5 k _ hg, h3.free _, fun v => ⟨⟨by simp [hl], .inr ⟨g, off, cs.setIfInBounds (off + k) (bv v), rfl, h1, h2, h3.put _ _, by simpa using h4, fun j u hu => ?_⟩⟩, (Only.refl _ w).setCell (p := ⟨g, off + k, none⟩) (.inl ((inA_some _ _ _ _).2 rfl)) _⟩⟩
    rw [List.getElem?_map, List.getElem?_set] at hu
    by_cases hj : k = j
    · subst hj
      rw [if_pos rfl, if_pos (by omega)] at hu
      have hkc : off + k < cs.size := by omega
      simp [hkc] at hu ⊢
      exact hu
    · rw [if_neg hj, ← List.getElem?_map] at hu
      rw [Array.getElem?_setIfInBounds, if_neg (by omega)]
      exact h5 j u hu
theorem u8_add_one (b : UInt8) : IntKind.u8.wrap ((b.toNat : Int) + 1) = ((b + 1).toNat : Int) := by
  have h1 : (b + 1).toNat = (b.toNat + 1) % 256 := by simp [UInt8.toNat_add]
  have h2 : b.toNat < 256 := b.toNat_lt
  rw [h1]
  unfold IntKind.wrap
  simp [IntKind.signed, IntKind.bits]
end Go.Proofs.YtdpmfcifgimleaaGreatDoor
