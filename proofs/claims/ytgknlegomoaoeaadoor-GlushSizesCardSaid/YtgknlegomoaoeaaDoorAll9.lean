/-
  Texts of this claim, joined (part 9): contracts and lemmas that the last text goes by. No statement of the seat is proved here.
-/
import Derived.Test.YtgknlegomoaoeaaDoorAll8
import Derived.Test.YtgknlegomoaoeaaDoorAll1
import Derived.Test.YtgknlegomoaoeaaDoorAll7
import Derived.Test.YtgknlegomoaoeaaDoorAll4
import Derived.Deep.RegionHeldLaw
set_option linter.unusedVariables false
set_option linter.unusedSimpArgs false
/-
  Contracts of the reference's row and alternatives, and of all that call each other. No statement of the seat is proved here.
-/
namespace Go.Proofs.YtgknlegomoaoeaaDoor
open Go Go.RowKit
set_option maxRecDepth 100000

def lenV : Value → Nat
  | .slice _ n _ => n
  | _ => 0
theorem bind_assocP {α β γ : Type} (T : PR α) (F : α → List Nat → PR β) (G : β → List Nat → PR γ) : (T.bind F).bind G = T.bind fun x l => (F x l).bind G := by cases T <;> rfl
theorem len_timesP {x y : Ex} {l r : List Nat} (h : timesP x l = .ok y r) : r.length ≤ l.length := by
  rcases timesP_cases x l with ⟨n, _, h2⟩ | ⟨z, l2, h1, h2 | ⟨_, h2⟩⟩
  · rw [h2] at h; cases h
  · rw [h2] at h; injection h with h3 h4; subst h4; exact len_timesQ h1
  · rw [h2] at h; cases h
theorem times_st (w : World) (d : Nat) (hd : d ≤ w.heap.size) (g : Nat) (s : ByteArray) (hs : s.size ≤ 1000000) (T : PR Ex) (x : Ex) (p b : Int) (cs : List Value) (hS : StG 8 s T x p b) (h : RdS w g s p b) (hx : ReR (fun b => b ≠ g ∧ d ≤ b) w x cs) :
    Calls Tryd.prog 91 #[.pointer (some ⟨g, 0, none⟩), reV cs] w fun e w' => ∃ (y : Ex) (p' b' : Int) (cs' : List Value), e = .returned (reV cs') ∧ Only (fun x => x = g) w w' ∧ RdS w' g s p' b' ∧ ReR (fun b => b ≠ g ∧ d ≤ b) w' y cs' ∧ StG 8 s (T.bind timesP) y p' b' := by
  rcases hS with ⟨h1, q, h2, h3, h4⟩ | ⟨left, h1, h2, ⟨m, h3, h5⟩, h4⟩
  · subst h1 h3
    refine (rtimesx_any w d hd g s q hs h2 h x cs hx).mono fun e w' hT => ?_
    obtain ⟨y, p', b', cs', k1, k2, k3, k4, k5⟩ := took_st hT
    exact ⟨y, p', b', cs', k1, k2, k3, k4, by rw [h4]; exact k5⟩
  · refine (rtimesx_bad w d hd g s p b (by omega) h x cs hx).mono fun e w' ⟨v, k1, ⟨cs', k2, k3⟩, k4, k5⟩ => ?_
    subst k2
    exact ⟨x, p, b, cs', k1, k5, k4, k3, .inr ⟨left, h1, h2, ⟨m, h3, h5⟩, by rw [h4]; rfl⟩⟩

/-! ### row -/
def StRow (s : ByteArray) (T : PR Ex) (f m : Nat) (l : List Ex) (p b : Int) : Prop :=
  (b = -1 ∧ ∃ q f' : Nat, q ≤ s.size ∧ p = (q : Int) ∧ m ≤ q ∧ T = rowP f' l ((natsOf s).drop q) ∧ 4 * (s.size - q) + 3 ≤ f' ∧ f' ≤ f) ∨ (∃ left : Nat, left ≤ s.size ∧ b = ((s.size - left : Nat) : Int) ∧ (∃ k : Nat, p = (k : Int) ∧ k ≤ s.size + 8) ∧ T = .bad left)
def EntR (s : ByteArray) (p b : Int) : Prop := b = -1 ∧ p.toNat < s.size ∧ isNextR 124 ((natsOf s).drop p.toNat) = false ∧ isNextR 41 ((natsOf s).drop p.toNat) = false
theorem StRow.last {s : ByteArray} {T : PR Ex} {f m : Nat} {l : List Ex} {p b : Int} (h : StRow s T f m l p b) (he : ¬ EntR s p b) : StG 8 s T (seqE l) p b := by
  rcases h with ⟨h1, q, f', h2, h3, h4, h5, h6, h7⟩ | ⟨left, h1, h2, h3, h4⟩
  · refine .inl ⟨h1, q, h2, h3, ?_⟩
    obtain ⟨d, rfl⟩ : ∃ d, f' = d + 1 := ⟨f' - 1, by omega⟩
    have hp : p.toNat = q := by omega
    rw [h5]
    simp only [rowP]
    rw [if_pos]
    rcases Nat.lt_or_ge q s.size with hq | hq
    · unfold EntR at he
      rw [hp] at he
      cases h8 : isNextR 124 ((natsOf s).drop q) with
      | true => exact .inr (.inl (by simpa [isNextR] using h8))
      | false =>
        cases h9 : isNextR 41 ((natsOf s).drop q) with
        | true => exact .inr (.inr (by simpa [isNextR] using h9))
        | false => exact absurd ⟨h1, hq, h8, h9⟩ he
    · exact .inl (List.drop_of_length_le (by rw [natsOf_len]; exact hq))
  · exact .inr ⟨left, h1, h2, h3, h4⟩
theorem StRow.enter {s : ByteArray} {T : PR Ex} {f m : Nat} {l : List Ex} {p b : Int} (h : StRow s T f m l p b) (he : EntR s p b) :
    ∃ q d : Nat, b = -1 ∧ p = (q : Int) ∧ q < s.size ∧ m ≤ q ∧ d < f ∧ 4 * (s.size - q) + 2 ≤ d ∧ ∀ (y : Ex) (p' b' : Int), StG 8 s ((atomP d ((natsOf s).drop q)).bind timesP) y p' b' → StRow s T f (m + 1) (l ++ [y]) p' b' := by
  rcases h with ⟨h1, q, f', h2, h3, h4, h5, h6, h7⟩ | ⟨left, h1, h2, h3, h4⟩
  · obtain ⟨d, rfl⟩ : ∃ d, f' = d + 1 := ⟨f' - 1, by omega⟩
    have hp : p.toNat = q := by omega
    obtain ⟨e1, e2, e3, e4⟩ := he
    rw [hp] at e2 e3 e4
    have hne : (natsOf s).drop q ≠ [] := by rw [nats_dropR s q e2]; simp
    have hT : T = ((atomP d ((natsOf s).drop q)).bind timesP).bind fun y l2 => rowP d (l ++ [y]) l2 := by
      rw [h5, bind_assocP]
      simp only [rowP]
      rw [if_neg]
      rintro (h | h | h)
      · exact hne h
      · simp [isNextR, h] at e3
      · simp [isNextR, h] at e4
    refine ⟨q, d, h1, h3, e2, h4, by omega, by omega, fun y p' b' hS => ?_⟩
    rcases hS with ⟨k1, q2, k2, k3, k4⟩ | ⟨left, k1, k2, k3, k4⟩
    · obtain ⟨x, l1, j1, j2⟩ := PR.bind_ok k4
      have hlq := nats_lenR s q
      have e5 := (len_Q d).1 _ _ _ (((eq_Q d).1 _ (by omega)).trans j1)
      have e6 := len_timesP j2
      rw [nats_lenR] at e6
      refine .inl ⟨k1, q2, d, k2, k3, by omega, ?_, by omega, by omega⟩
      rw [hT, k4]
      rfl
    · refine .inr ⟨left, k1, k2, k3, ?_⟩
      rw [hT, k4]
      rfl
  · exact absurd he.1 (by omega)
theorem StRow.stand {s : ByteArray} {T : PR Ex} {f m : Nat} {l : List Ex} {p b : Int} (h : StRow s T f m l p b) : Stand s p b := by
  rcases h with ⟨h1, q, f', h2, h3, _⟩ | ⟨l, _, h2, _⟩
  · exact .inl ⟨h1, q, h2, h3⟩
  · exact .inr (by omega)

set_option maxHeartbeats 16000000 in
theorem rrow_of (f : Nat) (w : World) (g : Nat) (s : ByteArray) (p : Nat) (hs : s.size ≤ 1000000) (hp : p ≤ s.size) (h : RdS w g s (p : Int) (-1)) (hf : 4 * (s.size - p) + 3 ≤ f)
    (hAt : ∀ f' W q, f' < f → q ≤ s.size → 4 * (s.size - q) + 2 ≤ f' → RdS W g s ((q : Nat) : Int) (-1) → Calls Tryd.prog 92 #[.pointer (some ⟨g, 0, none⟩)] W (TkR W.heap.size W g s (atomP f' ((natsOf s).drop q)))) :
    Calls Tryd.prog 74 #[.pointer (some ⟨g, 0, none⟩)] w (TkR w.heap.size w g s (rowP f [] ((natsOf s).drop p))) := by
  have hgl := h.lt
  have hsi : (s.size : Int) ≤ 1000000 := by omega
  have HRd := Lib.hid (h.alloc (Obj.cells #[.int .i64 0, .int .u64 0, .int .u64 0, .int .u64 0, .int .u64 0, .slice none 0 0, .int .i64 0, .int .i64 0] 27))
  have HR := Lib.hid (Blk.new w 27 #[.int .i64 0, .int .u64 0, .int .u64 0, .int .u64 0, .int .u64 0, .slice none 0 0, .int .i64 0, .int .i64 0])
  have HO1 : Hid (Only (fun x => x = g) w (w.alloc (Obj.cells #[.int .i64 0, .int .u64 0, .int .u64 0, .int .u64 0, .int .u64 0, .slice none 0 0, .int .i64 0, .int .i64 0] 27))) := Lib.hid ((Only.refl _ _).alloc _)
  have HAt := Lib.hid hAt
  obtain ⟨T, hT⟩ : ∃ T, rowP f [] ((natsOf s).drop p) = T := ⟨_, rfl⟩
  have HT0 : Hid (StRow s T f 0 [] (p : Int) (-1)) := Lib.hid (.inl ⟨rfl, p, f, hp, rfl, Nat.zero_le _, hT.symm, hf, Nat.le_refl _⟩)
  rw [hT]
  clear h hAt hT hf
  go_enter Tryd.func74, Tryd.ntmps74
  go_wp2
  go_loopw [3] (fun v wr => ∃ (A : Option Addr) (m c : Nat) (l : List Ex) (p1 b1 : Int), v = .slice A m c ∧ m ≤ s.size + 1 ∧ RdS wr g s p1 b1 ∧ Hid (RowE (fun b => w.heap.size < b) wr A m c l) ∧ Hid (∀ b, inA A b → w.heap.size < b) ∧ Blk wr w.heap.size 27 #[.int .i64 0, .int .u64 0, .int .u64 0, .int .u64 0, .int .u64 0, .slice none 0 0, .int .i64 0, .int .i64 0] ∧ Only (fun x => x = g) w wr ∧ Hid (StRow s T f m l p1 b1)) (fun v _ => s.size + 2 - lenV v)
  case atStart => exact ⟨none, 0, 0, [], p, -1, rfl, by omega, HRd.out, Lib.hid (RowE.none_ _ _), Lib.hid (fun b hb => absurd hb (inA_none b)), HR.out, HO1.out, HT0⟩
  case round =>
    clear HRd HR HO1 HT0
    obtain ⟨A, m, c, l, p1, b1, rfl, hm, hRd, hrow, HA, hR, hO, hS⟩ := hrel
    have HRd := Lib.hid hRd
    have HR := Lib.hid hR
    have HO := Lib.hid hO
    have Hm := Lib.hid hm
    have x0 := hRd.c0
    have x1 := hRd.c1
    have x2 := hRd.c2
    clear hRd hR hO hm
    go_upto_region 2 with fail
    go_cut [44] (fun v wx => ∃ en : Bool, v = .bool en ∧ Hid (en = true ↔ EntR s p1 b1) ∧ ∃ k, wx = wr.drewN k)
    case first =>
      rcases hS.out.stand with ⟨hb1, q, hq, hp1⟩ | hb1
      case inr =>
        have hbd : decide (b1 < 0) = false := by simp; omega
        go_wp2
        go_quiet (fail)
        go_wp2
        go_meet
        case rel => exact ⟨false, rfl, Lib.hid ⟨fun h => (by cases h), fun h => (by have := h.1; omega)⟩, _, rfl⟩
      subst hb1 hp1
      rcases Nat.lt_or_ge q s.size with hlt | hge
      case inr =>
        have g1 : decide ((q : Int) < (s.size : Int)) = false := by simp; omega
        have g2 : decide (q < s.size) = false := by simp; omega
        go_wp2
        go_quiet (fail)
        go_wp2
        go_meet
        case rel => exact ⟨false, rfl, Lib.hid ⟨fun h => (by cases h), fun h => (by have := h.2.1; omega)⟩, _, rfl⟩
      have g1 : decide ((q : Int) < (s.size : Int)) = true := by simpa using hlt
      have g2 : decide (q < s.size) = true := by simpa using hlt
      have g3 : (q : Int) < (s.size : Int) := by omega
      have g4 : (0 : Int) ≤ (q : Int) := by omega
      obtain ⟨ch, hch⟩ : ∃ ch, (s[q]'hlt).toNat = ch := ⟨_, rfl⟩
      have hdr : (natsOf s).drop q = ch :: (natsOf s).drop (q + 1) := by rw [nats_dropR s q hlt, hch]
      have Hdr := Lib.hid hdr
      clear hdr
      by_cases c124 : ch = 124
      · subst c124
        go_wp2
        go_quiet (fail)
        go_wp2
        go_meet
        case rel => exact ⟨false, rfl, Lib.hid ⟨fun h => (by cases h), fun h => (by have := h.2.2.1; rw [show ((q : Int)).toNat = q by omega, Hdr.out] at this; simp [isNextR] at this)⟩, _, rfl⟩
      have a1 : ((ch : Int) != 124) = true := by simp; omega
      have a2 : decide ((ch : Int) = 124) = false := by simp; omega
      have a3 : ((ch : Int) == 124) = false := by simp; omega
      have a4 : (ch == 124) = false := by simpa using c124
      have a5 : decide (ch = 124) = false := by simpa using c124
      by_cases c41 : ch = 41
      · subst c41
        go_wp2
        go_quiet (fail)
        go_wp2
        go_meet
        case rel => exact ⟨false, rfl, Lib.hid ⟨fun h => (by cases h), fun h => (by have := h.2.2.2; rw [show ((q : Int)).toNat = q by omega, Hdr.out] at this; simp [isNextR] at this)⟩, _, rfl⟩
      have b1 : ((ch : Int) != 41) = true := by simp; omega
      have b2 : decide ((ch : Int) = 41) = false := by simp; omega
      have b3 : ((ch : Int) == 41) = false := by simp; omega
      have b4 : (ch == 41) = false := by simpa using c41
      have b5 : decide (ch = 41) = false := by simpa using c41
      have Hc1 := Lib.hid c124
      have Hc2 := Lib.hid c41
      clear c124 c41
      go_wp2
      go_quiet (fail)
      go_wp2
      go_meet
      case rel => exact ⟨true, rfl, Lib.hid ⟨fun _ => ⟨by trivial, by simp; omega, by rw [show ((q : Int)).toNat = q by omega, Hdr.out]; simp [isNextR]; exact Hc1.out, by rw [show ((q : Int)).toNat = q by omega, Hdr.out]; simp [isNextR]; exact Hc2.out⟩, fun _ => rfl⟩, _, rfl⟩
    case rest =>
      obtain ⟨en, rfl, Hen, k0, hwk⟩ := hcut
      obtain ⟨w2, hw2⟩ : ∃ v2, v2 = wc := ⟨_, rfl⟩
      subst hw2
      have HRd2 : Hid (RdS w2 g s p1 b1) := Lib.hid (by rw [hwk]; exact HRd.out.drewN _)
      have HR2 : Hid (Blk w2 w.heap.size 27 #[.int .i64 0, .int .u64 0, .int .u64 0, .int .u64 0, .int .u64 0, .slice none 0 0, .int .i64 0, .int .i64 0]) := Lib.hid (by rw [hwk]; exact HR.out.drewN _)
      have HO2 : Hid (Only (fun x => x = g) w w2) := Lib.hid (by rw [hwk]; exact HO.out.drewN _)
      have Hrow2 : Hid (RowE (fun b => w.heap.size < b) w2 A m c l) := Lib.hid (by rw [hwk]; exact hrow.out.ext (ext_drewN (Below.refl _ _) _))
      have HA2 := HA
      clear hwk HRd HR HO hrow x0 x1 x2 HA
      cases en with
      | false =>
        have HT := Lib.hid (hS.out.last (fun h => by have := Hen.out.2 h; cases this))
        clear hS
        go_wp2_with fail
        refine (rseq_any (fun b => w.heap.size < b) A m c l _ Hrow2.out.len.symm (by rw [Hrow2.out.len]; exact Hrow2.out.le) Hrow2.out.cap (Hrow2.out.kids (T := fun b => w.heap.size < b) (fun b hb _ => hb.elim id (HA2.out b)))).mono ?_
        rintro e w8 ⟨cs8, rfl, hr8, hb8⟩
        have harr := reR_arr hr8
        have hR8 := HR2.out.ext hb8
        have HRd8 := Lib.hid (HRd2.out.ext hb8)
        have HO8 : Hid (Only (fun x => x = g) w w8) := Lib.hid (HO2.out.trans (Only.of_ext hb8) (fun _ _ h => h))
        have Hr8 := Lib.hid hr8
        clear hr8 hb8
        unfold reV
        go_wp2_with (refine wpList_store_re rfl _ _ rfl w.heap.size rfl rfl harr.1 rfl harr.2 hR8 ?_; intro w9 hB9 ho9)
        refine bodyPost_ret (results_re rfl _ _ w.heap.size _ _ rfl hB9 harr.1) rfl ?_
        exact ⟨seqE l, p1, b1, cs8, rfl, HO8.out.trans ho9 (fun i hi h => by omega), HRd8.out.only ho9 (by omega), (Hr8.out.only ho9 (fun b hb h => by omega)).mono (fun b hb _ => by omega), HT.out⟩
      | true =>
        obtain ⟨q, d, hb1, hp1, hq, hmq, hdf, hd4, hnx⟩ := hS.out.enter (Hen.out.1 rfl)
        subst hb1 hp1
        have Hnx := Lib.hid hnx
        have HCa := Lib.hid (HAt.out d w2 q hdf (by omega) hd4 HRd2.out)
        have Hs2 : Hid (w.heap.size < w2.heap.size) := Lib.hid HR2.out.lt
        have HlA : Hid (∀ b, inA A b → b < w2.heap.size) := Lib.hid (fun b hb => Hrow2.out.lt hb)
        have Hrow2 : Hid (RowE (fun b => w.heap.size < b ∧ b < w2.heap.size) w2 A m c l) := Lib.hid (Hrow2.out.mono (fun b hb hl => ⟨hb, hl⟩))
        clear hnx hS Hen
        go_wp2_with fail
        refine HCa.out.mono ?_
        rintro e w3 ⟨x, p3, b3, cs3, rfl, ho3, hRd3, hr3, hS3⟩
        have Hs3 : Hid (w2.heap.size ≤ w3.heap.size) := Lib.hid ho3.size
        have HR3 := Lib.hid (HR2.out.only ho3 (by omega))
        have HO3 : Hid (Only (fun x => x = g) w w3) := Lib.hid (HO2.out.trans ho3 (fun _ _ h => h))
        have Hrow3 := Lib.hid (Hrow2.out.only ho3 (fun b hb h => by have := HA2.out b h; omega) (fun b hb h => by have := h.1; omega))
        have HRd3 := Lib.hid hRd3
        have HS3 := Lib.hid hS3
        have Hr3 : Hid (ReR (fun b => b ≠ g ∧ w2.heap.size ≤ b) w3 x cs3) := Lib.hid (hr3.mono (fun b hb _ => ⟨by have := Hs2.out; omega, hb⟩))
        clear ho3 hRd3 hr3 hS3 HCa HRd2 HR2 HO2 Hrow2
        go_wp2_with fail
        refine (times_st w3 w2.heap.size Hs3.out g s hs _ x p3 b3 cs3 HS3.out HRd3.out Hr3.out).mono ?_
        rintro e w4 ⟨y, p4, b4, cs4, he, ho4, hRd4, hr4, hS4⟩
        have Hs4 : Hid (w3.heap.size ≤ w4.heap.size) := Lib.hid ho4.size
        have HR4 := Lib.hid (HR3.out.only ho4 (by omega))
        have HO4 : Hid (Only (fun x => x = g) w w4) := Lib.hid (HO3.out.trans ho4 (fun _ _ h => h))
        have Hrow4 := Lib.hid (Hrow3.out.only ho4 (fun b hb h => by have := HA2.out b h; omega) (fun b hb h => by have := h.1; omega))
        have HRd4 := Lib.hid hRd4
        have HSn := Lib.hid (Hnx.out _ _ _ hS4)
        have harr := reR_arr hr4
        obtain ⟨v0, v1, v2, v3, v4, v5, v6, v7, hcs⟩ := arr_eight harr.1
        have hone := harr.2
        rw [hcs] at hone
        have he2 : e = .returned (.agg #[v0, v1, v2, v3, v4, v5, v6, v7]) := by rw [he, reV, hcs]
        subst he2
        have hcl : cs4 = [v0, v1, v2, v3, v4, v5, v6, v7] := by have := congrArg Array.toList hcs; simpa using this
        subst hcl
        have hones : ∀ u ∈ [v0, v1, v2, v3, v4, v5, v6, v7], u.oneCell' = true := by
          have h9 := hone
          rw [Array.all_eq_true'] at h9
          intro u hu
          exact h9 u (by simpa using hu)
        have Hones := Lib.hid hones
        clear harr hone hcs he hones
        have Hr4 := Lib.hid hr4
        have Hm1 : Hid (m + 1 ≤ maxLen) := Lib.hid (by unfold maxLen; omega)
        have Hm2 : Hid ((m + 1) * 80 ≤ 140737488355328) := Lib.hid (by omega)
        clear ho4 hRd4 hr4 hS4 HR3 HO3 Hrow3 HRd3 HS3 Hr3 Hnx
        obtain ⟨xs, hxs, hxl, hxp⟩ := Hrow4.out.ext ((Below.refl w4.heap.size w4).alloc (Nat.le_refl _) (Obj.cells #[v0, v1, v2, v3, v4, v5, v6, v7] 27))
        go_wp2_with (refine wpList_appO _ rfl (.tmp 45) (.tmp 50) _ rfl _ _ 8 80 Tryd.underlying25 info_re rfl A m c xs rfl hxs (some ⟨w4.heap.size, 0, none⟩) 1 1 [v0, v1, v2, v3, v4, v5, v6, v7] rfl rfl (Rd.lit w4 #[v0, v1, v2, v3, v4, v5, v6, v7] 27) Hones.out (by intro h; cases h) Hm1.out Hm2.out ?_; intro A7 c7 w7 hrow7 honly7 hA7)
        have hr6 : ReR (fun b => (w.heap.size < b ∧ b < w2.heap.size ∨ (b ≠ g ∧ w2.heap.size ≤ b)) ∧ ¬ inA A b) (w4.alloc (Obj.cells #[v0, v1, v2, v3, v4, v5, v6, v7] 27)) y [v0, v1, v2, v3, v4, v5, v6, v7] :=
          (Hr4.out.ext ((Below.refl _ _).alloc (Nat.le_refl _) _)).mono (fun b hb _ => ⟨.inr hb, fun hin => by have := HlA.out b hin; have := hb.2; omega⟩)
        have hN := RowE.grow (S := fun b => w.heap.size < b ∧ b < w2.heap.size ∨ (b ≠ g ∧ w2.heap.size ≤ b)) (x := y) hr6 hxs hxl (fun k hk => (hxp k hk).mono (fun b hb _ => ⟨.inl hb.1, hb.2⟩)) hrow7 honly7 hA7
        have HN : Hid (RowE (fun b => w.heap.size < b) w7 A7 (m + 1) c7 (l ++ [y])) := Lib.hid (hN.mono (fun b hb _ => by have := Hs2.out; omega))
        have HA7 : Hid (∀ b, inA A7 b → w.heap.size < b) := Lib.hid (fun b hb => (hA7 b hb).elim (HA2.out b) (fun h => by have := h.1; simp at this; have := Hs2.out; have := Hs3.out; have := Hs4.out; omega))
        have HRd7 := Lib.hid ((HRd4.out.alloc (Obj.cells #[v0, v1, v2, v3, v4, v5, v6, v7] 27)).only honly7 (fun h => by have := HA2.out _ h; omega))
        have HR7 := Lib.hid ((HR4.out.alloc (Obj.cells #[v0, v1, v2, v3, v4, v5, v6, v7] 27)).only honly7 (fun h => by have := HA2.out _ h; omega))
        have HO7 : Hid (Only (fun x => x = g) w w7) := Lib.hid ((HO4.out.alloc (Obj.cells #[v0, v1, v2, v3, v4, v5, v6, v7] 27)).trans honly7 (fun i hi h => by have := HA2.out _ h; omega))
        clear hr6 hN hrow7 honly7 hA7 hxs hxl hxp
        go_wp2
        go_roundw
        case rel => exact ⟨A7, m + 1, c7, l ++ [y], p4, b4, rfl, by omega, HRd7.out, HN, HA7, HR7.out, HO7.out, HSn⟩
        case measure => simp only [lenV]; omega

/-! ### alternatives -/
def StAlt (s : ByteArray) (T : PR Ex) (f m : Nat) (l : List Ex) (p b : Int) : Prop :=
  (b = -1 ∧ ∃ q f' : Nat, q ≤ s.size ∧ p = (q : Int) ∧ m ≤ q + 1 ∧ T = moreP f' l ((natsOf s).drop q) ∧ 4 * (s.size - q) + 3 ≤ f' ∧ f' < f) ∨ (∃ left : Nat, left ≤ s.size ∧ b = ((s.size - left : Nat) : Int) ∧ (∃ k : Nat, p = (k : Int) ∧ k ≤ s.size + 8) ∧ T = .bad left)
theorem StAlt.stand {s : ByteArray} {T : PR Ex} {f m : Nat} {l : List Ex} {p b : Int} (h : StAlt s T f m l p b) : Stand s p b := by
  rcases h with ⟨h1, q, f', h2, h3, _⟩ | ⟨l, _, h2, _⟩
  · exact .inl ⟨h1, q, h2, h3⟩
  · exact .inr (by omega)
theorem StAlt.last {s : ByteArray} {T : PR Ex} {f m : Nat} {l : List Ex} {p b : Int} (h : StAlt s T f m l p b) (he : ¬ (b = -1 ∧ isNextR 124 ((natsOf s).drop p.toNat) = true)) : StG 8 s T (altE l) p b := by
  rcases h with ⟨h1, q, f', h2, h3, h4, h5, h6, h7⟩ | ⟨left, h1, h2, h3, h4⟩
  · refine .inl ⟨h1, q, h2, h3, ?_⟩
    obtain ⟨d, rfl⟩ : ∃ d, f' = d + 1 := ⟨f' - 1, by omega⟩
    have hp : p.toNat = q := by omega
    rw [hp] at he
    rw [h5]
    simp only [moreP]
    split
    · rename_i heq
      exact absurd ⟨h1, by rw [heq]; simp [isNextR]⟩ he
    · rfl
  · exact .inr ⟨left, h1, h2, h3, h4⟩
theorem StAlt.enter {s : ByteArray} {T : PR Ex} {f m : Nat} {l : List Ex} {p b : Int} (h : StAlt s T f m l p b) (he : b = -1 ∧ isNextR 124 ((natsOf s).drop p.toNat) = true) :
    ∃ q d : Nat, b = -1 ∧ p = (q : Int) ∧ q < s.size ∧ m ≤ q + 1 ∧ d < f ∧ 4 * (s.size - (q + 1)) + 3 ≤ d ∧ ∀ (y : Ex) (p' b' : Int), StG 8 s (rowP d [] ((natsOf s).drop (q + 1))) y p' b' → StAlt s T f (m + 1) (l ++ [y]) p' b' := by
  rcases h with ⟨h1, q, f', h2, h3, h4, h5, h6, h7⟩ | ⟨left, h1, h2, h3, h4⟩
  · obtain ⟨d, rfl⟩ : ∃ d, f' = d + 1 := ⟨f' - 1, by omega⟩
    have hp : p.toNat = q := by omega
    have he2 := he.2
    rw [hp] at he2
    obtain ⟨hq, hdr⟩ := isNext_at s q 124 h2 he2
    have hT : T = (rowP d [] ((natsOf s).drop (q + 1))).bind fun y l2 => moreP d (l ++ [y]) l2 := by
      rw [h5, hdr]
      simp only [moreP]
    refine ⟨q, d, h1, h3, hq, h4, by omega, by omega, fun y p' b' hS => ?_⟩
    rcases hS with ⟨k1, q2, k2, k3, k4⟩ | ⟨left, k1, k2, k3, k4⟩
    · have hlq := nats_lenR s (q + 1)
      have e5 := (len_Q d).2.1 _ _ _ _ (((eq_Q d).2.1 _ _ (by omega)).trans k4)
      rw [nats_lenR, nats_lenR] at e5
      refine .inl ⟨k1, q2, d, k2, k3, by omega, ?_, by omega, by omega⟩
      rw [hT, k4]
      rfl
    · refine .inr ⟨left, k1, k2, k3, ?_⟩
      rw [hT, k4]
      rfl
  · exact absurd he.1 (by omega)
theorem StAlt.start {s : ByteArray} {f p : Nat} {y : Ex} {p' b' : Int} (hf : 4 * (s.size - p) + 4 ≤ f + 1) (hp : p ≤ s.size) (hS : StG 8 s (rowP f [] ((natsOf s).drop p)) y p' b') : StAlt s (altsP (f + 1) ((natsOf s).drop p)) (f + 1) 1 [y] p' b' := by
  have hT : altsP (f + 1) ((natsOf s).drop p) = (rowP f [] ((natsOf s).drop p)).bind fun x l1 => moreP f [x] l1 := by simp only [altsP]
  rcases hS with ⟨k1, q2, k2, k3, k4⟩ | ⟨left, k1, k2, k3, k4⟩
  · have hlq := nats_lenR s p
    have e5 := (len_Q f).2.1 _ _ _ _ (((eq_Q f).2.1 _ _ (by omega)).trans k4)
    rw [nats_lenR, nats_lenR] at e5
    refine .inl ⟨k1, q2, f, k2, k3, by omega, ?_, by omega, by omega⟩
    rw [hT, k4]
    rfl
  · refine .inr ⟨left, k1, k2, k3, ?_⟩
    rw [hT, k4]
    rfl

set_option maxHeartbeats 16000000 in
theorem ralts_of (f : Nat) (w : World) (g : Nat) (s : ByteArray) (p : Nat) (hs : s.size ≤ 1000000) (hp : p ≤ s.size) (h : RdS w g s (p : Int) (-1)) (hf : 4 * (s.size - p) + 4 ≤ f)
    (hRo : ∀ f' W q, f' < f → q ≤ s.size → 4 * (s.size - q) + 3 ≤ f' → RdS W g s ((q : Nat) : Int) (-1) → Calls Tryd.prog 74 #[.pointer (some ⟨g, 0, none⟩)] W (TkR W.heap.size W g s (rowP f' [] ((natsOf s).drop q)))) :
    Calls Tryd.prog 58 #[.pointer (some ⟨g, 0, none⟩)] w (TkR w.heap.size w g s (altsP f ((natsOf s).drop p))) := by
  have hgl := h.lt
  have hsi : (s.size : Int) ≤ 1000000 := by omega
  have HRd := Lib.hid (h.alloc (Obj.cells #[.int .i64 0, .int .u64 0, .int .u64 0, .int .u64 0, .int .u64 0, .slice none 0 0, .int .i64 0, .int .i64 0] 27))
  have HR := Lib.hid (Blk.new w 27 #[.int .i64 0, .int .u64 0, .int .u64 0, .int .u64 0, .int .u64 0, .slice none 0 0, .int .i64 0, .int .i64 0])
  have HO1 : Hid (Only (fun x => x = g) w (w.alloc (Obj.cells #[.int .i64 0, .int .u64 0, .int .u64 0, .int .u64 0, .int .u64 0, .slice none 0 0, .int .i64 0, .int .i64 0] 27))) := Lib.hid ((Only.refl _ _).alloc _)
  obtain ⟨f0, rfl⟩ : ∃ f0, f = f0 + 1 := ⟨f - 1, by omega⟩
  have HRo := Lib.hid hRo
  have HC0 := Lib.hid (hRo f0 _ p (by omega) hp (by omega) HRd.out)
  have Hf := Lib.hid hf
  obtain ⟨T, hT⟩ : ∃ T, altsP (f0 + 1) ((natsOf s).drop p) = T := ⟨_, rfl⟩
  rw [hT]
  have HTe := Lib.hid hT
  clear h hRo hf hT
  go_enter Tryd.func58, Tryd.ntmps58
  go_wp2_with fail
  refine HC0.out.mono ?_
  rintro e w3 ⟨y, p3, b3, cs3, he, ho3, hRd3, hr3, hS3⟩
  have Hs3 : Hid (w.heap.size < w3.heap.size) := Lib.hid (by have := ho3.size; simp at this; omega)
  have HR3 := Lib.hid (HR.out.only ho3 (by omega))
  have HO3 : Hid (Only (fun x => x = g) w w3) := Lib.hid (HO1.out.trans ho3 (fun _ _ h => h))
  have HRd3 := Lib.hid hRd3
  have HS3 : Hid (StAlt s T (f0 + 1) 1 [y] p3 b3) := Lib.hid (by rw [← HTe.out]; exact StAlt.start Hf.out hp hS3)
  have harr := reR_arr hr3
  obtain ⟨v0, v1, v2, v3, v4, v5, v6, v7, hcs⟩ := arr_eight harr.1
  have hone := harr.2
  rw [hcs] at hone
  have he2 : e = .returned (.agg #[v0, v1, v2, v3, v4, v5, v6, v7]) := by rw [he, reV, hcs]
  subst he2
  have hcl : cs3 = [v0, v1, v2, v3, v4, v5, v6, v7] := by have := congrArg Array.toList hcs; simpa using this
  subst hcl
  have hones : ∀ u ∈ [v0, v1, v2, v3, v4, v5, v6, v7], u.oneCell' = true := by
    have h9 := hone
    rw [Array.all_eq_true'] at h9
    intro u hu
    exact h9 u (by simpa using hu)
  have Hones := Lib.hid hones
  clear harr hone hcs he hones
  have Hrow3 : Hid (RowE (fun b => w.heap.size < b) (w3.alloc (Obj.cells #[v0, v1, v2, v3, v4, v5, v6, v7] 27)) (some ⟨w3.heap.size, 0, none⟩) 1 1 [y]) := Lib.hid (RowE.one w3 (hr3.mono (fun b hb _ => by simp at hb; omega)))
  have HA3 : Hid (∀ b, inA (some ⟨w3.heap.size, 0, none⟩) b → w.heap.size < b) := Lib.hid (fun b hb => by have := (inA_some _ _ _ _).1 hb; have := Hs3.out; omega)
  clear ho3 hRd3 hr3 hS3 HC0 HRd HR HO1 HTe Hones
  go_wp2
  go_loopw [3] (fun v wr => ∃ (A : Option Addr) (m c : Nat) (l : List Ex) (p1 b1 : Int), v = .slice A m c ∧ m ≤ s.size + 2 ∧ RdS wr g s p1 b1 ∧ Hid (RowE (fun b => w.heap.size < b) wr A m c l) ∧ Hid (∀ b, inA A b → w.heap.size < b) ∧ Blk wr w.heap.size 27 #[.int .i64 0, .int .u64 0, .int .u64 0, .int .u64 0, .int .u64 0, .slice none 0 0, .int .i64 0, .int .i64 0] ∧ Only (fun x => x = g) w wr ∧ Hid (StAlt s T (f0 + 1) m l p1 b1)) (fun v _ => s.size + 3 - lenV v)
  case atStart => exact ⟨some ⟨w3.heap.size, 0, none⟩, 1, 1, [y], p3, b3, rfl, by omega, HRd3.out.alloc _, Hrow3, HA3, HR3.out.alloc _, HO3.out.alloc _, HS3⟩
  case round =>
    clear HRd3 Hrow3 HA3 HR3 HO3 HS3
    obtain ⟨A, m, c, l, p1, b1, rfl, hm, hRd, hrow, HA2, hR, hO, hS⟩ := hrel
    have HRd := Lib.hid hRd
    have HR := Lib.hid hR
    have HO := Lib.hid hO
    have Hm := Lib.hid hm
    clear hRd hR hO hm
    go_wp2_with fail
    refine (next_st _ g s p1 b1 124 hs hS.out.stand HRd.out).mono ?_
    rintro e wx ⟨nx, rfl, ⟨n6, hwx⟩, hnx⟩
    have Hnx0 := Lib.hid hnx
    have HRd2 : Hid (RdS wx g s p1 b1) := Lib.hid (by rw [hwx]; exact HRd.out.drewN _)
    have HR2 : Hid (Blk wx w.heap.size 27 #[.int .i64 0, .int .u64 0, .int .u64 0, .int .u64 0, .int .u64 0, .slice none 0 0, .int .i64 0, .int .i64 0]) := Lib.hid (by rw [hwx]; exact HR.out.drewN _)
    have HO2 : Hid (Only (fun x => x = g) w wx) := Lib.hid (by rw [hwx]; exact HO.out.drewN _)
    have Hrow2 : Hid (RowE (fun b => w.heap.size < b) wx A m c l) := Lib.hid (by rw [hwx]; exact hrow.out.ext (ext_drewN (Below.refl _ _) _))
    clear hwx HRd HR HO hrow hnx
    cases nx with
    | false =>
      have HT := Lib.hid (hS.out.last (fun h => by have := Hnx0.out.2 h; cases this))
      clear hS
      go_wp2_with fail
      refine (ralt_any (fun b => w.heap.size < b) A m c l _ Hrow2.out.len.symm (by rw [Hrow2.out.len]; exact Hrow2.out.le) Hrow2.out.cap (Hrow2.out.kids (T := fun b => w.heap.size < b) (fun b hb _ => hb.elim id (HA2.out b)))).mono ?_
      rintro e w8 ⟨cs8, rfl, hr8, hb8⟩
      have harr := reR_arr hr8
      have hR8 := HR2.out.ext hb8
      have HRd8 := Lib.hid (HRd2.out.ext hb8)
      have HO8 : Hid (Only (fun x => x = g) w w8) := Lib.hid (HO2.out.trans (Only.of_ext hb8) (fun _ _ h => h))
      have Hr8 := Lib.hid hr8
      clear hr8 hb8
      unfold reV
      go_wp2_with (refine wpList_store_re rfl _ _ rfl w.heap.size rfl rfl harr.1 rfl harr.2 hR8 ?_; intro w9 hB9 ho9)
      refine bodyPost_ret (results_re rfl _ _ w.heap.size _ _ rfl hB9 harr.1) rfl ?_
      exact ⟨altE l, p1, b1, cs8, rfl, HO8.out.trans ho9 (fun i hi h => by omega), HRd8.out.only ho9 (by omega), (Hr8.out.only ho9 (fun b hb h => by omega)).mono (fun b hb _ => by omega), HT.out⟩
    | true =>
      obtain ⟨q, d, hb1, hp1, hq, hmq, hdf, hd4, hnx⟩ := hS.out.enter (Hnx0.out.1 rfl)
      subst hb1 hp1
      have Hnx := Lib.hid hnx
      have hqi : (q : Int) < (s.size : Int) := by omega
      have x1 := HRd2.out.c1
      have f1 := HRd2.out.f1
      obtain ⟨w2, hw2⟩ : ∃ w2, w2 = wx.setCell ⟨g, 1, none⟩ (.int .i64 ((q : Int) + 1)) := ⟨_, rfl⟩
      have HRdb : Hid (RdS w2 g s ((q + 1 : Nat) : Int) (-1)) := Lib.hid (by rw [hw2]; exact RdS.to (HRd2.out.set1 _) (by omega) rfl)
      have HRb : Hid (Blk w2 w.heap.size 27 #[.int .i64 0, .int .u64 0, .int .u64 0, .int .u64 0, .int .u64 0, .slice none 0 0, .int .i64 0, .int .i64 0]) := Lib.hid (by rw [hw2]; exact HR2.out.far (by simp; omega) _)
      have HOb : Hid (Only (fun x => x = g) w w2) := Lib.hid (by rw [hw2]; exact HO2.out.setCell (p := ⟨g, 1, none⟩) (.inl rfl) _)
      have hset : Only (fun x => x = g) wx w2 := by rw [hw2]; exact (Only.refl (fun x => x = g) wx).setCell (p := ⟨g, 1, none⟩) (.inl rfl) _
      have Hrowb : Hid (RowE (fun b => w.heap.size < b ∧ b < w2.heap.size) w2 A m c l) := Lib.hid ((Hrow2.out.only hset (fun b hb h => by have := HA2.out b h; omega) (fun b hb h => by omega)).mono (fun b hb hl => ⟨hb, hl⟩))
      have HlA : Hid (∀ b, inA A b → b < w2.heap.size) := Lib.hid (fun b hb => Hrowb.out.lt hb)
      have HCa := Lib.hid (HRo.out d w2 (q + 1) hdf (by omega) hd4 HRdb.out)
      have Hs2 : Hid (w.heap.size < w2.heap.size) := Lib.hid HRb.out.lt
      have Hw2 := Lib.hid hw2
      clear hnx hS Hnx0 hset hw2 Hrow2 HRd2 HR2 HO2
      go_wp2_with fail
      rw [← Hw2.out]
      refine HCa.out.mono ?_
      rintro e w4 ⟨y, p4, b4, cs4, he, ho4, hRd4, hr4, hS4⟩
      have Hs4 : Hid (w2.heap.size ≤ w4.heap.size) := Lib.hid ho4.size
      have HR4 := Lib.hid (HRb.out.only ho4 (by omega))
      have HO4 : Hid (Only (fun x => x = g) w w4) := Lib.hid (HOb.out.trans ho4 (fun _ _ h => h))
      have Hrow4 := Lib.hid (Hrowb.out.only ho4 (fun b hb h => by have := HA2.out b h; omega) (fun b hb h => by have := h.1; omega))
      have HRd4 := Lib.hid hRd4
      have HSn := Lib.hid (Hnx.out _ _ _ hS4)
      have harr := reR_arr hr4
      obtain ⟨v0, v1, v2, v3, v4, v5, v6, v7, hcs⟩ := arr_eight harr.1
      have hone := harr.2
      rw [hcs] at hone
      have he2 : e = .returned (.agg #[v0, v1, v2, v3, v4, v5, v6, v7]) := by rw [he, reV, hcs]
      subst he2
      have hcl : cs4 = [v0, v1, v2, v3, v4, v5, v6, v7] := by have := congrArg Array.toList hcs; simpa using this
      subst hcl
      have hones : ∀ u ∈ [v0, v1, v2, v3, v4, v5, v6, v7], u.oneCell' = true := by
        have h9 := hone
        rw [Array.all_eq_true'] at h9
        intro u hu
        exact h9 u (by simpa using hu)
      have Hones := Lib.hid hones
      clear harr hone hcs he hones
      have Hr4 := Lib.hid hr4
      have Hm1 : Hid (m + 1 ≤ maxLen) := Lib.hid (by unfold maxLen; omega)
      have Hm2 : Hid ((m + 1) * 80 ≤ 140737488355328) := Lib.hid (by omega)
      clear ho4 hRd4 hr4 hS4 HRb HOb Hrowb HRdb Hnx HCa Hw2 x1 f1
      obtain ⟨xs, hxs, hxl, hxp⟩ := Hrow4.out.ext ((Below.refl w4.heap.size w4).alloc (Nat.le_refl _) (Obj.cells #[v0, v1, v2, v3, v4, v5, v6, v7] 27))
      go_wp2_with (refine wpList_appO _ rfl (.tmp 16) (.tmp 19) _ rfl _ _ 8 80 Tryd.underlying25 info_re rfl A m c xs rfl hxs (some ⟨w4.heap.size, 0, none⟩) 1 1 [v0, v1, v2, v3, v4, v5, v6, v7] rfl rfl (Rd.lit w4 #[v0, v1, v2, v3, v4, v5, v6, v7] 27) Hones.out (by intro h; cases h) Hm1.out Hm2.out ?_; intro A7 c7 w7 hrow7 honly7 hA7)
      have hr6 : ReR (fun b => (w.heap.size < b ∧ b < w2.heap.size ∨ w2.heap.size ≤ b) ∧ ¬ inA A b) (w4.alloc (Obj.cells #[v0, v1, v2, v3, v4, v5, v6, v7] 27)) y [v0, v1, v2, v3, v4, v5, v6, v7] :=
        (Hr4.out.ext ((Below.refl _ _).alloc (Nat.le_refl _) _)).mono (fun b hb _ => ⟨.inr hb, fun hin => by have := HlA.out b hin; omega⟩)
      have hN := RowE.grow (S := fun b => w.heap.size < b ∧ b < w2.heap.size ∨ w2.heap.size ≤ b) (x := y) hr6 hxs hxl (fun k hk => (hxp k hk).mono (fun b hb _ => ⟨.inl hb.1, hb.2⟩)) hrow7 honly7 hA7
      have HN : Hid (RowE (fun b => w.heap.size < b) w7 A7 (m + 1) c7 (l ++ [y])) := Lib.hid (hN.mono (fun b hb _ => by have := Hs2.out; omega))
      have HA7 : Hid (∀ b, inA A7 b → w.heap.size < b) := Lib.hid (fun b hb => (hA7 b hb).elim (HA2.out b) (fun h => by have := h.1; simp at this; have := Hs2.out; have := Hs4.out; omega))
      have HRd7 := Lib.hid ((HRd4.out.alloc (Obj.cells #[v0, v1, v2, v3, v4, v5, v6, v7] 27)).only honly7 (fun h => by have := HA2.out _ h; omega))
      have HR7 := Lib.hid ((HR4.out.alloc (Obj.cells #[v0, v1, v2, v3, v4, v5, v6, v7] 27)).only honly7 (fun h => by have := HA2.out _ h; omega))
      have HO7 : Hid (Only (fun x => x = g) w w7) := Lib.hid ((HO4.out.alloc (Obj.cells #[v0, v1, v2, v3, v4, v5, v6, v7] 27)).trans honly7 (fun i hi h => by have := HA2.out _ h; omega))
      clear hr6 hN hrow7 honly7 hA7 hxs hxl hxp
      go_wp2
      go_roundw
      case rel => exact ⟨A7, m + 1, c7, l ++ [y], p4, b4, rfl, by omega, HRd7.out, HN, HA7, HR7.out, HO7.out, HSn⟩
      case measure => simp only [lenV]; omega

/-- all of them -/
theorem ralts_any (s : ByteArray) (hs : s.size ≤ 1000000) (g : Nat) : ∀ f, (∀ W q, q ≤ s.size → 4 * (s.size - q) + 2 ≤ f → RdS W g s ((q : Nat) : Int) (-1) → Calls Tryd.prog 92 #[.pointer (some ⟨g, 0, none⟩)] W (TkR W.heap.size W g s (atomP f ((natsOf s).drop q)))) ∧
    (∀ W q, q ≤ s.size → 4 * (s.size - q) + 3 ≤ f → RdS W g s ((q : Nat) : Int) (-1) → Calls Tryd.prog 74 #[.pointer (some ⟨g, 0, none⟩)] W (TkR W.heap.size W g s (rowP f [] ((natsOf s).drop q)))) ∧
    (∀ W q, q ≤ s.size → 4 * (s.size - q) + 4 ≤ f → RdS W g s ((q : Nat) : Int) (-1) → Calls Tryd.prog 58 #[.pointer (some ⟨g, 0, none⟩)] W (TkR W.heap.size W g s (altsP f ((natsOf s).drop q)))) := by
  intro f
  induction f using Nat.strongRecOn with
  | ind f ih =>
    refine ⟨fun W q hq hf hW => ?_, fun W q hq hf hW => ?_, fun W q hq hf hW => ?_⟩
    · obtain ⟨d, rfl⟩ : ∃ d, f = d + 1 := ⟨f - 1, by omega⟩
      exact ratom_of d W g s q hs hq hW (fun W' _ hq1 hPW => (ih d (by omega)).2.2 W' (q + 1) hq1 (by omega) hPW)
    · exact rrow_of f W g s q hs hq hW hf (fun f' W' q' hf' hq' hb hPW => (ih f' hf').1 W' q' hq' hb hPW)
    · exact ralts_of f W g s q hs hq hW hf (fun f' W' q' hf' hq' hb hPW => (ih f' hf').2.1 W' q' hq' hb hPW)
end Go.Proofs.YtgknlegomoaoeaaDoor

/-
  The mathematics of texts that are parsed: how many nodes an expression has that was parsed. No statement of the seat is proved here.
-/
namespace Go.Proofs.YtgknlegomoaoeaaDoor
open Go

theorem nodes_seq (l : List Ex) : nodesE (seqE l) ≤ 1 + nodesL l := by
  match l with
  | [] => simp [seqE, emptyE, nodesE, nodesL]
  | [x] => simp [seqE, nodesL]
  | x :: y :: r => simp [seqE, nodesE]
theorem nodes_alt (l : List Ex) : nodesE (altE l) ≤ 1 + nodesL l := by
  match l with
  | [] => simp [altE, emptyE, nodesE, nodesL]
  | [x] => simp [altE, nodesL]
  | x :: y :: r => simp [altE, nodesE]
theorem nodes_class {l r : List Nat} {x : Ex} (h : classP l = .ok x r) : nodesE x = 1 := by
  obtain ⟨s, l1, h1, h2⟩ := PR.bind_ok h
  have key : ∀ s' : List Nat, (if s' = zeroB then PR.bad l1.length else .ok (classE s') l1.tail) = PR.ok x r → nodesE x = 1 := by
    intro s' h
    split at h
    · cases h
    · injection h with h3 h4
      rw [← h3]
      simp [classE, nodesE, nodesL]
  exact key _ h2
theorem nodes_again {x y : Ex} {lo hi : Int} {l r : List Nat} (h : againP x lo hi l = .ok y r) : nodesE y = 1 + nodesE x ∧ r = l := by
  unfold againP at h
  split at h
  · cases h
  · injection h with h3 h4
    rw [← h3]
    exact ⟨by simp [nodesE, nodesL], h4.symm⟩
theorem nodes_times {x y : Ex} {l r : List Nat} (h : timesP x l = .ok y r) : nodesE y + 3 * r.length ≤ nodesE x + 3 * l.length := by
  unfold timesP at h
  split at h
  · obtain ⟨h1, rfl⟩ := nodes_again h
    simp; omega
  · obtain ⟨h1, rfl⟩ := nodes_again h
    simp; omega
  · obtain ⟨h1, rfl⟩ := nodes_again h
    simp; omega
  · obtain ⟨p, l2, h1, h2⟩ := PR.bind_ok h
    have := len_curlyP h1
    obtain ⟨h3, rfl⟩ := nodes_again h2
    simp; omega
  · injection h with h3 h4
    rw [← h3, ← h4]
    exact Nat.le_refl _
theorem nodes_P : ∀ f, (∀ l x r, atomP f l = .ok x r → nodesE x + 3 * r.length ≤ 3 * l.length) ∧ (∀ acc l x r, rowP f acc l = .ok x r → nodesE x + 3 * r.length ≤ 3 * l.length + 1 + nodesL acc) ∧ (∀ l x r, altsP f l = .ok x r → nodesE x + 3 * r.length ≤ 3 * l.length + 2) ∧ (∀ acc l x r, moreP f acc l = .ok x r → nodesE x + 3 * r.length ≤ 3 * l.length + 1 + nodesL acc) := by
  intro f
  induction f with
  | zero =>
    refine ⟨?_, ?_, ?_, ?_⟩
    · intro l x r h; simp only [atomP] at h; cases h
    · intro acc l x r h; simp only [rowP] at h; cases h
    · intro l x r h; simp only [altsP] at h; cases h
    · intro acc l x r h; simp only [moreP] at h; cases h
  | succ f ih =>
    obtain ⟨iA, iR, iL, iM⟩ := ih
    refine ⟨?_, ?_, ?_, ?_⟩
    · intro l x r h
      simp only [atomP] at h
      split at h
      · injection h with h3 h4
        rw [← h3, ← h4]
        simp [dotE, classE, nodesE, nodesL]; omega
      · obtain ⟨y, l2, h1, h2⟩ := PR.bind_ok h
        have := iL _ _ _ h1
        split at h2
        · injection h2 with h3 h4
          subst h3 h4
          simp at this ⊢; omega
        · cases h2
      · have h1 := len_classP h
        have h2 := nodes_class h
        simp; omega
      · obtain ⟨y, l2, h1, h2⟩ := PR.bind_ok h
        have h3 := len_byteP h1
        injection h2 with h4 h5
        subst h4 h5
        simp [byteE, classE, nodesE, nodesL]; omega
    · intro acc l x r h
      simp only [rowP] at h
      split at h
      · injection h with h3 h4
        subst h3 h4
        have := nodes_seq acc
        omega
      · obtain ⟨y, l1, h1, h2⟩ := PR.bind_ok h
        obtain ⟨z, l2, h3, h4⟩ := PR.bind_ok h2
        have a1 := iA _ _ _ h1
        have a2 := nodes_times h3
        have a3 := iR _ _ _ _ h4
        rw [nodesL_append] at a3
        simp only [nodesL] at a3
        omega
    · intro l x r h
      simp only [altsP] at h
      obtain ⟨y, l1, h1, h2⟩ := PR.bind_ok h
      have a1 := iR _ _ _ _ h1
      have a2 := iM _ _ _ _ h2
      simp only [nodesL] at a1 a2
      omega
    · intro acc l x r h
      simp only [moreP] at h
      split at h
      · obtain ⟨y, l1, h1, h2⟩ := PR.bind_ok h
        have a1 := iR _ _ _ _ h1
        have a2 := iM _ _ _ _ h2
        rw [nodesL_append] at a2
        simp only [nodesL] at a1 a2
        simp; omega
      · injection h with h3 h4
        subst h3 h4
        have := nodes_alt acc
        omega
end Go.Proofs.YtgknlegomoaoeaaDoor

/-
  Contract of the reference's Parse. No statement of the seat is proved here.
-/
namespace Go.Proofs.YtgknlegomoaoeaaDoor
open Go Go.RowKit
set_option maxRecDepth 100000

set_option maxHeartbeats 16000000 in
theorem rparse_any (s : ByteArray) (hs : s.size ≤ 1000000) (w : World) :
    Calls Tryd.prog 33 #[.string s] w fun e w' => ParseAns w.heap.size (parseE (natsOf s)) e w' ∧ Below w.heap.size w w' := by
  have hln := natsOf_len s
  have hsi : (s.size : Int) ≤ 1000000 := by omega
  rcases Nat.lt_or_ge 1024 s.size with hlong | hshort
  · have hP : parseE (natsOf s) = (emptyE, 0, 3) := by unfold parseE; rw [if_pos (by omega)]
    rw [hP]
    have hli : (1024 : Int) < (s.size : Int) := by omega
    have hli2 : 1024 < s.size := hlong
    have hwz := fun W => empty_re (fun b => w.heap.size ≤ b) W
    have Hwz := Lib.hid hwz
    clear hP hwz hln hlong
    go_enter Tryd.func33, Tryd.ntmps33
    go_wp2_with (refine wpList_store_re rfl _ _ rfl w.heap.size rfl rfl rfl rfl zeroA_one (Blk.new w 27 #[.int .i64 0, .int .u64 0, .int .u64 0, .int .u64 0, .int .u64 0, .slice none 0 0, .int .i64 0, .int .i64 0]) ?_; intro w9 hB9 ho9)
    refine bodyPost_ret (results_re3 rfl _ _ w.heap.size _ _ rfl rfl hB9) rfl ?_
    exact ⟨⟨_, rfl, Hwz.out _⟩, ((Below.refl w.heap.size w).alloc (Nat.le_refl _) _).trans (ho9.below (fun i hi => by omega) (by simp))⟩
  have hsh : (s.size : Int) ≤ 1024 := by omega
  have hsh2 : s.size ≤ 1024 := hshort
  have hP : parseE (natsOf s) = match altsP (fuelP (natsOf s)) (natsOf s) with
      | .bad n => (emptyE, (natsOf s).length - n, 2)
      | .ok x rest => if rest ≠ [] then (emptyE, (natsOf s).length - rest.length, 2) else if isE x then (x, 0, 0) else (emptyE, 0, 3) := by
    unfold parseE
    rw [if_neg (by omega)]
    cases altsP (fuelP (natsOf s)) (natsOf s) <;> rfl
  rw [hln] at hP
  have hd0 : (natsOf s).drop 0 = natsOf s := List.drop_zero
  obtain ⟨w1, hw1⟩ : ∃ w1, w1 = (w.alloc (Obj.cells #[.int .i64 0, .int .u64 0, .int .u64 0, .int .u64 0, .int .u64 0, .slice none 0 0, .int .i64 0, .int .i64 0] 27)).alloc (Obj.cells #[.string s, .int .i64 0, .int .i64 (-1)] 98) := ⟨_, rfl⟩
  have hb1 : Below w.heap.size w w1 := by rw [hw1]; exact ext2 w _ _
  have hRd : RdS w1 (w.heap.size + 1) s ((0 : Nat) : Int) (-1) := by
    have := Blk.new (w.alloc (Obj.cells #[.int .i64 0, .int .u64 0, .int .u64 0, .int .u64 0, .int .u64 0, .slice none 0 0, .int .i64 0, .int .i64 0] 27)) 98 #[.string s, .int .i64 0, .int .i64 (-1)]
    rw [World.size_alloc] at this
    rw [hw1]
    exact this
  have hR1 : Blk w1 w.heap.size 27 #[.int .i64 0, .int .u64 0, .int .u64 0, .int .u64 0, .int .u64 0, .slice none 0 0, .int .i64 0, .int .i64 0] := by
    rw [hw1]
    exact (Blk.new w 27 _).alloc _
  have hal := (ralts_any s hs (w.heap.size + 1) (fuelP (natsOf s))).2.2 w1 0 (Nat.zero_le _) (by unfold fuelP; omega) hRd
  rw [hd0] at hal
  obtain ⟨T, hT⟩ : ∃ T, altsP (fuelP (natsOf s)) (natsOf s) = T := ⟨_, rfl⟩
  rw [hT] at hal hP
  have HTe := Lib.hid hT
  have Hal := Lib.hid hal
  have HP0 := Lib.hid hP
  have HR1 := Lib.hid hR1
  have Hb1 := Lib.hid hb1
  have Hw1 := Lib.hid hw1
  have Hz := Lib.hid (fun W => empty_re (fun b => w.heap.size ≤ b) W)
  have Hlt1 : Hid (w.heap.size + 1 < w1.heap.size) := Lib.hid hRd.lt
  clear hal hP hR1 hb1 hT hd0 hRd hln hw1
  go_enter Tryd.func33, Tryd.ntmps33
  go_wp2_with fail
  rw [← Hw1.out]
  refine Hal.out.mono ?_
  rintro e w3 ⟨x, p3, b3, cs3, he, ho3, hRd3, hr3, hS3⟩
  have HR3 := Lib.hid (HR1.out.only ho3 (by omega))
  have Hs3 : Hid (w1.heap.size ≤ w3.heap.size) := Lib.hid ho3.size
  have Hb3 : Hid (Below w.heap.size w w3) := Lib.hid (Hb1.out.trans (ho3.below (fun i hi => by omega) Hb1.out.size))
  have HRd3 := Lib.hid hRd3
  have harr := reR_arr hr3
  obtain ⟨v0, v1, v2, v3, v4, v5, v6, v7, hcs⟩ := arr_eight harr.1
  have hone := harr.2
  rw [hcs] at hone
  have he2 : e = .returned (.agg #[v0, v1, v2, v3, v4, v5, v6, v7]) := by rw [he, reV, hcs]
  subst he2
  have hcl : cs3 = [v0, v1, v2, v3, v4, v5, v6, v7] := by have := congrArg Array.toList hcs; simpa using this
  subst hcl
  have Hr3 : Hid (ReR (fun b => w1.heap.size ≤ b ∧ b < w3.heap.size) w3 x [v0, v1, v2, v3, v4, v5, v6, v7]) := Lib.hid (hr3.mono (fun b hb hl => ⟨hb, hl⟩))
  clear ho3 Hal hRd3 harr hcs he hr3
  have HR4 := Lib.hid (HR3.out.alloc (Obj.cells #[.int .i64 0, .int .u64 0, .int .u64 0, .int .u64 0, .int .u64 0, .slice none 0 0, .int .i64 0, .int .i64 0] 27))
  rcases hS3 with ⟨hb3, q, hq, hp3, hT3⟩ | ⟨left, hl, hb3, hp3, hT3⟩
  · subst hb3 hp3
    rcases Nat.lt_or_ge q s.size with hlt | hge
    · have HP : Hid (parseE (natsOf s) = (emptyE, q, 2)) := Lib.hid (by
        rw [HP0.out, hT3]
        simp only
        rw [if_pos (by rw [nats_dropR s q hlt]; simp), nats_lenR, show s.size - (s.size - q) = q by omega])
      have g1 : decide ((q : Int) < (s.size : Int)) = true := by simpa using hlt
      have g2 : decide (q < s.size) = true := by simpa using hlt
      have g3 : (q : Int) < (s.size : Int) := by omega
      clear hT3 HP0
      go_wp2_with (refine wpList_store_re rfl _ _ rfl w3.heap.size rfl rfl rfl rfl hone (Blk.new _ _ _) ?_; intro w4 hB4 ho4; have hRd4 := (HRd3.out.alloc (Obj.cells #[.int .i64 0, .int .u64 0, .int .u64 0, .int .u64 0, .int .u64 0, .slice none 0 0, .int .i64 0, .int .i64 0] 27)).only ho4 (by have := Hlt1.out; have := Hs3.out; omega); have x1 := hRd4.c1; have x2 := hRd4.c2)
      have HRd4 := Lib.hid hRd4
      have HR5 := Lib.hid (HR4.out.only ho4 (by have := Hlt1.out; have := Hs3.out; omega))
      have Hb4 : Hid (Below w.heap.size w w4) := Lib.hid ((Hb3.out.alloc (by have := Hb3.out.size; exact this) _).trans (ho4.below (fun i hi => by have := Hlt1.out; have := Hs3.out; omega) (by have := Hb3.out.size; simp; omega)))
      clear hB4 ho4 hone hRd4
      try go_quiet (fail)
      try go_wp2_with fail
      refine (rfail_ok _ (w.heap.size + 1) s (q : Int) (q : Int) (by first | exact HRd4.out | exact HRd4.out.drewN _)).mono ?_
      rintro e w5 ⟨rfl, hRd5, ho5⟩
      have HR6 := Lib.hid (Blk.only (by first | exact HR5.out | exact HR5.out.drewN _) ho5 (by omega))
      have Hb5 : Hid (Below w.heap.size w w5) := Lib.hid (Below.trans (by first | exact Hb4.out | exact ext_drewN Hb4.out _) (ho5.below (fun i hi => by omega) Hb4.out.size))
      have HRd5 := Lib.hid hRd5
      have x2b := hRd5.c2
      clear hRd5 ho5 x1 x2
      go_wp2
      refine wp_region_held_drew (S := fun w' => w'.cell? ⟨w.heap.size + 1, 2, none⟩ = some (.int .i64 (q : Int))) (by kernel_rfl) ?_ (fun hHeld => ?_)
      · exact HRd5.out.c2
      refine wpAnyH_take (i := 0) (v := ?_) (take_list rfl) (by kernel_rfl) (by kernel_rfl) (by kernel_rfl) (fun _ _ _ h => h) (Or.inl ⟨by rfl, ?_⟩) (by assumption) ?_
      rotate_left
      · intro w hSw
        try dsimp only at hSw
        first | (go_simp; done) | (go_simp; with_reducible rfl)
      try simp only [Act.put, List.setIfInBounds_toArray, List.set_cons_zero, List.set_cons_succ]
      refine wpAnyH_take (i := 1) (v := ?_) (take_list rfl) (by kernel_rfl) (by kernel_rfl) (by kernel_rfl) (fun _ _ _ h => h) (Or.inl ⟨by rfl, ?_⟩) (by assumption) ?_
      rotate_left
      · intro w hSw
        try dsimp only at hSw
        first | (go_simp; done) | (go_simp; with_reducible rfl)
      try simp only [Act.put, List.setIfInBounds_toArray, List.set_cons_zero, List.set_cons_succ]
      refine wpAnyH_take (i := 2) (v := ?_) (take_list rfl) (by kernel_rfl) (by kernel_rfl) (by kernel_rfl) (fun _ _ _ h => h) (Or.inl ⟨by rfl, ?_⟩) (by assumption) ?_
      rotate_left
      · intro w hSw
        try dsimp only at hSw
        first | (go_simp; done) | (go_simp; with_reducible rfl)
      try simp only [Act.put, List.setIfInBounds_toArray, List.set_cons_zero, List.set_cons_succ]
      refine wpAnyH_take (i := 3) (v := ?_) (take_list rfl) (by kernel_rfl) (by kernel_rfl) (by kernel_rfl) (fun _ _ _ h => h) (Or.inl ⟨by rfl, ?_⟩) (by assumption) ?_
      rotate_left
      · intro w hSw
        try dsimp only at hSw
        first | (go_simp; done) | (go_simp; with_reducible rfl)
      try simp only [Act.put, List.setIfInBounds_toArray, List.set_cons_zero, List.set_cons_succ]
      refine wpAnyH_take (i := 4) (v := ?_) (take_list rfl) (by kernel_rfl) (by kernel_rfl) (by kernel_rfl) (fun _ _ _ h => h) (Or.inl ⟨by rfl, ?_⟩) (by assumption) ?_
      rotate_left
      · intro w hSw
        try dsimp only at hSw
        first | (go_simp; done) | (go_simp; with_reducible rfl)
      try simp only [Act.put, List.setIfInBounds_toArray, List.set_cons_zero, List.set_cons_succ]
      refine wpAnyH_ready (rs := [5]) (by kernel_rfl) (by simp) ?_
      refine AllReadyH.cons (take_list rfl) (fun K hK => ?_) ?_
      · skip
        refine step_store_re rfl _ _ rfl w.heap.size rfl (ds := #[.int .i64 0, .int .u64 0, .int .u64 0, .int .u64 0, .int .u64 0, .slice none 0 0, .int .i64 0, .int .i64 0]) rfl rfl rfl zeroA_one (HR6.out.drew) ?_
        intro wy hBy hoy
        have hSy : (fun w' => w'.cell? ⟨w.heap.size + 1, 2, none⟩ = some (.int .i64 (q : Int))) wy := (HRd5.out.drew.only hoy (by omega)).c2
        refine hK.out _ _ ?_ (fun hHeld => ?_)
        · try dsimp only
          exact hSy
        clear hK K
        refine wpAnyH_take (i := 6) (v := ?_) (take_list rfl) (by kernel_rfl) (by kernel_rfl) (by kernel_rfl) (fun _ _ _ h => h) (Or.inl ⟨by rfl, ?_⟩) (by assumption) ?_
        rotate_left
        · intro w hSw
          try dsimp only at hSw
          first | (go_simp; done) | (go_simp; with_reducible rfl)
        try simp only [Act.put, List.setIfInBounds_toArray, List.set_cons_zero, List.set_cons_succ]
        refine wpAnyH_take (i := 7) (v := ?_) (take_list rfl) (by kernel_rfl) (by kernel_rfl) (by kernel_rfl) (fun _ _ _ h => h) (Or.inl ⟨by rfl, ?_⟩) (by assumption) ?_
        rotate_left
        · intro w hSw
          try dsimp only at hSw
          first | (go_simp; done) | (go_simp; with_reducible rfl)
        try simp only [Act.put, List.setIfInBounds_toArray, List.set_cons_zero, List.set_cons_succ]
        refine wpAnyH_done (by kernel_rfl) ?_ _
        go_wp2
        refine bodyPost_ret (results_re3 rfl _ _ w.heap.size _ _ rfl rfl hBy) rfl ?_
        refine ⟨⟨_, (by rw [HP.out]; rfl), by rw [HP.out]; exact Hz.out _⟩, (show Below w.heap.size w w5.drew from ext_drewN Hb5.out 1).trans (hoy.below (fun i hi => Nat.le_of_eq hi.symm) (by have := Hb5.out.size; exact this))⟩
      exact AllReadyH.nil
    · have hqe : q = s.size := by omega
      have hnil : (natsOf s).drop q = [] := by rw [hqe]; exact nats_endR s
      have HP : Hid (parseE (natsOf s) = if isE x then (x, 0, 0) else (emptyE, 0, 3)) := Lib.hid (by
        rw [HP0.out, hT3]
        simp only
        rw [if_neg (by simp [hnil])])
      have g1 : decide ((q : Int) < (s.size : Int)) = false := by simp; omega
      have g2 : decide (q < s.size) = false := by simp; omega
      have g3 : (s.size : Int) ≤ (q : Int) := by omega
      have hT3n : altsP (fuelP (natsOf s)) (natsOf s) = .ok x ((natsOf s).drop q) := HTe.out.trans hT3
      clear hqe hnil hT3 HP0
      go_wp2_with (refine wpList_store_re rfl _ _ rfl w3.heap.size rfl rfl rfl rfl hone (Blk.new _ _ _) ?_; intro w4 hB4 ho4; have hRd4 := (HRd3.out.alloc (Obj.cells #[.int .i64 0, .int .u64 0, .int .u64 0, .int .u64 0, .int .u64 0, .slice none 0 0, .int .i64 0, .int .i64 0] 27)).only ho4 (by have := Hlt1.out; have := Hs3.out; omega); have x1 := hRd4.c1; have x2 := hRd4.c2; have c0 := hB4.cell 0; have c1 := hB4.cell 1; have c2 := hB4.cell 2; have c3 := hB4.cell 3; have c4 := hB4.cell 4; have c5 := hB4.cell 5; have c6 := hB4.cell 6; have c7 := hB4.cell 7)
      have HR5 := Lib.hid (HR4.out.only ho4 (by have := Hlt1.out; have := Hs3.out; omega))
      have Hb4 : Hid (Below w.heap.size w w4) := Lib.hid ((Hb3.out.alloc (by have := Hb3.out.size; exact this) _).trans (ho4.below (fun i hi => by have := Hlt1.out; have := Hs3.out; omega) (by have := Hb3.out.size; simp; omega)))
      have Hr4 : Hid (ReR (fun b => w1.heap.size ≤ b ∧ b < w3.heap.size) w4 x [v0, v1, v2, v3, v4, v5, v6, v7]) := Lib.hid ((Hr3.out.ext ((Below.refl _ _).alloc (Nat.le_refl _) (Obj.cells #[.int .i64 0, .int .u64 0, .int .u64 0, .int .u64 0, .int .u64 0, .slice none 0 0, .int .i64 0, .int .i64 0] 27))).only ho4 (fun b hb h => by omega))
      have HD4 := Lib.hid hB4
      have hnod : nodesE x ≤ 1000000 := by
        have := (nodes_P _).2.2.1 _ _ _ hT3n
        rw [natsOf_len] at this
        omega
      have Hnod := Lib.hid hnod
      clear hnod hT3n
      have HI : Hid (Calls Tryd.prog 15 #[.agg #[v0, v1, v2, v3, v4, v5, v6, v7]] w4 fun e w' => e = .returned (.bool (isE x)) ∧ Below w4.heap.size w4 w') := Lib.hid (ris_any (fun b => w1.heap.size ≤ b ∧ b < w3.heap.size) x [v0, v1, v2, v3, v4, v5, v6, v7] w4 Hr4.out Hnod.out)
      have Hone := Lib.hid hone
      clear hB4 ho4 hone hRd4
      try go_quiet (fail)
      try go_wp2_with fail
      refine HI.out.mono ?_
      rintro e w5 ⟨rfl, hb5⟩
      have hR5 := HR5.out.ext hb5
      have hD5 := HD4.out.ext hb5
      have Hb5 : Hid (Below w.heap.size w w5) := Lib.hid (Hb4.out.trans (hb5.mono Hb4.out.size))
      have Hr5 := Lib.hid (Hr4.out.ext hb5)
      have hone := Hone.out
      clear hb5 HI
      cases hi : isE x with
      | false =>
        have HP2 := HP.out
        rw [hi, if_neg (by simp)] at HP2
        have HP3 := Lib.hid HP2
        clear HP2 HP hi
        go_wp2_with (refine wpList_store_re rfl _ _ rfl w.heap.size rfl rfl rfl rfl zeroA_one hR5 ?_; intro w9 hB9 ho9)
        refine bodyPost_ret (results_re3 rfl _ _ w.heap.size _ _ rfl rfl hB9) rfl ?_
        exact ⟨⟨_, by rw [HP3.out]; rfl, by rw [HP3.out]; exact Hz.out _⟩, Hb5.out.trans (ho9.below (fun i hi => by omega) (by have := Hb5.out.size; exact this))⟩
      | true =>
        have HP2 := HP.out
        rw [hi, if_pos rfl] at HP2
        have HP3 := Lib.hid HP2
        clear c0 c1 c2 c3 c4 c5 c6 c7
        have c0 := hD5.cell 0
        have c1 := hD5.cell 1
        have c2 := hD5.cell 2
        have c3 := hD5.cell 3
        have c4 := hD5.cell 4
        have c5 := hD5.cell 5
        have c6 := hD5.cell 6
        have c7 := hD5.cell 7
        clear HP2 HP hi
        go_wp2_with (refine wpList_store_re rfl _ _ rfl w.heap.size rfl rfl rfl rfl hone hR5 ?_; intro w9 hB9 ho9)
        refine bodyPost_ret (results_re3 rfl _ _ w.heap.size _ _ rfl rfl hB9) rfl ?_
        exact ⟨⟨[v0, v1, v2, v3, v4, v5, v6, v7], by rw [HP3.out]; rfl, by rw [HP3.out]; exact (Hr5.out.only ho9 (fun b hb h => by have := hb.1; have := Hlt1.out; omega)).mono (fun b hb _ => by have := hb.1; have := Hlt1.out; omega)⟩, Hb5.out.trans (ho9.below (fun i hi => by omega) (by have := Hb5.out.size; exact this))⟩
  · obtain ⟨bn, hbn⟩ : ∃ bn, s.size - left = bn := ⟨_, rfl⟩
    rw [hbn] at hb3
    subst hb3
    have HP : Hid (parseE (natsOf s) = (emptyE, bn, 2)) := Lib.hid (by
      rw [HP0.out, hT3, ← hbn])
    have g1 : decide ((bn : Int) < 0) = false := by simp
    have g2 : ¬ (bn : Int) < 0 := by omega
    have g3 : (0 : Int) ≤ (bn : Int) := by omega
    have g4 : decide ((0 : Int) ≤ (bn : Int)) = true := by simp
    clear hT3 HP0 hbn hp3
    go_wp2_with (refine wpList_store_re rfl _ _ rfl w3.heap.size rfl rfl rfl rfl hone (Blk.new _ _ _) ?_; intro w4 hB4 ho4; have hRd4 := (HRd3.out.alloc (Obj.cells #[.int .i64 0, .int .u64 0, .int .u64 0, .int .u64 0, .int .u64 0, .slice none 0 0, .int .i64 0, .int .i64 0] 27)).only ho4 (by have := Hlt1.out; have := Hs3.out; omega); have x1 := hRd4.c1; have x2 := hRd4.c2)
    have HR5 := Lib.hid (HR4.out.only ho4 (by have := Hlt1.out; have := Hs3.out; omega))
    have HRd4 := Lib.hid hRd4
    have Hb4 : Hid (Below w.heap.size w w4) := Lib.hid ((Hb3.out.alloc (by have := Hb3.out.size; exact this) _).trans (ho4.below (fun i hi => by have := Hlt1.out; have := Hs3.out; omega) (by have := Hb3.out.size; simp; omega)))
    clear hB4 ho4 hone hRd4
    try go_quiet (fail)
    try go_wp2
    refine wp_region_held_drew (S := fun w' => w'.cell? ⟨w.heap.size + 1, 2, none⟩ = some (.int .i64 (bn : Int))) (by kernel_rfl) ?_ (fun hHeld => ?_)
    · exact HRd4.out.c2
    refine wpAnyH_take (i := 0) (v := ?_) (take_list rfl) (by kernel_rfl) (by kernel_rfl) (by kernel_rfl) (fun _ _ _ h => h) (Or.inl ⟨by rfl, ?_⟩) (by assumption) ?_
    rotate_left
    · intro w hSw
      try dsimp only at hSw
      first | (go_simp; done) | (go_simp; with_reducible rfl)
    try simp only [Act.put, List.setIfInBounds_toArray, List.set_cons_zero, List.set_cons_succ]
    refine wpAnyH_take (i := 1) (v := ?_) (take_list rfl) (by kernel_rfl) (by kernel_rfl) (by kernel_rfl) (fun _ _ _ h => h) (Or.inl ⟨by rfl, ?_⟩) (by assumption) ?_
    rotate_left
    · intro w hSw
      try dsimp only at hSw
      first | (go_simp; done) | (go_simp; with_reducible rfl)
    try simp only [Act.put, List.setIfInBounds_toArray, List.set_cons_zero, List.set_cons_succ]
    refine wpAnyH_take (i := 2) (v := ?_) (take_list rfl) (by kernel_rfl) (by kernel_rfl) (by kernel_rfl) (fun _ _ _ h => h) (Or.inl ⟨by rfl, ?_⟩) (by assumption) ?_
    rotate_left
    · intro w hSw
      try dsimp only at hSw
      first | (go_simp; done) | (go_simp; with_reducible rfl)
    try simp only [Act.put, List.setIfInBounds_toArray, List.set_cons_zero, List.set_cons_succ]
    refine wpAnyH_take (i := 3) (v := ?_) (take_list rfl) (by kernel_rfl) (by kernel_rfl) (by kernel_rfl) (fun _ _ _ h => h) (Or.inl ⟨by rfl, ?_⟩) (by assumption) ?_
    rotate_left
    · intro w hSw
      try dsimp only at hSw
      first | (go_simp; done) | (go_simp; with_reducible rfl)
    try simp only [Act.put, List.setIfInBounds_toArray, List.set_cons_zero, List.set_cons_succ]
    refine wpAnyH_take (i := 4) (v := ?_) (take_list rfl) (by kernel_rfl) (by kernel_rfl) (by kernel_rfl) (fun _ _ _ h => h) (Or.inl ⟨by rfl, ?_⟩) (by assumption) ?_
    rotate_left
    · intro w hSw
      try dsimp only at hSw
      first | (go_simp; done) | (go_simp; with_reducible rfl)
    try simp only [Act.put, List.setIfInBounds_toArray, List.set_cons_zero, List.set_cons_succ]
    refine wpAnyH_ready (rs := [5]) (by kernel_rfl) (by simp) ?_
    refine AllReadyH.cons (take_list rfl) (fun K hK => ?_) ?_
    · skip
      refine step_store_re rfl _ _ rfl w.heap.size rfl (ds := #[.int .i64 0, .int .u64 0, .int .u64 0, .int .u64 0, .int .u64 0, .slice none 0 0, .int .i64 0, .int .i64 0]) rfl rfl rfl zeroA_one (HR5.out.drew) ?_
      intro wy hBy hoy
      have hSy : (fun w' => w'.cell? ⟨w.heap.size + 1, 2, none⟩ = some (.int .i64 (bn : Int))) wy := (HRd4.out.drew.only hoy (by omega)).c2
      refine hK.out _ _ ?_ (fun hHeld => ?_)
      · try dsimp only
        exact hSy
      clear hK K
      refine wpAnyH_take (i := 6) (v := ?_) (take_list rfl) (by kernel_rfl) (by kernel_rfl) (by kernel_rfl) (fun _ _ _ h => h) (Or.inl ⟨by rfl, ?_⟩) (by assumption) ?_
      rotate_left
      · intro w hSw
        try dsimp only at hSw
        first | (go_simp; done) | (go_simp; with_reducible rfl)
      try simp only [Act.put, List.setIfInBounds_toArray, List.set_cons_zero, List.set_cons_succ]
      refine wpAnyH_take (i := 7) (v := ?_) (take_list rfl) (by kernel_rfl) (by kernel_rfl) (by kernel_rfl) (fun _ _ _ h => h) (Or.inl ⟨by rfl, ?_⟩) (by assumption) ?_
      rotate_left
      · intro w hSw
        try dsimp only at hSw
        first | (go_simp; done) | (go_simp; with_reducible rfl)
      try simp only [Act.put, List.setIfInBounds_toArray, List.set_cons_zero, List.set_cons_succ]
      refine wpAnyH_done (by kernel_rfl) ?_ _
      go_wp2
      refine bodyPost_ret (results_re3 rfl _ _ w.heap.size _ _ rfl rfl hBy) rfl ?_
      refine ⟨⟨_, (by rw [HP.out]; rfl), by rw [HP.out]; exact Hz.out _⟩, (show Below w.heap.size w w4.drew from ext_drewN Hb4.out 1).trans (hoy.below (fun i hi => Nat.le_of_eq hi.symm) (by have := Hb4.out.size; exact this))⟩
    exact AllReadyH.nil
end Go.Proofs.YtgknlegomoaoeaaDoor

/-
  Known of stage 8's laws; rows of expressions laid as literals. No statement of the seat is proved here.
-/
namespace Go.Proofs.YtgknlegomoaoeaaDoor
open Go Go.ChangeShapes Go.WideShapes Go.ChangeAt Go.RowKit
set_option maxRecDepth 100000

/-- a block that holds expressions, one behind the other -/
theorem flat_mem {β : Type} (enc : β → List Value) (sz : Nat) : ∀ (l : List β) (k j : Nat) (hk : k < l.length), (∀ b ∈ l, (enc b).length = sz) → j < sz → (l.flatMap enc)[k * sz + j]? = (enc l[k])[j]?
  | a :: r, 0, j, hk, h, hj => by
    rw [List.flatMap_cons, List.getElem?_append_left (by rw [h a (by simp)]; omega)]
    simp
  | a :: r, k + 1, j, hk, h, hj => by
    simp only [List.length_cons] at hk
    rw [List.flatMap_cons, List.getElem?_append_right (by rw [h a (by simp), Nat.add_mul]; omega), h a (by simp), show (k + 1) * sz + j - sz = k * sz + j by rw [Nat.add_mul]; omega]
    rw [flat_mem enc sz r k j (by omega) (fun b hb => h b (by simp [hb])) hj]
    rfl
theorem kids_lit {w : World} {g : Nat} {ty : TypeId} (P : List (Ex × List Value)) (h : ∀ p ∈ P, ReR (fun _ => True) w p.1 p.2) (hB : Blk w g ty (P.flatMap Prod.snd).toArray) : Kids (fun _ => True) w (some ⟨g, 0, none⟩) (P.map Prod.fst) := by
  intro k hk
  have hk' : k < P.length := by simpa using hk
  have hr := h P[k] (List.getElem_mem hk')
  refine ⟨g, 0, P[k].2, rfl, trivial, fun j u hu => ?_, by simpa using hr⟩
  have hj : j < 8 := by rw [← hr.size]; exact (List.getElem?_eq_some_iff.1 hu).1
  rw [hB.cell, Nat.zero_add, List.getElem?_toArray, flat_mem Prod.snd 8 P k j hk' (fun b hb => (h b hb).size) hj]
  exact hu

def kn8 : List Nat := [97, 40, 98, 124, 99, 41, 42]
theorem kn8_all : (parseE kn8).2 = (0, 0) ∧ isE (parseE kn8).1 = true ∧ cntE (parseE kn8).1 = 3 ∧ (layG (parseE kn8).1 ⟨[], []⟩).1.first = 1 ∧ (layG (parseE kn8).1 ⟨[], []⟩).1.last = 7 ∧ (layG (parseE kn8).1 ⟨[], []⟩).2.sets.length = 3 ∧ (layG (parseE kn8).1 ⟨[], []⟩).2.follow[1]? = some 6 := by decide +kernel
set_option maxHeartbeats 2000000 in
theorem known8_any (w : World) (ht : Tab w) : Calls Tryd.prog 18 #[] w fun e w' => e = .returned (.bool true) ∧ Below w.heap.size w w' := by
  have hp := rparse_any ⟨#[97, 40, 98, 124, 99, 41, 42]⟩ (by decide) w
  rw [show natsOf ⟨#[97, 40, 98, 124, 99, 41, 42]⟩ = kn8 from rfl] at hp
  obtain ⟨h1, h2, h3, h4, h5, h6, h7⟩ := kn8_all
  obtain ⟨r, hr⟩ : ∃ r, parseE kn8 = r := ⟨_, rfl⟩
  rw [hr] at hp h1 h2 h3 h4 h5 h6 h7
  obtain ⟨x, a, e⟩ := r
  simp only [Prod.mk.injEq] at h1
  obtain ⟨rfl, rfl⟩ := h1
  simp only at h2 h3 h4 h5 h6 h7
  have Hp := Lib.hid hp
  have Ht := Lib.hid ht
  clear hp hr ht
  obtain ⟨G, hG⟩ : ∃ G, layG x ⟨[], []⟩ = G := ⟨_, rfl⟩
  rw [hG] at h4 h5 h6 h7
  go_enter Tryd.func18, Tryd.ntmps18
  go_wp2_with fail
  refine Hp.out.mono ?_
  rintro e w2 ⟨⟨cs, he, hr⟩, hb2⟩
  have h8 := reR_arr hr
  obtain ⟨u0, u1, u2, u3, u4, u5, u6, u7, hcs⟩ := arr_eight h8.1
  have hcl : cs = [u0, u1, u2, u3, u4, u5, u6, u7] := by have := congrArg Array.toList hcs; simpa using this
  subst hcl
  have he' : e = .returned (.tuple #[.agg #[u0, u1, u2, u3, u4, u5, u6, u7], .int .i64 0, .int .i64 0]) := he
  subst he'
  have hone := h8.2
  have Hr := Lib.hid (hr.mono (T := fun _ => True) (fun _ _ _ => trivial))
  have Hb2 := Lib.hid hb2
  have Hone := Lib.hid hone
  have H2 := Lib.hid h2
  have H3 := Lib.hid h3
  have HG := Lib.hid hG
  clear he hr hb2 h8 hcs hone Hp h2 h3 hG
  go_wp2_with (first
    | (refine wpList_store_re rfl _ _ rfl w2.heap.size rfl rfl rfl rfl Hone.out (Blk.new w2 27 #[.int .i64 0, .int .u64 0, .int .u64 0, .int .u64 0, .int .u64 0, .slice none 0 0, .int .i64 0, .int .i64 0]) ?_
       intro w9 hB9 ho9
       have hb9 : Below w2.heap.size w2 w9 := (ext_alloc (Below.refl w2.heap.size w2) _).trans (ho9.below (B := w2.heap.size) (fun i hi => by omega) (by simp))
       have HO := Lib.hid (of_any (fun _ => True) x _ w9 (Ht.out.ext (ext_trans Hb2.out hb9)) (Hr.out.ext hb9))
       have Hb9 := Lib.hid (ext_trans Hb2.out hb9)
       have c0 := hB9.cell 0
       have c1 := hB9.cell 1
       have c2 := hB9.cell 2
       have c3 := hB9.cell 3
       have c4 := hB9.cell 4
       have c5 := hB9.cell 5
       have c6 := hB9.cell 6
       have c7 := hB9.cell 7
       clear ho9 hb9 hB9)
    | fail)
  refine HO.out.mono ?_
  rintro e w4 ⟨hb4, -, -, hs⟩
  obtain ⟨A, c, D, d, rfl, hL⟩ := hs H2.out (by rw [H3.out]; omega)
  have Hb4 := Lib.hid (ext_trans Hb9.out hb4)
  rw [HG.out] at hL ⊢
  rw [h4, h5, h6]
  rw [h6] at hL
  have hD := hL.follow.rd.at_ (k := 1) (by rw [hL.follow.1]; omega)
  obtain ⟨ad, rfl, hcell⟩ := hD
  obtain ⟨g, o, rfl⟩ := hL.follow.flat _ rfl
  have hf1 : (G.2.follow.map uv)[1]'(by rw [hL.follow.1]; omega) = .int .u64 6 := by
    have h1 : (G.2.follow.map uv)[1]? = some (.int .u64 6) := by rw [List.getElem?_map, h7]; rfl
    rw [List.getElem?_eq_getElem (by rw [hL.follow.1]; omega)] at h1
    injection h1
  rw [hf1, Addr.add_mid] at hcell
  have hgl : g < w4.heap.size := World.block_lt_of_cell? w4 _ hcell
  have hc2 : ∀ ob, (w4.alloc ob).cell? ⟨g, o + 1, none⟩ = some (.int .u64 6) := fun ob => (World.cell?_of_block (a := ⟨g, o + 1, none⟩) (Below.heap_alloc w4 ob g hgl)).trans hcell
  clear hL hf1 hb4 hs HO c0 c1 c2 c3 c4 c5 c6 c7
  obtain ⟨nl, hnl⟩ : ∃ nl, G.1.null = nl := ⟨_, rfl⟩
  rw [hnl]
  clear hnl
  go_wp2
  go_ret
  exact ⟨rfl, by repeat (first | exact Hb4.out | apply ext_alloc)⟩
end Go.Proofs.YtgknlegomoaoeaaDoor
