/-
  The contract of octet's (*Reader).Nums at two places with nil between. No statement of the seat is proved here.
-/
import Derived.Test.YtdnaabiijihooaaDoorSt
namespace Go.Proofs.YtdnaabiijihooaaDoor
open Go Go.RowKit

def st2 (bs : List UInt8) (bad : Bool) : Nat × List UInt8 × Bool := stNum (stNum bs bad).2.1 (stNum bs bad).2.2
def st3 (bs : List UInt8) (bad : Bool) : Nat × List UInt8 × Bool := stNum (st2 bs bad).2.1 (st2 bs bad).2.2

set_option maxRecDepth 100000 in
set_option maxHeartbeats 4000000 in
theorem rnums3 (fp : Nat → Prop) (g ga gc gl : Nat) (n c : Nat) (x y : Int) (bs : List UInt8) (bad : Bool) (w : World) (h : Rdr w fp g bs bad) (hb : bs.length ≤ 1099511627776) (hn : n = 3)
    (hl : Blk w gl 47 #[.pointer (some ⟨ga, 0, none⟩), .pointer none, .pointer (some ⟨gc, 0, none⟩)]) (ha : Blk w ga 3 #[.int .i64 x]) (hc : Blk w gc 3 #[.int .i64 y]) (hac : ga ≠ gc) (hfa : ¬ fp ga) (hfc : ¬ fp gc) (hfl : ¬ fp gl) :
    Calls Tryd.prog 35 #[.pointer (some ⟨g, 0, none⟩), .slice (some ⟨gl, 0, none⟩) n c] w fun e w' => e = .returned (.tuple #[]) ∧ Rdr w' fp g (st3 bs bad).2.1 (st3 bs bad).2.2 ∧
      Blk w' ga 3 #[.int .i64 ((stNum bs bad).1 : Int)] ∧ Blk w' gc 3 #[.int .i64 ((st3 bs bad).1 : Int)] ∧ Only (fun k => k = g ∨ k = ga ∨ k = gc) w w' := by
  subst hn
  have hg := h.1
  have hag : ga ≠ g := fun e => hfa (e ▸ hg)
  have hcg : gc ≠ g := fun e => hfc (e ▸ hg)
  have hlg : gl ≠ g := fun e => hfl (e ▸ hg)
  have hla : gl ≠ ga := fun e => by
    subst e; unfold Blk at hl ha; rw [hl] at ha; injection ha with ha; injection ha with _ ht; exact absurd ht (by decide)
  have hlc : gl ≠ gc := fun e => by
    subst e; unfold Blk at hl hc; rw [hl] at hc; injection hc with hc; injection hc with _ ht; exact absurd ht (by decide)
  have l0 := hl.cell 0
  have a0 := ha.cell 0
  simp only [List.getElem?_toArray, List.getElem?_cons_zero] at l0 a0
  have b1 := stNum_len bs bad
  have b2 := stNum_len (stNum bs bad).2.1 (stNum bs bad).2.2
  go_enter Tryd.func35, Tryd.ntmps35
  go_wp2
  refine wp_loop_rounds 4 ?_
  rw [rounds_succ]
  go_wp2_with fail
  refine (rnum_st fp g bs bad _ h hb).mono ?_
  rintro e w1 ⟨rfl, h1, o1⟩
  have ha1 := ha.only o1 hag
  have a1 := ha1.cell 0
  have af1 := ha1.free 0
  simp only [List.getElem?_toArray, List.getElem?_cons_zero] at a1
  have hl1 := hl.only o1 hlg
  have hc1 := hc.only o1 hcg
  go_wp2
  have ho1 : Only (fun k => k = g ∨ k = ga ∨ k = gc) w (w1.setCell ⟨ga, 0, none⟩ (.int .i64 ((stNum bs bad).1 : Int))) := (o1.mono (fun i _ hi => .inl hi)).setCell (p := ⟨ga, 0, none⟩) (.inl (.inr (.inl rfl))) _
  have h1' : Rdr (w1.setCell ⟨ga, 0, none⟩ (.int .i64 ((stNum bs bad).1 : Int))) fp g (stNum bs bad).2.1 (stNum bs bad).2.2 := h1.only ((Only.refl (fun k => k = ga) w1).setCell (p := ⟨ga, 0, none⟩) (.inl rfl) _) (fun k hk e => hfa (e ▸ hk))
  have ha2 : Blk (w1.setCell ⟨ga, 0, none⟩ (.int .i64 ((stNum bs bad).1 : Int))) ga 3 #[.int .i64 ((stNum bs bad).1 : Int)] := ha1.put 0 _
  have hl2 := hl1.far (p := ⟨ga, 0, none⟩) hla (.int .i64 ((stNum bs bad).1 : Int))
  have hc2 := hc1.far (p := ⟨ga, 0, none⟩) hac.symm (.int .i64 ((stNum bs bad).1 : Int))
  clear h1 ha1 hl1 hc1 a1 af1 o1 l0 a0
  generalize w1.setCell ⟨ga, 0, none⟩ (.int .i64 ((stNum bs bad).1 : Int)) = w2 at *
  have l1 := hl2.cell 1
  simp only [List.getElem?_toArray, List.getElem?_cons_zero, List.getElem?_cons_succ] at l1
  rw [rounds_succ]
  go_wp2_with fail
  refine (rnum_st fp g _ _ _ h1' (by omega)).mono ?_
  rintro e w3 ⟨rfl, h3, o3⟩
  have ho3 := ho1.trans o3 (fun i _ hi => .inl hi)
  have ha3 := ha2.only o3 hag
  have hl3 := hl2.only o3 hlg
  have hc3 := hc2.only o3 hcg
  have l2 := hl3.cell 2
  have c2 := hc3.cell 0
  simp only [List.getElem?_toArray, List.getElem?_cons_zero, List.getElem?_cons_succ] at l2 c2
  clear l1 h1' ho1 ha2 hl2 hc2 o3
  go_wp2
  rw [rounds_succ]
  go_wp2_with fail
  refine (rnum_st fp g _ _ _ h3 (by omega)).mono ?_
  rintro e w4 ⟨rfl, h4, o4⟩
  have ho4 := ho3.trans o4 (fun i _ hi => .inl hi)
  have ha4 := ha3.only o4 hag
  have hc4 := hc3.only o4 hcg
  have c4 := hc4.cell 0
  have cf4 := hc4.free 0
  simp only [List.getElem?_toArray, List.getElem?_cons_zero] at c4
  clear l2 c2
  go_wp2
  rw [rounds_succ]
  go_wp2
  go_end0
  refine ⟨rfl, h4.only ((Only.refl (fun k => k = gc) w4).setCell (p := ⟨gc, 0, none⟩) (.inl rfl) _) (fun k hk e => hfc (e ▸ hk)), ha4.far (p := ⟨gc, 0, none⟩) hac _, hc4.put 0 _, ho4.setCell (p := ⟨gc, 0, none⟩) (.inl (.inr (.inr rfl))) _⟩
end Go.Proofs.YtdnaabiijihooaaDoor
