/-
  The contract of the reference's Pack. No statement of the seat is proved here.
-/
import Derived.Test.YtlpjeopeboemmaaDoorSlot
import Derived.Test.YtlpjeopeboemmaaDoorAppz
namespace Go.Proofs.YtlpjeopeboemmaaDoor
open Go Go.RowKit

/-- rows that are appended one by one: the list lies in its own block, the rows in memory from 'B0' on -/
def OutAt (B0 : Nat) (w : World) (A : Option Addr) (c : Nat) (xss : List (List UInt8)) : Prop :=
  ∃ vs, Own w (fun k => inA A k) 22 A c vs ∧ vs.length = xss.length ∧ (∀ k, inA A k → B0 ≤ k) ∧ ∀ (j : Nat) (v : Value) (xs : List UInt8), vs[j]? = some v → xss[j]? = some xs →
    ∃ B cb, v = .slice B xs.length cb ∧ xs.length ≤ cb ∧ Rd w B (xs.map bv) ∧ ∀ ad, B = some ad → B0 ≤ ad.block ∧ ad.block < w.heap.size ∧ ¬ inA A ad.block
theorem OutAt.ext {B0 : Nat} {w w' : World} {A : Option Addr} {c : Nat} {xss : List (List UInt8)} (h : OutAt B0 w A c xss) (hb : Below w.heap.size w w') : OutAt B0 w' A c xss := by
  obtain ⟨vs, h1, h2, h3, h4⟩ := h
  refine ⟨vs, h1.ext hb, h2, h3, fun j v xs hv hx => ?_⟩
  obtain ⟨B, cb, e, hc, hr, hn⟩ := h4 j v xs hv hx
  exact ⟨B, cb, e, hc, hr.ext hb, fun ad ea => ⟨(hn ad ea).1, Nat.lt_of_lt_of_le (hn ad ea).2.1 hb.size, (hn ad ea).2.2⟩⟩
theorem OutAt.nil (B0 : Nat) (w : World) : OutAt B0 w none 0 [] := ⟨[], Own.none_ _ _ _, rfl, fun k hk => absurd hk (inA_none k), fun j v xs h _ => by simp at h⟩
theorem OutAt.rowsF {B0 : Nat} {w : World} {A : Option Addr} {c : Nat} {xss : List (List UInt8)} (h : OutAt B0 w A c xss) : RowsF (fun k => k < B0) w A xss := by
  obtain ⟨vs, h1, h2, h3, h4⟩ := h
  refine ⟨vs, ⟨h1.rd, fun ad e _ hk => ?_⟩, h2, fun j v xs hv hx => ?_⟩
  · have := h3 ad.block (h1.2 ad e)
    omega
  · obtain ⟨B, cb, e, hc, hr, hn⟩ := h4 j v xs hv hx
    exact ⟨B, cb, e, hc, hr, fun ad ea _ => Nat.not_lt.2 (hn ad ea).1⟩
/-- one row more: what append leaves -/
theorem OutAt.push {B0 : Nat} {w w1 w2 : World} {A A2 : Option Addr} {c c2 : Nat} {xss : List (List UInt8)} {B : Option Addr} {n cb : Nat} {xs : List UInt8} {vs : List Value}
    (h0 : B0 ≤ w.heap.size) (hb : Below w.heap.size w w1) (hbs : Bs w1 B n cb xs) (hB : ∀ ad, B = some ad → B0 ≤ ad.block ∧ ad.block < w1.heap.size ∧ ¬ inA A ad.block)
    (hlen : vs.length = xss.length) (hA : ∀ k, inA A k → B0 ≤ k)
    (hrows : ∀ (j : Nat) (v : Value) (xs : List UInt8), vs[j]? = some v → xss[j]? = some xs → ∃ B cb, v = .slice B xs.length cb ∧ xs.length ≤ cb ∧ Rd w B (xs.map bv) ∧ ∀ ad, B = some ad → B0 ≤ ad.block ∧ ad.block < w.heap.size ∧ ¬ inA A ad.block)
    (hown : Own w2 (More (fun k => inA A k) w1 w2) 22 A2 c2 (vs ++ [.slice B n cb])) (ho : Only (fun k => inA A k) w1 w2) : OutAt B0 w2 A2 c2 (xss ++ [xs]) := by
  have hz := hb.size
  have hA2 : ∀ k, inA A2 k → inA A k ∨ (w1.heap.size ≤ k ∧ k < w2.heap.size) := fun k hk => by
    rcases A2 with _ | ad
    · exact absurd hk (inA_none k)
    · rw [inA_some] at hk
      subst hk
      exact hown.2 ad rfl
  refine ⟨vs ++ [.slice B n cb], ⟨hown.1, fun ad e => by rw [e]; exact (inA_some _ _ _ _).2 rfl⟩, by simp [hlen], fun k hk => ?_, fun j v ys hv hx => ?_⟩
  · rcases hA2 k hk with h | h
    · exact hA k h
    · omega
  · rw [List.getElem?_append] at hv hx
    rw [hlen] at hv
    have fin : ∀ (B : Option Addr) (ys : List UInt8), Rd w1 B (ys.map bv) → (∀ ad, B = some ad → B0 ≤ ad.block ∧ ad.block < w1.heap.size ∧ ¬ inA A ad.block) → Rd w2 B (ys.map bv) ∧ ∀ ad, B = some ad → B0 ≤ ad.block ∧ ad.block < w2.heap.size ∧ ¬ inA A2 ad.block := fun B ys hr hn => by
      refine ⟨hr.only ho (fun ad e _ hk => (hn ad e).2.2 hk), fun ad e => ⟨(hn ad e).1, Nat.lt_of_lt_of_le (hn ad e).2.1 ho.size, fun hk => ?_⟩⟩
      rcases hA2 _ hk with h | h
      · exact (hn ad e).2.2 h
      · have := (hn ad e).2.1; omega
    split at hv
    · rename_i hj
      rw [if_pos hj] at hx
      obtain ⟨B', cb', e, hc, hr, hn⟩ := hrows j v ys hv hx
      obtain ⟨f1, f2⟩ := fin B' ys (hr.ext hb) (fun ad ea => ⟨(hn ad ea).1, Nat.lt_of_lt_of_le (hn ad ea).2.1 hz, (hn ad ea).2.2⟩)
      exact ⟨B', cb', e, hc, f1, f2⟩
    · rename_i hj
      rw [if_neg hj] at hx
      have hj0 : j - xss.length = 0 := by
        have := (List.getElem?_eq_some_iff.1 hv).1
        simp at this; omega
      rw [hj0] at hv hx
      simp at hv hx
      subst hv hx
      obtain ⟨rfl, hc, hr⟩ := hbs
      obtain ⟨f1, f2⟩ := fin B xs hr hB
      exact ⟨B, cb, rfl, hc, f1, f2⟩

theorem two_get (n : Nat) (hn : n < 65536) : ((lowB 2 n).map bv).toArray = #[.int .u8 ((n : Int) % 256), .int .u8 ((n : Int) / 256)] := by
  have h := low_cast n
  have e : lowB 2 n = [(n / 256 ^ 0).toUInt8, (n / 256 ^ 1).toUInt8] := rfl
  rw [e]
  simp only [List.map_cons, List.map_nil]
  rw [← h 0, ← h 1, show (n : Int) / 256 = (n : Int) / 2 ^ (8 * 1) % 256 by omega]
  simp

set_option maxRecDepth 100000 in
set_option maxHeartbeats 2000000 in
theorem rpack_any (n : Int) (A : Option Addr) (m c : Nat) (img : List UInt8) (w : World) (hn : isInt n) (hA : Bs w A m c img) (hi : img.length ≤ 1099511627776) :
    Calls Tryd.prog 24 #[.int .i64 n, .slice A m c] w fun e w' => ∃ A' c', e = .returned (.slice A' (packI n img).length c') ∧ (packI n img).length ≤ c' ∧ RowsF (fun k => k < w.heap.size) w' A' (packI n img) ∧ Below w.heap.size w w' := by
  have hm := hA.1
  subst hm
  by_cases hf : fits n img
  · obtain ⟨h1, h2, h3⟩ := hf
    obtain ⟨k0, rfl⟩ : ∃ k : Nat, n = (k : Int) := ⟨n.toNat, by omega⟩
    have hp : packI (k0 : Int) img = packOf k0 img := by unfold packI; rw [if_pos ⟨h1, h2, h3⟩]; rfl
    have hpl := packOf_length k0 img
    rw [hp, hpl]
    clear hp hpl
    have hi1 : (1 : Int) ≤ (k0 : Int) := h1
    have hil : (img.length : Int) ≤ 814 := by omega
    have hg := Lib.hid (two_get img.length (by omega))
    have hl2 := Lib.hid (lowB_length 2 img.length)
    go_enter Tryd.func24, Tryd.ntmps24
    have hk14 : ((814 - img.length : Nat) : Int) = 816 - (2 + (img.length : Int)) := by omega
    have hk816 : 2 + img.length + (814 - img.length) = 816 := by omega
    have Hk14 := Lib.hid hk14
    have Hk816 := Lib.hid hk816
    have hnew2 : New w (w.alloc (.cells #[.int .u8 ((img.length : Int) % 256), .int .u8 ((img.length : Int) / 256)] 5)) (some ⟨w.heap.size, 0, none⟩) 2 (lowB 2 img.length) := by
      have := New.of_blk (w := w) (Blk.new w 5 ((lowB 2 img.length).map bv).toArray) (Nat.le_refl _) (by rw [lowB_length]; unfold maxLen; omega)
      rw [lowB_length, hg.out] at this
      exact this
    have Hnew2 := Lib.hid hnew2
    clear hk14 hk816 hnew2
    go_wp2_with (first
      | (at_builtin
         refine wpList_app _ rfl (.tmp 27) (.tmp 28) _ rfl _ _ 1 Tryd.underlying22 info_u8 rfl (some ⟨w.heap.size, 0, none⟩) 2 2 ((lowB 2 img.length).map bv) rfl ?_ Hnew2.out A _ c (img.map bv) rfl ?_ ?_ (bvs_one _) ?_ ?_ ?_
         · rw [List.length_map, hl2.out]
         · rw [List.length_map]
         · exact hA.2.2.alloc _
         · unfold maxLen; omega
         · omega
         intro A1 c1 w1 hown1 ho1)
      | (at_builtin
         obtain ⟨A2, c2, w2, hz, hown2, ho2⟩ := run_appz w1 22 A1 (2 + img.length) c1 _ (by rw [List.length_append, List.length_map, List.length_map, hl2.out]) (by omega) hown1 (814 - img.length) (by omega)
         rw [Hk14.out, Hk816.out] at hz
         refine Lib.wpList_append_run _ rfl (.tmp 30) (.tmp 33) _ _ rfl _ _ rfl rfl _ _ hz ?_))
    have hbo : Bs w2 A2 816 c2 (borneOf img) := by
      have hcap := hown2.cap
      have e : (lowB 2 img.length).map bv ++ img.map bv ++ List.replicate (814 - img.length) (Value.int .u8 0) = (borneOf img).map bv := by
        unfold borneOf
        rw [List.map_append, List.map_append, List.map_replicate]; rfl
      rw [e] at hown2 hcap
      rw [List.length_map, borne_length h3] at hcap
      exact ⟨(borne_length h3).symm, by rw [borne_length h3]; exact hcap, hown2.rd⟩
    have hw1 : Below w.heap.size w w1 := (ext_alloc (Below.refl w.heap.size w) (.cells #[.int .u8 ((img.length : Int) % 256), .int .u8 ((img.length : Int) / 256)] 5)).trans (ho1.below (fun _ h => h.1) (by rw [World.size_alloc]; omega))
    have hw2 : Below w.heap.size w w2 := hw1.trans (ho2.below (fun k hk => by
      rcases hk with hk | hk
      · exact hk.1
      · rw [World.size_alloc] at hk; omega) hw1.size)
    obtain ⟨-, q2, hrd2⟩ := hbo
    obtain ⟨ad, rfl, -⟩ := hrd2.at_ (k := 0) (by rw [List.length_map, borne_length h3]; omega)
    rw [borne_length h3] at q2
    clear hown2 ho2 hown1 ho1 hz Hnew2 Hk14 Hk816 hg hl2 hA hw1
    go_loopw [6, 7, 8] (fun out i _ wr => ∃ (k : Nat) (Ao : Option Addr) (co : Nat), k ≤ 16 ∧ i = .int .i64 (k : Int) ∧ out = .slice Ao k co ∧ OutAt w2.heap.size wr Ao co ((packOf k0 img).take k) ∧ Below w2.heap.size w2 wr) (fun _ i _ _ => 16 - (intOf i).toNat)
    case atStart => exact ⟨0, none, 0, by omega, rfl, rfl, OutAt.nil _ _, Below.refl _ _⟩
    case round =>
      obtain ⟨k, Ao, co, hk, rfl, rfl, hout, hbr⟩ := hrel
      by_cases hlt : k < 16
      · have hki : (k : Int) < 16 := by omega
        have hB : Bs wr (some ad) 816 c2 (borneOf img) := ⟨(borne_length h3).symm, by rw [borne_length h3]; exact q2, hrd2.ext hbr⟩
        have b6 : (k : Int) ≤ 255 := by omega
        have hk256 : k < 256 := by omega
        go_wp2_with fail
        refine (eight_any k0 wr (by omega)).mono ?_
        rintro e w3 ⟨A3, c3, rfl, hn3, hb3⟩
        have b1 : (0 : Int) ≤ (k : Int) * 51 := by omega
        have b3 : ((k : Int) + 1) * 51 ≤ (c2 : Int) := by omega
        have b7 : (k : Int) ≤ (k : Int) + 1 := by omega
        have hcne : ¬ c2 = k * 51 := by omega
        have t1 : ((k : Int) * 51).toNat = k * 51 := by omega
        have t2 : (((k : Int) + 1) * 51).toNat = (k + 1) * 51 := by omega
        have l8 := Lib.hid (lowB_length 8 k0)
        have hbb := Lib.hid (borne_length h3)
        have hpart : ∀ w', Below wr.heap.size wr w' → Bs w' (some (ad.add (k * 51))) ((k + 1) * 51 - k * 51) (c2 - k * 51) (((borneOf img).drop (k * 51)).take 51) := fun w' hw' => (hB.ext hw').part (by rw [borne_length h3]; omega) _ rfl (by rw [borne_length h3]; omega)
        have Hpart := Lib.hid hpart
        clear hpart
        go_wp2_with (first
          | (at_builtin
             refine wpList_app _ rfl (.tmp 40) (.tmp 43) _ rfl _ _ 1 Tryd.underlying22 info_u8 rfl A3 _ c3 ((lowB 8 k0).map bv) rfl ?_ (hn3.alloc _) (some ⟨w3.heap.size, 0, none⟩) 1 1 ([k.toUInt8].map bv) rfl rfl ?_ (bvs_one _) ?_ ?_ ?_
             · rw [List.length_map, l8.out]
             · exact (Bs.byte hk256 (Blk.new_at _ _ _ rfl)).2.2
             · unfold maxLen; omega
             · omega
             intro A4 c4 w4 hown4 ho4
             obtain ⟨hn4, hb4⟩ := New.grow1 hb3 hown4 ho4)
          | (at_builtin
             refine wpList_app _ rfl (.tmp 45) (.tmp 52) _ rfl _ _ 1 Tryd.underlying22 info_u8 rfl A4 _ c4 ((lowB 8 k0 ++ [k.toUInt8]).map bv) rfl ?_ hn4 (some (ad.add (k * 51))) _ (c2 - k * 51) ((((borneOf img).drop (k * 51)).take 51).map bv) rfl ?_ ?_ (bvs_one _) ?_ ?_ ?_
             · simp [l8.out]
             · rw [List.length_map, List.length_take, List.length_drop, hbb.out]; omega
             · exact (Hpart.out w4 hb4).2.2
             · unfold maxLen; omega
             · omega
             intro A5 c5 w5 hown5 ho5
             obtain ⟨hn5, hb5⟩ := New.grow hb4 hown5 ho5))
        have hhl := head_length (n := k0) h3 hlt
        have hsum := refsum_any A5 (9 + ((k + 1) * 51 - k * 51)) c5 (headOf k0 k img) w5 (by rw [hhl]; omega) hn5.rd (by rw [hhl]; omega)
        have hslt := sumOf_lt (headOf k0 k img)
        have hrow : headOf k0 k img ++ lowB 4 (sumOf (headOf k0 k img)) = rowOf k0 k img := rfl
        have hn5' : New wr w5 A5 c5 (headOf k0 k img) := hn5
        have Hrow := Lib.hid hrow
        have Hsum := Lib.hid hsum
        have Hhl := Lib.hid hhl
        clear hsum hrow hhl hn5 Hpart b1 b3 b7 hcne t1 t2 l8 hbb
        generalize sumOf (headOf k0 k img) = s at *
        go_wp2_with fail
        refine Hsum.out.mono ?_
        rintro e w6 ⟨rfl, rfl⟩
        go_wp2_with fail
        refine (four_any s w5 hslt).mono ?_
        rintro e w6 ⟨A6, c6, rfl, hn6, hb6⟩
        have hb6' := ext_trans hb5 hb6
        obtain ⟨vs, o1, o2, o3, o4⟩ := hout
        have o2' : vs.length = k := by rw [o2, List.length_take, packOf_length]; omega
        have Ho2 := Lib.hid o2'
        have l4 := Lib.hid (lowB_length 4 s)
        have hrl := Lib.hid (row_length (n := k0) h3 hlt)
        clear hslt o2'
        go_wp2_with (first
          | (at_builtin
             refine wpList_app _ rfl (.tmp 55) (.tmp 58) _ rfl _ _ 1 Tryd.underlying22 info_u8 rfl A5 _ c5 ((headOf k0 k img).map bv) rfl ?_ (hn5'.ext hb6) A6 4 c6 ((lowB 4 s).map bv) rfl ?_ hn6.rd (bvs_one _) ?_ ?_ ?_
             · rw [List.length_map, Hhl.out]; omega
             · rw [List.length_map, l4.out]
             · unfold maxLen; omega
             · omega
             intro A7 c7 w7 hown7 ho7
             obtain ⟨hn7, hb7⟩ := New.grow hb6' hown7 ho7
             rw [Hrow.out] at hn7)
          | (at_builtin
             refine wpList_app _ rfl (.tmp 54) (.tmp 60) _ rfl _ _ 24 Tryd.underlying50 info_rows rfl Ao _ co vs rfl ?_ ((o1.ext hb7).alloc _) (some ⟨w7.heap.size, 0, none⟩) 1 1 [.slice A7 _ c7] rfl rfl (Rd.lit w7 #[.slice A7 _ c7] _) (fun u hu => by simp at hu; subst hu; rfl) ?_ ?_ ?_
             · exact Ho2.out.symm
             · unfold maxLen; omega
             · omega
             intro A8 c8 w8 hown8 ho8))
        have hAlt : ∀ x, inA Ao x → x < wr.heap.size := fun x hx => by
          rcases o1.some_ with ⟨rfl, _⟩ | ⟨g9, rfl, _, hg9⟩
          · exact absurd hx (inA_none x)
          · rw [inA_some] at hx; omega
        have h64 : 9 + ((k + 1) * 51 - k * 51) + 4 = 64 := by omega
        have hcap7 := hn7.bs.2.1
        have hpush := OutAt.push (c := co) (B0 := w2.heap.size) (w := wr) (B := A7) (n := 9 + ((k + 1) * 51 - k * 51) + 4) (cb := c7) (xs := rowOf k0 k img) hbr.size (ext_alloc hb7 _) ((hn7.bs' (by rw [hrl.out]; exact h64)).alloc _)
          (fun ad e => by
            have h1 := hn7.2 ad e
            have h2 := hbr.size
            refine ⟨by omega, by rw [World.size_alloc]; omega, fun hx => by have := hAlt _ hx; omega⟩)
          o2 o3 o4 hown8 ho8
        rw [← pack_take k0 k img hlt] at hpush
        have hbel8 : Below w2.heap.size w2 w8 := (ext_trans hbr (ext_alloc hb7 _)).trans (ho8.below (fun x hx => o3 x hx) (by have h1 := (ext_trans hbr hb7).size; rw [World.size_alloc]; omega))
        have Hpush := Lib.hid hpush
        clear hpush o1 o2 o3 o4 hown8 ho8
        go_roundw
        case rel => exact ⟨k + 1, A8, c8, by omega, by go_num, rfl, Hpush.out, hbel8⟩
        case measure => simp [intOf]; omega
      · obtain rfl : k = 16 := by omega
        have hfin := hout.rowsF.weak (fp' := fun k => k < w.heap.size) (fun k hk => Nat.lt_of_lt_of_le hk hw2.size)
        rw [List.take_of_length_le (by rw [packOf_length]; omega)] at hfin
        have Hfin := Lib.hid hfin
        have hcap : 16 ≤ co := by
          obtain ⟨vs, o1, o2, -⟩ := hout
          have := o1.cap
          rw [o2, List.length_take, packOf_length] at this
          omega
        have hbel := ext_trans hw2 hbr
        clear hfin hout
        go_wp2
        go_ret
        exact ⟨Ao, co, rfl, hcap, Hfin.out, hbel⟩
  · have hp : packI n img = [] := by unfold packI; rw [if_neg hf]
    rw [hp]
    unfold isInt at hn
    have hcase : n < 1 ∨ (1 ≤ n ∧ 1125899906842624 < n) ∨ (1 ≤ n ∧ n ≤ 1125899906842624 ∧ (814 : Int) < (img.length : Int)) := by
      unfold fits at hf
      omega
    clear hf hp hA
    have hil : (img.length : Int) ≤ 1099511627776 := by omega
    rcases hcase with h | ⟨h, h'⟩ | ⟨h, h', h''⟩
    all_goals
      go_enter Tryd.func24, Tryd.ntmps24
      go_wp2
      go_ret
      exact ⟨none, 0, rfl, Nat.le_refl _, ⟨[], ⟨Rd.nil _ _, fun ad e => by cases e⟩, rfl, fun j v xs h => by simp at h⟩, Below.refl _ _⟩
end Go.Proofs.YtlpjeopeboemmaaDoor
