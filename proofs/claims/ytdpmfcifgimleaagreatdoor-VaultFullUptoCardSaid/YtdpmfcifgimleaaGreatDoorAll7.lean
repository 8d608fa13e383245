/-
  Texts of this claim, joined (part 7): contracts and lemmas that the last text goes by. No statement of the seat is proved here.
-/
import Derived.Test.YtdpmfcifgimleaaGreatDoorAll6
import Derived.Test.YtdpmfcifgimleaaGreatDoorAll0
import Derived.Test.YtdpmfcifgimleaaGreatDoorAll4
import Derived.SliceStrings
import Derived.Deep.Slices
import Derived.Test.YtdpmfcifgimleaaGreatDoorAll2
import Derived.StillTailTactics
import Derived.Deep.RegionHeld3
import Derived.Lib.SliceRun
set_option linter.unusedVariables false
set_option linter.unusedSimpArgs false
/-
  The walk of VaultOwn. No statement of the seat is proved here.
-/
namespace Go.Proofs.YtdpmfcifgimleaaGreatDoor
open Go Go.RowKit

theorem vau_get_has {w : World} {fp : Nat → Prop} {g gs gd n K : Nat} {v : VauS} (h : Vau w fp g gs gd v) (ht : Tab w) (hG : Good n K v) {s d : List UInt8} (hs : HasB v s d) :
    Calls Tryz.prog 33 #[.pointer (some ⟨g, 0, none⟩), strV s] w fun e w' => ∃ A c, e = .returned (.tuple #[.slice A d.length c, .int .i64 0]) ∧ NewO w w' 5 1 A d.length c (d.map bv) := by
  obtain ⟨fS, A, c, R, hp⟩ := h
  obtain ⟨e0, he, rfl, rfl⟩ := hs
  have hf := findE_of hG.ok.rises he
  have h1 := get_any hp.imps (hG.small _ (by omega)) ht _ _ A c R hp.blk hp.dir.dir (by rw [hp.eq]; exact hG.ok.rises) (by rw [hp.eq, hG.len]; exact hG.roomy) e0.name
  rw [hp.eq] at h1
  refine h1.mono ?_
  rintro e w' ⟨q1, q2⟩
  rcases q1 with ⟨q1, _⟩ | ⟨en, q3, q4, _⟩ | ⟨en, A1, c1, q3, q4, rfl, q5⟩
  · rw [hf] at q1; cases q1
  · exact absurd (hG.data en (findE_some q3).1).2 q4
  · rw [hf] at q3
    injection q3 with q3
    subst q3
    have hl := (hG.data e0 he).1
    rw [← hl] at q5
    rw [← hl]
    exact ⟨A1, c1, rfl, q5⟩
theorem one_sem {n : Nat} {v : VauS} (hG : Good n 1 v) (hL : v.L = []) (hn : 64 ≤ n) (hn2 : n ≤ 4096) (a : Blb) (ha : a.name = [120]) (hlen : a.data.length ≤ 1000) :
    ∃ v1, commitV v [] [a] = (0, v1) ∧ Good n 2 v1 ∧ HasB v1 [120] a.data := by
  have q1 := needN_le a.data.length
  have hc := hG.count_free
  rw [hL] at hc
  simp only [List.map_nil, List.sum_nil] at hc
  have hm : mayL v.L [] [a] = 0 := mayL_of (by show NamesOk [a.name]; rw [ha]; decide) (fun g hg => by cases hg) (fun b hb => by
    obtain rfl := List.mem_singleton.1 hb; omega)
  have hs : ([a].map fun b => needN b.data.length).sum = needN a.data.length := by simp
  have hs2 : ([a].map fun b => 19 + 4 * needN b.data.length).sum = 19 + 4 * needN a.data.length := by simp
  obtain ⟨v1, e, hG1, hL1, h1, h2⟩ := commit_goes hG hn2 (by omega) hm (by rw [hL, hs]; omega) (by rw [hL, hs2]; simp only [List.map_nil, List.sum_nil]; omega)
  exact ⟨v1, e, hG1, by rw [← ha]; exact h1 a (List.mem_cons_self ..)⟩
theorem step_vcommit_m {W w w0 : World} {g gs gd n K : Nat} {v : VauS} (h : OwnV W w0 g gs gd v) (hb : Below w0.heap.size w0 w) (hG : Good n K v)
    (G : Option Addr) (cg : Nat) (ns : List (List UInt8)) (hGr : Rd w G (ns.map strV)) (hG0 : G = none → ns = [] ∧ cg = 0) (P : Option Addr) (cp : Nat) (B : List Blb) (hB : PutR w P B) (hP : B ≠ [] → ∀ ad, P = some ad → ¬ Born W w0 ad.block) (hD : ∀ b ∈ B, b.data ≠ [] → ∀ ad, b.D = some ad → ¬ Born W w0 ad.block)
    (h1 : ns.length ≤ 100000) (h2 : B.length ≤ 100000) (h3 : ∀ s ∈ ns, s.length ≤ maxLen) (h4 : ∀ b ∈ B, b.name.length ≤ maxLen ∧ b.data.length ≤ 1000000) :
    Calls Tryz.prog 16 #[.pointer (some ⟨g, 0, none⟩), .slice G ns.length cg, .slice P B.length cp] w fun e w' => e = .returned (.int .i64 (commitV v ns B).1) ∧ Vau w' (More (Born W w0) w w') g gs gd (commitV v ns B).2 ∧ Only (Born W w0) w w' := by
  refine (vcommit_any (h.vau.ext hb) (h.tb.ext hb) h.tab.born (hG.small _ (by omega)) (by rw [hG.len]; have := hG.alive.len; rw [hG.len] at this; exact this) (by rw [hG.len]; exact hG.ok) (by have := hG.count; omega) G cg ns hGr hG0 P cp B hB hP hD h1 h2 h3 h4).mono ?_
  rintro e w' ⟨rfl, q1, q2⟩
  exact ⟨rfl, q1, q2⟩
set_option maxRecDepth 100000 in
set_option maxHeartbeats 4000000 in
theorem vw_walk (A0 : Option Addr) (n0 c0 : Nat) (xs0 : List UInt8) (W : World) (ht : Tab W) (hn0 : n0 = xs0.length) (hc0 : xs0.length ≤ c0) (hm0 : c0 ≤ maxLen) (hr0 : Rd W A0 (xs0.map bv)) :
    Calls Tryz.prog 9 #[.slice A0 n0 c0] W fun e w' => e = .returned (.bool true) ∧ Below W.heap.size W w' := by
  subst hn0
  unfold maxLen at hm0
  by_cases hbig : 1000 < xs0.length
  · have hbi : (1000 : Int) < (xs0.length : Int) := by omega
    go_enter Tryz.func9, Tryz.ntmps9
    go_wp2
    go_ret
    exact ⟨rfl, Below.refl _ _⟩
  by_cases hz : xs0.length = 0
  · have hbi : (xs0.length : Int) = 0 := by omega
    go_enter Tryz.func9, Tryz.ntmps9
    go_wp2
    go_ret
    exact ⟨rfl, Below.refl _ _⟩
  have hbi : (xs0.length : Int) ≤ 1000 := by omega
  have hbi2 : (0 : Int) < (xs0.length : Int) := by omega
  have hbi3 : ((xs0.length : Int) == 0) = false := by rw [beq_eq_false_iff_ne]; omega
  have Hbig := Lib.hid hbig
  have Hz := Lib.hid hz
  have hnew := new_step 64 W W (Below.refl _ _) (by omega) (by omega)
  have Hnew := Lib.hid hnew
  have Hr0 := Lib.hid hr0
  clear hnew hbig hz hr0
  go_enter Tryz.func9, Tryz.ntmps9
  go_wp2_with fail
  refine Hnew.out.mono ?_
  rintro e w1' ⟨gd, rfl, hI1, hb1⟩
  go_wp2_with fail
  refine (step_vformat hI1 hb1 ht (small_mono (small_zero 64) (by omega)) (by simp [zeroS])).mono ?_
  rintro e w3 ⟨g, gs, v, rfl, hO, hG, hL⟩
  have hz64 : (zeroS 64).length = 64 := by simp [zeroS]
  rw [hz64] at hG
  have HG := Lib.hid hG
  clear hG
  have hlit : RowO (w3.alloc (.cells #[] 5)) 5 1 (some ⟨w3.heap.size, 0, none⟩) 0 0 [] := RowO.lit w3 5 1 0 #[] rfl (by unfold maxLen; omega) rfl
  have hb3 : Below w3.heap.size w3 (w3.alloc (.cells #[] 5)) := ext_alloc (Below.refl _ _) _
  have hr3 : Rd (w3.alloc (.cells #[] 5)) A0 (xs0.map bv) := Hr0.out.ext (ext_trans hO.bel hb3)
  have h1c : ∀ u ∈ xs0.map bv, u.oneCell' = true := fun u hu => by obtain ⟨b, _, rfl⟩ := List.mem_map.1 hu; rfl
  have hA0 : A0 = none → xs0.length = 0 := fun e => by
    obtain ⟨ad, h, _⟩ := Hr0.out.at_ (k := 0) (by have := Hz.out; rw [List.length_map]; omega)
    rw [e] at h; cases h
  have hk1 : 0 + xs0.length ≤ maxLen := by unfold maxLen; have := Hbig.out; omega
  have hk2 : (0 + xs0.length) * 1 ≤ 140737488355328 := by have := Hbig.out; omega
  have hlm : (xs0.map bv).length = xs0.length * 1 := by simp
  have Hlit := Lib.hid hlit
  have Hr3 := Lib.hid hr3
  have H1c := Lib.hid h1c
  have HA0 := Lib.hid hA0
  have Hk1 := Lib.hid hk1
  have Hk2 := Lib.hid hk2
  have Hlm := Lib.hid hlm
  clear hlit hr3 h1c hA0 hk1 hk2 hlm
  go_wp2_with (at_builtin
               refine wpList_appO _ rfl (.tmp 38) (.tmp 39) 57 rfl 5 (.int .u8 0) 1 1 Tryz.underlying57 info_u8 rfl (some ⟨w3.heap.size, 0, none⟩) 0 0 [] rfl Hlit.out A0 xs0.length c0 (xs0.map bv) rfl Hlm.out Hr3.out H1c.out HA0.out Hk1.out Hk2.out ?_
               intro Ap cp w4 hrow honly hin)
  rw [Nat.zero_add] at hrow
  have hAp : ∀ k, inA Ap k → w3.heap.size ≤ k := fun k hk => by
    rcases hin k hk with h1 | h1
    · rw [inA_some] at h1; omega
    · have := h1.1; rw [World.size_alloc] at this; omega
  have hbw4 : Below w3.heap.size w3 w4 := hb3.trans (honly.below (fun i hi => by rw [inA_some] at hi; omega) (by rw [World.size_alloc]; omega))
  have HAp := Lib.hid hAp
  have Hrow := Lib.hid hrow
  clear hAp hrow honly hin
  obtain ⟨v1, e1, hG1, hx1⟩ := one_sem HG.out hL (by omega) (by omega) ⟨[120], xs0, Ap, cp⟩ rfl (by have := Hbig.out; show xs0.length ≤ 1000; omega)
  dsimp only at hx1
  have hcp : xs0.length ≤ cp := Hrow.out.le
  have hbl : Below w4.heap.size w4 (w4.alloc (.cells #[.string ⟨#[120]⟩, .slice Ap xs0.length cp] 65)) := ext_alloc (Below.refl _ _) _
  have hput := putr_of (B := [⟨[120], xs0, Ap, cp⟩]) (heap_alloc_new w4 (.cells #[.string ⟨#[120]⟩, .slice Ap xs0.length cp] 65)) rfl (fun b hb => by
    obtain rfl := List.mem_singleton.1 hb; exact ⟨hcp, Hrow.out.rd.ext hbl⟩)
  have hz34 := hbw4.size
  have hcm := step_vcommit_m hO (ext_trans hbw4 hbl) HG.out none 0 [] (Rd.nil _ _) (fun _ => ⟨rfl, rfl⟩) (some ⟨w4.heap.size, 0, none⟩) 1 [⟨[120], xs0, Ap, cp⟩] hput (fun _ ad e hk => by injection e with e; subst e; have h9 : w4.heap.size < w3.heap.size := hk.2; omega) (fun b hb _ ad e hk => by
    obtain rfl := List.mem_singleton.1 hb
    have := HAp.out _ ⟨ad, e, rfl⟩
    have := hk.2
    omega) (by simp) (by simp) (fun s hs => by cases hs) (fun b hb => by
    obtain rfl := List.mem_singleton.1 hb; exact ⟨by unfold maxLen; simp, by have := Hbig.out; show xs0.length ≤ _; omega⟩)
  rw [e1] at hcm
  have Hcm := Lib.hid hcm
  have HG1 := Lib.hid hG1
  have Hx1 := Lib.hid hx1
  clear hcm hput e1 hG1 hx1 hL hcp
  go_wp2_with fail
  refine Hcm.out.mono ?_
  rintro e w5 ⟨rfl, hV5, ho5⟩
  have hrow5 : RowO w5 5 1 Ap xs0.length cp (xs0.map bv) := (Hrow.out.ext hbl).only ho5 (fun k hk hk' => by
    have := HAp.out k hk
    have := hk'.2
    omega)
  have hbW5 : Below W.heap.size W w5 := (ext_trans (ext_trans hO.bel hbw4) hbl).trans (ho5.below (fun _ hk => hk.1) (by have := (ext_trans (ext_trans hO.bel hbw4) hbl).size; exact this))
  have hAp5 : ∀ k, inA Ap k → w3.heap.size ≤ k ∧ k < w4.heap.size := fun k hk => ⟨HAp.out k hk, Hrow.out.lt hk⟩
  have HAp5 := Lib.hid hAp5
  have Hrow5 := Lib.hid hrow5
  have HV5 := Lib.hid hV5
  have HbW5 := Lib.hid hbW5
  have Hlit2 : True := trivial
  have Hsz := Lib.hid (show w4.heap.size < (w4.alloc (.cells #[.string ⟨#[120]⟩, .slice Ap xs0.length cp] 65)).heap.size by rw [World.size_alloc]; omega)
  have Hsz3 := Lib.hid hO.bel.size
  have Hsz34 := Lib.hid hz34
  have Hsz45 := Lib.hid ho5.size
  clear hAp5 hrow5 hV5 hbW5 ho5 Hcm Hrow HAp hbl hbw4 hz34 Hr3 Hlit hO hb3 HG hI1 hb1
  go_wp2
  go_loopw [9] (fun i wr => ∃ (k : Nat) (ys : List UInt8), k ≤ xs0.length ∧ i = .int .i64 (k : Int) ∧ RowO wr 5 1 Ap xs0.length cp (ys.map bv) ∧ Only (inA Ap) w5 wr) (fun i _ => xs0.length - (intOf i).toNat)
  case atStart => exact ⟨0, xs0, Nat.zero_le _, rfl, Hrow5.out, Only.refl _ _⟩
  case round =>
    obtain ⟨k, ys, hk, rfl, hrw, hon⟩ := hrel
    by_cases hlt : k < xs0.length
    · have hki : (k : Int) < (xs0.length : Int) := by omega
      obtain ⟨gp, op, rfl, d0, d1, hp⟩ := row_put hrw hlt
      have hp1 := hp (ys.getD k 0 + 1)
      have hww := u8_add_one (ys.getD k 0)
      unfold bv at d0
      obtain ⟨x, hx⟩ : ∃ x, ys.getD k 0 = x := ⟨_, rfl⟩
      rw [hx] at d0 hp1 hww
      have hx255 : (x.toNat : Int) ≤ 255 := by have := x.toNat_lt; omega
      have Hp1 := Lib.hid hp1
      have Hon := Lib.hid hon
      clear hp hp1 hx hrw hon
      unfold bv at Hp1
      rw [← hww] at Hp1
      clear hww
      go_wp2
      go_roundw
      case rel => exact ⟨k + 1, ys.set k (x + 1), by omega, by go_num, Hp1.out.1, Hon.out.trans Hp1.out.2 (fun i _ h => h)⟩
      case measure => simp [intOf]; omega
    · obtain rfl : k = xs0.length := by omega
      have hV6 := HV5.out.only hon (fun k hk hk' => by
        obtain ⟨q1, q2⟩ := HAp5.out k hk'
        have := Hsz.out
        rcases hk with hk | hk
        · have := hk.2; omega
        · omega)
      have hbW6 : Below W.heap.size W wr := HbW5.out.trans (hon.below (fun k hk => by have := (HAp5.out k hk).1; have := Hsz3.out; omega) HbW5.out.size)
      have hg := vau_get_has hV6 (ht.ext hbW6) HG1.out Hx1.out
      have Hg := Lib.hid hg
      have HV6 := Lib.hid hV6
      have Hsz6 := Lib.hid hon.size
      clear hg hrw hon hV6
      go_wp2_with fail
      refine Hg.out.mono ?_
      rintro e w7 ⟨A7, c7, rfl, hN7⟩
      have hbW7 := ext_trans hbW6 hN7.bel
      have cv1 := conv_bytes w7 A7 xs0.length c7 xs0 rfl hN7.rd
      have cv2 := conv_bytes w7 A0 xs0.length c0 xs0 rfl (Hr0.out.ext hbW7)
      obtain ⟨Y, hY⟩ : ∃ Y : ByteArray, (⟨xs0.toArray⟩ : ByteArray) = Y := ⟨_, rfl⟩
      rw [hY] at cv1 cv2
      have HN7 := Lib.hid hN7
      clear hY hN7 Hg
      go_wp2
      obtain ⟨wo, hwo⟩ : ∃ wo : World, wo = wr := ⟨_, rfl⟩
      subst hwo
      go_loopw [12] (fun i wr => ∃ (k : Nat) (ys : List UInt8), k ≤ xs0.length ∧ i = .int .i64 (k : Int) ∧ RowO wr 5 1 A7 xs0.length c7 (ys.map bv) ∧ Only (inA A7) w7 wr) (fun i _ => xs0.length - (intOf i).toNat)
      case atStart => exact ⟨0, xs0, Nat.zero_le _, rfl, HN7.out.row, Only.refl _ _⟩
      case round =>
        obtain ⟨k, ys, hk, rfl, hrw, hon⟩ := hrel
        by_cases hlt : k < xs0.length
        · have hki : (k : Int) < (xs0.length : Int) := by omega
          obtain ⟨gp, op, rfl, d0, d1, hp⟩ := row_put hrw hlt
          have hp1 := hp (ys.getD k 0 + 1)
          have hww := u8_add_one (ys.getD k 0)
          unfold bv at d0
          obtain ⟨x, hx⟩ : ∃ x, ys.getD k 0 = x := ⟨_, rfl⟩
          rw [hx] at d0 hp1 hww
          have hx255 : (x.toNat : Int) ≤ 255 := by have := x.toNat_lt; omega
          have Hp1 := Lib.hid hp1
          have Hon := Lib.hid hon
          clear hp hp1 hx hrw hon
          unfold bv at Hp1
          rw [← hww] at Hp1
          clear hww
          go_wp2
          go_roundw
          case rel => exact ⟨k + 1, ys.set k (x + 1), by omega, by go_num, Hp1.out.1, Hon.out.trans Hp1.out.2 (fun i _ h => h)⟩
          case measure => simp [intOf]; omega
        · obtain rfl : k = xs0.length := by omega
          have hV8 := (HV6.out.ext HN7.out.bel).only hon (fun k hk hk' => by
            have q1 := HN7.out.2.2 k hk'
            have := Hsz.out
            have := Hsz6.out
            have := Hsz34.out
            have := Hsz45.out
            rcases hk with hk | hk
            · have := hk.2; omega
            · have := hk.2; omega)
          have hbW8 : Below W.heap.size W wr := hbW7.trans (hon.below (fun k hk => by have := HN7.out.2.2 k hk; have := hbW6.size; omega) hbW7.size)
          have hg := vau_get_has hV8 (ht.ext hbW8) HG1.out Hx1.out
          have Hg := Lib.hid hg
          clear hg hrw hon hV8
          go_wp2_with fail
          refine Hg.out.mono ?_
          rintro e w9 ⟨A9, c9, rfl, hN9⟩
          have hbW9 := ext_trans hbW8 hN9.bel
          have cv3 := conv_bytes w9 A9 xs0.length c9 xs0 rfl hN9.rd
          have cv4 := conv_bytes w9 A0 xs0.length c0 xs0 rfl (Hr0.out.ext hbW9)
          obtain ⟨Y2, hY⟩ : ∃ Y : ByteArray, (⟨xs0.toArray⟩ : ByteArray) = Y := ⟨_, rfl⟩
          rw [hY] at cv3 cv4
          clear hY hN9 Hg
          go_wp2_with fail
          refine (known_any _ (ht.ext hbW9)).mono ?_
          rintro e w10 ⟨rfl, hb10⟩
          go_wp2
          go_ret
          exact ⟨rfl, ext_trans hbW9 hb10⟩
end Go.Proofs.YtdpmfcifgimleaaGreatDoor

/-
  A byte of a blob is spoilt on the disk. No statement of the seat is proved here.
-/
namespace Go.Proofs.YtdpmfcifgimleaaGreatDoor
open Go Go.RowKit

theorem flat_len (F : Nat → List UInt8) : ∀ m, (∀ k, k < m → (F k).length = 64) → ((List.range m).flatMap F).length = 64 * m
  | 0, _ => rfl
  | m + 1, h => by
    rw [List.range_succ, List.flatMap_append, List.length_append, flat_len F m (fun k hk => h k (by omega))]
    have : [m].flatMap F = F m := by simp
    rw [this, h m (by omega)]; omega
theorem flat_set (F : Nat → List UInt8) (j r : Nat) (x : UInt8) (hr : r < 64) : ∀ m, (∀ k, k < m → (F k).length = 64) → j < m → (List.range m).flatMap (fun k => if k = j then (F k).set r x else F k) = ((List.range m).flatMap F).set (64 * j + r) x
  | 0, _, hj => absurd hj (by omega)
  | m + 1, h, hj => by
    have hl := flat_len F m (fun k hk => h k (by omega))
    have e1 : [m].flatMap F = F m := by simp
    have e2 : [m].flatMap (fun k => if k = j then (F k).set r x else F k) = if m = j then (F m).set r x else F m := by simp
    rw [List.range_succ, List.flatMap_append, List.flatMap_append, e1, e2, List.set_append, hl]
    by_cases hm : m = j
    · subst hm
      rw [if_pos rfl, if_neg (by omega), show 64 * m + r - 64 * m = r by omega]
      congr 1
      exact flatMap_congr' (fun k hk => by have := List.mem_range.1 hk; rw [if_neg (by omega)])
    · rw [if_neg hm, if_pos (by omega), flat_set F j r x hr m (fun k hk => h k (by omega)) (by omega)]
theorem blob_spoilt {S S' : Sec} {e : Ent} (hw : Wf S) (hS : ∀ i ∈ secs e.ext, i < S.length) (hnd : (secs e.ext).Nodup) {j r : Nat} {x : UInt8} (hj : j < (secs e.ext).length) (hr : r < 64)
    (h1 : (lasts S').getD ((secs e.ext).getD j 0) [] = ((lasts S).getD ((secs e.ext).getD j 0) []).set r x) (h2 : ∀ i, i ≠ (secs e.ext).getD j 0 → (lasts S').getD i [] = (lasts S).getD i []) : blobOf S' e = (blobOf S e).set (64 * j + r) x := by
  have hg : ∀ k (hk : k < (secs e.ext).length), (secs e.ext).getD k 0 = (secs e.ext)[k] := fun k hk => by rw [List.getD_eq_getElem?_getD, List.getElem?_eq_getElem hk]; rfl
  unfold blobOf
  rw [dataAt_lasts, dataAt_lasts, flatMap_getElem (fun i => (lasts S').getD i []) _ 0, flatMap_getElem (fun i => (lasts S).getD i []) _ 0]
  have hc : ((List.range (secs e.ext).length).flatMap fun k => (lasts S').getD ((secs e.ext).getD k 0) []) = (List.range (secs e.ext).length).flatMap (fun k => if k = j then ((lasts S).getD ((secs e.ext).getD k 0) []).set r x else (lasts S).getD ((secs e.ext).getD k 0) []) := flatMap_congr' (fun k hk => by
    have hk := List.mem_range.1 hk
    by_cases hkj : k = j
    · subst hkj
      rw [if_pos rfl]; exact h1
    · rw [if_neg hkj]
      refine h2 _ (fun e' => hkj ?_)
      rw [hg k hk, hg j hj] at e'
      rcases Nat.lt_trichotomy k j with hlt | hlt | hlt
      · exact absurd e' (List.pairwise_iff_getElem.1 hnd k j hk hj hlt)
      · exact hlt
      · exact absurd e'.symm (List.pairwise_iff_getElem.1 hnd j k hj hk hlt))
  rw [hc, flat_set (fun k => (lasts S).getD ((secs e.ext).getD k 0) []) j r x hr _ (fun k hk => by
    rw [lasts_getD]
    have hi := hS _ (List.getElem_mem hk)
    rw [hg k hk, List.getD_eq_getElem?_getD, List.getElem?_eq_getElem hi]
    have hm := List.getElem_mem hi
    exact (hw _ hm).2 _ (lastOf_mem (hw _ hm).1)) hj, List.take_set]
/-- a Write below a vault -/
theorem vau_write {w : World} {fp : Nat → Prop} {g gs gd : Nat} {v : VauS} (h : Vau w fp g gs gd v) (hs : Small 999999 v.s.S) (i : Int) (A : Option Addr) (n c : Nat) (bs : List UInt8) (hn : n = bs.length) (hr : Rd w A (bs.map bv)) :
    Calls Tryz.prog 39 #[.pointer (some ⟨gd, 0, none⟩), .int .i64 i, .slice A n c] w fun e w' => e = .returned (.int .i64 (writeCode v.s.S.length v.s.l i bs)) ∧ Vau w' (More fp w w') g gs gd { v with s := { v.s with S := writeS v.s.S v.s.l i bs, l := writeL v.s.S.length v.s.l i bs } } ∧ Only fp w w' := by
  obtain ⟨fS, A', c', R, hp⟩ := h
  refine (sup_write hp.sup hs i A n c bs hn hr).mono ?_
  rintro e w' ⟨rfl, q1, q2⟩
  have hgl := hp.blk.lt
  have hz := q2.size
  refine ⟨rfl, ⟨More fS w w', A', c', R, {
    sup := q1
    sub := fun k hk => hk.imp (fun x => hp.sub k x) id
    slt := fun k hk => by
      rcases hk with hk | hk
      · have := hp.slt k hk; omega
      · exact hk.2
    fg := .inl hp.fg
    ng := not_more hp.ng hgl
    blk := hp.blk.only q2 hp.ng
    dir := ⟨(hp.dir.only q2).dir, fun ad e hm => by
      rcases hm with hm | hm
      · exact hp.dir.row ad e hm
      · have := (hp.fA ad e).2.2; omega, fun r hr' ad e hm => by
      rcases hm with hm | hm
      · exact hp.dir.ext r hr' ad e hm
      · have := (hp.fX r hr' ad e).2.2; omega⟩
    eq := hp.eq
    fA := fun ad e => ⟨.inl (hp.fA ad e).1, (hp.fA ad e).2.1, by have := (hp.fA ad e).2.2; omega⟩
    fX := fun r hr' ad e => ⟨.inl (hp.fX r hr' ad e).1, (hp.fX r hr' ad e).2.1, by have := (hp.fX r hr' ad e).2.2; omega⟩ }⟩, q2.mono (fun k _ hk => hp.sub k hk)⟩
end Go.Proofs.YtdpmfcifgimleaaGreatDoor

/-
  How many sectors are a blob's. No Go here; no statement of the seat is proved here.
-/
namespace Go.Proofs.YtdpmfcifgimleaaGreatDoor

theorem fold_cases (L : List Ent) : ∀ (l : List (List UInt8)) (i : Nat), i < l.length → ((∀ e ∈ L, i ∉ secs e.ext) ∧ (L.foldl markE l).getD i [] = l.getD i []) ∨ ∃ e ∈ L, i ∈ secs e.ext ∧ (L.foldl markE l).getD i [] = e.name := by
  induction L with
  | nil => intro l i _; exact .inl ⟨(fun e he => by cases he), rfl⟩
  | cons x r ih =>
    intro l i hi
    rw [List.foldl_cons]
    rcases ih (markE l x) i (by rw [markE_length]; exact hi) with ⟨h1, h2⟩ | ⟨e, he, h1, h2⟩
    · rw [h2, markE_getD _ _ _ hi]
      by_cases hm : i ∈ secs x.ext
      · rw [if_pos hm]
        exact .inr ⟨x, List.mem_cons_self .., hm, rfl⟩
      · rw [if_neg hm]
        refine .inl ⟨fun e he => ?_, rfl⟩
        rcases List.mem_cons.1 he with rfl | he
        · exact hm
        · exact h1 e he
    · exact .inr ⟨e, List.mem_cons_of_mem _ he, h1, h2⟩
theorem apart_one {L : List Ent} (h : (L.flatMap fun e => secs e.ext).Nodup) : ∀ e ∈ L, ∀ e' ∈ L, ∀ i, i ∈ secs e.ext → i ∈ secs e'.ext → e = e' := by
  induction L with
  | nil => intro e he; cases he
  | cons x r ih =>
    rw [List.flatMap_cons, List.nodup_append] at h
    obtain ⟨_, h2, h3⟩ := h
    intro e he e' he' i hi hi'
    rcases List.mem_cons.1 he with h5 | h5 <;> rcases List.mem_cons.1 he' with h6 | h6
    · rw [h5, h6]
    · rw [h5] at hi; exact absurd rfl (h3 i hi i (List.mem_flatMap.2 ⟨e', h6, hi'⟩))
    · rw [h6] at hi'; exact absurd rfl (h3 i hi' i (List.mem_flatMap.2 ⟨e, h5, hi⟩))
    · exact ih h2 e h5 e' h6 i hi hi'
theorem rises_name {L : List Ent} (h : Rises L) {e e' : Ent} (he : e ∈ L) (he' : e' ∈ L) (hn : e.name = e'.name) : e = e' := by
  have h1 := findE_of h he
  have h2 := findE_of h he'
  rw [hn, h2] at h1
  injection h1 with h1
  exact h1.symm
theorem owner_is {n : Nat} {L : List Ent} (h : VOk n L) {e : Ent} (he : e ∈ L) {i : Nat} (hi : i < n) : (ownerL n L).getD i [] = e.name ↔ i ∈ secs e.ext := by
  have hb : i < (markL (List.replicate n []) (0, 32) [33]).length := by rw [markL_length, List.length_replicate]; exact hi
  unfold ownerL
  constructor
  · intro hv
    rcases fold_cases L _ i hb with ⟨_, h2⟩ | ⟨e', he', h1, h2⟩
    · exfalso
      rw [h2, markL_getD _ _ _ _ (by rw [List.length_replicate]; exact hi)] at hv
      have hne := (h.ent e he).ne
      split at hv
      · have hnm := (h.ent e he).name
        rw [← hv] at hnm
        revert hnm; decide
      · rw [List.getD_eq_getElem?_getD, List.getElem?_replicate] at hv
        split at hv <;> exact hne hv.symm
    · rw [h2] at hv
      rw [← rises_name h.rises he' he hv]
      exact h1
  · intro hm
    rcases fold_cases L _ i hb with ⟨h1, _⟩ | ⟨e', he', h1, h2⟩
    · exact absurd hm (h1 e he)
    · rw [h2, apart_one h.apart e' he' e he i h1 hm]
/-- how many of the first k sectors are of that name -/
def cntO (o : List (List UInt8)) (s : List UInt8) (k : Nat) : Nat := ((List.range k).filter fun i => decide (o.getD i [] = s)).length
theorem cntO_zero (o : List (List UInt8)) (s : List UInt8) : cntO o s 0 = 0 := rfl
theorem cntO_succ (o : List (List UInt8)) (s : List UInt8) (k : Nat) : cntO o s (k + 1) = cntO o s k + if o.getD k [] = s then 1 else 0 := by
  unfold cntO
  rw [List.range_succ, List.filter_append, List.length_append]
  congr 1
  by_cases h : o.getD k [] = s
  · rw [if_pos h, List.filter_cons, if_pos (decide_eq_true h)]; rfl
  · rw [if_neg h, List.filter_cons, if_neg (by simpa using h)]; rfl
theorem cntO_le (o : List (List UInt8)) (s : List UInt8) (k : Nat) : cntO o s k ≤ k := by
  have := List.length_filter_le (fun i => decide (o.getD i [] = s)) (List.range k)
  rw [List.length_range] at this
  exact this
theorem cntO_all {n : Nat} {L : List Ent} (h : VOk n L) {e : Ent} (he : e ∈ L) : cntO (ownerL n L) e.name n = needN e.len := by
  rw [← (h.ent e he).room]
  unfold cntO
  have hnd : (secs e.ext).Nodup := by
    have h1 := h.apart
    have : ∀ M : List Ent, e ∈ M → (M.flatMap fun e => secs e.ext).Nodup → (secs e.ext).Nodup := by
      intro M
      induction M with
      | nil => intro hm; cases hm
      | cons x r ih =>
        intro hm hM
        rw [List.flatMap_cons, List.nodup_append] at hM
        rcases List.mem_cons.1 hm with rfl | hm
        · exact hM.1
        · exact ih hm hM.2.1
    exact this L he h1
  have hp : ((List.range n).filter fun i => decide ((ownerL n L).getD i [] = e.name)).Perm (secs e.ext) := by
    rw [List.perm_ext_iff_of_nodup (List.nodup_range.filter _) hnd]
    intro i
    rw [List.mem_filter, List.mem_range]
    constructor
    · rintro ⟨h1, h2⟩
      exact (owner_is h he h1).1 (of_decide_eq_true h2)
    · intro hi
      have hlt : i < n := by
        obtain ⟨x, hx, hxi⟩ := List.mem_flatMap.1 hi
        have h1 := (h.ent e he).ext x hx
        have h2 := mem_runL.1 hxi
        omega
      exact ⟨hlt, decide_eq_true ((owner_is h he hlt).2 hi)⟩
  exact hp.length_eq
/-- how many sectors the first k blobs need -/
def needTo (L : List Ent) (k : Nat) : Nat := ((L.take k).map fun e => needN e.len).sum
theorem needTo_zero (L : List Ent) : needTo L 0 = 0 := rfl
theorem needTo_succ (L : List Ent) (k : Nat) (h : k < L.length) : needTo L (k + 1) = needTo L k + needN L[k].len := by
  unfold needTo
  rw [List.take_succ_eq_append_getElem h, List.map_append, List.sum_append]
  simp
theorem needTo_all (L : List Ent) : needTo L L.length = (L.map fun e => needN e.len).sum := by
  unfold needTo; rw [List.take_length]
theorem needTo_le (L : List Ent) : ∀ k, needTo L k ≤ needTo L L.length := fun k => by
  rw [needTo_all]
  unfold needTo
  have : (L.map fun e => needN e.len).sum = ((L.take k).map fun e => needN e.len).sum + ((L.drop k).map fun e => needN e.len).sum := by
    rw [← List.sum_append, ← List.map_append, List.take_append_drop]
  omega
end Go.Proofs.YtdpmfcifgimleaaGreatDoor

/-
  What VaultSpoilt's Commit makes, and what a spoilt byte makes of it. No statement of the seat is proved here.
-/
namespace Go.Proofs.YtdpmfcifgimleaaGreatDoor
open Go Go.RowKit

theorem free100 : freeL 100 [] = (List.range 68).map (32 + ·) := by decide +kernel
/-- a blob that lies there -/
structure Lies (v : VauS) (s d : List UInt8) (e : Ent) : Prop where
  mem : e ∈ v.L
  name : e.name = s
  data : blobOf v.s.S e = d
  sum : e.sum = sumOf d
  len : e.len = d.length
theorem spoilt_sem {v : VauS} (hG : Good 100 1 v) (hL : v.L = []) (a o : Blb) (ha : a.name = [120]) (ho : o.name = [121]) (hlen : a.data.length + o.data.length ≤ 1500) :
    ∃ v1 ex ey, commitV v [] [a, o] = (0, v1) ∧ Good 100 2 v1 ∧ Lies v1 [120] a.data ex ∧ Lies v1 [121] o.data ey ∧ (∀ j, j < needN a.data.length → (secs ex.ext).getD j 0 = 32 + j) ∧ (secs ex.ext).length = needN a.data.length := by
  have q1 := needN_le a.data.length
  have q2 := needN_le o.data.length
  have hc := hG.count_free
  rw [hL] at hc
  simp only [List.map_nil, List.sum_nil] at hc
  have hm : mayL v.L [] [a, o] = 0 := mayL_of (by show NamesOk [a.name, o.name]; rw [ha, ho]; decide) (fun g hg => by cases hg) (fun b hb => by
    rcases List.mem_cons.1 hb with rfl | hb
    · omega
    · obtain rfl := List.mem_singleton.1 hb; omega)
  have hs : ([a, o].map fun b => needN b.data.length).sum = needN a.data.length + needN o.data.length := by simp
  have hs2 : ([a, o].map fun b => 19 + 4 * needN b.data.length).sum = 38 + 4 * needN a.data.length + 4 * needN o.data.length := by simp; omega
  have hro : offs [a, o] [a, o].length ≤ (freeL 100 v.L).length := by rw [offs_all, hs, hL]; omega
  have hsh := next_short hG (by omega) hm hro
  rw [hs2, hL] at hsh
  simp only [List.map_nil, List.sum_nil] at hsh
  obtain ⟨v1, e, hG1, hL1, _, h2⟩ := commit_good hG (by omega) hm hro (by omega)
  have hSl := hG.len
  have m0 := next_mem_new (v := v) (gs := []) (B := [a, o]) (k := 0) (by simp)
  have m1 := next_mem_new (v := v) (gs := []) (B := [a, o]) (k := 1) (by simp)
  rw [hSl] at m0 m1
  have hsec : secs (entK [a, o] (freeL 100 v.L) 0).ext = ((List.range 68).map (32 + ·)).take (needN a.data.length) := by
    rw [laid_secs, hL, free100]
    have : offs [a, o] 0 = 0 := rfl
    rw [this, List.drop_zero]; rfl
  refine ⟨v1, entK [a, o] (freeL 100 v.L) 0, entK [a, o] (freeL 100 v.L) 1, e, hG1, ⟨by rw [hL1]; exact m0, ha, h2 0 (by simp), rfl, rfl⟩, ⟨by rw [hL1]; exact m1, ho, h2 1 (by simp), rfl, rfl⟩, fun j hj => ?_, ?_⟩
  · rw [hsec, List.getD_eq_getElem?_getD, List.getElem?_take, if_pos hj, List.getElem?_map, List.getElem?_range (by omega)]; rfl
  · rw [hsec, List.length_take, List.length_map, List.length_range]; omega
/-- what the byte was -/
theorem blob_byte {S : Sec} {e : Ent} (hw : Wf S) (hS : ∀ i ∈ secs e.ext, i < S.length) (hnd : (secs e.ext).Nodup) {j r : Nat} (hj : j < (secs e.ext).length) (hr : r < 64) (hk : 64 * j + r < (blobOf S e).length) : (blobOf S e)[64 * j + r] = ((lasts S).getD ((secs e.ext).getD j 0) []).getD r 0 := by
  obtain ⟨x0, hx0⟩ : ∃ x0, ((lasts S).getD ((secs e.ext).getD j 0) []).getD r 0 = x0 := ⟨_, rfl⟩
  have hs : (lasts S).getD ((secs e.ext).getD j 0) [] = ((lasts S).getD ((secs e.ext).getD j 0) []).set r x0 := by
    rw [← hx0]
    refine List.ext_getElem? fun i => ?_
    rw [List.getElem?_set]
    by_cases hi : r = i
    · subst hi
      rw [if_pos rfl]
      split
      · rename_i h
        rw [List.getElem?_eq_getElem h, List.getD_eq_getElem?_getD (l := (lasts S).getD ((secs e.ext).getD j 0) []), List.getElem?_eq_getElem h]; rfl
      · rename_i h
        rw [List.getElem?_eq_none (by omega)]
    · rw [if_neg hi]
  have h1 := blob_spoilt hw hS hnd hj hr hs (fun i _ => rfl)
  have h2 : (blobOf S e)[64 * j + r]? = ((blobOf S e).set (64 * j + r) x0)[64 * j + r]? := by rw [← h1]
  rw [List.getElem?_set, if_pos rfl, if_pos hk, List.getElem?_eq_getElem hk] at h2
  injection h2 with h2
  rw [h2, hx0]
theorem apart_nodup {L : List Ent} (h : (L.flatMap fun e => secs e.ext).Nodup) {e : Ent} (he : e ∈ L) : (secs e.ext).Nodup := by
  induction L with
  | nil => cases he
  | cons x r ih =>
    rw [List.flatMap_cons, List.nodup_append] at h
    rcases List.mem_cons.1 he with rfl | he
    · exact h.1
    · exact ih h.2.1 he
theorem Wf.getD64 {S : Sec} (hw : Wf S) {i : Nat} (hi : i < S.length) : ((lasts S).getD i []).length = 64 := by
  rw [lasts_getD, List.getD_eq_getElem?_getD, List.getElem?_eq_getElem hi]
  have hm := List.getElem_mem hi
  exact (hw _ hm).2 _ (lastOf_mem (hw _ hm).1)
/-- the disk behind the write -/
theorem spoilt_disk {v : VauS} {n K : Nat} (hG : Good n K v) {i r : Nat} (hi : i < n) (y : UInt8) :
    writeCode v.s.S.length v.s.l (i : Int) (((lasts v.s.S).getD i []).set r y) = 0 ∨ ((lasts v.s.S).getD i []).length ≠ 64 := by
  by_cases h : ((lasts v.s.S).getD i []).length = 64
  · left
    unfold writeCode
    rw [hG.free, if_neg (by omega), if_neg (by rw [List.length_set, h, hG.len]; omega)]
  · exact .inr h
theorem spoilt_secs {v : VauS} {n K : Nat} (hG : Good n K v) {e : Ent} (he : e ∈ v.L) : (∀ i ∈ secs e.ext, i < v.s.S.length) ∧ (secs e.ext).Nodup := by
  refine ⟨fun i hi => ?_, apart_nodup hG.ok.apart he⟩
  obtain ⟨x, hx, hxi⟩ := List.mem_flatMap.1 hi
  have h1 := (hG.ok.ent e he).ext x hx
  have h2 := mem_runL.1 hxi
  rw [hG.len]; omega
theorem spoilt_blobs {v : VauS} {n K : Nat} (hG : Good n K v) (hw : Wf v.s.S) {a o : List UInt8} {ex ey : Ent} (hx : Lies v [120] a ex) (hy : Lies v [121] o ey) (hsec : ∀ j, j < needN a.length → (secs ex.ext).getD j 0 = 32 + j) (hl : (secs ex.ext).length = needN a.length) {k : Nat} (hk : k < a.length) {y : UInt8} (hyn : y ≠ ((lasts v.s.S).getD (32 + k / 64) []).getD (k % 64) 0) {S' : Sec}
    (hS' : S' = writeS v.s.S v.s.l ((32 + k / 64 : Nat) : Int) (((lasts v.s.S).getD (32 + k / 64) []).set (k % 64) y)) :
    sumOf (blobOf S' ex) ≠ ex.sum ∧ blobOf S' ey = o ∧ S'.length = v.s.S.length ∧ writeCode v.s.S.length v.s.l ((32 + k / 64 : Nat) : Int) (((lasts v.s.S).getD (32 + k / 64) []).set (k % 64) y) = 0 := by
  obtain ⟨h1, h2⟩ := spoilt_secs hG hx.mem
  have hn : needN a.length = (a.length + 63) / 64 := rfl
  have hj : k / 64 < (secs ex.ext).length := by rw [hl, hn]; omega
  have hgj : (secs ex.ext).getD (k / 64) 0 = 32 + k / 64 := hsec _ (by rw [hn]; omega)
  have hmem : 32 + k / 64 ∈ secs ex.ext := by
    rw [← hgj, List.getD_eq_getElem?_getD, List.getElem?_eq_getElem hj]
    exact List.getElem_mem hj
  have hi := h1 _ hmem
  have h64 := hw.getD64 hi
  have hcode : writeCode v.s.S.length v.s.l ((32 + k / 64 : Nat) : Int) (((lasts v.s.S).getD (32 + k / 64) []).set (k % 64) y) = 0 := by
    rcases spoilt_disk hG (i := 32 + k / 64) (r := k % 64) (by rw [← hG.len]; exact hi) y with h | h
    · exact h
    · exact absurd h64 h
  have hS2 : S' = v.s.S.set (32 + k / 64) (v.s.S.getD (32 + k / 64) [] ++ [((lasts v.s.S).getD (32 + k / 64) []).set (k % 64) y]) := by
    rw [hS']
    unfold writeS
    rw [if_pos hcode]
    show v.s.S.set (32 + k / 64) (v.s.S.getD (32 + k / 64) [] ++ [pad _]) = _
    unfold pad
    rw [List.length_set, h64]
    simp
  have hl1 : (lasts S').getD (32 + k / 64) [] = ((lasts v.s.S).getD (32 + k / 64) []).set (k % 64) y := by
    rw [hS2, lasts_set, if_pos ⟨rfl, hi⟩, lastOf_snoc]
  have hl2 : ∀ i, i ≠ 32 + k / 64 → (lasts S').getD i [] = (lasts v.s.S).getD i [] := fun i hne => by
    rw [hS2, lasts_set, if_neg (fun hh => hne hh.1.symm)]
  have hb1 := blob_spoilt hw h1 h2 hj (r := k % 64) (by omega) (x := y) (S' := S') (by rw [hgj]; exact hl1) (by rw [hgj]; exact hl2)
  have hkk : 64 * (k / 64) + k % 64 = k := by omega
  have hby := blob_byte hw h1 h2 hj (r := k % 64) (by omega) (by rw [hkk, hx.data]; exact hk)
  rw [hgj] at hby
  simp only [hkk] at hby hb1
  refine ⟨?_, ?_, by rw [hS2, List.length_set], hcode⟩
  · rw [hb1, hx.sum, ← hx.data]
    refine sum_set_ne _ k (by rw [hx.data]; exact hk) y ?_
    rw [hby]
    exact fun h => hyn h.symm
  · rw [← hy.data]
    refine blob_far (fun i hi' => hl2 i (fun h => ?_))
    rw [h] at hi'
    have h4 := apart_one hG.ok.apart ex hx.mem ey hy.mem _ hmem hi'
    have h5 := hx.name
    rw [h4, hy.name] at h5
    revert h5; decide
/-- Get, whatever lies on the disk -/
theorem vau_get {w : World} {fp : Nat → Prop} {g gs gd : Nat} {v : VauS} (h : Vau w fp g gs gd v) (ht : Tab w) (hs : Small 1000000 v.s.S) (hR : Rises v.L) (hF : Roomy v.s.S.length v.L) (s : List UInt8) :
    Calls Tryz.prog 33 #[.pointer (some ⟨g, 0, none⟩), strV s] w fun e w' => Got w w' v.s.S v.L s e ∧ Below w.heap.size w w' := by
  obtain ⟨fS, A, c, R, hp⟩ := h
  have h1 := get_any hp.imps hs ht _ _ A c R hp.blk hp.dir.dir (by rw [hp.eq]; exact hR) (by rw [hp.eq]; exact hF) s
  rw [hp.eq] at h1
  exact h1
theorem mask20v (v : Int) : ∃ m : Nat, bits .and .i64 v 1048575 = (m : Int) ∧ (m : Int) ≤ 1048575 := by
  have hx : (BitVec.ofInt 64 v &&& BitVec.ofInt 64 1048575).toNat ≤ 1048575 := by
    rw [BitVec.toNat_and]
    exact Nat.le_trans Nat.and_le_right (by decide)
  have h : bits .and .i64 v 1048575 = ((BitVec.ofInt 64 v &&& BitVec.ofInt 64 1048575).toNat : Int) := by
    show IntKind.i64.wrap ((BitVec.ofInt 64 v &&& BitVec.ofInt 64 1048575).toNat : Int) = _
    rw [IntKind.wrap_i64]; omega
  exact ⟨_, h, by omega⟩
theorem xor_bytev (x : UInt8) (v : Int) (h0 : v ≠ 0) (h1 : 0 ≤ v) (h2 : v ≤ 255) : ∃ y : UInt8, bits .xor .u8 (x.toNat : Int) v = (y.toNat : Int) ∧ y ≠ x := by
  obtain ⟨b, rfl⟩ : ∃ b : Nat, v = (b : Int) := ⟨v.toNat, by omega⟩
  have hx := x.toNat_lt
  have hlt : x.toNat ^^^ b < 256 := Nat.xor_lt_two_pow (n := 8) (by omega) (by omega)
  have e : bits .xor .u8 (x.toNat : Int) (b : Int) = ((x.toNat ^^^ b : Nat) : Int) := by
    show IntKind.u8.wrap ((BitVec.ofInt 8 (x.toNat : Int) ^^^ BitVec.ofInt 8 (b : Int)).toNat : Int) = _
    have o : ∀ a : Nat, a < 256 → (BitVec.ofInt 8 (a : Int)).toNat = a := fun a ha => by simp [BitVec.toNat_ofInt]; omega
    rw [BitVec.toNat_xor, o _ hx, o _ (by omega), IntKind.wrap_u8]
    omega
  refine ⟨(x.toNat ^^^ b).toUInt8, by rw [e, toUInt8_toNat, Nat.mod_eq_of_lt hlt], fun h => h0 ?_⟩
  have h3 := congrArg UInt8.toNat h
  rw [toUInt8_toNat, Nat.mod_eq_of_lt hlt] at h3
  have h4 : x.toNat ^^^ b = x.toNat ^^^ 0 := by rw [h3]; simp
  have h5 := xor_right_cancel h4
  omega
end Go.Proofs.YtdpmfcifgimleaaGreatDoor

/-
  The walk of VaultSpoilt. No statement of the seat is proved here.
-/
namespace Go.Proofs.YtdpmfcifgimleaaGreatDoor
open Go Go.RowKit

theorem bytes_putv {w : World} {g : Nat} {t : TypeId} {r : List UInt8} (h : Blk w g t (r.map bv).toArray) (j : Nat) (y : UInt8) : Blk (w.setCell ⟨g, j, none⟩ (.int .u8 (y.toNat : Int))) g t ((r.set j y).map bv).toArray := by
  have h1 := h.put j (.int .u8 (y.toNat : Int))
  rw [List.setIfInBounds_toArray] at h1
  rw [List.map_set]
  exact h1
set_option maxRecDepth 100000 in
set_option maxHeartbeats 8000000 in
theorem vs_walk (A0 : Option Addr) (n0 c0 : Nat) (xs0 : List UInt8) (A1 : Option Addr) (n1 c1 : Nat) (xs1 : List UInt8) (at_ by_ : Int) (W : World) (ht : Tab W)
    (hn0 : n0 = xs0.length) (hc0 : xs0.length ≤ c0) (hm0 : c0 ≤ maxLen) (hr0 : Rd W A0 (xs0.map bv)) (hn1 : n1 = xs1.length) (hc1 : xs1.length ≤ c1) (hm1 : c1 ≤ maxLen) (hr1 : Rd W A1 (xs1.map bv)) (hb1 : 0 ≤ by_) (hb2 : by_ ≤ 255) (z0 : n0 ≤ 140737488355328) (z1 : n1 ≤ 140737488355328) :
    Calls Tryz.prog 10 #[.slice A0 n0 c0, .slice A1 n1 c1, .int .i64 at_, .int .u8 by_] W fun e w' => e = .returned (.bool true) ∧ Below W.heap.size W w' := by
  subst hn0 hn1
  unfold maxLen at hm0 hm1
  have w1 : IntKind.i64.wrap ((xs0.length : Int) + (xs1.length : Int)) = (xs0.length : Int) + (xs1.length : Int) := IntWalk.i64_in _ (by omega)
  by_cases hbig : 1500 < xs0.length + xs1.length
  · have hbi : (1500 : Int) < (xs0.length : Int) + (xs1.length : Int) := by omega
    go_enter Tryz.func10, Tryz.ntmps10
    go_wp2
    go_ret
    exact ⟨rfl, Below.refl _ _⟩
  have hbi : (xs0.length : Int) + (xs1.length : Int) ≤ 1500 := by omega
  by_cases hz : xs0.length = 0
  · have hz1 : (xs0.length : Int) = 0 := by omega
    go_enter Tryz.func10, Tryz.ntmps10
    go_wp2
    go_ret
    exact ⟨rfl, Below.refl _ _⟩
  have hz1 : (0 : Int) < (xs0.length : Int) := by omega
  have hz2 : ((xs0.length : Int) == 0) = false := by rw [beq_eq_false_iff_ne]; omega
  by_cases hb0 : by_ = 0
  · subst hb0
    go_enter Tryz.func10, Tryz.ntmps10
    go_wp2
    go_ret
    exact ⟨rfl, Below.refl _ _⟩
  have hby : (by_ == 0) = false := beq_eq_false_iff_ne.2 hb0
  obtain ⟨mk, hmk, hmk2⟩ := mask20v at_
  have hnew := new_step 100 W W (Below.refl _ _) (by omega) (by omega)
  have Hnew := Lib.hid hnew
  have Hr0 := Lib.hid hr0
  have Hr1 := Lib.hid hr1
  have Hbig := Lib.hid hbig
  have Hz := Lib.hid hz
  have Hb0 := Lib.hid hb0
  clear hnew hr0 hr1 hbig hz hb0
  go_enter Tryz.func10, Tryz.ntmps10
  go_wp2_with fail
  refine Hnew.out.mono ?_
  rintro e w1' ⟨gd, rfl, hI1, hb1'⟩
  go_wp2_with fail
  refine (step_vformat hI1 hb1' ht (small_mono (small_zero 100) (by omega)) (by simp [zeroS])).mono ?_
  rintro e w3 ⟨g, gs, v, rfl, hO, hG, hL⟩
  have hz100 : (zeroS 100).length = 100 := by simp [zeroS]
  rw [hz100] at hG
  obtain ⟨v1, ex, ey, e1, hG1, hlx, hly, hsec, hsl⟩ := spoilt_sem hG hL ⟨[120], xs0, A0, c0⟩ ⟨[121], xs1, A1, c1⟩ rfl rfl (by have := Hbig.out; show xs0.length + xs1.length ≤ 1500; omega)
  dsimp only at hlx hly hsec hsl
  have He1 := Lib.hid e1
  have HG := Lib.hid hG
  have HG1 := Lib.hid hG1
  have Hlx := Lib.hid hlx
  have Hly := Lib.hid hly
  have Hsec := Lib.hid hsec
  have Hsl := Lib.hid hsl
  clear e1 hG hG1 hlx hly hsec hsl hL
  go_wp2_with fail
  have hB0 : Below w3.heap.size w3 (w3.alloc (.cells #[.string ⟨#[120]⟩, .slice A0 xs0.length c0, .string ⟨#[121]⟩, .slice A1 xs1.length c1] 65)) := ext_alloc (Below.refl _ _) _
  have hbw : Below W.heap.size W (w3.alloc (.cells #[.string ⟨#[120]⟩, .slice A0 xs0.length c0, .string ⟨#[121]⟩, .slice A1 xs1.length c1] 65)) := ext_trans hO.bel hB0
  have hput := putr_of (B := [⟨[120], xs0, A0, c0⟩, ⟨[121], xs1, A1, c1⟩]) (heap_alloc_new w3 (.cells #[.string ⟨#[120]⟩, .slice A0 xs0.length c0, .string ⟨#[121]⟩, .slice A1 xs1.length c1] 65)) rfl (fun b hb => by
    rcases List.mem_cons.1 hb with rfl | hb
    · exact ⟨hc0, Hr0.out.ext hbw⟩
    · obtain rfl := List.mem_singleton.1 hb; exact ⟨hc1, Hr1.out.ext hbw⟩)
  have hbg := Hbig.out
  have hcm := step_vcommit hO hB0 HG.out none 0 [] (Rd.nil _ _) (fun _ => ⟨rfl, rfl⟩) (some ⟨w3.heap.size, 0, none⟩) 2 [⟨[120], xs0, A0, c0⟩, ⟨[121], xs1, A1, c1⟩] hput (fun _ ad e hk => by injection e with e; subst e; exact Nat.lt_irrefl _ hk.2) (fun b hb => by
    rcases List.mem_cons.1 hb with rfl | hb
    · exact not_born_arg Hr0.out
    · obtain rfl := List.mem_singleton.1 hb; exact not_born_arg Hr1.out) (by simp) (by simp) (fun s hs => by cases hs) (fun b hb => by
    rcases List.mem_cons.1 hb with rfl | hb
    · exact ⟨by unfold maxLen; simp, by show xs0.length ≤ _; omega⟩
    · obtain rfl := List.mem_singleton.1 hb; exact ⟨by unfold maxLen; simp, by show xs1.length ≤ _; omega⟩)
  rw [He1.out] at hcm
  have Hcm := Lib.hid hcm
  clear hcm hput hbg
  refine Hcm.out.mono ?_
  rintro e w4 ⟨rfl, hO4, ho4⟩
  clear Hcm ho4 hbw hB0
  obtain ⟨k, hk⟩ : ∃ k, k = mk % xs0.length := ⟨_, rfl⟩
  have hkl : k < xs0.length := by have := Nat.mod_lt mk (show 0 < xs0.length by have := Hz.out; omega); omega
  have hki : (mk : Int) % (xs0.length : Int) = (k : Int) := by omega
  obtain ⟨i, hi⟩ : ∃ i, i = 32 + k / 64 := ⟨_, rfl⟩
  obtain ⟨r, hrr⟩ : ∃ r, r = k % 64 := ⟨_, rfl⟩
  have hiv : (32 : Int) + (k : Int) / 64 = (i : Int) := by omega
  have hrv : (k : Int) % 64 = (r : Int) := by omega
  have hr64 : r < 64 := by omega
  have hSl := HG1.out.len
  have hil : i < v1.s.S.length := by have := Hbig.out; omega
  obtain ⟨gc, BB, CC, hL4⟩ := hO4.imp
  have hwf : Wf v1.s.S := hL4.wf
  have hrd := read_ok hL4 (HG1.out.small _ (by omega)) i hil
  have hlast : lastOf v1.s.S[i] = (lasts v1.s.S).getD i [] := by rw [lasts_getD, List.getD_eq_getElem?_getD, List.getElem?_eq_getElem hil]; rfl
  rw [hlast] at hrd
  have h64 := hwf.getD64 hil
  obtain ⟨y, hy1, hy2⟩ := xor_bytev (((lasts v1.s.S).getD i []).getD r 0) by_ Hb0.out hb1 hb2
  obtain ⟨s1, s2, s3, s4⟩ := spoilt_blobs HG1.out hwf Hlx.out Hly.out Hsec.out Hsl.out hkl (y := y) (by rw [← hi, ← hrr]; exact hy2) rfl
  rw [← hi, ← hrr] at s1 s2 s3 s4
  have hcell : ((lasts v1.s.S).getD i [])[r]? = some (((lasts v1.s.S).getD i []).getD r 0) := by
    have h9 := List.getElem?_eq_getElem (l := (lasts v1.s.S).getD i []) (i := r) (by omega)
    rw [List.getD_eq_getElem?_getD (l := (lasts v1.s.S).getD i []), h9]; rfl
  obtain ⟨row, hrow⟩ : ∃ row, (lasts v1.s.S).getD i [] = row := ⟨_, rfl⟩
  rw [hrow] at hrd h64 hy1 hy2 s1 s2 s3 s4 hcell
  obtain ⟨x, hx⟩ : ∃ x, row.getD r 0 = x := ⟨_, rfl⟩
  rw [hx] at hcell hy1 hy2
  have hx255 : (x.toNat : Int) ≤ 255 := by have := x.toNat_lt; omega
  have Hrd := Lib.hid hrd
  have Hs1 := Lib.hid s1
  have Hs2 := Lib.hid s2
  have Hs3 := Lib.hid s3
  have Hs4 := Lib.hid s4
  have H64 := Lib.hid h64
  have Hcell := Lib.hid hcell
  have Hwf := Lib.hid hwf
  have HSl := Lib.hid hSl
  clear hrd s1 s2 s3 s4 h64 hcell hlast hi hrr hk hil hrow hx hy2 hwf hSl hL4
  go_wp2_with fail
  refine Hrd.out.mono ?_
  rintro e w5 ⟨g', rfl, hb5, hk5, hg5⟩
  have hcx : w5.cell? ⟨g', r, none⟩ = some (.int .u8 (x.toNat : Int)) := by
    rw [hk5.cell, List.getElem?_toArray, List.getElem?_map, Hcell.out]; rfl
  have hcf : w5.frozen? ⟨g', r, none⟩ = false := hk5.free _
  have hO5 := hO4.ext hb5
  have hz5 := hb5.size
  have hon6 : Only (fun k => k = g') w5 (w5.setCell ⟨g', r, none⟩ (.int .u8 (y.toNat : Int))) := (Only.refl (fun k => k = g') w5).setCell (p := ⟨g', r, none⟩) (.inl rfl) _
  have hV6 : Vau (w5.setCell ⟨g', r, none⟩ (.int .u8 (y.toNat : Int))) (Born W w4) g gs gd v1 := (hO4.vau.ext hb5).only hon6 (fun k hk e => by have := hk.2; omega)
  have hrd6 : Rd (w5.setCell ⟨g', r, none⟩ (.int .u8 (y.toNat : Int))) (some ⟨g', 0, none⟩) ((row.set r y).map bv) := Rd.blk (bytes_putv hk5 _ _)
  have hwr := vau_write hV6 (HG1.out.small _ (by omega)) (i : Int) (some ⟨g', 0, none⟩) 64 64 (row.set r y) (by rw [List.length_set]; exact H64.out.symm) hrd6
  rw [Hs4.out] at hwr
  have hbW6 : Below W.heap.size W (w5.setCell ⟨g', r, none⟩ (.int .u8 (y.toNat : Int))) := hO5.bel.setCell (p := ⟨g', r, none⟩) (by have := hO4.bel.size; show W.heap.size ≤ g'; omega) _
  have Hwr := Lib.hid hwr
  have HbW6 := Lib.hid hbW6
  clear hwr hrd6 hV6 hon6 hk5 hO5 Hrd hg5 hbW6
  go_wp2_with fail
  refine Hwr.out.mono ?_
  rintro e w7 ⟨rfl, hV7, ho7⟩
  have hbW7 : Below W.heap.size W w7 := HbW6.out.trans (ho7.below (fun _ hk => hk.1) HbW6.out.size)
  obtain ⟨S', hS'⟩ : ∃ S', writeS v1.s.S v1.s.l (i : Int) (row.set r y) = S' := ⟨_, rfl⟩
  have hsm := small_write (HG1.out.small 999999 (by omega)) v1.s.l (i : Int) (row.set r y)
  have s1 := Hs1.out
  have s2 := Hs2.out
  have s3 := Hs3.out
  rw [hS'] at hV7 hsm s1 s2 s3
  have hroomy : Roomy S'.length v1.L := by rw [s3, HG1.out.len]; exact HG1.out.roomy
  have hgx := vau_get hV7 (ht.ext hbW7) hsm HG1.out.ok.rises hroomy [120]
  have Hgx := Lib.hid hgx
  have HV7 := Lib.hid hV7
  have Hsm := Lib.hid hsm
  have Hroomy := Lib.hid hroomy
  have Hs1' := Lib.hid s1
  have Hs2' := Lib.hid s2
  clear hgx hV7 hsm hroomy s1 s2 s3 hS' Hwr ho7 Hs1 Hs2 Hs3
  go_wp2_with fail
  refine Hgx.out.mono ?_
  rintro e w8 ⟨hgot, hb8⟩
  have hfx := findE_of HG1.out.ok.rises Hlx.out.mem
  rw [Hlx.out.name] at hfx
  have hres : e = .returned (.tuple #[.slice none 0 0, .int .i64 2]) := by
    rcases hgot with ⟨h1, _⟩ | ⟨en, h1, h2, h3⟩ | ⟨en, A, c, h1, h2, h3⟩
    · rw [hfx] at h1; cases h1
    · exact h3
    · rw [hfx] at h1
      injection h1 with h1
      subst h1
      exact absurd h2 Hs1'.out
  subst hres
  have hbW8 := ext_trans hbW7 hb8
  have hgy := vau_get (HV7.out.ext hb8) (ht.ext hbW8) Hsm.out HG1.out.ok.rises Hroomy.out [121]
  have Hgy := Lib.hid hgy
  clear hgy hgot hfx
  go_wp2_with fail
  refine Hgy.out.mono ?_
  rintro e w9 ⟨hgot, hb9⟩
  have hfy := findE_of HG1.out.ok.rises Hly.out.mem
  rw [Hly.out.name] at hfy
  have hres : ∃ A c, e = .returned (.tuple #[.slice A xs1.length c, .int .i64 0]) ∧ NewO w8 w9 5 1 A xs1.length c (xs1.map bv) := by
    rcases hgot with ⟨h1, _⟩ | ⟨en, h1, h2, h3⟩ | ⟨en, A, c, h1, h2, h3, h4⟩
    · rw [hfy] at h1; cases h1
    · rw [hfy] at h1
      injection h1 with h1
      subst h1
      rw [Hs2'.out, Hly.out.sum] at h2
      exact absurd rfl h2
    · rw [hfy] at h1
      injection h1 with h1
      subst h1
      rw [Hs2'.out] at h4
      rw [Hly.out.len] at h3 h4
      exact ⟨A, c, h3, h4⟩
  obtain ⟨A9, c9, rfl, hN9⟩ := hres
  have hbW9 := ext_trans hbW8 hb9
  have cv1 := conv_bytes w9 A9 xs1.length c9 xs1 rfl hN9.rd
  have cv2 := conv_bytes w9 A1 xs1.length c1 xs1 rfl (Hr1.out.ext hbW9)
  obtain ⟨Y, hY⟩ : ∃ Y : ByteArray, (⟨xs1.toArray⟩ : ByteArray) = Y := ⟨_, rfl⟩
  rw [hY] at cv1 cv2
  clear hY hN9 hgot hfy
  go_wp2_with fail
  refine (known_any _ (ht.ext hbW9)).mono ?_
  rintro e w10 ⟨rfl, hb10⟩
  go_wp2
  go_ret
  exact ⟨rfl, ext_trans hbW9 hb10⟩
end Go.Proofs.YtdpmfcifgimleaaGreatDoor

/-
  A list of acts as an argument (stage 4), with what the second form's bound says of it. No statement of the seat is proved here.
-/
namespace Go.Proofs.YtdpmfcifgimleaaGreatDoor
open Go Go.ChangeShapes Go.WideShapes Go.ChangeAt Go.RowKit

/-- an act -/
structure Act4 where
  kind : Int
  i : Int
  gone : List (List UInt8)
  put : List Blb
  ps : List Int
/-- what long counts of it -/
def goneW (a : Act4) : Nat := (a.gone.map fun s => s.length + 1).sum
def putW (a : Act4) : Nat := (a.put.map fun b => b.name.length + b.data.length + 1).sum
def Act4.wt (a : Act4) : Nat := 1 + a.ps.length + goneW a + putW a
structure Act4.ok (a : Act4) : Prop where
  kind : isInt a.kind
  i : isInt a.i
  ps : ∀ p ∈ a.ps, isInt p

structure Act4At (w : World) (b o : Nat) (a : Act4) (G : Option Addr) (cG : Nat) (P : Option Addr) (cP : Nat) (Q : Option Addr) (cQ : Nat) : Prop where
  c0 : w.cell? ⟨b, o, none⟩ = some (.int .i64 a.kind)
  c1 : w.cell? ⟨b, o + 1, none⟩ = some (.int .i64 a.i)
  c2 : w.cell? ⟨b, o + 2, none⟩ = some (.slice G a.gone.length cG)
  c3 : w.cell? ⟨b, o + 3, none⟩ = some (.slice P a.put.length cP)
  c4 : w.cell? ⟨b, o + 4, none⟩ = some (.slice Q a.ps.length cQ)
  rG : Rd w G (a.gone.map strV)
  nG : G = none → a.gone = [] ∧ cG = 0
  rP : PutR w P a.put
  rQ : Rd w Q (a.ps.map iv)
def Acts4 (w : World) (A : Option Addr) (acs : List Act4) : Prop := ∀ k a, acs[k]? = some a → ∃ b o G cG P cP Q cQ, A = some ⟨b, o, none⟩ ∧ Act4At w b (o + k * 5) a G cG P cP Q cQ ∧ a.ok
theorem Act4At.ext {w w' : World} {b o : Nat} {a : Act4} {G P Q : Option Addr} {cG cP cQ : Nat} (h : Act4At w b o a G cG P cP Q cQ) (hb : Below w.heap.size w w') : Act4At w' b o a G cG P cP Q cQ := by
  have hl : b < w.heap.size := World.block_lt_of_cell? w _ h.c0
  have hk : ∀ o', w'.cell? ⟨b, o', none⟩ = w.cell? ⟨b, o', none⟩ := fun o' => World.cell?_of_block (a := ⟨b, o', none⟩) (hb.block b hl)
  exact ⟨by rw [hk]; exact h.c0, by rw [hk]; exact h.c1, by rw [hk]; exact h.c2, by rw [hk]; exact h.c3, by rw [hk]; exact h.c4, h.rG.ext hb, h.nG, h.rP.ext hb, h.rQ.ext hb⟩
theorem Acts4.ext {w w' : World} {A : Option Addr} {acs : List Act4} (h : Acts4 w A acs) (hb : Below w.heap.size w w') : Acts4 w' A acs := fun k a hk => by
  obtain ⟨b, o, G, cG, P, cP, Q, cQ, e, h1, h2⟩ := h k a hk
  exact ⟨b, o, G, cG, P, cP, Q, cQ, e, h1.ext hb, h2⟩

/-! ### bulk -/
theorem bulk_one {H : Type} (d : DataW H) : 1 ≤ Rows.uptoBulk d := by
  cases d with
  | lit l => cases l <;> simp [Rows.uptoBulk]
  | nil => simp [Rows.uptoBulk]
  | ptr d => simp [Rows.uptoBulk]
  | slice elems spare => simp [Rows.uptoBulk]
  | agg parts => simp [Rows.uptoBulk]
  | iface t d => simp [Rows.uptoBulk]
  | map entries => simp [Rows.uptoBulk]
  | held h => simp [Rows.uptoBulk]
theorem bulk_all {H : Type} (l : List (DataW H)) : Rows.uptoBulkAll l = (l.map Rows.uptoBulk).sum := by
  induction l with
  | nil => simp [Rows.uptoBulkAll]
  | cons x r ih => simp only [Rows.uptoBulkAll, List.map_cons, List.sum_cons, ih]
theorem bulk_slice {H : Type} (a b : List (DataW H)) : (a.map Rows.uptoBulk).sum + 1 ≤ Rows.uptoBulk (.slice a b) := by
  simp only [Rows.uptoBulk, bulk_all]
  omega
theorem bulk_agg {H : Type} (a : List (DataW H)) : Rows.uptoBulk (.agg a) = (a.map Rows.uptoBulk).sum + 1 := by
  simp only [Rows.uptoBulk, bulk_all]
theorem bulk_str {H : Type} (s : List UInt8) : Rows.uptoBulk (DataW.lit (H := H) (.string s)) = s.length + 1 := by
  simp [Rows.uptoBulk]
theorem sum_le_sum {α : Type} (f g : α → Nat) : ∀ l : List α, (∀ x ∈ l, f x ≤ g x) → (l.map f).sum ≤ (l.map g).sum
  | [], _ => Nat.le_refl _
  | x :: r, h => by
    rw [List.map_cons, List.sum_cons, List.map_cons, List.sum_cons]
    have := h x (List.mem_cons_self ..)
    have := sum_le_sum f g r (fun y hy => h y (List.mem_cons_of_mem _ hy))
    omega
theorem len_le_sum {α : Type} (f : α → Nat) : ∀ l : List α, (∀ x ∈ l, 1 ≤ f x) → l.length ≤ (l.map f).sum
  | [], _ => Nat.le_refl _
  | x :: r, h => by
    rw [List.length_cons, List.map_cons, List.sum_cons]
    have := h x (List.mem_cons_self ..)
    have := len_le_sum f r (fun y hy => h y (List.mem_cons_of_mem _ hy))
    omega

section
variable {H : Type} {enc : TypeId × Value → H} {W : World} {base : Nat}
theorem flat_cell {a : Addr} {j : Nat} {u : Value} (h : W.cell? (a.add j) = some u) (hj : j = 0 ∨ True) (h0 : ∃ v, W.cell? (a.add 0) = some v) : ∃ b o, a = ⟨b, o, none⟩ := by
  obtain ⟨v, h0⟩ := h0
  exact flat_of_cell h0

theorem cells_bl : Tryz.prog.cellsOf 65 = 2 := by kernel_rfl
theorem cells_st : Tryz.prog.cellsOf 9 = 1 := by kernel_rfl
theorem cells_a4 : Tryz.prog.cellsOf 41 = 5 := by kernel_rfl
theorem cells_l1 : Tryz.prog.cellsOf 57 = 1 := by kernel_rfl
theorem cells_l2 : Tryz.prog.cellsOf 39 = 1 := by kernel_rfl
theorem cells_l3 : Tryz.prog.cellsOf 37 = 1 := by kernel_rfl
theorem cells_l4 : Tryz.prog.cellsOf 38 = 1 := by kernel_rfl

theorem a4_bytes {fuel : Nat} {cs : List Value} {x : DataW H × List MemPlace} (hf : DataW.trod enc Tryz.prog W 0 (fun _ => true) true fuel 57 cs = some x) :
    ∃ (A : Option Addr) (c : Nat) (xs : List UInt8), cs = [.slice A xs.length c] ∧ xs.length ≤ c ∧ Rd W A (xs.map bv) ∧ xs.length + 1 ≤ Rows.uptoBulk x.1 := by
  rcases open_ints Tryz.underlying57 Tryz.underlying5 cells_u8 hf with ⟨hcs, hx⟩ | ⟨a, len', cap', zs, hcs, _, hl, hm, hz, hx, hcell, hwz⟩
  · exact ⟨none, 0, [], hcs, Nat.le_refl _, Rd.nil _ _, by rw [hx]; exact bulk_one _⟩
  · simp only [if_true] at hz
    have hlen : (toBytes (zs.take len')).length = len' := by simp [toBytes]; omega
    refine ⟨some a, cap', toBytes (zs.take len'), by rw [hlen]; exact hcs, by rw [hlen]; exact hl, rd_bytes (by omega) hcell hwz, ?_⟩
    rw [hlen, hx]
    have h1 := bulk_slice (H := H) (ChangeShapes.lits (.u8) (zs.take len')) (ChangeShapes.lits (.u8) (zs.drop len'))
    have h2 := len_le_sum (Rows.uptoBulk (H := H)) (ChangeShapes.lits (.u8) (zs.take len')) (fun d _ => bulk_one d)
    have h3 : (ChangeShapes.lits (H := H) (.u8) (zs.take len')).length = len' := by simp [ChangeShapes.lits]; omega
    exact Nat.le_trans (by omega) h1
theorem a4_ints {fuel : Nat} {cs : List Value} {x : DataW H × List MemPlace} (hf : DataW.trod enc Tryz.prog W 0 (fun _ => true) true fuel 39 cs = some x) :
    ∃ (A : Option Addr) (c : Nat) (xs : List Int), cs = [.slice A xs.length c] ∧ Rd W A (xs.map iv) ∧ (∀ p ∈ xs, isInt p) ∧ xs.length + 1 ≤ Rows.uptoBulk x.1 := by
  rcases open_ints Tryz.underlying39 Tryz.underlying3 cells_int hf with ⟨hcs, hx⟩ | ⟨a, len', cap', zs, hcs, _, hl, hm, hz, hx, hcell, hwz⟩
  · exact ⟨none, 0, [], hcs, Rd.nil _ _, by simp, by rw [hx]; exact bulk_one _⟩
  · simp only [if_true] at hz
    have hlen : (zs.take len').length = len' := by simp; omega
    refine ⟨some a, cap', zs.take len', by rw [hlen]; exact hcs, fun j u hu => ⟨a, rfl, ?_⟩, fun x hx => int_of_wf (hwz x (List.mem_of_mem_take hx)), ?_⟩
    · have hj : j < len' := by
        have := (List.getElem?_eq_some_iff.1 hu).1
        simp at this; omega
      rw [hcell j (by omega), ← hu]
      simp [List.getD, hj, show j < zs.length by omega, iv]
    · rw [hlen, hx]
      have h1 := bulk_slice (H := H) (ChangeShapes.lits (.i64) (zs.take len')) (ChangeShapes.lits (.i64) (zs.drop len'))
      have h2 := len_le_sum (Rows.uptoBulk (H := H)) (ChangeShapes.lits (.i64) (zs.take len')) (fun d _ => bulk_one d)
      have h3 : (ChangeShapes.lits (H := H) (.i64) (zs.take len')).length = len' := by simp [ChangeShapes.lits]; omega
      exact Nat.le_trans (by omega) h1
theorem a4_strs {fuel : Nat} {cs : List Value} {x : DataW H × List MemPlace} (hf : DataW.trod enc Tryz.prog W 0 (fun _ => true) true fuel 37 cs = some x) :
    ∃ (A : Option Addr) (c : Nat) (xs : List (List UInt8)), cs = [.slice A xs.length c] ∧ Rd W A (xs.map strV) ∧ (A = none → xs = [] ∧ c = 0) ∧ (xs.map fun s => s.length + 1).sum + 1 ≤ Rows.uptoBulk x.1 := by
  rcases open_strings Tryz.underlying37 Tryz.underlying9 cells_st hf with ⟨hcs, hx⟩ | ⟨a, len', cap', ss, hcs, _, hl, hm, hz, hx, hcell, hwz⟩
  · exact ⟨none, 0, [], hcs, Rd.nil _ _, fun _ => ⟨rfl, rfl⟩, by rw [hx]; exact bulk_one _⟩
  · simp only [if_true] at hz
    have hlen : ((ss.take len').map fun s => s.data.toList).length = len' := by simp; omega
    refine ⟨some a, cap', (ss.take len').map fun s => s.data.toList, by rw [hlen]; exact hcs, fun j u hu => ⟨a, rfl, ?_⟩, (fun h => by cases h), ?_⟩
    · have hj : j < len' := by
        have := (List.getElem?_eq_some_iff.1 hu).1
        simp at this; omega
      rw [hcell j (by omega), ← hu]
      have hjs : j < ss.length := by omega
      simp [List.getD, hj, hjs, strV]
    · rw [hx]
      have h1 := bulk_slice (H := H) (strs (ss.take len')) (strs (ss.drop len'))
      refine Nat.le_trans ?_ h1
      have h2 : ((strs (H := H) (ss.take len')).map Rows.uptoBulk) = (((ss.take len').map fun s => s.data.toList).map fun s => s.length + 1) := by
        unfold strs
        rw [List.map_map, List.map_map]
        exact List.map_congr_left fun s _ => bulk_str _
      rw [h2]
      exact Nat.le_refl _
/-- cells, each element of so many, read as a list -/
theorem rd_flat {β : Type} (a : Addr) (len sz : Nat) (T : Nat → β) (enc : β → List Value) (hsz : ∀ b, (enc b).length = sz) (hpos : 0 < sz) (h : ∀ k, k < len → ∀ j u, (enc (T k))[j]? = some u → W.cell? (a.add (k * sz + j)) = some u) :
    Rd W (some a) (((List.range len).map T).flatMap enc) := by
  have key : ∀ n, n ≤ len → Rd W (some a) (((List.range n).map T).flatMap enc) ∧ (((List.range n).map T).flatMap enc).length = n * sz := by
    intro n
    induction n with
    | zero => intro _; exact ⟨Rd.nil _ _, by simp⟩
    | succ n ih =>
      intro hn
      obtain ⟨h1, h2⟩ := ih (by omega)
      have e : (((List.range (n + 1)).map T).flatMap enc) = (((List.range n).map T).flatMap enc) ++ enc (T n) := by
        rw [List.range_succ, List.map_append, List.flatMap_append]
        simp
      refine ⟨fun j u hu => ?_, by rw [e, List.length_append, h2, hsz, Nat.add_mul]; omega⟩
      rw [e, List.getElem?_append, h2] at hu
      split at hu
      · exact h1 j u hu
      · rename_i hj
        refine ⟨a, rfl, ?_⟩
        have := h n (by omega) _ u hu
        rwa [show n * sz + (j - n * sz) = j by omega] at this
  exact (key len (Nat.le_refl _)).1
set_option maxRecDepth 100000 in
theorem a4_blobs {fuel : Nat} {cs : List Value} {x : DataW H × List MemPlace} (hf : DataW.trod enc Tryz.prog W 0 (fun _ => true) true fuel 38 cs = some x) :
    ∃ (A : Option Addr) (c : Nat) (xs : List Blb), cs = [.slice A xs.length c] ∧ PutR W A xs ∧ (xs.map fun b => b.name.length + b.data.length + 1).sum + 1 ≤ Rows.uptoBulk x.1 := by
  rcases Deep.open_slice Tryz.underlying38 hf with ⟨hcs, hx⟩ | ⟨a, len', cap', m, n, D, Pl, hcs, _, hl, hm, hmm, hx, hi⟩
  · exact ⟨none, 0, [], hcs, ⟨Rd.nil _ _, fun b hb => by cases hb⟩, by rw [hx]; exact bulk_one _⟩
  · simp only [if_true] at hmm
    rw [hmm, cells_bl] at hi
    have each : ∀ k, k < cap' → ∃ t : Blb, W.cell? (a.add (k * 2)) = some (strV t.name) ∧ W.cell? (a.add (k * 2 + 1)) = some (.slice t.D t.data.length t.c) ∧ t.data.length ≤ t.c ∧ Rd W t.D (t.data.map bv) ∧ t.name.length + t.data.length + 1 ≤ Rows.uptoBulk (D k) := by
      intro k hk
      obtain ⟨cs', hc, ht⟩ := hi k hk
      obtain ⟨_, hcl, hat⟩ := World.cells?_some hc
      obtain ⟨ys, n', hn', hy, hlen, hyl, hg⟩ := DataW.trod_struct Tryz.underlying65 ht
      match cs', hcl with
      | [e0, e1], _ =>
        match ys, hyl with
        | [y0, y1], _ =>
          have g0 := hg 0 _ rfl
          have g1 := hg 1 _ rfl
          simp only [cells_st, cells_l1, List.drop_zero, List.drop_succ_cons, List.take_succ_cons, List.take_zero, List.getElem?_cons_zero, List.getElem?_cons_succ] at g0 g1
          obtain ⟨s0, q0, r0, m0⟩ := DataW.trod_string Tryz.underlying9 g0
          obtain ⟨B, cB, bs, q1, l1, r1, b1⟩ := a4_bytes g1
          injection q0 with q0
          injection q1 with q1
          have k0 := hat 0 (by omega)
          have k1 := hat 1 (by omega)
          rw [add_add_] at k0 k1
          refine ⟨⟨s0.data.toList, bs, B, cB⟩, ?_, ?_, l1, r1, ?_⟩
          · rw [Nat.add_zero] at k0; rw [k0]
            show some e0 = _
            rw [q0]; simp [strV]
          · rw [k1, ← q1]; rfl
          · have hy1 : D k = .agg [y0.1, y1.1] := by have := congrArg Prod.fst hy; simpa using this
            rw [hy1, bulk_agg, r0]
            simp only [List.map_cons, List.map_nil, List.sum_cons, List.sum_nil, bulk_str]
            show s0.data.toList.length + bs.length + 1 ≤ _
            omega
    obtain ⟨T, hT⟩ : ∃ T : Nat → Blb, ∀ k, k < cap' → W.cell? (a.add (k * 2)) = some (strV (T k).name) ∧ W.cell? (a.add (k * 2 + 1)) = some (.slice (T k).D (T k).data.length (T k).c) ∧ (T k).data.length ≤ (T k).c ∧ Rd W (T k).D ((T k).data.map bv) ∧ (T k).name.length + (T k).data.length + 1 ≤ Rows.uptoBulk (D k) :=
      ⟨fun k => if h : k < cap' then Classical.choose (each k h) else default, fun k hk => by simp only [dif_pos hk]; exact Classical.choose_spec (each k hk)⟩
    refine ⟨some a, cap', (List.range len').map T, by simpa using hcs, ⟨?_, fun b hb => ?_⟩, ?_⟩
    · refine rd_flat a len' 2 T encB (fun b => rfl) (by omega) (fun k hk j u hu => ?_)
      obtain ⟨t0, t1, _⟩ := hT k (by omega)
      match j, hu with
      | 0, hu => simp [encB] at hu; rw [← hu]; exact t0
      | 1, hu => simp [encB] at hu; rw [← hu]; exact t1
    · obtain ⟨k, hk, rfl⟩ := List.mem_map.1 hb
      have hk' := List.mem_range.1 hk
      obtain ⟨_, _, t2, t3, _⟩ := hT k (by omega)
      exact ⟨t2, t3⟩
    · rw [hx]
      refine Nat.le_trans ?_ (bulk_slice _ _)
      rw [List.map_map, List.map_map]
      refine Nat.add_le_add_right (sum_le_sum _ _ _ (fun k hk => ?_)) 1
      have hk' := List.mem_range.1 hk
      exact (hT k (by omega)).2.2.2.2
set_option maxRecDepth 100000 in
theorem arg_acts4 {v : Value} {d : DataW H} {p : List MemPlace} (hv : Value.okWide Tryz.prog W .any base 22 v) (h : DataW.Trod enc Tryz.prog W 0 (fun _ => true) true 22 v d p) :
    ∃ (A : Option Addr) (n c : Nat) (acs : List Act4), v = .slice A n c ∧ n = acs.length ∧ acs.length ≤ c ∧ c ≤ maxLen ∧ Acts4 W A acs ∧ (acs.map Act4.wt).sum + 1 ≤ Rows.uptoBulk d := by
  obtain ⟨a0, len, cap, rfl⟩ := okWide_slice Tryz.underlying22 hv
  obtain ⟨fuel, hf⟩ := h
  rcases Deep.open_slice Tryz.underlying22 hf with ⟨hcs, hx⟩ | ⟨a, len', cap', m, n, D, Pl, hcs, _, hl, hm, hmm, hx, hi⟩
  · simp [Value.cells] at hcs
    obtain ⟨rfl, rfl, rfl⟩ := hcs
    exact ⟨none, 0, 0, [], rfl, rfl, Nat.le_refl _, Nat.zero_le _, (fun k a h => by simp at h), bulk_one d⟩
  · simp [Value.cells] at hcs
    obtain ⟨rfl, rfl, rfl⟩ := hcs
    simp only [if_true] at hmm
    rw [hmm, cells_a4] at hi
    have each : ∀ k, k < cap → ∃ t : Act4, ∃ G cG P cP Q cQ, t.ok ∧ W.cell? (a.add (k * 5)) = some (.int .i64 t.kind) ∧ W.cell? (a.add (k * 5 + 1)) = some (.int .i64 t.i) ∧ W.cell? (a.add (k * 5 + 2)) = some (.slice G t.gone.length cG) ∧ W.cell? (a.add (k * 5 + 3)) = some (.slice P t.put.length cP) ∧ W.cell? (a.add (k * 5 + 4)) = some (.slice Q t.ps.length cQ) ∧ Rd W G (t.gone.map strV) ∧ (G = none → t.gone = [] ∧ cG = 0) ∧ PutR W P t.put ∧ Rd W Q (t.ps.map iv) ∧ t.wt ≤ Rows.uptoBulk (D k) := by
      intro k hk
      obtain ⟨cs', hc, ht⟩ := hi k hk
      obtain ⟨_, hcl, hat⟩ := World.cells?_some hc
      obtain ⟨ys, n', hn', hy, hlen, hyl, hg⟩ := DataW.trod_struct Tryz.underlying41 ht
      match cs', hcl with
      | [e0, e1, e2, e3, e4], _ =>
        match ys, hyl with
        | [y0, y1, y2, y3, y4], _ =>
          have g0 := hg 0 _ rfl
          have g1 := hg 1 _ rfl
          have g2 := hg 2 _ rfl
          have g3 := hg 3 _ rfl
          have g4 := hg 4 _ rfl
          simp only [cells_int, cells_l2, cells_l3, cells_l4, List.drop_zero, List.drop_succ_cons, List.take_succ_cons, List.take_zero, List.getElem?_cons_zero, List.getElem?_cons_succ] at g0 g1 g2 g3 g4
          obtain ⟨z0, q0, r0, w0⟩ := DataW.trod_int Tryz.underlying3 g0
          obtain ⟨z1, q1, r1, w1⟩ := DataW.trod_int Tryz.underlying3 g1
          obtain ⟨G, cG, gs, q2, rG, nG, b2⟩ := a4_strs g2
          obtain ⟨P, cP, bs, q3, rP, b3⟩ := a4_blobs g3
          obtain ⟨Q, cQ, ps, q4, rQ, iQ, b4⟩ := a4_ints g4
          injection q0 with q0
          injection q1 with q1
          injection q2 with q2
          injection q3 with q3
          injection q4 with q4
          have k0 := hat 0 (by omega)
          have k1 := hat 1 (by omega)
          have k2 := hat 2 (by omega)
          have k3 := hat 3 (by omega)
          have k4 := hat 4 (by omega)
          rw [add_add_] at k0 k1 k2 k3 k4
          refine ⟨⟨z0, z1, gs, bs, ps⟩, G, cG, P, cP, Q, cQ, ⟨int_of_wf w0, int_of_wf w1, iQ⟩, ?_, ?_, ?_, ?_, ?_, rG, nG, rP, rQ, ?_⟩
          · rw [Nat.add_zero] at k0; rw [k0, ← q0]; rfl
          · rw [k1, ← q1]; rfl
          · rw [k2, ← q2]; rfl
          · rw [k3, ← q3]; rfl
          · rw [k4, ← q4]; rfl
          · have hy1 : D k = .agg [y0.1, y1.1, y2.1, y3.1, y4.1] := by have := congrArg Prod.fst hy; simpa using this
            rw [hy1, bulk_agg]
            simp only [List.map_cons, List.map_nil, List.sum_cons, List.sum_nil]
            unfold Act4.wt goneW putW
            have o1 := bulk_one y0.1
            show 1 + ps.length + (gs.map fun s => s.length + 1).sum + (bs.map fun b => b.name.length + b.data.length + 1).sum ≤ _
            omega
    have each' : ∀ k, ∃ t : Act4 × (Option Addr × Nat) × (Option Addr × Nat) × (Option Addr × Nat), k < cap → t.1.ok ∧ W.cell? (a.add (k * 5)) = some (.int .i64 t.1.kind) ∧ W.cell? (a.add (k * 5 + 1)) = some (.int .i64 t.1.i) ∧ W.cell? (a.add (k * 5 + 2)) = some (.slice t.2.1.1 t.1.gone.length t.2.1.2) ∧ W.cell? (a.add (k * 5 + 3)) = some (.slice t.2.2.1.1 t.1.put.length t.2.2.1.2) ∧ W.cell? (a.add (k * 5 + 4)) = some (.slice t.2.2.2.1 t.1.ps.length t.2.2.2.2) ∧ Rd W t.2.1.1 (t.1.gone.map strV) ∧ (t.2.1.1 = none → t.1.gone = [] ∧ t.2.1.2 = 0) ∧ PutR W t.2.2.1.1 t.1.put ∧ Rd W t.2.2.2.1 (t.1.ps.map iv) ∧ t.1.wt ≤ Rows.uptoBulk (D k) := fun k => by
      by_cases hk : k < cap
      · obtain ⟨t, G, cG, P, cP, Q, cQ, h⟩ := each k hk
        exact ⟨(t, (G, cG), (P, cP), (Q, cQ)), fun _ => h⟩
      · exact ⟨(⟨0, 0, [], [], []⟩, (none, 0), (none, 0), (none, 0)), fun h => absurd h hk⟩
    obtain ⟨T, hT⟩ := Classical.axiomOfChoice each'
    refine ⟨some a, len, cap, (List.range len).map fun k => (T k).1, rfl, by simp, by simpa using hl, hm, fun k t ht => ?_, ?_⟩
    · have hk : k < len := by
        have := (List.getElem?_eq_some_iff.1 ht).1
        simpa using this
      have ht' : (T k).1 = t := by simpa [hk] using ht
      obtain ⟨_, h00, _⟩ := hT 0 (by omega)
      obtain ⟨b, o, rfl⟩ := flat_of_cell (w := W) (ad := a) (by rw [Nat.zero_mul] at h00; exact h00)
      obtain ⟨hok, h0, h1, h2, h3, h4, h5, h6, h7, h8, _⟩ := hT k (by omega)
      rw [Addr.add_mid] at h0 h1 h2 h3 h4
      rw [← ht']
      exact ⟨b, o, _, _, _, _, _, _, rfl, ⟨h0, by rw [Nat.add_assoc]; exact h1, by rw [Nat.add_assoc]; exact h2, by rw [Nat.add_assoc]; exact h3, by rw [Nat.add_assoc]; exact h4, h5, h6, h7, h8⟩, hok⟩
    · simp only [Prod.mk.injEq] at hx
      rw [hx.1]
      refine Nat.le_trans ?_ (bulk_slice _ _)
      rw [List.map_map, List.map_map]
      refine Nat.add_le_add_right (sum_le_sum _ _ _ (fun k hk => ?_)) 1
      have hk' := List.mem_range.1 hk
      exact (hT k (by omega)).2.2.2.2.2.2.2.2.2.2
end
theorem Acts4.block_lt {W : World} {b o : Nat} {acs : List Act4} (h : Acts4 W (some ⟨b, o, none⟩) acs) {k : Nat} (hk : k < acs.length) : b < W.heap.size := by
  obtain ⟨b', o', _, _, _, _, _, _, e, h1, _⟩ := h k _ (List.getElem?_eq_getElem hk)
  injection e with e
  injection e with e1 _ _
  subst e1
  exact World.block_lt_of_cell? W _ h1.c0
end Go.Proofs.YtdpmfcifgimleaaGreatDoor

/-
  The contract of the laws' helper long (stage 4): it ends, turns nothing, and where it says no, each act is small. No statement of the seat is proved here.
-/
namespace Go.Proofs.YtdpmfcifgimleaaGreatDoor
open Go Go.RowKit

theorem int_eq {k : IntKind} {a b : Int} (h : a = b) : Value.int k a = .int k b := by rw [h]
def wtTo (acs : List Act4) (k : Nat) : Nat := ((acs.take k).map Act4.wt).sum
theorem wtTo_succ (acs : List Act4) (k : Nat) (h : k < acs.length) : wtTo acs (k + 1) = wtTo acs k + acs[k].wt := by
  unfold wtTo
  rw [List.take_succ_eq_append_getElem h, List.map_append, List.sum_append]
  simp
theorem wtTo_le (acs : List Act4) (k : Nat) : wtTo acs k ≤ (acs.map Act4.wt).sum := by
  unfold wtTo
  have : (acs.map Act4.wt).sum = ((acs.take k).map Act4.wt).sum + ((acs.drop k).map Act4.wt).sum := by rw [← List.sum_append, ← List.map_append, List.take_append_drop]
  omega
def sumTo {α : Type} (f : α → Nat) (l : List α) (k : Nat) : Nat := ((l.take k).map f).sum
theorem sumTo_succ {α : Type} (f : α → Nat) (l : List α) (k : Nat) (h : k < l.length) : sumTo f l (k + 1) = sumTo f l k + f l[k] := by
  unfold sumTo
  rw [List.take_succ_eq_append_getElem h, List.map_append, List.sum_append]
  simp
theorem sumTo_le {α : Type} (f : α → Nat) (l : List α) (k : Nat) : sumTo f l k ≤ (l.map f).sum := by
  unfold sumTo
  have : (l.map f).sum = ((l.take k).map f).sum + ((l.drop k).map f).sum := by rw [← List.sum_append, ← List.map_append, List.take_append_drop]
  omega
theorem sumTo_all {α : Type} (f : α → Nat) (l : List α) : sumTo f l l.length = (l.map f).sum := by unfold sumTo; rw [List.take_length]
def wG (s : List UInt8) : Nat := s.length + 1
def wP (b : Blb) : Nat := b.name.length + b.data.length + 1
/-- what long tells -/
def SaysLong (acs : List Act4) (W : World) (e : Ending) (w' : World) : Prop := ∃ b, e = .returned (.bool b) ∧ Below W.heap.size W w' ∧ (b = false → ∀ k, k < 25 → ∀ h : k < acs.length, acs[k].wt ≤ 12000)

set_option maxRecDepth 100000 in
set_option maxHeartbeats 2000000 in
theorem long4_any (W : World) (A : Option Addr) (n c : Nat) (acs : List Act4) (hn : n = acs.length) (h : Acts4 W A acs) (hbk : (acs.map Act4.wt).sum ≤ 1048576) :
    Calls Tryz.prog 11 #[.slice A n c] W (SaysLong acs W) := by
  subst hn
  have hle := wtTo_le acs
  have hall : acs.length ≤ 1048576 := by
    have := len_le_sum Act4.wt acs (fun a _ => by unfold Act4.wt; omega)
    omega
  have Hle := Lib.hid hle
  clear hle
  go_enter Tryz.func11, Tryz.ntmps11
  go_wp2
  go_loopw [3, 4] (fun s i w1 => ∃ (k t : Nat), k ≤ acs.length ∧ k ≤ 25 ∧ i = .int .i64 (k : Int) ∧ s = .int .i64 (t : Int) ∧ t = wtTo acs k ∧ (∀ j, j < k → ∀ hj : j < acs.length, acs[j].wt ≤ 12000) ∧ Below W.heap.size W w1) (fun _ i _ => acs.length - (intOf i).toNat)
  case atStart => exact ⟨0, 0, Nat.zero_le _, Nat.zero_le _, rfl, rfl, rfl, (fun j hj => absurd hj (by omega)), Below.refl _ _⟩
  case round =>
    obtain ⟨k, t, hk, hk25, rfl, rfl, ht, hsm, hb⟩ := hrel
    have Ht := Lib.hid ht
    have Hsm := Lib.hid hsm
    clear ht hsm
    by_cases hlt : k < acs.length
    · by_cases hlt6 : k < 25
      · obtain ⟨b, o, G, cG, P, cP, Q, cQ, rfl, ha, hok⟩ := h k _ (List.getElem?_eq_getElem hlt)
        have ha1 := ha.ext hb
        have hki : (k : Int) < (acs.length : Int) := by omega
        have hki6 : (k : Int) < 25 := by omega
        have ht1 : t ≤ 1048576 := by have := Ht.out; have := Hle.out k; omega
        have hw1 := wtTo_succ acs k hlt
        have hw2 := Hle.out (k + 1)
        obtain ⟨a, hae⟩ : ∃ a, acs[k] = a := ⟨_, rfl⟩
        rw [hae] at ha ha1 hok hw1
        have hwt : a.wt = 1 + a.ps.length + (a.gone.map wG).sum + (a.put.map wP).sum := rfl
        have hsum : t + 1 + a.ps.length + (a.gone.map wG).sum + (a.put.map wP).sum ≤ 1048576 := by have := Ht.out; omega
        have hGle := sumTo_le wG a.gone
        have hPle := sumTo_le wP a.put
        have hgl : a.gone.length ≤ (a.gone.map wG).sum := len_le_sum wG _ (fun s _ => by unfold wG; omega)
        have hpl : a.put.length ≤ (a.put.map wP).sum := len_le_sum wP _ (fun s _ => by unfold wP; omega)
        obtain ⟨sg, hsg⟩ : ∃ sg, (a.gone.map wG).sum = sg := ⟨_, rfl⟩
        obtain ⟨sp, hsp⟩ : ∃ sp, (a.put.map wP).sum = sp := ⟨_, rfl⟩
        rw [hsg] at hsum hGle hgl hwt
        rw [hsp] at hsum hPle hpl hwt
        have Hae := Lib.hid hae
        have Hw1 := Lib.hid hw1
        have Hwt := Lib.hid hwt
        have HGle := Lib.hid hGle
        have HPle := Lib.hid hPle
        have Hsg := Lib.hid hsg
        have Hsp := Lib.hid hsp
        have Ha := Lib.hid ha
        have c2 := ha1.c2
        have c3 := ha1.c3
        have c4 := ha1.c4
        clear hae hw1 hw2 hwt hGle hPle hsg hsp ha
        have hrG := ha1.rG
        have hrP := ha1.rP
        have HrG := Lib.hid hrG
        have HrP := Lib.hid hrP
        have HbW := Lib.hid hb
        clear hrG hrP ha1 hb
        go_wp2
        obtain ⟨wo, hwo⟩ : ∃ wo : World, wo = wr := ⟨_, rfl⟩
        subst hwo
        go_loopw [3, 5] (fun s i w1 => ∃ (q : Nat) (x : Nat), q ≤ a.gone.length ∧ i = .int .i64 (q : Int) ∧ s = .int .i64 ((t : Int) + 1 + (a.ps.length : Int) + (x : Int)) ∧ x = sumTo wG a.gone q ∧ Below wo.heap.size wo w1) (fun _ i _ => a.gone.length - (intOf i).toNat)
        case atStart => exact ⟨0, 0, Nat.zero_le _, rfl, int_eq (by omega), rfl, Below.refl _ _⟩
        case round =>
          obtain ⟨q, x, hq, rfl, rfl, hx, hb⟩ := hrel
          have hx1 : x ≤ sg := by rw [hx]; exact HGle.out q
          have Hx := Lib.hid hx
          clear hx
          have c2' := cell_ext c2 hb
          have c3' := cell_ext c3 hb
          by_cases hql : q < a.gone.length
          · have hqi : (q : Int) < (a.gone.length : Int) := by omega
            obtain ⟨ad, rfl, hcell⟩ := (HrG.out.ext hb) q (strV a.gone[q]) (by rw [List.getElem?_map, List.getElem?_eq_getElem hql]; rfl)
            have hxs := sumTo_succ wG a.gone q hql
            have hwg : wG a.gone[q] = a.gone[q].length + 1 := rfl
            have hle2 := HGle.out (q + 1)
            rw [hxs, hwg, ← Hx.out] at hle2
            have hzl : ∃ Z : ByteArray, strV a.gone[q] = .string Z ∧ Z.size = a.gone[q].length := ⟨_, rfl, by show a.gone[q].toArray.size = _; rw [List.size_toArray]⟩
            obtain ⟨Z, hZ, hzs⟩ := hzl
            rw [hZ] at hcell
            have hle3 : x + (Z.size + 1) ≤ sg := by omega
            have hnew : x + (Z.size + 1) = sumTo wG a.gone (q + 1) := by rw [hxs, hwg, ← Hx.out, hzs]
            have Hnew := Lib.hid hnew
            clear hxs hwg hle2 hZ hzs hnew
            go_wp2
            go_roundw
            case rel => exact ⟨q + 1, x + (Z.size + 1), by omega, by go_num, int_eq (by omega), Hnew.out, hb⟩
            case measure => simp [intOf]; omega
          · obtain rfl : q = a.gone.length := by omega
            have hxe : x = sg := by rw [Hx.out, sumTo_all, Hsg.out]
            obtain rfl := hxe
            go_wp2
            obtain ⟨wp, hwp⟩ : ∃ wp : World, wp = wr := ⟨_, rfl⟩
            subst hwp
            go_loopw [3, 6] (fun s i w1 => ∃ (q : Nat) (y : Nat), q ≤ a.put.length ∧ i = .int .i64 (q : Int) ∧ s = .int .i64 ((t : Int) + 1 + (a.ps.length : Int) + (x : Int) + (y : Int)) ∧ y = sumTo wP a.put q ∧ Below wo.heap.size wo w1) (fun _ i _ => a.put.length - (intOf i).toNat)
            case atStart => exact ⟨0, 0, Nat.zero_le _, rfl, int_eq (by omega), rfl, hb⟩
            case round =>
              clear c2' c3' hb hq
              obtain ⟨q, y, hq, rfl, rfl, hy, hb⟩ := hrel
              have hy1 : y ≤ sp := by rw [hy]; exact HPle.out q
              have Hy := Lib.hid hy
              clear hy
              have c3' := cell_ext c3 hb
              by_cases hql : q < a.put.length
              · have hqi : (q : Int) < (a.put.length : Int) := by omega
                obtain ⟨g2, o2, rfl, d0, d1⟩ := (HrP.out.ext hb).cell hql
                have hxs := sumTo_succ wP a.put q hql
                have hwg : wP a.put[q] = a.put[q].name.length + a.put[q].data.length + 1 := rfl
                have hle2 := HPle.out (q + 1)
                rw [hxs, hwg, ← Hy.out] at hle2
                have hzl : ∃ Z : ByteArray, strV a.put[q].name = .string Z ∧ Z.size = a.put[q].name.length := ⟨_, rfl, by show a.put[q].name.toArray.size = _; rw [List.size_toArray]⟩
                obtain ⟨Z, hZ, hzs⟩ := hzl
                rw [hZ] at d0
                obtain ⟨ld, hld⟩ : ∃ ld, a.put[q].data.length = ld := ⟨_, rfl⟩
                rw [hld] at d1 hle2 hwg
                have hle3 : y + (Z.size + ld + 1) ≤ sp := by omega
                have hnew : y + (Z.size + ld + 1) = sumTo wP a.put (q + 1) := by rw [hxs, hwg, ← Hy.out, hzs]
                have Hnew := Lib.hid hnew
                clear hxs hwg hle2 hZ hzs hnew hld
                go_wp2_with fail
                go_quiet (fail)
                go_wp2
                go_roundw
                case rel => exact ⟨q + 1, y + (Z.size + ld + 1), by omega, by go_num, int_eq (by omega), Hnew.out, ext_drewN hb _⟩
                case measure => simp [intOf]; omega
              · obtain rfl : q = a.put.length := by omega
                have hye : y = sp := by rw [Hy.out, sumTo_all, Hsp.out]
                obtain rfl := hye
                have hbw : Below W.heap.size W wr := ext_trans HbW.out hb
                by_cases hbig : 12000 < t + 1 + a.ps.length + x + y
                · have hbi : (12000 : Int) < (t : Int) + 1 + (a.ps.length : Int) + (x : Int) + (y : Int) := by omega
                  go_wp2
                  go_ret
                  exact ⟨true, rfl, hbw, fun h => by cases h⟩
                · have hbi : (t : Int) + 1 + (a.ps.length : Int) + (x : Int) + (y : Int) ≤ 12000 := by omega
                  have htot : t + 1 + a.ps.length + x + y = wtTo acs (k + 1) := by rw [Hw1.out, Hwt.out, ← Ht.out]; omega
                  have hnew : ∀ j, j < k + 1 → ∀ hj : j < acs.length, acs[j].wt ≤ 12000 := fun j hj hjl => by
                    rcases Nat.lt_or_ge j k with h1 | h1
                    · exact Hsm.out j h1 hjl
                    · obtain rfl : j = k := by omega
                      rw [Hae.out, Hwt.out]; omega
                  have Hnew := Lib.hid hnew
                  have Htot := Lib.hid htot
                  clear hnew htot hbig
                  go_wp2
                  go_roundw
                  case rel => exact ⟨k + 1, t + 1 + a.ps.length + x + y, by omega, by omega, by go_num, int_eq (by omega), Htot.out, Hnew.out, hbw⟩
                  case measure => simp [intOf]; omega
      · obtain rfl : k = 25 := by omega
        go_wp2
        go_ret
        exact ⟨false, rfl, hb, fun _ j hj h => Hsm.out j hj h⟩
    · obtain rfl : k = acs.length := by omega
      go_wp2
      go_ret
      exact ⟨false, rfl, hb, fun _ j hj h => Hsm.out j h h⟩
end Go.Proofs.YtdpmfcifgimleaaGreatDoor

/-
  The contracts of the laws' helpers told and texts (stage 4); a Commit of an act. No statement of the seat is proved here.
-/
namespace Go.Proofs.YtdpmfcifgimleaaGreatDoor
open Go Go.RowKit

theorem ne_str {xs ys : List UInt8} (h : xs ≠ ys) : ((⟨xs.toArray⟩ : ByteArray).toList == (⟨ys.toArray⟩ : ByteArray).toList) = false := by
  rw [beq_eq_false_iff_ne, ByteArray.toList_mk, ByteArray.toList_mk]
  exact h
/-- two texts are one, or not, as the walk spells it -/
theorem str_cases (xs ys : List UInt8) : ∃ Y Z : ByteArray, strV xs = .string Y ∧ strV ys = .string Z ∧ ((xs = ys ∧ Y = Z) ∨ (xs ≠ ys ∧ (Y.toList == Z.toList) = false)) := by
  refine ⟨_, _, rfl, rfl, ?_⟩
  by_cases h : xs = ys
  · exact .inl ⟨h, by rw [h]⟩
  · exact .inr ⟨h, ne_str h⟩
theorem rd_str {w : World} {A : Option Addr} {xs : List (List UInt8)} (h : Rd w A (xs.map strV)) {k : Nat} (hk : k < xs.length) : ∃ ad, A = some ad ∧ w.cell? (ad.add k) = some (strV xs[k]) := by
  have := h k (strV xs[k]) (by rw [List.getElem?_map, List.getElem?_eq_getElem hk]; rfl)
  exact this
def SaysEq (b : Bool) (w : World) (e : Ending) (w' : World) : Prop := e = .returned (.bool b) ∧ Below w.heap.size w w'
set_option maxRecDepth 100000 in
set_option maxHeartbeats 2000000 in
theorem texts_any {w : World} (A : Option Addr) (c : Nat) (xs : List (List UInt8)) (hA : Rd w A (xs.map strV)) (B : Option Addr) (d : Nat) (ys : List (List UInt8)) (hB : Rd w B (ys.map strV)) (h1 : xs.length ≤ 1000000) (h2 : ys.length ≤ 1000000) :
    Calls Tryz.prog 29 #[.slice A xs.length c, .slice B ys.length d] w (SaysEq (decide (xs = ys)) w) := by
  by_cases hl : xs.length = ys.length
  · have hli : (xs.length : Int) = (ys.length : Int) := by omega
    rw [← hl]
    have Hl := Lib.hid hl
    have hn : (xs.length : Int) ≤ 1000000 := by omega
    clear hl hli h2
    go_enter Tryz.func29, Tryz.ntmps29
    go_wp2
    go_loopw [5] (fun i wr => ∃ k : Nat, k ≤ xs.length ∧ i = .int .i64 (k : Int) ∧ xs.take k = ys.take k ∧ Below w.heap.size w wr) (fun i _ => xs.length - (intOf i).toNat)
    case atStart => exact ⟨0, Nat.zero_le _, rfl, by simp, Below.refl _ _⟩
    case round =>
      obtain ⟨k, hk, rfl, heq, hb⟩ := hrel
      have Heq := Lib.hid heq
      clear heq
      by_cases hlt : k < xs.length
      · have hlt2 : k < ys.length := by have := Hl.out; omega
        have hki : (k : Int) < (xs.length : Int) := by omega
        obtain ⟨ad, rfl, q1⟩ := rd_str (hA.ext hb) hlt
        obtain ⟨ad2, rfl, q2⟩ := rd_str (hB.ext hb) hlt2
        obtain ⟨Y, Z, e1, e2, hc⟩ := str_cases xs[k] ys[k]
        rw [e1] at q1
        rw [e2] at q2
        clear e1 e2
        have hk2 : (k : Int) < (ys.length : Int) := by omega
        rcases hc with ⟨he, rfl⟩ | ⟨hne, hf⟩
        · have He := Lib.hid he
          clear he
          go_wp2_with fail
          go_quiet (fail)
          go_wp2
          go_roundw
          case rel => exact ⟨k + 1, by omega, by go_num, by rw [List.take_succ_eq_append_getElem hlt, List.take_succ_eq_append_getElem hlt2, Heq.out, He.out], ext_drewN hb _⟩
          case measure => simp [intOf]; omega
        · have hd : decide (xs = ys) = false := decide_eq_false (fun h => hne (by simp only [h]))
          have Hd := Lib.hid hd
          clear hne hd
          go_wp2_with fail
          go_quiet (fail)
          go_wp2
          go_ret
          exact ⟨by rw [Hd.out]; rfl, ext_drewN hb _⟩
      · obtain rfl : k = xs.length := by omega
        have hd : decide (xs = ys) = true := decide_eq_true (by
          have h3 := Heq.out
          rw [List.take_length, Hl.out, List.take_length] at h3
          exact h3)
        have Hd := Lib.hid hd
        clear hd
        go_wp2
        go_ret
        exact ⟨by rw [Hd.out]; rfl, hb⟩
  · have hd : decide (xs = ys) = false := decide_eq_false (fun h => hl (by rw [h]))
    have hli : ¬ (xs.length : Int) = (ys.length : Int) := by omega
    rw [hd]
    clear hd
    go_enter Tryz.func29, Tryz.ntmps29
    go_wp2
    go_ret
    exact ⟨rfl, Below.refl _ _⟩

/-! ### told -/
def toldE (S : Sec) (e : Ent) : List (List UInt8) := [e.name, blobOf S e]
def toldL (S : Sec) (L : List Ent) : List (List UInt8) := L.flatMap (toldE S)
theorem toldL_length (S : Sec) (L : List Ent) : (toldL S L).length = 2 * L.length := by
  induction L with
  | nil => rfl
  | cons e r ih =>
    have : toldL S (e :: r) = toldE S e ++ toldL S r := rfl
    rw [this, List.length_append, ih, List.length_cons]
    show 2 + _ = _
    omega
theorem toldL_succ (S : Sec) (L : List Ent) (k : Nat) (h : k < L.length) : toldL S (L.take (k + 1)) = toldL S (L.take k) ++ [L[k].name, blobOf S L[k]] := by
  rw [List.take_succ_eq_append_getElem h]
  unfold toldL
  rw [List.flatMap_append]
  simp [toldE]
/-- what told tells -/
def SaysTold (w : World) (n : Nat) (l : List (List UInt8)) (e : Ending) (w' : World) : Prop := ∃ A c, e = .returned (.slice A n c) ∧ NewO w w' 9 1 A n c (l.map strV)
set_option maxRecDepth 100000 in
set_option maxHeartbeats 2000000 in
theorem told_any {W w : World} {g gs gd n K : Nat} {v : VauS} (h : OwnV W w g gs gd v) (hG : Good n K v) :
    Calls Tryz.prog 28 #[.pointer (some ⟨g, 0, none⟩)] w (SaysTold w (2 * v.L.length) (toldL v.s.S v.L)) := by
  have hcnt := hG.count
  have hn0 := step_vnames h hG
  have Hn0 := Lib.hid hn0
  clear hn0
  go_enter Tryz.func28, Tryz.ntmps28
  go_wp2_with fail
  refine Hn0.out.mono ?_
  rintro e w1 ⟨An, cn, rfl, hN1, hO1, hb1⟩
  have hnr : Rd w1 An ((v.L.map (·.name)).map strV) := by rw [List.map_map]; exact hN1.row.rd
  have Hnr := Lib.hid hnr
  have hAn : ∀ ad, An = some ad → ad.block < w1.heap.size := fun ad e => hN1.row.lt ⟨ad, e, rfl⟩
  have HAn := Lib.hid hAn
  clear hnr hN1 hAn
  have hli : (v.L.length : Int) ≤ 814 := by omega
  go_wp2
  go_loopw [3, 5] (fun l i wr => ∃ (k : Nat) (A2 : Option Addr) (c2 : Nat), k ≤ v.L.length ∧ i = .int .i64 (k : Int) ∧ l = .slice A2 (2 * k) c2 ∧ NewO w1 wr 9 1 A2 (2 * k) c2 ((toldL v.s.S (v.L.take k)).map strV)) (fun _ i _ => v.L.length - (intOf i).toNat)
  case atStart => exact ⟨0, none, 0, Nat.zero_le _, rfl, rfl, NewO.start _ _ _⟩
  case round =>
    obtain ⟨k, A2, c2, hk, rfl, rfl, hN⟩ := hrel
    by_cases hlt : k < v.L.length
    · have hki : (k : Int) < (v.L.length : Int) := by omega
      have hO2 := hO1.ext hN.bel
      have hhas : HasB v v.L[k].name (blobOf v.s.S v.L[k]) := ⟨v.L[k], List.getElem_mem hlt, rfl, rfl⟩
      have hg := step_vget_has hO2 hG hhas
      have hs := toldL_succ v.s.S v.L k hlt
      obtain ⟨ad, rfl, q1⟩ := rd_str (Hnr.out.ext hN.bel) (k := k) (by simpa using hlt)
      rw [List.getElem_map] at q1
      obtain ⟨nm, hnm⟩ : ∃ nm, v.L[k].name = nm := ⟨_, rfl⟩
      obtain ⟨dt, hdt⟩ : ∃ dt, blobOf v.s.S v.L[k] = dt := ⟨_, rfl⟩
      rw [hnm] at q1 hg hs
      rw [hdt] at hg hs
      obtain ⟨Z, hZ⟩ : ∃ Z, strV nm = .string Z := ⟨_, rfl⟩
      rw [hZ] at q1 hg
      have HZ := Lib.hid hZ
      have Hg := Lib.hid hg
      have Hs := Lib.hid hs
      have hm1 : 2 * k + 2 ≤ maxLen := by unfold maxLen; omega
      have Hm1 := Lib.hid hm1
      have hm2 : (2 * k + 2) * 16 ≤ 140737488355328 := by omega
      have Hm2 := Lib.hid hm2
      clear hnm hdt hZ hg hs hhas hm1 hm2
      go_wp2_with fail
      refine Hg.out.mono ?_
      rintro e w3 ⟨⟨A7, c7, rfl, hN7⟩, hO3, hb3⟩
      have q3 : w3.cell? (ad.add k) = some (.string Z) := cell_ext q1 hb3
      have cv := conv_bytes w3.drew A7 dt.length c7 dt rfl hN7.rd.drew
      obtain ⟨Y, hY⟩ : ∃ Y : ByteArray, (⟨dt.toArray⟩ : ByteArray) = Y := ⟨_, rfl⟩
      rw [hY] at cv
      have HY := Lib.hid hY
      have hrow3 := hN.row.ext hb3
      have Hrow3 := Lib.hid hrow3
      have HN := Lib.hid hN
      have HN7 := Lib.hid hN7
      clear hY hrow3 hN7 hN
      go_wp2_with fail
      have hk0 : ∀ w', Below w3.heap.size w3 w' → w'.cell? (ad.add k) = some (.string Z) ∧ (convert 57 9 (.slice A7 dt.length c7)).run Tryz.prog w' = .ok (.string Y) w' := fun w' hb' => by
        refine ⟨cell_ext q3 hb', ?_⟩
        rw [← HY.out]
        exact conv_bytes w' A7 dt.length c7 dt rfl (HN7.out.rd.ext hb')
      have hk1 : ∀ W' w', Below w3.heap.size w3 W' → Only (inA A2) W' w' → w'.cell? (ad.add k) = some (.string Z) ∧ (convert 57 9 (.slice A7 dt.length c7)).run Tryz.prog w' = .ok (.string Y) w' := fun W' w' hb' ho => by
        have hlt1 : ad.block < w1.heap.size := HAn.out ad rfl
        have hz1 := HN.out.bel.size
        have hz3 := hb3.size
        have hz' := hb'.size
        refine ⟨?_, ?_⟩
        · have hbk : w'.heap[(ad.add k).block]? = W'.heap[(ad.add k).block]? := by
            rw [block_add]
            exact ho.block _ (by omega) (fun hh => by have := HN.out.2.2 _ hh; omega)
          exact (World.cell?_of_block (a := ad.add k) hbk).trans (cell_ext q3 hb')
        · rw [← HY.out]
          refine conv_bytes w' A7 dt.length c7 dt rfl ((HN7.out.rd.ext hb').only ho (fun a7 e7 _ hh => ?_))
          have h1 := HN7.out.2.2 _ ⟨a7, e7, rfl⟩
          have h2 := HN.out.row.lt hh
          omega
      have Hk0 := Lib.hid hk0
      have Hk1 := Lib.hid hk1
      clear cv hk0 hk1
      go_region_held3 (fun w' => w'.cell? (ad.add k) = some (.string Z) ∧ (convert 57 9 (.slice A7 dt.length c7)).run Tryz.prog w' = .ok (.string Y) w')
        (first | exact hS4 | exact Hk0.out _ (by repeat (first | apply ext_alloc | apply ext_drew | exact Below.refl _ _)))
        (first
        | (refine step_appO _ rfl (.tmp 25) (.tmp 32) 37 rfl 9 _ 1 16 Tryz.underlying37 info_str rfl A2 (2 * k) c2 _ rfl ((Hrow3.out.drew).alloc _) (some ⟨w3.heap.size, 0, none⟩) 2 2 [.string Z, .string Y] rfl rfl (Rd.lit_at _ #[.string Z, .string Y] _ (by simp)) (by intro u hu; simp at hu; rcases hu with rfl | rfl <;> rfl) (by intro h; cases h) Hm1.out Hm2.out ?_; intro A3 c3 w4 hrow4 honly4 hA4; have hS4 := Hk1.out _ _ (by repeat (first | apply ext_alloc | apply ext_drew | exact Below.refl _ _)) honly4))
      have hN4 := HN.out.grow (w3 := w4) (ext_trans hb3 (ext_alloc (ext_drew (Below.refl _ _)) _)) hrow4 honly4 hA4
      go_wp2
      go_roundw
      case rel => exact ⟨k + 1, A3, c3, by omega, by go_num, rfl, by
        rw [Hs.out, List.map_append]
        have e3 : ([nm, dt].map strV) = [.string Z, .string Y] := by rw [List.map_cons, List.map_cons, List.map_nil, HZ.out, ← HY.out]; rfl
        rw [e3]
        exact hN4⟩
      case measure => simp [intOf]; omega
    · obtain rfl : k = v.L.length := by omega
      rw [List.take_length] at hN
      have HN := Lib.hid hN
      clear hN
      go_wp2
      go_ret
      exact ⟨A2, c2, rfl, HN.out.row, ext_trans hb1 HN.out.bel, fun k hk => by have := HN.out.2.2 k hk; have := hb1.size; omega⟩
end Go.Proofs.YtdpmfcifgimleaaGreatDoor

/-
  A Commit of an act; the walk of VaultRoom. No statement of the seat is proved here.
-/
namespace Go.Proofs.YtdpmfcifgimleaaGreatDoor
open Go Go.RowKit

theorem mem_sum {α : Type} {l : List α} {x : α} (f : α → Nat) (h : x ∈ l) : f x ≤ (l.map f).sum := by
  induction l with
  | nil => cases h
  | cons y r ih =>
    rw [List.map_cons, List.sum_cons]
    rcases List.mem_cons.1 h with rfl | h
    · omega
    · have := ih h; omega
theorem not_born_rd {W w : World} {A : Option Addr} {xs : List Value} (h : Rd W A xs) (hne : xs ≠ []) : ∀ ad, A = some ad → ¬ Born W w ad.block := fun ad e hk => by
  rcases xs with _ | ⟨x, r⟩
  · exact hne rfl
  · obtain ⟨ad', e', hc⟩ := h 0 x rfl
    rw [e] at e'
    injection e' with e'
    subst e'
    have hb := World.block_lt_of_cell? W _ hc
    rw [block_add] at hb
    have := hk.1
    omega
/-- what a Commit of an act does -/
def DidCommit (W w0 w : World) (g gs gd n K : Nat) (v : VauS) (e : Ending) (w' : World) : Prop :=
  ∃ z v', e = .returned (.int .i64 z) ∧ OwnV W w' g gs gd v' ∧ Good n (K + 1) v' ∧ Only (Born W w0) w w' ∧ (z = 0 ∨ (0 < z ∧ z ≤ 5 ∧ v' = v))
theorem act_commit {W w w0 : World} {g gs gd n K : Nat} {v : VauS} (hO : OwnV W w0 g gs gd v) (hb : Below w0.heap.size w0 w) (hG : Good n K v) (hK : K ≤ 1000000) {b o : Nat} {a : Act4} {G P Q : Option Addr} {cG cP cQ : Nat} (ha : Act4At W b o a G cG P cP Q cQ) (hw : a.wt ≤ 12000) :
    Calls Tryz.prog 16 #[.pointer (some ⟨g, 0, none⟩), .slice G a.gone.length cG, .slice P a.put.length cP] w (DidCommit W w0 w g gs gd n K v) := by
  have hbw : Below W.heap.size W w := ext_trans hO.bel hb
  have h1 : a.gone.length ≤ 12000 := by
    have := len_le_sum (fun s : List UInt8 => s.length + 1) a.gone (fun s _ => by omega)
    unfold Act4.wt goneW at hw; omega
  have h2 : a.put.length ≤ 12000 := by
    have := len_le_sum (fun b : Blb => b.name.length + b.data.length + 1) a.put (fun s _ => by omega)
    unfold Act4.wt putW at hw; omega
  have h3 : ∀ s ∈ a.gone, s.length ≤ maxLen := fun s hs => by
    have := mem_sum (fun s : List UInt8 => s.length + 1) hs
    unfold Act4.wt goneW at hw; unfold maxLen; omega
  have h4 : ∀ b ∈ a.put, b.name.length ≤ maxLen ∧ b.data.length ≤ 1000000 := fun b hb => by
    have := mem_sum (fun b : Blb => b.name.length + b.data.length + 1) hb
    unfold Act4.wt putW at hw; unfold maxLen; omega
  have hcm := step_vcommit hO hb hG G cG a.gone (ha.rG.ext hbw) ha.nG P cP a.put (ha.rP.ext hbw) (fun hne => not_born_rd ha.rP.rd (fun h => by
    rcases hp : a.put with _ | ⟨x, r⟩
    · exact hne hp
    · rw [hp] at h; cases h)) (fun b hb hne => not_born_rd (ha.rP.dat b hb).2 (by simpa using hne)) (by omega) (by omega) h3 h4
  refine hcm.mono ?_
  rintro e w' ⟨rfl, q1, q2⟩
  by_cases hgo : mayL v.L a.gone a.put = 0 ∧ offs a.put a.put.length ≤ (freeL n v.L).length ∧ (dirB (nextV v a.gone a.put)).length ≤ 814
  · obtain ⟨g1, g2, g3⟩ := hgo
    obtain ⟨v', e', hG', _⟩ := commit_good hG (by omega) g1 g2 g3
    rw [e'] at q1 ⊢
    exact ⟨0, v', rfl, q1, hG', q2, .inl rfl⟩
  · obtain ⟨z, e', z1, z2, z3⟩ := commit_not hG hgo
    rw [e'] at q1 ⊢
    exact ⟨z, v, rfl, q1, hG.mono (by omega), q2, .inr ⟨by omega, z3, rfl⟩⟩

set_option maxRecDepth 100000 in
set_option maxHeartbeats 8000000 in
theorem vrm_walk (n : Int) (hn : isInt n) (A : Option Addr) (m c : Nat) (acs : List Act4) (W : World) (ht : Tab W) (hm : m = acs.length) (h : Acts4 W A acs) (hbk : (acs.map Act4.wt).sum ≤ 1048576) :
    Calls Tryz.prog 5 #[.int .i64 n, .slice A m c] W fun e w' => e = .returned (.bool true) ∧ Below W.heap.size W w' := by
  have hlong := long4_any W A m c acs hm h hbk
  have hall : acs.length ≤ 1048576 := by
    have := len_le_sum Act4.wt acs (fun a _ => by unfold Act4.wt; omega)
    omega
  subst hm
  have Hlong := Lib.hid hlong
  clear hlong
  unfold isInt at hn
  by_cases hr : 32 ≤ n ∧ n ≤ 150
  · obtain ⟨k, rfl⟩ : ∃ k : Nat, n = (k : Int) := ⟨n.toNat, by omega⟩
    obtain ⟨hr1, hr2⟩ := hr
    have hzl : (zeroS k).length = k := by simp [zeroS]
    have hfm := fun (w2 : World) (gd : Nat) (hI : Imp w2 (Born W w2) gd (zeroS k) (-1)) (hb : Below W.heap.size W w2) => step_vformat hI hb ht (small_mono (small_zero k) (by omega)) (by rw [hzl]; omega)
    rw [hzl] at hfm
    have Hfm := Lib.hid hfm
    clear hfm hzl
    go_enter Tryz.func5, Tryz.ntmps5
    go_wp2_with fail
    refine Hlong.out.mono ?_
    rintro e w1 ⟨b, rfl, hb1, hsm⟩
    cases b
    case true =>
      clear hsm
      go_wp2
      go_ret
      exact ⟨rfl, hb1⟩
    have Hsm := Lib.hid (hsm rfl)
    clear hsm
    go_wp2_with fail
    refine (new_step k W w1 hb1 (by omega) (by omega)).mono ?_
    rintro e w2 ⟨gd, rfl, hI2, hb2⟩
    go_wp2_with fail
    refine (Hfm.out w2 gd hI2 hb2).mono ?_
    rintro e w3 ⟨g, gs, v, rfl, hO, hG, -⟩
    go_wp2
    go_loopw [9] (fun i wr => ∃ (j : Nat) (v : VauS), j ≤ acs.length ∧ j ≤ 25 ∧ i = .int .i64 (j : Int) ∧ OwnV W wr g gs gd v ∧ Good k (j + 1) v) (fun i _ => acs.length - (intOf i).toNat)
    case atStart => exact ⟨0, v, Nat.zero_le _, Nat.zero_le _, rfl, hO, hG⟩
    case round =>
      clear hO hG hI2 hb1 hb2
      obtain ⟨j, v, hj, hj25, rfl, hO, hG⟩ := hrel
      by_cases hlt : j < acs.length
      · by_cases hlt6 : j < 25
        · obtain ⟨b, o, G, cG, P, cP, Q, cQ, rfl, ha, hok⟩ := h j _ (List.getElem?_eq_getElem hlt)
          have hw := Hsm.out j hlt6 hlt
          have hjl : (j : Int) < (acs.length : Int) := by omega
          have hj6 : (j : Int) < 25 := by omega
          have HG := Lib.hid hG
          clear hG
          obtain ⟨a, hae⟩ : ∃ a, acs[j] = a := ⟨_, rfl⟩
          rw [hae] at ha hok hw
          clear hae
          have ha1 := ha.ext hO.bel
          have c0 := ha1.c0
          have c2 := ha1.c2
          have c3 := ha1.c3
          by_cases hk1 : a.kind = 1
          · rw [hk1] at c0
            have hcm := act_commit hO (ext_drew (Below.refl _ _)) HG.out (by omega) ha hw
            have Hcm := Lib.hid hcm
            clear hcm ha1 hw
            go_wp2_with fail
            go_still_tail 11, (by kernel_rfl)
            change wpList _ _ _ _ _ wr.drew
            go_wp2_with fail
            refine Hcm.out.mono ?_
            rintro e w4 ⟨z, v', rfl, hO4, hG4, -, -⟩
            have HG4 := Lib.hid hG4
            clear Hcm hG4 hO c0 c2 c3
            go_wp2_with fail
            refine (step_vowner hO4 HG4.out).mono ?_
            rintro e w5 ⟨Ao, co, rfl, hNo, hO5, hb5⟩
            go_wp2_with fail
            refine (step_vnames hO5 HG4.out).mono ?_
            rintro e w6 ⟨An, cn, rfl, hNn, hO6, hb6⟩
            have hro : Rd w6 Ao ((ownerL k v'.L).map strV) := hNo.row.rd.ext hb6
            have hrn : Rd w6 An ((v'.L.map (·.name)).map strV) := by rw [List.map_map]; exact hNn.row.rd
            have hol : (ownerL k v'.L).length = k := ownerL_length _ _
            have hcf := HG4.out.count_free
            rw [← needTo_all] at hcf
            have hnle := needTo_le v'.L
            have hcnt := HG4.out.count
            obtain ⟨fr, hfr⟩ : ∃ fr, (freeL k v'.L).length = fr := ⟨_, rfl⟩
            rw [hfr] at hcf
            have Hro := Lib.hid hro
            have Hrn := Lib.hid hrn
            have Hol := Lib.hid hol
            have Hfr := Lib.hid hfr
            have Hcf := Lib.hid hcf
            have Hnle := Lib.hid hnle
            have hnd150 : needTo v'.L v'.L.length ≤ 150 := by omega
            clear hro hrn hol hfr hcf hnle hNo hNn hO4 hO5 hb5 hb6
            go_wp2
            obtain ⟨wo, hwo⟩ : ∃ wo : World, wo = wr := ⟨_, rfl⟩
            subst hwo
            go_loopw [11, 13] (fun nd i wr => ∃ q : Nat, q ≤ v'.L.length ∧ i = .int .i64 (q : Int) ∧ nd = .int .i64 (needTo v'.L q : Int) ∧ Below w6.heap.size w6 wr) (fun _ i _ => v'.L.length - (intOf i).toNat)
            case atStart => exact ⟨0, Nat.zero_le _, rfl, rfl, Below.refl _ _⟩
            case round =>
              obtain ⟨q, hq, rfl, rfl, hb⟩ := hrel
              have hO7 := hO6.ext hb
              by_cases hql : q < v'.L.length
              · have hqi : (q : Int) < (v'.L.length : Int) := by omega
                have hmem := List.getElem_mem hql
                have hhas : HasB v' v'.L[q].name (blobOf v'.s.S v'.L[q]) := ⟨v'.L[q], hmem, rfl, rfl⟩
                have hg := step_vget_has hO7 HG4.out hhas
                have hdl := (HG4.out.data _ hmem).1
                have hca := cntO_all HG4.out.ok hmem
                have hns := needTo_succ v'.L q hql
                have hnl2 := Hnle.out (q + 1)
                have hnl1 : needTo v'.L q ≤ 150 := by have := Hnle.out q; omega
                obtain ⟨ad, rfl, q1⟩ := rd_str (Hrn.out.ext hb) (k := q) (by simpa using hql)
                rw [List.getElem_map] at q1
                obtain ⟨nm, hnm⟩ : ∃ nm, v'.L[q].name = nm := ⟨_, rfl⟩
                obtain ⟨dt, hdt⟩ : ∃ dt, blobOf v'.s.S v'.L[q] = dt := ⟨_, rfl⟩
                obtain ⟨nq, hnq⟩ : ∃ nq, needN v'.L[q].len = nq := ⟨_, rfl⟩
                rw [hnm] at q1 hg hca
                rw [hdt] at hg hdl
                rw [← hdl] at hnq
                rw [← hdl, hnq] at hca hns
                have hq150 : nq ≤ 150 := by rw [hns] at hnl2; omega
                obtain ⟨Z, hZ⟩ : ∃ Z, strV nm = .string Z := ⟨_, rfl⟩
                rw [hZ] at q1 hg
                have HZ := Lib.hid hZ
                have Hg := Lib.hid hg
                have Hns := Lib.hid hns
                have Hca := Lib.hid hca
                have Hnq := Lib.hid hnq
                have hna := need_any dt.length
                rw [hnq] at hna
                have Hna := Lib.hid hna
                have hdl9 : dt.length ≤ 9223372036854775807 := by have := (HG4.out.ok.ent _ hmem).len; omega
                clear hnm hdt hZ hg hhas hdl hca hns hnl2 hmem hna hnq
                go_wp2_with fail
                refine Hg.out.mono ?_
                rintro e w7 ⟨⟨A7, c7, rfl, hN7⟩, hO8, hb7⟩
                have hbx := ext_trans hb hb7
                have q7 := cell_ext q1 hb7
                clear hN7 q1
                go_wp2
                obtain ⟨wp, hwp⟩ : ∃ wp : World, wp = wr := ⟨_, rfl⟩
                subst hwp
                go_loopw [16, 17] (fun hs i wr => ∃ x : Nat, x ≤ k ∧ i = .int .i64 (x : Int) ∧ hs = .int .i64 (cntO (ownerL k v'.L) nm x : Int) ∧ Below w7.heap.size w7 wr) (fun _ i _ => k - (intOf i).toNat)
                case atStart => exact ⟨0, Nat.zero_le _, rfl, rfl, Below.refl _ _⟩
                case round =>
                  obtain ⟨x, hx, rfl, rfl, hb8⟩ := hrel
                  have hcl := cntO_le (ownerL k v'.L) nm x
                  by_cases hxl : x < k
                  · have hxi : (x : Int) < (k : Int) := by omega
                    have hxo : x < (ownerL k v'.L).length := by rw [Hol.out]; exact hxl
                    have q8 := cell_ext q7 hb8
                    obtain ⟨ado, rfl, q9⟩ := rd_str (Hro.out.ext (ext_trans hbx hb8)) hxo
                    have hcs := cntO_succ (ownerL k v'.L) nm x
                    have hgd : (ownerL k v'.L).getD x [] = (ownerL k v'.L)[x] := by rw [List.getD_eq_getElem?_getD, List.getElem?_eq_getElem hxo]; rfl
                    rw [hgd] at hcs
                    obtain ⟨Y, Z2, e1, e2, hc⟩ := str_cases (ownerL k v'.L)[x] nm
                    rw [HZ.out] at e2
                    injection e2 with e2
                    subst e2
                    rw [e1] at q9
                    obtain ⟨cx, hcx⟩ : ∃ cx, cntO (ownerL k v'.L) nm x = cx := ⟨_, rfl⟩
                    rw [hcx] at hcs hcl ⊢
                    rcases hc with ⟨he, rfl⟩ | ⟨hne, hf⟩
                    · rw [if_pos he] at hcs
                      have Hcs := Lib.hid hcs
                      have Hcx := Lib.hid hcx
                      clear hcs hcx hgd e1 he
                      go_wp2_with fail
                      go_quiet (fail)
                      go_wp2
                      go_roundw
                      case rel => exact ⟨x + 1, by omega, by go_num, by rw [Hcs.out]; go_num, ext_drewN hb8 _⟩
                      case measure => simp [intOf]; omega
                    · rw [if_neg hne] at hcs
                      have Hcs := Lib.hid hcs
                      have Hcx := Lib.hid hcx
                      clear hcs hcx hgd e1 hne
                      go_wp2_with fail
                      go_quiet (fail)
                      go_wp2
                      go_roundw
                      case rel => exact ⟨x + 1, by omega, by go_num, by rw [Hcs.out]; rfl, ext_drewN hb8 _⟩
                      case measure => simp [intOf]; omega
                  · obtain rfl : x = k := by omega
                    rw [Hca.out]
                    go_wp2_with fail
                    refine (Hna.out _ hdl9).mono ?_
                    rintro e w9 ⟨rfl, rfl⟩
                    go_wp2
                    go_roundw
                    case rel => exact ⟨q + 1, by omega, by go_num, by rw [Hns.out]; go_num, ext_trans hbx hb8⟩
                    case measure => simp [intOf]; omega
              · obtain rfl : q = v'.L.length := by omega
                go_wp2_with fail
                refine (step_vfree hO7 HG4.out).mono ?_
                rintro e w9 ⟨rfl, hO9, hb9⟩
                have hfk : ((freeL k v'.L).length : Int) = (k : Int) - 32 - (needTo v'.L v'.L.length : Int) := by have := Hcf.out; rw [Hfr.out]; omega
                rw [hfk]
                clear hfk
                go_wp2
                go_roundw
                case rel => exact ⟨j + 1, v', by omega, by omega, by go_num, hO9, HG4.out⟩
                case measure => simp [intOf]; omega
          · have hk1b : (a.kind == 1) = false := by simpa using hk1
            have hk1c : (a.kind != 1) = true := by simpa using hk1
            go_wp2
            go_roundw
            case rel => exact ⟨j + 1, v, by omega, by omega, by go_num, hO, HG.out.mono (by omega)⟩
            case measure => simp [intOf]; omega
        · obtain rfl : j = 25 := by omega
          go_wp2_with fail
          refine (known_any wr hO.tb).mono ?_
          rintro e w4 ⟨rfl, hb4⟩
          go_wp2
          go_ret
          exact ⟨rfl, ext_trans hO.bel hb4⟩
      · obtain rfl : j = acs.length := by omega
        go_wp2_with fail
        refine (known_any wr hO.tb).mono ?_
        rintro e w4 ⟨rfl, hb4⟩
        go_wp2
        go_ret
        exact ⟨rfl, ext_trans hO.bel hb4⟩
  · go_enter Tryz.func5, Tryz.ntmps5
    go_wp2_with fail
    refine Hlong.out.mono ?_
    rintro e w1 ⟨b, rfl, hb1, -⟩
    rcases Int.lt_or_le n 32 with h1 | h1
    · cases b
      all_goals
        go_wp2
        go_ret
        exact ⟨rfl, hb1⟩
    · have h2 : 150 < n := by omega
      cases b
      all_goals
        go_wp2
        go_ret
        exact ⟨rfl, hb1⟩
end Go.Proofs.YtdpmfcifgimleaaGreatDoor

/-
  A copy of a Disk, as it is read; the contract of sector's Copy. No statement of the seat is proved here.
-/
namespace Go.Proofs.YtdpmfcifgimleaaGreatDoor
open Go Go.RowKit

/-- A disk that is only read, in blocks from 'L' on: its sectors lie in block 'gc' from offset 'o' on. -/
structure View (w : World) (L g gc o K : Nat) (S : Sec) (B : Nat → Option Addr) (C : Nat → Nat) : Prop where
  n : S.length ≤ 4096
  c0 : w.cell? ⟨g, 0, none⟩ = some (.slice (some ⟨gc, o, none⟩) S.length K)
  cel : ∀ i (hi : i < S.length), CelAt w gc (o + i * 65) S[i] (B i) (C i)
  lg : L ≤ g
  lgc : L ≤ gc
  lB : ∀ i k, i < S.length → inA (B i) k → L ≤ k
theorem View.keep {w w' : World} {L g gc o K : Nat} {S : Sec} {B : Nat → Option Addr} {C : Nat → Nat} (h : View w L g gc o K S B C) (hk : ∀ k, L ≤ k → k < w.heap.size → w'.heap[k]? = w.heap[k]?) : View w' L g gc o K S B C :=
  { h with
    c0 := (World.cell?_of_block (a := ⟨g, 0, none⟩) (hk g h.lg (World.block_lt_of_cell? w _ h.c0))).trans h.c0
    cel := fun i hi => (h.cel i hi).keep (hk gc h.lgc (h.cel i hi).lt) fun k hk' => hk k (h.lB i k hi hk') ((h.cel i hi).own.lt hk') }
theorem View.ext {w w' : World} {L g gc o K : Nat} {S : Sec} {B : Nat → Option Addr} {C : Nat → Nat} (h : View w L g gc o K S B C) (hb : Below w.heap.size w w') : View w' L g gc o K S B C := h.keep fun k _ hk => hb.block k hk

/-! ### Len, has, Waiting, Read of a copy -/
section
variable {w : World} {L g gc o K : Nat} {S : Sec} {B : Nat → Option Addr} {C : Nat → Nat}
theorem len_v (h : View w L g gc o K S B C) : Calls Tryz.prog 62 #[.pointer (some ⟨g, 0, none⟩)] w fun e w' => e = .returned (.int .i64 (S.length : Int)) ∧ w = w' := by
  have h0 : w.cell? ⟨g, 0, none⟩ = some (.slice (some ⟨gc, o, none⟩) S.length K) := h.c0
  go_enter Tryz.func62, Tryz.ntmps62
  go_wp2
  go_ret
  exact ⟨rfl, rfl⟩
theorem has_v (h : View w L g gc o K S B C) (i : Int) : Calls Tryz.prog 78 #[.pointer (some ⟨g, 0, none⟩), .int .i64 i] w fun e w' => e = .returned (.bool (decide (0 ≤ i ∧ i < (S.length : Int)))) ∧ w = w' := by
  by_cases h0 : 0 ≤ i
  · have e1 : decide (0 ≤ i ∧ i < (S.length : Int)) = decide (i < (S.length : Int)) := by simp [h0]
    rw [e1]
    go_enter Tryz.func78, Tryz.ntmps78
    go_wp2_with fail
    refine (len_v h).mono ?_
    rintro e w2 ⟨rfl, rfl⟩
    go_wp2
    go_ret
    exact ⟨rfl, rfl⟩
  · have e1 : decide (0 ≤ i ∧ i < (S.length : Int)) = false := by simp [h0]
    rw [e1]
    go_enter Tryz.func78, Tryz.ntmps78
    go_wp2
    go_ret
    exact ⟨rfl, rfl⟩
end

set_option maxHeartbeats 1000000 in
theorem waiting_v {w : World} {L g gc o K : Nat} {S : Sec} {B : Nat → Option Addr} {C : Nat → Nat} (h : View w L g gc o K S B C) (hs : Small 1000000 S) :
    Calls Tryz.prog 56 #[.pointer (some ⟨g, 0, none⟩)] w fun e w' => ∃ A c, e = .returned (.slice A (waiting S).length c) ∧ RowO w' 3 1 A (waiting S).length c ((waiting S).map iv') ∧ Below w.heap.size w w' ∧ ∀ k, inA A k → w.heap.size ≤ k := by
  have hn := h.n
  go_enter Tryz.func56, Tryz.ntmps56
  go_wp2_with fail
  refine (len_v h).mono ?_
  rintro e w2 ⟨rfl, rfl⟩
  go_wp2
  go_loopw [3, 4, 7] (fun s _ i w1 => ∃ (k : Nat) (A : Option Addr) (c : Nat), k ≤ S.length ∧ i = .int .i64 (k : Int) ∧ s = .slice A (rk (pw S) k) c ∧ RowO w1 3 1 A (rk (pw S) k) c ((wl (pw S) k).map iv') ∧ Below w.heap.size w w1 ∧ ∀ k, inA A k → w.heap.size ≤ k) (fun _ _ i _ => S.length - (intOf i).toNat)
  case atStart => exact ⟨0, none, 0, Nat.zero_le _, rfl, rfl, RowO.none_ _ _ _, Below.refl _ _, fun k hk => absurd hk (inA_none k)⟩
  case round =>
    obtain ⟨k, A, c, hk, rfl, rfl, hrow, hbel, hnew⟩ := hrel
    by_cases hlt : k < S.length
    · have hl := h.ext hbel
      have h0 : wr.cell? ⟨g, 0, none⟩ = some (.slice (some ⟨gc, o, none⟩) S.length K) := hl.c0
      have hsm := hs S[k] (List.getElem_mem hlt)
      have hsucc := Lib.hid (rk_succ (pw S) k)
      have wsucc := Lib.hid (wl_succ (pw S) k)
      have hle := rk_le (pw S) k
      have hpk := pw_eq hlt
      go_wp2_with fail
      refine (waits_any gc (o + k * 65) S[k] _ _ _ (hl.cel k hlt) hsm).mono ?_
      rintro e w2 ⟨rfl, rfl⟩
      by_cases hp : 1 < S[k].length
      · have hpk' : pw S k = true := by rw [hpk]; simp [hp]
        rw [hpk'] at hsucc wsucc
        have hm1 : rk (pw S) k + 1 ≤ maxLen := by unfold maxLen; omega
        have hm2 : (rk (pw S) k + 1) * 8 ≤ 140737488355328 := by omega
        go_wp2_with (at_builtin
                     refine wpList_appO _ rfl (.tmp 17) (.tmp 19) _ rfl _ _ 1 8 Tryz.underlying39 info_int rfl A _ c _ rfl (hrow.alloc _) (some ⟨wr.heap.size, 0, none⟩) 1 1 [.int .i64 (k : Int)] rfl rfl (Rd.lit _ #[.int .i64 (k : Int)] _) ?_ ?_ hm1 hm2 ?_
                     · simp; rfl
                     · intro h; cases h
                     intro A2 c2 w3 hrow3 honly3 hA3)
        go_roundw
        case rel =>
          refine ⟨k + 1, A2, c2, by omega, by go_num, ?_, ?_, ?_, ?_⟩
          · rw [hsucc.out]; rfl
          · rw [hsucc.out, wsucc.out]
            simpa [iv'] using hrow3
          · refine (hbel.alloc hbel.size _).trans (honly3.below (fun i hi => hnew i hi) ?_)
            rw [World.size_alloc]; have := hbel.size; omega
          · intro k' hk'
            rcases hA3 k' hk' with h1 | h1
            · exact hnew k' h1
            · have := hbel.size
              rw [World.size_alloc] at h1; omega
        case measure => simp [intOf]; omega
      · have hpk' : pw S k = false := by rw [hpk]; simp [hp]
        rw [hpk'] at hsucc wsucc
        have hdec : decide (1 < S[k].length) = false := by simp [hp]
        rw [hdec]
        go_wp2
        go_roundw
        case rel =>
          refine ⟨k + 1, A, c, by omega, by go_num, ?_, ?_, hbel, hnew⟩
          · rw [hsucc.out]; rfl
          · rw [hsucc.out, wsucc.out]
            simpa using hrow
        case measure => simp [intOf]; omega
    · obtain rfl : k = S.length := by omega
      go_wp2
      go_ret
      exact ⟨A, c, rfl, hrow, hbel, hnew⟩


set_option maxRecDepth 100000 in
theorem readOk_v {w : World} {L g gc o K : Nat} {S : Sec} {B : Nat → Option Addr} {C : Nat → Nat} (h : View w L g gc o K S B C) (hs : Small 1000000 S) (i : Nat) (hi : i < S.length) :
    Calls Tryz.prog 38 #[.pointer (some ⟨g, 0, none⟩), .int .i64 (i : Int)] w fun e w' => ∃ g', e = .returned (.tuple #[.slice (some ⟨g', 0, none⟩) 64 64, .int .i64 0]) ∧ Below w.heap.size w w' ∧ Blk w' g' 113 ((lastOf S[i]).map bv).toArray ∧ w.heap.size ≤ g' := by
  have hz := zeros_ver
  have h0 : w.cell? ⟨g, 0, none⟩ = some (.slice (some ⟨gc, o, none⟩) S.length K) := h.c0
  have hc := h.cel i hi
  have hm := lastOf_mem hc.ne
  have hv64 := hc.len _ hm
  have hsm := hs S[i] (List.getElem_mem hi)
  have hlast : S[i].getLast? = some (lastOf S[i]) := by
    unfold lastOf
    rw [List.getLastD_eq_getLast?]
    have := List.length_pos_iff.2 hc.ne
    rw [List.getLast?_eq_getElem?, List.getElem?_eq_getElem (by omega)]; rfl
  have hii : (i : Int) < (S.length : Int) := by omega
  have hhas : decide (0 ≤ (i : Int) ∧ (i : Int) < (S.length : Int)) = true := by simp; omega
  have hisz : (Tryz.prog.info? 113).map (·.size) = some ((lastOf S[i]).map bv).toArray.size := by rw [size_ver]; simp [hv64]
  have hsz : (Array.replicate 64 (Value.int .u8 0)).size = ((lastOf S[i]).map bv).toArray.size := by simp [hv64]
  have h1 : ((lastOf S[i]).map bv).toArray.all (·.oneCell') = true := all_oneCell_toArray (bvs_one _)
  go_enter Tryz.func38, Tryz.ntmps38
  go_wp2_with fail
  refine (has_v h (i : Int)).mono ?_
  rintro e w2 ⟨rfl, rfl⟩
  rw [hhas]
  go_wp2_with fail
  refine (now_any gc (o + i * 65) S[i] _ _ w hc (lastOf S[i]) hlast hsm).mono ?_
  rintro e w2 ⟨rfl, hb2⟩
  go_wp2_with (refine wpList_store_new rfl 113 _ _ rfl _ _ rfl rfl hisz hsz h1 ?_)
  go_ret2
  exact ⟨w2.heap.size, rfl, hb2.alloc hb2.size _, Blk.new _ _ _, hb2.size⟩
theorem readBad_v {w : World} {L g gc o K : Nat} {S : Sec} {B : Nat → Option Addr} {C : Nat → Nat} (h : View w L g gc o K S B C) (i : Int) (hi : ¬ (0 ≤ i ∧ i < (S.length : Int))) :
    Calls Tryz.prog 38 #[.pointer (some ⟨g, 0, none⟩), .int .i64 i] w fun e w' => e = .returned (.tuple #[.slice none 0 0, .int .i64 1]) ∧ w = w' := by
  have hhas : decide (0 ≤ i ∧ i < (S.length : Int)) = false := by simp only [decide_eq_false_iff_not]; exact hi
  go_enter Tryz.func38, Tryz.ntmps38
  go_wp2_with fail
  refine (has_v h i).mono ?_
  rintro e w2 ⟨rfl, rfl⟩
  rw [hhas]
  go_wp2
  go_ret2
  exact ⟨rfl, rfl⟩
end Go.Proofs.YtdpmfcifgimleaaGreatDoor
