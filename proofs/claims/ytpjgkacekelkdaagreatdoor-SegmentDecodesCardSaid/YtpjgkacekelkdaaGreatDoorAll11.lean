/-
  Texts of this claim, joined (part 11): contracts and lemmas that the last text goes by. No statement of the seat is proved here.
-/
import Derived.Test.YtpjgkacekelkdaaGreatDoorAll3
import Derived.Test.YtpjgkacekelkdaaGreatDoorAll1
import Derived.Test.YtpjgkacekelkdaaGreatDoorAll9
set_option linter.unusedVariables false
set_option linter.unusedSimpArgs false
/-
  Texts taken, Decode (program). No statement of the seat is proved here.
-/
namespace Go.Proofs.YtpjgkacekelkdaaGreatDoor
open Go Go.RowKit
set_option maxRecDepth 100000

/-- a row of texts that was made since 'W' -/
structure FrS (W w : World) (A : Option Addr) (c : Nat) (l : List (List UInt8)) : Prop where
  row : RowO w 9 1 A l.length c (l.map strV)
  new : ∀ k, inA A k → W.heap.size ≤ k
theorem FrS.start (W w : World) : FrS W w none 0 [] := ⟨RowO.none_ _ _ _, fun k hk => absurd hk (inA_none k)⟩
theorem FrS.rd {W w : World} {A : Option Addr} {c : Nat} {l : List (List UInt8)} (h : FrS W w A c l) : Rd w A (l.map strV) := h.row.rd
theorem FrS.grow {W wr x x2 : World} {A A' : Option Addr} {c c' : Nat} {l m : List (List UInt8)} (h : FrS W wr A c l) (hW : W.heap.size ≤ x.heap.size)
    (hr : RowO x2 9 1 A' (l.length + m.length) c' (l.map strV ++ m.map strV)) (hA : ∀ k, inA A' k → inA A k ∨ (x.heap.size ≤ k ∧ k < x2.heap.size)) : FrS W x2 A' c' (l ++ m) :=
  ⟨by rw [List.length_append, List.map_append]; exact hr, fun k hk => by
    rcases hA k hk with hk | hk
    · exact h.new k hk
    · omega⟩
theorem FrS.only {W wr : World} {A : Option Addr} {c : Nat} {l : List (List UInt8)} {S : Nat → Prop} {x x2 : World} (h : FrS W wr A c l) (ho : Only S W x) (h2 : Only (inA A) x x2) : Only S W x2 :=
  ho.trans h2 fun k hk hi => by have := h.new k hi; omega
/-- texts in a list that is read -/
structure TxtAt (w : World) (A : Option Addr) (c : Nat) (l : List (List UInt8)) : Prop where
  rd : Rd w A (l.map strV)
  nil : A = none → c = 0
  cap : l.length ≤ c
theorem TxtAt.ext {w w' : World} {A : Option Addr} {c : Nat} {l : List (List UInt8)} (h : TxtAt w A c l) (hb : Below w.heap.size w w') : TxtAt w' A c l := ⟨h.rd.ext hb, h.nil, h.cap⟩
theorem TxtAt.of_row {w : World} {A : Option Addr} {m c : Nat} {l : List (List UInt8)} (h : RowO w 9 1 A m c (l.map strV)) (hm : m = l.length) : TxtAt w A c l := by
  subst hm
  refine ⟨h.rd, fun e => ?_, h.le⟩
  subst e
  rcases h.2 with ⟨_, _, h1⟩ | ⟨_, _, _, h1, _⟩
  · exact h1
  · cases h1
theorem TxtAt.none_ (w : World) : TxtAt w none 0 [] := ⟨Rd.nil _ _, fun _ => rfl, Nat.le_refl _⟩

/-- what the loop still reads, with what it has -/
structure Tkd (N : Nat) (b0 : List UInt8) (bad0 : Bool) (m : Nat) (acc : List (List UInt8)) (rest : List UInt8) (bad : Bool) : Prop where
  all : acc ++ (takeR m rest bad).1 = (takeR N b0 bad0).1
  st : (takeR m rest bad).2 = (takeR N b0 bad0).2
  len : acc.length + m ≤ N
  each : ∀ s ∈ acc, s.length ≤ b0.length
  short : rest.length ≤ b0.length
theorem Tkd.step {N : Nat} {b0 : List UInt8} {bad0 : Bool} {m : Nat} {acc : List (List UInt8)} {rest : List UInt8} (h : Tkd N b0 bad0 (m + 1) acc rest false) : Tkd N b0 bad0 m (acc ++ [(stBytes rest false).1]) (stBytes rest false).2.1 (stBytes rest false).2.2 := by
  have e := takeR_succ m rest
  have hl := stBytes_len rest false
  refine ⟨?_, ?_, ?_, fun s hs => ?_, Nat.le_trans hl.1 h.short⟩
  · rw [← h.all, e, List.append_assoc]; rfl
  · rw [← h.st, e]
  · rw [List.length_append]; have := h.len; simp; omega
  · rcases List.mem_append.1 hs with hs | hs
    · exact h.each s hs
    · simp at hs; rw [hs]; exact Nat.le_trans hl.2 h.short
theorem Tkd.end_ {N : Nat} {b0 : List UInt8} {bad0 : Bool} {m : Nat} {acc : List (List UInt8)} {rest : List UInt8} {bad : Bool} (h : Tkd N b0 bad0 m acc rest bad) (he : m = 0 ∨ bad = true) : takeR N b0 bad0 = (acc, rest, bad) := by
  have h1 := h.all
  have h2 := h.st
  rcases he with rfl | rfl
  · rw [takeR_zero, List.append_nil] at h1
    rw [takeR_zero] at h2
    exact Prod.ext h1.symm h2.symm
  · rw [takeR_bad, List.append_nil] at h1
    rw [takeR_bad] at h2
    exact Prod.ext h1.symm h2.symm
/-- what is taken: the texts, and whether all are there -/
noncomputable def takD (k : Nat) (p : List UInt8) : List (List UInt8) × Bool := match gotD k p with
  | some l => (l, true)
  | none => ([], false)
def pkD (W : List (List UInt8)) (v : Int) : List UInt8 := W.getD v.toNat []
theorem takD_of {N : Nat} {p b0 : List UInt8} {bad0 : Bool} {acc : List (List UInt8)} {rest : List UInt8} {bad : Bool} (h1 : (stNum p false).2 = (b0, bad0)) (h2 : takeR N b0 bad0 = (acc, rest, bad)) :
    takD N p = if (decR (stBytes rest bad).1).2 = 0 ∧ (decR (stBytes rest bad).1).1.all (inD acc) = true then ((decR (stBytes rest bad).1).1.map (pkD acc), true) else ([], false) := by
  unfold takD gotD plcD wrdD
  rw [h1, h2]
  by_cases he : (decR (stBytes rest bad).1).2 = 0
  · rw [if_pos he]
    unfold pickD
    by_cases ha : (decR (stBytes rest bad).1).1.all (inD acc) = true
    · rw [if_pos ha, if_pos ⟨he, ha⟩]
      rfl
    · rw [if_neg ha, if_neg (fun h => ha h.2)]
  · rw [if_neg he, if_neg (fun h => he h.1)]
theorem decR_snd (b : List UInt8) : (decR b).2 = 0 ∨ decR b = ([], 2) := by
  by_cases h : (decR b).2 = 0
  · exact .inl h
  · exact .inr (decR_no h)

set_option maxHeartbeats 16000000 in
theorem takenD_any (fp : Nat → Prop) (g : Nat) (p : List UInt8) (w : World) (h : Rdr w fp g p false) (hp : p.length ≤ 200000000) (Nx : Nat) (hNx : Nx = min (cntD p) 32769) (T : List (List UInt8)) (ok : Bool) (hTk : takD Nx p = (T, ok)) :
    Calls Tryz.prog 74 #[.pointer (some ⟨g, 0, none⟩)] w fun e w' => ∃ A' c', e = .returned (.tuple #[.slice A' T.length c', .bool ok]) ∧ TxtAt w' A' c' T ∧ (∀ s ∈ T, s.length ≤ 200000000) ∧ T.length ≤ 32768 ∧ Only (fun k => k = g) w w' := by
  have hgl : g < w.heap.size := by
    obtain ⟨_, _, _, _, hb, _⟩ := h
    exact hb.lt
  have Hgl := Lib.hid hgl
  obtain ⟨f2, H, Hf2⟩ : ∃ f2 : Nat → Prop, Hid (Rdr w f2 g p false) ∧ Hid (∀ k, f2 k → k < w.heap.size) := ⟨fun k => fp k ∧ k < w.heap.size, Lib.hid (h.mono fun _ a b => ⟨a, b⟩), Lib.hid fun _ h => h.2⟩
  have hle := stNum_le p false
  have hsl := stNum_len p false
  have HT : Hid (∀ acc rest bad, takeR Nx (stNum p false).2.1 (stNum p false).2.2 = (acc, rest, bad) → (T, ok) = if (decR (stBytes rest bad).1).2 = 0 ∧ (decR (stBytes rest bad).1).1.all (inD acc) = true then ((decR (stBytes rest bad).1).1.map (pkD acc), true) else ([], false)) := Lib.hid (fun acc rest bad h2 => by rw [← hTk]; exact takD_of rfl h2)
  have HNx : Hid (Nx = min (stNum p false).1 32769) := Lib.hid hNx
  clear h hgl hTk hNx
  go_enter Tryz.func74, Tryz.ntmps74
  go_wp2_with fail
  refine (rnum_st f2 g p false w H.out (by omega)).mono ?_
  rintro e w1 ⟨rfl, hr1, ho1⟩
  generalize stNum p false = q at *
  obtain ⟨n, bs1, bad1⟩ := q
  simp only at HT HNx hr1 hle hsl ⊢
  have hcase : (n ≤ 32769 ∧ Nx = n) ∨ (32769 < n ∧ Nx = 32769) := by have := HNx.out; omega
  have HN : Hid (Nx ≤ 32769) := Lib.hid (by have := HNx.out; omega)
  have Hr1 := Lib.hid hr1
  have Ho1 := Lib.hid ho1
  have Hbl : Hid (bs1.length ≤ 200000000) := Lib.hid (by omega)
  clear hr1 ho1 hsl hp HNx
  rcases hcase with ⟨hq, rfl⟩ | ⟨hq, rfl⟩
  · have hqi : (Nx : Int) ≤ 32769 := by omega
    have hmin : min (Nx : Int) 32769 = (Nx : Int) := by omega
    go_wp2_with fail
    go_loopw [4, 6] (fun s i wr => ∃ (m : Nat) (acc : List (List UInt8)) (rest : List UInt8) (bd : Bool) (A1 : Option Addr) (c1 : Nat), i = .int .i64 (m : Int) ∧ s = .slice A1 acc.length c1 ∧ Hid (Tkd Nx bs1 bad1 m acc rest bd) ∧ Rdr wr f2 g rest bd ∧ FrS w wr A1 c1 acc ∧ Only (fun k => k = g) w wr) (fun _ i _ => (intOf i).toNat)
    case atStart => exact ⟨Nx, [], bs1, bad1, none, 0, rfl, rfl, Lib.hid ⟨rfl, rfl, by simp, by simp, Nat.le_refl _⟩, Hr1.out, FrS.start _ _, Ho1.out⟩
    case round =>
      obtain ⟨m, acc, rest, bd, A1, c1, rfl, rfl, Hrd, hr, hS, ho⟩ := hrel
      have Hr := Lib.hid hr
      have HS := Lib.hid hS
      have Ho := Lib.hid ho
      have Hen : Hid (acc.length ≤ 32769) := Lib.hid (by have := Hrd.out.len; have := HN.out; omega)
      have Hea : Hid (∀ s ∈ acc, s.length ≤ 200000000) := Lib.hid (fun s hs => Nat.le_trans (Hrd.out.each s hs) Hbl.out)
      have Hrs : Hid (rest.length ≤ 200000000) := Lib.hid (Nat.le_trans Hrd.out.short Hbl.out)
      clear hr hS ho
      have HEX : Hid ((m = 0 ∨ bd = true) → (T, ok) = if (decR (stBytes rest bd).1).2 = 0 ∧ (decR (stBytes rest bd).1).1.all (inD acc) = true then ((decR (stBytes rest bd).1).1.map (pkD acc), true) else ([], false)) := Lib.hid (fun he => HT.out acc rest bd (Hrd.out.end_ he))
      have HBY := Lib.hid (rbytes_st f2 g rest bd wr Hr.out (by have := Hrs.out; omega))
      by_cases hm : m = 0
      · subst hm
        have HC := Lib.hid (HEX.out (.inl rfl))
        clear HEX
        obtain ⟨B, hB⟩ : ∃ B, (stBytes rest bd).1 = B := ⟨_, rfl⟩
        have hBl : B.length ≤ 200000000 := by rw [← hB]; exact Nat.le_trans (stBytes_len rest bd).2 Hrs.out
        rw [hB] at HC HBY
        have HDe := Lib.hid (fun (A : Option Addr) (c : Nat) (W : World) (hW : Rd W A (B.map bv)) (hc : B.length ≤ c) => decode_any B A c W hW hc (by omega))
        have hRl := decR_len B
        have hRe := decR_snd B
        have hRv : ∀ v ∈ (decR B).1, 0 ≤ v ∧ v ≤ 1099511627776 := by
          rcases hRe with h | h
          · exact ((mayP_iff _).1 (decR_ok h)).2
          · rw [h]; simp
        obtain ⟨pl, er, hR⟩ : ∃ pl er, decR B = (pl, er) := ⟨_, _, rfl⟩
        rw [hR] at HC hRl hRe hRv
        simp only [hR] at HDe
        simp only at HC hRl hRe hRv
        have HRl := Lib.hid hRl
        have HRe : Hid (er = 0 ∨ (pl = [] ∧ er = 2)) := Lib.hid (by
          rcases hRe with h | h
          · exact .inl h
          · injection h with h1 h2; exact .inr ⟨h1, h2⟩)
        have HRv := Lib.hid hRv
        have HBl := Lib.hid hBl
        have hpli : (pl.length : Int) ≤ 32768 := by omega
        clear hB hBl hRl hRe hRv hR
        go_wp2_with fail
        refine HBY.out.mono ?_
        rintro e x1 ⟨A2, c2, rfl, hn2, hr2, ho2⟩
        have hc2 : B.length ≤ c2 := by have := Own.cap hn2; simpa using this
        have HD2 := Lib.hid (HDe.out A2 c2 x1 hn2.rd hc2)
        have Ho2 := Lib.hid (Ho.out.trans ho2 (fun _ _ h => h))
        have hrow : RowO x1 9 1 A1 acc.length c1 (acc.map strV) := HS.out.row.only ho2 (fun k hk e => by have := HS.out.new k hk; have := Hgl.out; omega)
        have Hrow := Lib.hid hrow.rd
        clear hn2 hr2 ho2 hc2 hrow HDe HBY
        go_wp2_with fail
        refine HD2.out.mono ?_
        rintro e x2 ⟨A5, c5, rfl, hr5, hb5⟩
        have Hr5 := Lib.hid hr5
        have Hw5 := Lib.hid (Hrow.out.ext hb5)
        have Ho5 : Hid (Only (fun k => k = g) w x2) := Lib.hid (Ho2.out.trans (Only.of_ext (S := fun k => k = g) hb5) (fun _ _ h => h))
        clear hr5 hb5 HD2
        go_wp2
        go_loopw [5, 36] (fun s i wr2 => ∃ (k : Nat) (A6 : Option Addr) (c6 : Nat), k ≤ pl.length ∧ i = .int .i64 (k : Int) ∧ s = .slice A6 k c6 ∧ Hid (∀ j (hj : j < pl.length), j < k → inD acc pl[j] = true) ∧ Hid (NewO x2 wr2 9 1 A6 k c6 (((pl.take k).map (pkD acc)).map strV))) (fun _ i _ => pl.length - (intOf i).toNat)
        case atStart => exact ⟨0, none, 0, Nat.zero_le _, rfl, rfl, Lib.hid (fun j _ h => absurd h (by omega)), Lib.hid (NewO.start _ _ _)⟩
        case round =>
          obtain ⟨k, A6, c6, hk, rfl, rfl, Hno, HN6⟩ := hrel
          by_cases hlt : k < pl.length
          · have hki : (k : Int) < (pl.length : Int) := by omega
            obtain ⟨ad, hB, hcell⟩ := rd_int (Hr5.out.ext HN6.out.bel) hlt
            subst hB
            have hv := HRv.out _ (List.getElem_mem hlt)
            by_cases hin : pl[k] < (acc.length : Int)
            · obtain ⟨v, hvn⟩ : ∃ v : Nat, pl[k] = (v : Int) := ⟨pl[k].toNat, by omega⟩
              have hva : v < acc.length := by omega
              obtain ⟨ad2, hA, hcell2⟩ := rd_str (Hw5.out.ext HN6.out.bel) hva
              subst hA
              have Hsn : Hid (((pl.take (k + 1)).map (pkD acc)).map strV = ((pl.take k).map (pkD acc)).map strV ++ [strV acc[v]]) := Lib.hid (by
                rw [List.take_succ_eq_append_getElem hlt, List.map_append, List.map_append, List.map_singleton, List.map_singleton, hvn]
                unfold pkD
                rw [Int.toNat_natCast, List.getD_eq_getElem?_getD, List.getElem?_eq_getElem hva]
                rfl)
              have Hno2 : Hid (∀ j (hj : j < pl.length), j < k + 1 → inD acc pl[j] = true) := Lib.hid (fun j hj hj2 => by
                rcases Nat.lt_succ_iff_lt_or_eq.1 hj2 with h3 | rfl
                · exact Hno.out j hj h3
                · exact decide_eq_true hin)
              have hge : ¬ (acc.length : Int) ≤ (v : Int) := by omega
              have hgen : decide (acc.length ≤ v) = false := decide_eq_false (by omega)
              have hvi : (v : Int) < (acc.length : Int) := by omega
              have hk2 : k + 1 ≤ maxLen := by unfold maxLen; have := HRl.out; omega
              have hk3 : (k + 1) * 16 ≤ 140737488355328 := by have := HRl.out; omega
              rw [hvn] at hcell
              obtain ⟨Z, hu⟩ : ∃ Z : ByteArray, strV acc[v] = .string Z := ⟨_, rfl⟩
              rw [hu] at hcell2 Hsn
              have Hva := Lib.hid hva
              clear hvn hin hv hu hva
              go_wp2_with (at_builtin
                           refine wpList_app_new rfl (.tmp 44) (.tmp 49) _ rfl 9 _ 1 16 Tryz.underlying45 info_str rfl A6 _ c6 _ HN6.out (ext_alloc (Below.refl _ _) _) rfl ⟨wr.heap.size, 0, none⟩ 1 [.string Z] rfl rfl (Rd.lit _ #[.string Z] _) ?_ hk2 hk3 ?_
                           · intro x hx; simp at hx; rw [hx]; rfl
                           intro A7 c7 w7 hN7 hb7
                           rw [← Hsn.out] at hN7
                           have HN7 := Lib.hid hN7
                           clear hN7 hb7)
              go_roundw
              case rel => exact ⟨k + 1, A7, c7, by omega, by go_num, rfl, Hno2, HN7⟩
              case measure => simp [intOf]; omega
            · have Hst : Hid (T = [] ∧ ok = false) := Lib.hid (by
                have h := HC.out
                rw [if_neg (fun hx => hin (by
                  have := List.all_eq_true.1 hx.2 _ (List.getElem_mem hlt)
                  simpa [inD] using this))] at h
                injection h with h1 h2
                exact ⟨h1, h2⟩)
              obtain ⟨v, hvn⟩ : ∃ v : Nat, pl[k] = (v : Int) := ⟨pl[k].toNat, by omega⟩
              have hge : (acc.length : Int) ≤ (v : Int) := by omega
              have hgen : decide (acc.length ≤ v) = true := decide_eq_true (by omega)
              rw [hvn] at hcell
              clear hvn hin hv
              go_wp2
              go_ret2
              obtain ⟨rfl, rfl⟩ := Hst.out
              exact ⟨none, 0, rfl, TxtAt.none_ _, by simp, by simp, Ho5.out.trans (Only.of_ext (S := fun k => k = g) HN6.out.bel) (fun _ _ h => h)⟩
          · obtain rfl : k = pl.length := by omega
            have Hst : Hid (T = pl.map (pkD acc) ∧ ok = decide (er = 0)) := Lib.hid (by
              have h := HC.out
              rcases HRe.out with he | ⟨he, he2⟩
              · rw [if_pos ⟨he, List.all_eq_true.2 fun v hv => by
                  obtain ⟨j, hj, rfl⟩ := List.mem_iff_getElem.1 hv
                  exact Hno.out j hj hj⟩] at h
                injection h with h1 h2
                exact ⟨h1, by rw [h2, decide_eq_true he]⟩
              · rw [if_neg (fun hx => by rw [he2] at hx; exact absurd hx.1 (by decide))] at h
                injection h with h1 h2
                exact ⟨by rw [h1, he]; rfl, by rw [h2, he2]; rfl⟩)
            have hTx := HN6.out
            rw [List.take_length, ← Hst.out.1] at hTx
            have HTl : Hid (T.length = pl.length) := Lib.hid (by rw [Hst.out.1, List.length_map])
            have HTx := Lib.hid (TxtAt.of_row hTx.row HTl.out.symm)
            have HTe : Hid (∀ s ∈ T, s.length ≤ 200000000) := Lib.hid (fun s hs => by
              rw [Hst.out.1] at hs
              obtain ⟨v, hv, rfl⟩ := List.mem_map.1 hs
              unfold pkD
              by_cases hx : v.toNat < acc.length
              · rw [List.getD_eq_getElem?_getD, List.getElem?_eq_getElem hx]
                exact Hea.out _ (List.getElem_mem hx)
              · rw [List.getD_eq_getElem?_getD, List.getElem?_eq_none (by omega)]
                simp)
            have Hok : Hid (ok = decide (er = 0)) := Lib.hid Hst.out.2
            have Hbz := Lib.hid HN6.out.bel
            have hie : (decide (er = 0)) = (er == 0) := by simp [BEq.beq]
            clear hTx Hst HC
            go_wp2
            go_ret2
            exact ⟨A6, c6, by rw [HTl.out, Hok.out]; rfl, HTx.out, HTe.out, by rw [HTl.out]; exact HRl.out, Ho5.out.trans (Only.of_ext (S := fun k => k = g) Hbz.out) (fun _ _ h => h)⟩
      have hmi : (0 : Int) < (m : Int) := by omega
      have hmd : decide ((0 : Int) < (m : Int)) = true := decide_eq_true hmi
      have hmn : decide (0 < m) = true := decide_eq_true (by omega)
      cases bd with
      | true =>
        have HC := Lib.hid (HEX.out (.inr rfl))
        clear HEX hm
        go_wp2_with fail
        refine (rgood _ g rest true wr Hr.out).mono ?_
        rintro e w' ⟨rfl, rfl⟩
        obtain ⟨B, hB⟩ : ∃ B, (stBytes rest true).1 = B := ⟨_, rfl⟩
        have hBl : B.length ≤ 200000000 := by rw [← hB]; exact Nat.le_trans (stBytes_len rest true).2 Hrs.out
        rw [hB] at HC HBY
        have HDe := Lib.hid (fun (A : Option Addr) (c : Nat) (W : World) (hW : Rd W A (B.map bv)) (hc : B.length ≤ c) => decode_any B A c W hW hc (by omega))
        have hRl := decR_len B
        have hRe := decR_snd B
        have hRv : ∀ v ∈ (decR B).1, 0 ≤ v ∧ v ≤ 1099511627776 := by
          rcases hRe with h | h
          · exact ((mayP_iff _).1 (decR_ok h)).2
          · rw [h]; simp
        obtain ⟨pl, er, hR⟩ : ∃ pl er, decR B = (pl, er) := ⟨_, _, rfl⟩
        rw [hR] at HC hRl hRe hRv
        simp only [hR] at HDe
        simp only at HC hRl hRe hRv
        have HRl := Lib.hid hRl
        have HRe : Hid (er = 0 ∨ (pl = [] ∧ er = 2)) := Lib.hid (by
          rcases hRe with h | h
          · exact .inl h
          · injection h with h1 h2; exact .inr ⟨h1, h2⟩)
        have HRv := Lib.hid hRv
        have HBl := Lib.hid hBl
        have hpli : (pl.length : Int) ≤ 32768 := by omega
        clear hB hBl hRl hRe hRv hR
        go_wp2_with fail
        refine HBY.out.mono ?_
        rintro e x1 ⟨A2, c2, rfl, hn2, hr2, ho2⟩
        have hc2 : B.length ≤ c2 := by have := Own.cap hn2; simpa using this
        have HD2 := Lib.hid (HDe.out A2 c2 x1 hn2.rd hc2)
        have Ho2 := Lib.hid (Ho.out.trans ho2 (fun _ _ h => h))
        have hrow : RowO x1 9 1 A1 acc.length c1 (acc.map strV) := HS.out.row.only ho2 (fun k hk e => by have := HS.out.new k hk; have := Hgl.out; omega)
        have Hrow := Lib.hid hrow.rd
        clear hn2 hr2 ho2 hc2 hrow HDe HBY
        go_wp2_with fail
        refine HD2.out.mono ?_
        rintro e x2 ⟨A5, c5, rfl, hr5, hb5⟩
        have Hr5 := Lib.hid hr5
        have Hw5 := Lib.hid (Hrow.out.ext hb5)
        have Ho5 : Hid (Only (fun k => k = g) w x2) := Lib.hid (Ho2.out.trans (Only.of_ext (S := fun k => k = g) hb5) (fun _ _ h => h))
        clear hr5 hb5 HD2
        go_wp2
        go_loopw [5, 36] (fun s i wr2 => ∃ (k : Nat) (A6 : Option Addr) (c6 : Nat), k ≤ pl.length ∧ i = .int .i64 (k : Int) ∧ s = .slice A6 k c6 ∧ Hid (∀ j (hj : j < pl.length), j < k → inD acc pl[j] = true) ∧ Hid (NewO x2 wr2 9 1 A6 k c6 (((pl.take k).map (pkD acc)).map strV))) (fun _ i _ => pl.length - (intOf i).toNat)
        case atStart => exact ⟨0, none, 0, Nat.zero_le _, rfl, rfl, Lib.hid (fun j _ h => absurd h (by omega)), Lib.hid (NewO.start _ _ _)⟩
        case round =>
          obtain ⟨k, A6, c6, hk, rfl, rfl, Hno, HN6⟩ := hrel
          by_cases hlt : k < pl.length
          · have hki : (k : Int) < (pl.length : Int) := by omega
            obtain ⟨ad, hB, hcell⟩ := rd_int (Hr5.out.ext HN6.out.bel) hlt
            subst hB
            have hv := HRv.out _ (List.getElem_mem hlt)
            by_cases hin : pl[k] < (acc.length : Int)
            · obtain ⟨v, hvn⟩ : ∃ v : Nat, pl[k] = (v : Int) := ⟨pl[k].toNat, by omega⟩
              have hva : v < acc.length := by omega
              obtain ⟨ad2, hA, hcell2⟩ := rd_str (Hw5.out.ext HN6.out.bel) hva
              subst hA
              have Hsn : Hid (((pl.take (k + 1)).map (pkD acc)).map strV = ((pl.take k).map (pkD acc)).map strV ++ [strV acc[v]]) := Lib.hid (by
                rw [List.take_succ_eq_append_getElem hlt, List.map_append, List.map_append, List.map_singleton, List.map_singleton, hvn]
                unfold pkD
                rw [Int.toNat_natCast, List.getD_eq_getElem?_getD, List.getElem?_eq_getElem hva]
                rfl)
              have Hno2 : Hid (∀ j (hj : j < pl.length), j < k + 1 → inD acc pl[j] = true) := Lib.hid (fun j hj hj2 => by
                rcases Nat.lt_succ_iff_lt_or_eq.1 hj2 with h3 | rfl
                · exact Hno.out j hj h3
                · exact decide_eq_true hin)
              have hge : ¬ (acc.length : Int) ≤ (v : Int) := by omega
              have hgen : decide (acc.length ≤ v) = false := decide_eq_false (by omega)
              have hvi : (v : Int) < (acc.length : Int) := by omega
              have hk2 : k + 1 ≤ maxLen := by unfold maxLen; have := HRl.out; omega
              have hk3 : (k + 1) * 16 ≤ 140737488355328 := by have := HRl.out; omega
              rw [hvn] at hcell
              obtain ⟨Z, hu⟩ : ∃ Z : ByteArray, strV acc[v] = .string Z := ⟨_, rfl⟩
              rw [hu] at hcell2 Hsn
              have Hva := Lib.hid hva
              clear hvn hin hv hu hva
              go_wp2_with (at_builtin
                           refine wpList_app_new rfl (.tmp 44) (.tmp 49) _ rfl 9 _ 1 16 Tryz.underlying45 info_str rfl A6 _ c6 _ HN6.out (ext_alloc (Below.refl _ _) _) rfl ⟨wr.heap.size, 0, none⟩ 1 [.string Z] rfl rfl (Rd.lit _ #[.string Z] _) ?_ hk2 hk3 ?_
                           · intro x hx; simp at hx; rw [hx]; rfl
                           intro A7 c7 w7 hN7 hb7
                           rw [← Hsn.out] at hN7
                           have HN7 := Lib.hid hN7
                           clear hN7 hb7)
              go_roundw
              case rel => exact ⟨k + 1, A7, c7, by omega, by go_num, rfl, Hno2, HN7⟩
              case measure => simp [intOf]; omega
            · have Hst : Hid (T = [] ∧ ok = false) := Lib.hid (by
                have h := HC.out
                rw [if_neg (fun hx => hin (by
                  have := List.all_eq_true.1 hx.2 _ (List.getElem_mem hlt)
                  simpa [inD] using this))] at h
                injection h with h1 h2
                exact ⟨h1, h2⟩)
              obtain ⟨v, hvn⟩ : ∃ v : Nat, pl[k] = (v : Int) := ⟨pl[k].toNat, by omega⟩
              have hge : (acc.length : Int) ≤ (v : Int) := by omega
              have hgen : decide (acc.length ≤ v) = true := decide_eq_true (by omega)
              rw [hvn] at hcell
              clear hvn hin hv
              go_wp2
              go_ret2
              obtain ⟨rfl, rfl⟩ := Hst.out
              exact ⟨none, 0, rfl, TxtAt.none_ _, by simp, by simp, Ho5.out.trans (Only.of_ext (S := fun k => k = g) HN6.out.bel) (fun _ _ h => h)⟩
          · obtain rfl : k = pl.length := by omega
            have Hst : Hid (T = pl.map (pkD acc) ∧ ok = decide (er = 0)) := Lib.hid (by
              have h := HC.out
              rcases HRe.out with he | ⟨he, he2⟩
              · rw [if_pos ⟨he, List.all_eq_true.2 fun v hv => by
                  obtain ⟨j, hj, rfl⟩ := List.mem_iff_getElem.1 hv
                  exact Hno.out j hj hj⟩] at h
                injection h with h1 h2
                exact ⟨h1, by rw [h2, decide_eq_true he]⟩
              · rw [if_neg (fun hx => by rw [he2] at hx; exact absurd hx.1 (by decide))] at h
                injection h with h1 h2
                exact ⟨by rw [h1, he]; rfl, by rw [h2, he2]; rfl⟩)
            have hTx := HN6.out
            rw [List.take_length, ← Hst.out.1] at hTx
            have HTl : Hid (T.length = pl.length) := Lib.hid (by rw [Hst.out.1, List.length_map])
            have HTx := Lib.hid (TxtAt.of_row hTx.row HTl.out.symm)
            have HTe : Hid (∀ s ∈ T, s.length ≤ 200000000) := Lib.hid (fun s hs => by
              rw [Hst.out.1] at hs
              obtain ⟨v, hv, rfl⟩ := List.mem_map.1 hs
              unfold pkD
              by_cases hx : v.toNat < acc.length
              · rw [List.getD_eq_getElem?_getD, List.getElem?_eq_getElem hx]
                exact Hea.out _ (List.getElem_mem hx)
              · rw [List.getD_eq_getElem?_getD, List.getElem?_eq_none (by omega)]
                simp)
            have Hok : Hid (ok = decide (er = 0)) := Lib.hid Hst.out.2
            have Hbz := Lib.hid HN6.out.bel
            have hie : (decide (er = 0)) = (er == 0) := by simp [BEq.beq]
            clear hTx Hst HC
            go_wp2
            go_ret2
            exact ⟨A6, c6, by rw [HTl.out, Hok.out]; rfl, HTx.out, HTe.out, by rw [HTl.out]; exact HRl.out, Ho5.out.trans (Only.of_ext (S := fun k => k = g) Hbz.out) (fun _ _ h => h)⟩
      | false =>
        clear HEX
        obtain ⟨k, hk⟩ : ∃ k, m = k + 1 := ⟨m - 1, by omega⟩
        have hk1 : IntKind.i64.wrap ((m : Int) - 1) = (k : Int) := by rw [show (m : Int) - 1 = (k : Int) by omega]; exact IntWalk.i64_in _ (by have := Hrd.out.len; have := HN.out; omega)
        have HRs := Lib.hid (Tkd.step (by rw [← hk]; exact Hrd.out))
        have hk2 : acc.length + 1 ≤ maxLen := by unfold maxLen; have := Hen.out; omega
        have hk3 : (acc.length + 1) * 16 ≤ 140737488355328 := by have := Hen.out; omega
        generalize stBytes rest false = q at *
        obtain ⟨bs, rest', bd'⟩ := q
        simp only at HRs HBY
        have Hk := Lib.hid hk
        clear hk hm
        go_wp2_with fail
        refine (rgood _ g rest false wr Hr.out).mono ?_
        rintro e w' ⟨rfl, rfl⟩
        go_wp2_with fail
        refine HBY.out.mono ?_
        rintro e x1 ⟨A2, c2, rfl, hn2, hr2, ho2⟩
        have hcv := conv_bytes x1 A2 bs.length c2 bs rfl hn2.rd
        have hrow : RowO x1 9 1 A1 acc.length c1 (acc.map strV) := HS.out.row.only ho2 (fun k hk e => by have := HS.out.new k hk; have := Hgl.out; omega)
        have Hrow := Lib.hid hrow
        have Hr2 := Lib.hid hr2
        have Ho2 := Lib.hid (Ho.out.trans ho2 (fun _ _ h => h))
        have hsv : (.string ⟨bs.toArray⟩ : Value) = strV bs := rfl
        rw [hsv] at hcv
        obtain ⟨Z, hv⟩ : ∃ Z : ByteArray, strV bs = .string Z := ⟨_, rfl⟩
        rw [hv] at hcv
        have Hv := Lib.hid hv
        clear hrow hr2 ho2 hn2 hv hsv
        go_wp2_with (at_builtin
                     refine wpList_appO _ rfl (.tmp 22) (.tmp 26) _ rfl 9 _ 1 16 Tryz.underlying45 info_str rfl A1 _ c1 _ rfl (Hrow.out.alloc _) (some ⟨x1.heap.size, 0, none⟩) 1 1 [.string Z] rfl rfl (Rd.lit _ #[.string Z] _) ?_ ?_ hk2 hk3 ?_
                     · intro u hu; simp at hu; rw [hu]; rfl
                     · intro h; cases h
                     intro A3 c3 w3 hrow3 honly3 hA3
                     rw [← Hv.out] at hrow3 honly3
                     have hx1 : w.heap.size ≤ (x1.alloc (.cells #[.string Z] 9)).heap.size := by rw [World.size_alloc]; have := Ho2.out.size; omega
                     have hF3 : FrS w w3 A3 c3 (acc ++ [bs]) := HS.out.grow hx1 hrow3 (by rw [← Hv.out] at hx1; rw [← Hv.out] at hA3; rw [← Hv.out]; exact hA3)
                     have hO3 := HS.out.only (Ho2.out.alloc (.cells #[strV bs] 9)) honly3
                     have hR3 : Rdr w3 f2 g rest' bd' := (Hr2.out.ext (ext_alloc (Below.refl _ _) _)).only honly3 (fun k hk hi => by have := HS.out.new k hi; have := Hf2.out k hk; omega)
                     have HF3 := Lib.hid hF3
                     have HO3 := Lib.hid hO3
                     have HR3 := Lib.hid hR3
                     clear hrow3 honly3 hA3 hx1 hF3 hO3 hR3)
        go_roundw
        case rel => exact ⟨k, acc ++ [bs], rest', bd', A3, c3, rfl, by rw [List.length_append]; rfl, HRs, HR3.out, HF3.out, HO3.out⟩
        case measure => simp [intOf]; have := Hk.out; omega
  · have hqi : (32769 : Int) < (n : Int) := by omega
    have hmin : min (n : Int) 32769 = 32769 := by omega
    go_wp2_with fail
    go_loopw [4, 6] (fun s i wr => ∃ (m : Nat) (acc : List (List UInt8)) (rest : List UInt8) (bd : Bool) (A1 : Option Addr) (c1 : Nat), i = .int .i64 (m : Int) ∧ s = .slice A1 acc.length c1 ∧ Hid (Tkd 32769 bs1 bad1 m acc rest bd) ∧ Rdr wr f2 g rest bd ∧ FrS w wr A1 c1 acc ∧ Only (fun k => k = g) w wr) (fun _ i _ => (intOf i).toNat)
    case atStart => exact ⟨32769, [], bs1, bad1, none, 0, rfl, rfl, Lib.hid ⟨rfl, rfl, by simp, by simp, Nat.le_refl _⟩, Hr1.out, FrS.start _ _, Ho1.out⟩
    case round =>
      obtain ⟨m, acc, rest, bd, A1, c1, rfl, rfl, Hrd, hr, hS, ho⟩ := hrel
      have Hr := Lib.hid hr
      have HS := Lib.hid hS
      have Ho := Lib.hid ho
      have Hen : Hid (acc.length ≤ 32769) := Lib.hid (by have := Hrd.out.len; have := HN.out; omega)
      have Hea : Hid (∀ s ∈ acc, s.length ≤ 200000000) := Lib.hid (fun s hs => Nat.le_trans (Hrd.out.each s hs) Hbl.out)
      have Hrs : Hid (rest.length ≤ 200000000) := Lib.hid (Nat.le_trans Hrd.out.short Hbl.out)
      clear hr hS ho
      have HEX : Hid ((m = 0 ∨ bd = true) → (T, ok) = if (decR (stBytes rest bd).1).2 = 0 ∧ (decR (stBytes rest bd).1).1.all (inD acc) = true then ((decR (stBytes rest bd).1).1.map (pkD acc), true) else ([], false)) := Lib.hid (fun he => HT.out acc rest bd (Hrd.out.end_ he))
      have HBY := Lib.hid (rbytes_st f2 g rest bd wr Hr.out (by have := Hrs.out; omega))
      by_cases hm : m = 0
      · subst hm
        have HC := Lib.hid (HEX.out (.inl rfl))
        clear HEX
        obtain ⟨B, hB⟩ : ∃ B, (stBytes rest bd).1 = B := ⟨_, rfl⟩
        have hBl : B.length ≤ 200000000 := by rw [← hB]; exact Nat.le_trans (stBytes_len rest bd).2 Hrs.out
        rw [hB] at HC HBY
        have HDe := Lib.hid (fun (A : Option Addr) (c : Nat) (W : World) (hW : Rd W A (B.map bv)) (hc : B.length ≤ c) => decode_any B A c W hW hc (by omega))
        have hRl := decR_len B
        have hRe := decR_snd B
        have hRv : ∀ v ∈ (decR B).1, 0 ≤ v ∧ v ≤ 1099511627776 := by
          rcases hRe with h | h
          · exact ((mayP_iff _).1 (decR_ok h)).2
          · rw [h]; simp
        obtain ⟨pl, er, hR⟩ : ∃ pl er, decR B = (pl, er) := ⟨_, _, rfl⟩
        rw [hR] at HC hRl hRe hRv
        simp only [hR] at HDe
        simp only at HC hRl hRe hRv
        have HRl := Lib.hid hRl
        have HRe : Hid (er = 0 ∨ (pl = [] ∧ er = 2)) := Lib.hid (by
          rcases hRe with h | h
          · exact .inl h
          · injection h with h1 h2; exact .inr ⟨h1, h2⟩)
        have HRv := Lib.hid hRv
        have HBl := Lib.hid hBl
        have hpli : (pl.length : Int) ≤ 32768 := by omega
        clear hB hBl hRl hRe hRv hR
        go_wp2_with fail
        refine HBY.out.mono ?_
        rintro e x1 ⟨A2, c2, rfl, hn2, hr2, ho2⟩
        have hc2 : B.length ≤ c2 := by have := Own.cap hn2; simpa using this
        have HD2 := Lib.hid (HDe.out A2 c2 x1 hn2.rd hc2)
        have Ho2 := Lib.hid (Ho.out.trans ho2 (fun _ _ h => h))
        have hrow : RowO x1 9 1 A1 acc.length c1 (acc.map strV) := HS.out.row.only ho2 (fun k hk e => by have := HS.out.new k hk; have := Hgl.out; omega)
        have Hrow := Lib.hid hrow.rd
        clear hn2 hr2 ho2 hc2 hrow HDe HBY
        go_wp2_with fail
        refine HD2.out.mono ?_
        rintro e x2 ⟨A5, c5, rfl, hr5, hb5⟩
        have Hr5 := Lib.hid hr5
        have Hw5 := Lib.hid (Hrow.out.ext hb5)
        have Ho5 : Hid (Only (fun k => k = g) w x2) := Lib.hid (Ho2.out.trans (Only.of_ext (S := fun k => k = g) hb5) (fun _ _ h => h))
        clear hr5 hb5 HD2
        go_wp2
        go_loopw [5, 36] (fun s i wr2 => ∃ (k : Nat) (A6 : Option Addr) (c6 : Nat), k ≤ pl.length ∧ i = .int .i64 (k : Int) ∧ s = .slice A6 k c6 ∧ Hid (∀ j (hj : j < pl.length), j < k → inD acc pl[j] = true) ∧ Hid (NewO x2 wr2 9 1 A6 k c6 (((pl.take k).map (pkD acc)).map strV))) (fun _ i _ => pl.length - (intOf i).toNat)
        case atStart => exact ⟨0, none, 0, Nat.zero_le _, rfl, rfl, Lib.hid (fun j _ h => absurd h (by omega)), Lib.hid (NewO.start _ _ _)⟩
        case round =>
          obtain ⟨k, A6, c6, hk, rfl, rfl, Hno, HN6⟩ := hrel
          by_cases hlt : k < pl.length
          · have hki : (k : Int) < (pl.length : Int) := by omega
            obtain ⟨ad, hB, hcell⟩ := rd_int (Hr5.out.ext HN6.out.bel) hlt
            subst hB
            have hv := HRv.out _ (List.getElem_mem hlt)
            by_cases hin : pl[k] < (acc.length : Int)
            · obtain ⟨v, hvn⟩ : ∃ v : Nat, pl[k] = (v : Int) := ⟨pl[k].toNat, by omega⟩
              have hva : v < acc.length := by omega
              obtain ⟨ad2, hA, hcell2⟩ := rd_str (Hw5.out.ext HN6.out.bel) hva
              subst hA
              have Hsn : Hid (((pl.take (k + 1)).map (pkD acc)).map strV = ((pl.take k).map (pkD acc)).map strV ++ [strV acc[v]]) := Lib.hid (by
                rw [List.take_succ_eq_append_getElem hlt, List.map_append, List.map_append, List.map_singleton, List.map_singleton, hvn]
                unfold pkD
                rw [Int.toNat_natCast, List.getD_eq_getElem?_getD, List.getElem?_eq_getElem hva]
                rfl)
              have Hno2 : Hid (∀ j (hj : j < pl.length), j < k + 1 → inD acc pl[j] = true) := Lib.hid (fun j hj hj2 => by
                rcases Nat.lt_succ_iff_lt_or_eq.1 hj2 with h3 | rfl
                · exact Hno.out j hj h3
                · exact decide_eq_true hin)
              have hge : ¬ (acc.length : Int) ≤ (v : Int) := by omega
              have hgen : decide (acc.length ≤ v) = false := decide_eq_false (by omega)
              have hvi : (v : Int) < (acc.length : Int) := by omega
              have hk2 : k + 1 ≤ maxLen := by unfold maxLen; have := HRl.out; omega
              have hk3 : (k + 1) * 16 ≤ 140737488355328 := by have := HRl.out; omega
              rw [hvn] at hcell
              obtain ⟨Z, hu⟩ : ∃ Z : ByteArray, strV acc[v] = .string Z := ⟨_, rfl⟩
              rw [hu] at hcell2 Hsn
              have Hva := Lib.hid hva
              clear hvn hin hv hu hva
              go_wp2_with (at_builtin
                           refine wpList_app_new rfl (.tmp 44) (.tmp 49) _ rfl 9 _ 1 16 Tryz.underlying45 info_str rfl A6 _ c6 _ HN6.out (ext_alloc (Below.refl _ _) _) rfl ⟨wr.heap.size, 0, none⟩ 1 [.string Z] rfl rfl (Rd.lit _ #[.string Z] _) ?_ hk2 hk3 ?_
                           · intro x hx; simp at hx; rw [hx]; rfl
                           intro A7 c7 w7 hN7 hb7
                           rw [← Hsn.out] at hN7
                           have HN7 := Lib.hid hN7
                           clear hN7 hb7)
              go_roundw
              case rel => exact ⟨k + 1, A7, c7, by omega, by go_num, rfl, Hno2, HN7⟩
              case measure => simp [intOf]; omega
            · have Hst : Hid (T = [] ∧ ok = false) := Lib.hid (by
                have h := HC.out
                rw [if_neg (fun hx => hin (by
                  have := List.all_eq_true.1 hx.2 _ (List.getElem_mem hlt)
                  simpa [inD] using this))] at h
                injection h with h1 h2
                exact ⟨h1, h2⟩)
              obtain ⟨v, hvn⟩ : ∃ v : Nat, pl[k] = (v : Int) := ⟨pl[k].toNat, by omega⟩
              have hge : (acc.length : Int) ≤ (v : Int) := by omega
              have hgen : decide (acc.length ≤ v) = true := decide_eq_true (by omega)
              rw [hvn] at hcell
              clear hvn hin hv
              go_wp2
              go_ret2
              obtain ⟨rfl, rfl⟩ := Hst.out
              exact ⟨none, 0, rfl, TxtAt.none_ _, by simp, by simp, Ho5.out.trans (Only.of_ext (S := fun k => k = g) HN6.out.bel) (fun _ _ h => h)⟩
          · obtain rfl : k = pl.length := by omega
            have Hst : Hid (T = pl.map (pkD acc) ∧ ok = decide (er = 0)) := Lib.hid (by
              have h := HC.out
              rcases HRe.out with he | ⟨he, he2⟩
              · rw [if_pos ⟨he, List.all_eq_true.2 fun v hv => by
                  obtain ⟨j, hj, rfl⟩ := List.mem_iff_getElem.1 hv
                  exact Hno.out j hj hj⟩] at h
                injection h with h1 h2
                exact ⟨h1, by rw [h2, decide_eq_true he]⟩
              · rw [if_neg (fun hx => by rw [he2] at hx; exact absurd hx.1 (by decide))] at h
                injection h with h1 h2
                exact ⟨by rw [h1, he]; rfl, by rw [h2, he2]; rfl⟩)
            have hTx := HN6.out
            rw [List.take_length, ← Hst.out.1] at hTx
            have HTl : Hid (T.length = pl.length) := Lib.hid (by rw [Hst.out.1, List.length_map])
            have HTx := Lib.hid (TxtAt.of_row hTx.row HTl.out.symm)
            have HTe : Hid (∀ s ∈ T, s.length ≤ 200000000) := Lib.hid (fun s hs => by
              rw [Hst.out.1] at hs
              obtain ⟨v, hv, rfl⟩ := List.mem_map.1 hs
              unfold pkD
              by_cases hx : v.toNat < acc.length
              · rw [List.getD_eq_getElem?_getD, List.getElem?_eq_getElem hx]
                exact Hea.out _ (List.getElem_mem hx)
              · rw [List.getD_eq_getElem?_getD, List.getElem?_eq_none (by omega)]
                simp)
            have Hok : Hid (ok = decide (er = 0)) := Lib.hid Hst.out.2
            have Hbz := Lib.hid HN6.out.bel
            have hie : (decide (er = 0)) = (er == 0) := by simp [BEq.beq]
            clear hTx Hst HC
            go_wp2
            go_ret2
            exact ⟨A6, c6, by rw [HTl.out, Hok.out]; rfl, HTx.out, HTe.out, by rw [HTl.out]; exact HRl.out, Ho5.out.trans (Only.of_ext (S := fun k => k = g) Hbz.out) (fun _ _ h => h)⟩
      have hmi : (0 : Int) < (m : Int) := by omega
      have hmd : decide ((0 : Int) < (m : Int)) = true := decide_eq_true hmi
      have hmn : decide (0 < m) = true := decide_eq_true (by omega)
      cases bd with
      | true =>
        have HC := Lib.hid (HEX.out (.inr rfl))
        clear HEX hm
        go_wp2_with fail
        refine (rgood _ g rest true wr Hr.out).mono ?_
        rintro e w' ⟨rfl, rfl⟩
        obtain ⟨B, hB⟩ : ∃ B, (stBytes rest true).1 = B := ⟨_, rfl⟩
        have hBl : B.length ≤ 200000000 := by rw [← hB]; exact Nat.le_trans (stBytes_len rest true).2 Hrs.out
        rw [hB] at HC HBY
        have HDe := Lib.hid (fun (A : Option Addr) (c : Nat) (W : World) (hW : Rd W A (B.map bv)) (hc : B.length ≤ c) => decode_any B A c W hW hc (by omega))
        have hRl := decR_len B
        have hRe := decR_snd B
        have hRv : ∀ v ∈ (decR B).1, 0 ≤ v ∧ v ≤ 1099511627776 := by
          rcases hRe with h | h
          · exact ((mayP_iff _).1 (decR_ok h)).2
          · rw [h]; simp
        obtain ⟨pl, er, hR⟩ : ∃ pl er, decR B = (pl, er) := ⟨_, _, rfl⟩
        rw [hR] at HC hRl hRe hRv
        simp only [hR] at HDe
        simp only at HC hRl hRe hRv
        have HRl := Lib.hid hRl
        have HRe : Hid (er = 0 ∨ (pl = [] ∧ er = 2)) := Lib.hid (by
          rcases hRe with h | h
          · exact .inl h
          · injection h with h1 h2; exact .inr ⟨h1, h2⟩)
        have HRv := Lib.hid hRv
        have HBl := Lib.hid hBl
        have hpli : (pl.length : Int) ≤ 32768 := by omega
        clear hB hBl hRl hRe hRv hR
        go_wp2_with fail
        refine HBY.out.mono ?_
        rintro e x1 ⟨A2, c2, rfl, hn2, hr2, ho2⟩
        have hc2 : B.length ≤ c2 := by have := Own.cap hn2; simpa using this
        have HD2 := Lib.hid (HDe.out A2 c2 x1 hn2.rd hc2)
        have Ho2 := Lib.hid (Ho.out.trans ho2 (fun _ _ h => h))
        have hrow : RowO x1 9 1 A1 acc.length c1 (acc.map strV) := HS.out.row.only ho2 (fun k hk e => by have := HS.out.new k hk; have := Hgl.out; omega)
        have Hrow := Lib.hid hrow.rd
        clear hn2 hr2 ho2 hc2 hrow HDe HBY
        go_wp2_with fail
        refine HD2.out.mono ?_
        rintro e x2 ⟨A5, c5, rfl, hr5, hb5⟩
        have Hr5 := Lib.hid hr5
        have Hw5 := Lib.hid (Hrow.out.ext hb5)
        have Ho5 : Hid (Only (fun k => k = g) w x2) := Lib.hid (Ho2.out.trans (Only.of_ext (S := fun k => k = g) hb5) (fun _ _ h => h))
        clear hr5 hb5 HD2
        go_wp2
        go_loopw [5, 36] (fun s i wr2 => ∃ (k : Nat) (A6 : Option Addr) (c6 : Nat), k ≤ pl.length ∧ i = .int .i64 (k : Int) ∧ s = .slice A6 k c6 ∧ Hid (∀ j (hj : j < pl.length), j < k → inD acc pl[j] = true) ∧ Hid (NewO x2 wr2 9 1 A6 k c6 (((pl.take k).map (pkD acc)).map strV))) (fun _ i _ => pl.length - (intOf i).toNat)
        case atStart => exact ⟨0, none, 0, Nat.zero_le _, rfl, rfl, Lib.hid (fun j _ h => absurd h (by omega)), Lib.hid (NewO.start _ _ _)⟩
        case round =>
          obtain ⟨k, A6, c6, hk, rfl, rfl, Hno, HN6⟩ := hrel
          by_cases hlt : k < pl.length
          · have hki : (k : Int) < (pl.length : Int) := by omega
            obtain ⟨ad, hB, hcell⟩ := rd_int (Hr5.out.ext HN6.out.bel) hlt
            subst hB
            have hv := HRv.out _ (List.getElem_mem hlt)
            by_cases hin : pl[k] < (acc.length : Int)
            · obtain ⟨v, hvn⟩ : ∃ v : Nat, pl[k] = (v : Int) := ⟨pl[k].toNat, by omega⟩
              have hva : v < acc.length := by omega
              obtain ⟨ad2, hA, hcell2⟩ := rd_str (Hw5.out.ext HN6.out.bel) hva
              subst hA
              have Hsn : Hid (((pl.take (k + 1)).map (pkD acc)).map strV = ((pl.take k).map (pkD acc)).map strV ++ [strV acc[v]]) := Lib.hid (by
                rw [List.take_succ_eq_append_getElem hlt, List.map_append, List.map_append, List.map_singleton, List.map_singleton, hvn]
                unfold pkD
                rw [Int.toNat_natCast, List.getD_eq_getElem?_getD, List.getElem?_eq_getElem hva]
                rfl)
              have Hno2 : Hid (∀ j (hj : j < pl.length), j < k + 1 → inD acc pl[j] = true) := Lib.hid (fun j hj hj2 => by
                rcases Nat.lt_succ_iff_lt_or_eq.1 hj2 with h3 | rfl
                · exact Hno.out j hj h3
                · exact decide_eq_true hin)
              have hge : ¬ (acc.length : Int) ≤ (v : Int) := by omega
              have hgen : decide (acc.length ≤ v) = false := decide_eq_false (by omega)
              have hvi : (v : Int) < (acc.length : Int) := by omega
              have hk2 : k + 1 ≤ maxLen := by unfold maxLen; have := HRl.out; omega
              have hk3 : (k + 1) * 16 ≤ 140737488355328 := by have := HRl.out; omega
              rw [hvn] at hcell
              obtain ⟨Z, hu⟩ : ∃ Z : ByteArray, strV acc[v] = .string Z := ⟨_, rfl⟩
              rw [hu] at hcell2 Hsn
              have Hva := Lib.hid hva
              clear hvn hin hv hu hva
              go_wp2_with (at_builtin
                           refine wpList_app_new rfl (.tmp 44) (.tmp 49) _ rfl 9 _ 1 16 Tryz.underlying45 info_str rfl A6 _ c6 _ HN6.out (ext_alloc (Below.refl _ _) _) rfl ⟨wr.heap.size, 0, none⟩ 1 [.string Z] rfl rfl (Rd.lit _ #[.string Z] _) ?_ hk2 hk3 ?_
                           · intro x hx; simp at hx; rw [hx]; rfl
                           intro A7 c7 w7 hN7 hb7
                           rw [← Hsn.out] at hN7
                           have HN7 := Lib.hid hN7
                           clear hN7 hb7)
              go_roundw
              case rel => exact ⟨k + 1, A7, c7, by omega, by go_num, rfl, Hno2, HN7⟩
              case measure => simp [intOf]; omega
            · have Hst : Hid (T = [] ∧ ok = false) := Lib.hid (by
                have h := HC.out
                rw [if_neg (fun hx => hin (by
                  have := List.all_eq_true.1 hx.2 _ (List.getElem_mem hlt)
                  simpa [inD] using this))] at h
                injection h with h1 h2
                exact ⟨h1, h2⟩)
              obtain ⟨v, hvn⟩ : ∃ v : Nat, pl[k] = (v : Int) := ⟨pl[k].toNat, by omega⟩
              have hge : (acc.length : Int) ≤ (v : Int) := by omega
              have hgen : decide (acc.length ≤ v) = true := decide_eq_true (by omega)
              rw [hvn] at hcell
              clear hvn hin hv
              go_wp2
              go_ret2
              obtain ⟨rfl, rfl⟩ := Hst.out
              exact ⟨none, 0, rfl, TxtAt.none_ _, by simp, by simp, Ho5.out.trans (Only.of_ext (S := fun k => k = g) HN6.out.bel) (fun _ _ h => h)⟩
          · obtain rfl : k = pl.length := by omega
            have Hst : Hid (T = pl.map (pkD acc) ∧ ok = decide (er = 0)) := Lib.hid (by
              have h := HC.out
              rcases HRe.out with he | ⟨he, he2⟩
              · rw [if_pos ⟨he, List.all_eq_true.2 fun v hv => by
                  obtain ⟨j, hj, rfl⟩ := List.mem_iff_getElem.1 hv
                  exact Hno.out j hj hj⟩] at h
                injection h with h1 h2
                exact ⟨h1, by rw [h2, decide_eq_true he]⟩
              · rw [if_neg (fun hx => by rw [he2] at hx; exact absurd hx.1 (by decide))] at h
                injection h with h1 h2
                exact ⟨by rw [h1, he]; rfl, by rw [h2, he2]; rfl⟩)
            have hTx := HN6.out
            rw [List.take_length, ← Hst.out.1] at hTx
            have HTl : Hid (T.length = pl.length) := Lib.hid (by rw [Hst.out.1, List.length_map])
            have HTx := Lib.hid (TxtAt.of_row hTx.row HTl.out.symm)
            have HTe : Hid (∀ s ∈ T, s.length ≤ 200000000) := Lib.hid (fun s hs => by
              rw [Hst.out.1] at hs
              obtain ⟨v, hv, rfl⟩ := List.mem_map.1 hs
              unfold pkD
              by_cases hx : v.toNat < acc.length
              · rw [List.getD_eq_getElem?_getD, List.getElem?_eq_getElem hx]
                exact Hea.out _ (List.getElem_mem hx)
              · rw [List.getD_eq_getElem?_getD, List.getElem?_eq_none (by omega)]
                simp)
            have Hok : Hid (ok = decide (er = 0)) := Lib.hid Hst.out.2
            have Hbz := Lib.hid HN6.out.bel
            have hie : (decide (er = 0)) = (er == 0) := by simp [BEq.beq]
            clear hTx Hst HC
            go_wp2
            go_ret2
            exact ⟨A6, c6, by rw [HTl.out, Hok.out]; rfl, HTx.out, HTe.out, by rw [HTl.out]; exact HRl.out, Ho5.out.trans (Only.of_ext (S := fun k => k = g) Hbz.out) (fun _ _ h => h)⟩
      | false =>
        clear HEX
        obtain ⟨k, hk⟩ : ∃ k, m = k + 1 := ⟨m - 1, by omega⟩
        have hk1 : IntKind.i64.wrap ((m : Int) - 1) = (k : Int) := by rw [show (m : Int) - 1 = (k : Int) by omega]; exact IntWalk.i64_in _ (by have := Hrd.out.len; have := HN.out; omega)
        have HRs := Lib.hid (Tkd.step (by rw [← hk]; exact Hrd.out))
        have hk2 : acc.length + 1 ≤ maxLen := by unfold maxLen; have := Hen.out; omega
        have hk3 : (acc.length + 1) * 16 ≤ 140737488355328 := by have := Hen.out; omega
        generalize stBytes rest false = q at *
        obtain ⟨bs, rest', bd'⟩ := q
        simp only at HRs HBY
        have Hk := Lib.hid hk
        clear hk hm
        go_wp2_with fail
        refine (rgood _ g rest false wr Hr.out).mono ?_
        rintro e w' ⟨rfl, rfl⟩
        go_wp2_with fail
        refine HBY.out.mono ?_
        rintro e x1 ⟨A2, c2, rfl, hn2, hr2, ho2⟩
        have hcv := conv_bytes x1 A2 bs.length c2 bs rfl hn2.rd
        have hrow : RowO x1 9 1 A1 acc.length c1 (acc.map strV) := HS.out.row.only ho2 (fun k hk e => by have := HS.out.new k hk; have := Hgl.out; omega)
        have Hrow := Lib.hid hrow
        have Hr2 := Lib.hid hr2
        have Ho2 := Lib.hid (Ho.out.trans ho2 (fun _ _ h => h))
        have hsv : (.string ⟨bs.toArray⟩ : Value) = strV bs := rfl
        rw [hsv] at hcv
        obtain ⟨Z, hv⟩ : ∃ Z : ByteArray, strV bs = .string Z := ⟨_, rfl⟩
        rw [hv] at hcv
        have Hv := Lib.hid hv
        clear hrow hr2 ho2 hn2 hv hsv
        go_wp2_with (at_builtin
                     refine wpList_appO _ rfl (.tmp 22) (.tmp 26) _ rfl 9 _ 1 16 Tryz.underlying45 info_str rfl A1 _ c1 _ rfl (Hrow.out.alloc _) (some ⟨x1.heap.size, 0, none⟩) 1 1 [.string Z] rfl rfl (Rd.lit _ #[.string Z] _) ?_ ?_ hk2 hk3 ?_
                     · intro u hu; simp at hu; rw [hu]; rfl
                     · intro h; cases h
                     intro A3 c3 w3 hrow3 honly3 hA3
                     rw [← Hv.out] at hrow3 honly3
                     have hx1 : w.heap.size ≤ (x1.alloc (.cells #[.string Z] 9)).heap.size := by rw [World.size_alloc]; have := Ho2.out.size; omega
                     have hF3 : FrS w w3 A3 c3 (acc ++ [bs]) := HS.out.grow hx1 hrow3 (by rw [← Hv.out] at hx1; rw [← Hv.out] at hA3; rw [← Hv.out]; exact hA3)
                     have hO3 := HS.out.only (Ho2.out.alloc (.cells #[strV bs] 9)) honly3
                     have hR3 : Rdr w3 f2 g rest' bd' := (Hr2.out.ext (ext_alloc (Below.refl _ _) _)).only honly3 (fun k hk hi => by have := HS.out.new k hi; have := Hf2.out k hk; omega)
                     have HF3 := Lib.hid hF3
                     have HO3 := Lib.hid hO3
                     have HR3 := Lib.hid hR3
                     clear hrow3 honly3 hA3 hx1 hF3 hO3 hR3)
        go_roundw
        case rel => exact ⟨k, acc ++ [bs], rest', bd', A3, c3, rfl, by rw [List.length_append]; rfl, HRs, HR3.out, HF3.out, HO3.out⟩
        case measure => simp [intOf]; have := Hk.out; omega

end Go.Proofs.YtpjgkacekelkdaaGreatDoor

/-
  Decode (program). No statement of the seat is proved here.
-/
namespace Go.Proofs.YtpjgkacekelkdaaGreatDoor
open Go Go.RowKit
set_option maxRecDepth 100000

theorem dec_take {p : List UInt8} {k : Nat} (hk : k = cntD p ∨ k = min (cntD p) 32769) {T : List (List UInt8)} {ok : Bool} (h : takD k p = (T, ok)) :
    decD p = if ok = true ∧ (ansD T).2 = 0 ∧ decide ((ansD T).1 = p) = true then (T, 0) else ([], 2) := by
  rw [dec_got p hk]
  unfold takD at h
  cases hg : gotD k p with
  | none =>
    rw [hg] at h
    injection h with h1 h2
    subst h1 h2
    rw [if_neg (by simp)]
    rfl
  | some l =>
    rw [hg] at h
    injection h with h1 h2
    subst h1 h2
    unfold chkD ansD
    simp only
    by_cases hm : mayD l = true
    · simp [hm]
    · simp [hm]

set_option maxHeartbeats 4000000 in
theorem decodeD_any (p : List UInt8) (A : Option Addr) (ca : Nat) (w : World) (hA : Rd w A (p.map bv)) (hc : p.length ≤ ca) (hp : p.length ≤ 200000000) :
    Calls Tryz.prog 37 #[.slice A p.length ca] w fun e w' => ∃ A' c', e = .returned (.tuple #[.slice A' (decD p).1.length c', .int .i64 (decD p).2]) ∧ TxtAt w' A' c' (decD p).1 ∧ Below w.heap.size w w' := by
  obtain ⟨T, ok, hT⟩ : ∃ T ok, takD (min (cntD p) 32769) p = (T, ok) := ⟨_, _, rfl⟩
  have HR := Lib.hid (dec_take (.inr rfl) hT)
  have HTk := Lib.hid (fun fp g W h => takenD_any fp g p W h hp _ rfl T ok hT)
  generalize decD p = R at *
  have HA := Lib.hid hA
  clear hA hT
  go_enter Tryz.func37, Tryz.ntmps37
  go_wp2_with fail
  refine (newreader A p.length ca p w rfl hc HA.out (by omega)).mono ?_
  rintro e w2 ⟨g, rfl, hr2, hb2⟩
  have HX := Lib.hid (HTk.out _ g w2 hr2)
  have Hgl : Hid (w.heap.size ≤ g ∧ g < w2.heap.size) := Lib.hid hr2.1
  have Hb2 := Lib.hid hb2
  clear hr2 hb2 HTk
  go_wp2_with fail
  refine HX.out.mono ?_
  rintro e w3 ⟨A3, c3, rfl, htx, hte, htl, ho3⟩
  have Hb3 : Hid (Below w.heap.size w w3) := Lib.hid (Hb2.out.trans (ho3.below (fun i hi => by have := Hgl.out; omega) Hb2.out.size))
  have Htx := Lib.hid htx
  have HE := Lib.hid (encodeD_any A3 c3 T w3 htx.rd htx.nil (by omega) (fun s hs => by have := hte s hs; unfold maxLen; omega))
  clear htx hte htl ho3 HX
  cases ok with
  | false =>
    have HR2 : Hid (R = ([], 2)) := Lib.hid (by rw [HR.out, if_neg (by simp)])
    clear HR
    go_wp2
    go_ret2
    rw [HR2.out]
    exact ⟨none, 0, rfl, TxtAt.none_ _, Hb3.out⟩
  | true =>
    obtain ⟨b, er, ha⟩ : ∃ b er, ansD T = (b, er) := ⟨_, _, rfl⟩
    rw [ha] at HE HR
    simp only at HE HR
    clear ha
    go_wp2_with fail
    refine HE.out.mono ?_
    rintro e w4 ⟨A4, c4, rfl, hn4, hb4⟩
    have HQ := Lib.hid (eqb_any A4 A c4 ca b p w4 hn4.rd (HA.out.ext (ext_trans Hb3.out hb4)))
    have Hb4 := Lib.hid hb4
    clear hn4 hb4 HE
    by_cases h0 : er = 0
    · subst h0
      cases hd : decide (b = p) with
      | true =>
        have HR2 : Hid (R = (T, 0)) := Lib.hid (by rw [HR.out, if_pos (by simpa using hd)])
        rw [hd] at HQ
        clear HR hd
        go_wp2_with fail
        refine HQ.out.mono ?_
        rintro e w' ⟨rfl, rfl⟩
        go_wp2
        go_ret2
        rw [HR2.out]
        exact ⟨A3, c3, rfl, Htx.out.ext Hb4.out, ext_trans Hb3.out Hb4.out⟩
      | false =>
        have HR2 : Hid (R = ([], 2)) := Lib.hid (by rw [HR.out, if_neg (by rw [hd]; simp)])
        rw [hd] at HQ
        clear HR hd
        go_wp2_with fail
        refine HQ.out.mono ?_
        rintro e w' ⟨rfl, rfl⟩
        go_wp2
        go_ret2
        rw [HR2.out]
        exact ⟨none, 0, rfl, TxtAt.none_ _, ext_trans Hb3.out Hb4.out⟩
    · have HR2 : Hid (R = ([], 2)) := Lib.hid (by rw [HR.out, if_neg (fun h => h0 h.2.1)])
      have hne : (er != 0) = true := by simpa using h0
      clear HR HQ
      go_wp2
      go_ret2
      rw [HR2.out]
      exact ⟨none, 0, rfl, TxtAt.none_ _, ext_trans Hb3.out Hb4.out⟩
end Go.Proofs.YtpjgkacekelkdaaGreatDoor
