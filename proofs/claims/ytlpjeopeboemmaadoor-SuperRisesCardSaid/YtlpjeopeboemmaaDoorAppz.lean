/-
  append of noughts that are made for it ('append(b, make([]byte, k)...)'), onto bytes of the call's own. No statement of the seat is proved here.
-/
import Derived.Test.YtlpjeopeboemmaaDoorWriter
import Derived.Lib.AppendZerosOnto
namespace Go.Proofs.YtlpjeopeboemmaaDoor
open Go Go.RowKit

theorem zeroCells_u8 (k : Nat) : (Builtin.zeroCells #[Value.int .u8 0] k) = (List.replicate k (Value.int .u8 0)).toArray := by
  apply Array.ext
  · simp [Builtin.zeroCells]
  · intro i h1 h2
    simp [Builtin.zeroCells, Nat.mod_one]

theorem run_appz (w : World) {fp : Nat → Prop} (ty : TypeId) (A : Option Addr) (n c : Nat) (xs : List Value) (hn : n = xs.length) (h0 : 0 < n) (hown : Own w fp 5 A c xs) (k : Nat) (hk : n + k ≤ 100000) :
    ∃ A' c' w', (Builtin.append_ #[22, 3] ty #[.slice A n c, .int .i64 (k : Int)]).run Tryd.prog w = .ok (.slice A' (n + k) c') w' ∧ Own w' (More fp w w') 5 A' c' (xs ++ List.replicate k (Value.int .u8 0)) ∧ Only fp w w' := by
  obtain ⟨i, hi, hz, hsz, hby⟩ := info_parts info_u8
  have ht := Tryd.underlying22
  have htn := Tryd.underlying3
  subst hn
  rcases hown.1.2 with ⟨h1, h2⟩ | ⟨g, cap, cur, h1, _, hg, hnc, hcm, hcs, htake⟩
  · omega
  injection h1 with a1 a2 a3
  subst a1 a3
  have hzc : (Value.int .u8 0).cells = #[Value.int .u8 0] := rfl
  have hw : IntKind.i64.wrap (k : Int) = k := by rw [IntKind.wrap_i64]; omega
  have hneg : ¬ ((k : Int) < 0) := by omega
  have h48i : ¬ (281474976710656 < (k : Int) * (i.bytes : Int)) := by rw [hby]; omega
  have hfg : fp g := hown.2 _ rfl
  have hgl := lt_of_block hg
  by_cases hroom : xs.length + k ≤ c
  · have hfit : xs.length * 1 + (List.replicate k (Value.int .u8 0)).length ≤ cur.size := by rw [List.length_replicate, hcs]; omega
    have hst := run_storeCells_at Tryd.prog g (xs.length * 1) 5 (List.replicate k (Value.int .u8 0)) 0 cur w hg (by simpa using hfit) (fun u hu => by rw [List.eq_of_mem_replicate hu]; rfl)
    simp only [Nat.add_zero, Nat.mul_one] at hst
    have hrun : (Builtin.append_ #[22, 3] ty #[.slice (some ⟨g, 0, none⟩) xs.length c, .int .i64 (k : Int)]).run Tryd.prog w =
        .ok (.slice (some ⟨g, 0, none⟩) (xs.length + k) c) (w.setRow g (cur.toList.take xs.length ++ List.replicate k (Value.int .u8 0) ++ cur.toList.drop (xs.length + (List.replicate k (Value.int .u8 0)).length)).toArray) := by
      by_cases hk0 : k = 0
      · subst hk0
        have hw0 : IntKind.i64.wrap 0 = 0 := rfl
        have hroom' : xs.length ≤ c := hroom
        simp [Builtin.append_, run_underlying ht, run_underlying htn, sizeOf, typeInfo, zeroValue, hi, hz, hsz, asInt, asIntOf, hroom', Addr.add_lit, hw0, storeCells] at hst ⊢
        exact hst
      · simp [Builtin.append_, run_underlying ht, run_underlying htn, sizeOf, typeInfo, zeroValue, hi, hz, hsz, asInt, asIntOf, hw, hneg, h48i, hroom, Addr.add_lit, hk0, zeroCells_u8, hzc] at hst ⊢
        rw [hst]
        rfl
    refine ⟨_, _, _, hrun, ⟨⟨by simp, .inr ⟨g, c, _, by simp, Nat.zero_le _, setRow_heap w g cur _ _ _ hg, by simpa using hroom, hcm, ?_, ?_⟩⟩, fun ad e => by injection e with e; subst e; exact .inl hfg⟩, ?_⟩
    · rw [Nat.mul_one] at hcs htake
      simp
      omega
    · rw [Nat.mul_one] at hcs htake
      rw [htake]
      exact List.take_left' (by simp)
    · exact ⟨rfl, rfl, rfl, by simp, fun j hj hn => setRow_other w g j _ (fun e => hn (by rw [e]; exact hfg))⟩
  · have holds : ∀ j u, xs[j]? = some u → w.cell? ((⟨g, 0, none⟩ : Addr).add j) = some u := fun j u hu => hown.1.cells (g := g) rfl j u hu
    have hold := run_firstCells_some (P := Tryd.prog) w.drew i.size xs.length ⟨g, 0, none⟩ xs.length c xs (by rw [hsz]; simp) holds
    have hr := Lib.run_append_grow_zeros (P := Tryd.prog) w 22 3 ty 5 i _ .i64 .i64 ht htn hi hz (some ⟨g, 0, none⟩) xs.length c xs hold k (by omega) (by omega) (by omega) (by omega) (by rw [hby]; omega) (growslice_fits (by omega) (by rw [hby]; omega))
    have hge := grownCap_ge w (xs.length + k) c 5
    have hcm2 : grownCap w (xs.length + k) c 5 ≤ maxLen := grownCap_le_maxLen w (xs.length + k) c 5 (by unfold maxLen; omega)
    refine ⟨_, _, _, hr, ⟨⟨by simp, .inr ⟨w.heap.size, _, _, by simp, Nat.zero_le _, heap_alloc_new w.drew _, by simpa using hge, hcm2, ?_, ?_⟩⟩, fun ad e => by injection e with e; subst e; exact .inr ⟨Nat.le_refl _, by rw [World.size_alloc]; exact Nat.lt_succ_self _⟩⟩, (Only.refl fp w).drew.alloc _⟩
    · rw [hzc, zeroCells_u8, zeroCells_u8]
      simp
      omega
    · rw [hzc, zeroCells_u8, zeroCells_u8, Nat.mul_one, Array.toList_append, Array.toList_append]
      exact List.take_left' (by simp)
end Go.Proofs.YtlpjeopeboemmaaDoor
