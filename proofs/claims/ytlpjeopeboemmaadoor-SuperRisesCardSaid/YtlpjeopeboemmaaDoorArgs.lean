/-
  Rows of bytes as arguments; the table of package octet. No statement of the seat is proved here.
-/
import Derived.Test.YtlpjeopeboemmaaDoorSum
import Derived.Test.YtlpjeopeboemmaaDoorCards
import Derived.Test.YtlpjeopeboemmaaDoorTie
import Derived.Test.YtlpjeopeboemmaaDoorArgsG
import Derived.Lib.LaidTab
namespace Go.Proofs.YtlpjeopeboemmaaDoor
open Go Go.ChangeShapes Go.WideShapes Go.ChangeAt Go.RowKit

theorem cells_bytes : Tryd.prog.cellsOf 22 = 1 := by kernel_rfl
theorem cells_u32 : Tryd.prog.cellsOf 103 = 1 := by kernel_rfl
theorem cells_tab : Tryd.prog.cellsOf 126 = 16 := by kernel_rfl
theorem gTab : Tryd.prog.globalNamed "winnower/octet.crcSteps" = some 0 := by kernel_rfl
theorem gTabType : (Tryd.prog.globals[0]?).map (·.type) = some 126 := by kernel_rfl

/-- the list of every row of this seat -/
def theLaid : List (String × DataW Unit) := [("winnower/octet.crcSteps", Rows.laid_winnower_octet_crcSteps)]

theorem tab_of_laid {W : World} (h : laidMetH Tryd.prog theLaid W) : Tab W := by
  have h1 : Lib.TabIs Tryd.prog W "winnower/octet.crcSteps" .u32 [0, 498536548, 997073096, 651767980, 1994146192, 1802195444, 1303535960, 1342533948, 3988292384, 4027552580, 3604390888, 3412177804, 2607071920, 2262029012, 2685067896, 3183342108] :=
    Lib.tabIs_of_head (rest := []) gTab gTabType Tryd.underlying126 Tryd.underlying103 cells_u32 cells_tab h
  intro i hi
  have h2 := h1.cell gTab i (by simpa using hi)
  rw [h2]
  match i, hi with
  | 0, _ => rfl
  | 1, _ => rfl
  | 2, _ => rfl
  | 3, _ => rfl
  | 4, _ => rfl
  | 5, _ => rfl
  | 6, _ => rfl
  | 7, _ => rfl
  | 8, _ => rfl
  | 9, _ => rfl
  | 10, _ => rfl
  | 11, _ => rfl
  | 12, _ => rfl
  | 13, _ => rfl
  | 14, _ => rfl
  | 15, _ => rfl
  | n + 16, h => omega

section
variable {H : Type} {enc : TypeId × Value → H} {W : World} {base : Nat}
set_option maxRecDepth 100000 in
theorem arg_rows {v : Value} {d : DataW H} {p : List MemPlace} (hv : Value.okWide Tryd.prog W .any base 50 v) (h : DataW.Trod enc Tryd.prog W 0 (fun _ => true) true 50 v d p) :
    ∃ (A : Option Addr) (n c : Nat) (xss : List (List UInt8)), v = .slice A n c ∧ n = xss.length ∧ xss.length ≤ c ∧ c ≤ maxLen ∧ RowsF (fun _ => False) W A xss ∧ ∀ xs ∈ xss, xs.length ≤ maxLen := by
  obtain ⟨a0, len, cap, rfl⟩ := okWide_slice Tryd.underlying50 hv
  obtain ⟨fuel, hf⟩ := h
  rcases Deep.open_int_rows Tryd.underlying50 Tryd.underlying22 Tryd.underlying5 cells_bytes cells_u8 hf with ⟨hcs, hx⟩ | ⟨a, len', cap', A, L, C, Z, hcs, _, hl, hm, hx, hcell⟩
  · simp [Value.cells] at hcs
    obtain ⟨rfl, rfl, rfl⟩ := hcs
    exact ⟨none, 0, 0, [], rfl, rfl, Nat.le_refl _, Nat.zero_le _, ⟨[], RdF.of (Rd.nil _ _), rfl, fun j v xs h _ => by simp at h⟩, by simp⟩
  · simp [Value.cells] at hcs
    obtain ⟨rfl, rfl, rfl⟩ := hcs
    have hlen : ∀ r, r < cap → (toBytes ((Z r).take (L r))).length = L r := fun r hr => by
      obtain ⟨_, h2, _, h4, _⟩ := hcell r hr
      simp [toBytes]; omega
    refine ⟨some a, len, cap, (List.range len).map fun r => toBytes ((Z r).take (L r)), rfl, by simp, by simpa using hl, hm, ⟨(List.range len).map fun r => .slice (A r) (L r) (C r), RdF.of (fun j u hu => ⟨a, rfl, ?_⟩), by simp, fun j v xs hv hx => ?_⟩, fun xs hx => ?_⟩
    · have hj : j < len := by
        have := (List.getElem?_eq_some_iff.1 hu).1
        simpa using this
      rw [(hcell j (by omega)).1, ← hu]
      simp [hj]
    · have hj : j < len := by
        have := (List.getElem?_eq_some_iff.1 hx).1
        simpa using this
      simp [hj] at hv hx
      subst hv hx
      obtain ⟨h1, h2, h3, h4, h5, h6, h7⟩ := hcell j (by omega)
      refine ⟨A j, C j, by rw [hlen j (by omega)], by rw [hlen j (by omega)]; exact h2, RdF.of ?_⟩
      rcases hA : A j with _ | a'
      · have := h6 hA
        have hl0 : (toBytes ((Z j).take (L j))) = [] := List.eq_nil_of_length_eq_zero (by rw [hlen j (by omega)]; omega)
        rw [hl0]
        exact Rd.nil _ _
      · exact rd_bytes (by omega) (fun i hi => (h7 a' hA).2 i (by omega)) h5
    · obtain ⟨r, hr, rfl⟩ := List.mem_map.1 hx
      have hr' : r < len := by simpa using hr
      rw [hlen r (by omega)]
      obtain ⟨_, h2, h3, _⟩ := hcell r (by omega)
      omega
end

/-- A WORLD FOR THE WITNESS: the settled one, the table holding what its initialiser lays. -/
noncomputable def laidWorld (os : Os) : World :=
  { World.holding Tryd.prog os ⟨#[], #[], []⟩ with heap := (World.holding Tryd.prog os ⟨#[], #[], []⟩).heap.modify 0 fun
      | .cells _ t frozen => .cells #[.int .u32 0, .int .u32 498536548, .int .u32 997073096, .int .u32 651767980, .int .u32 1994146192, .int .u32 1802195444, .int .u32 1303535960, .int .u32 1342533948, .int .u32 3988292384, .int .u32 4027552580, .int .u32 3604390888, .int .u32 3412177804, .int .u32 2607071920, .int .u32 2262029012, .int .u32 2685067896, .int .u32 3183342108] t frozen
      | o => o }
end Go.Proofs.YtlpjeopeboemmaaDoor
