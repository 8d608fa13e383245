/-
  Bytes as a string, as the laws compare them. No statement of the seat is proved here.
-/
import Derived.Test.YtlpjeopeboemmaaDoorSteps
import Derived.Laws.IdiomStrings
import Derived.Lib.BufferRead
namespace Go.Proofs.YtlpjeopeboemmaaDoor
open Go Go.RowKit

/-- a text of these bytes -/
def strV (bs : List UInt8) : Value := .string ⟨bs.toArray⟩
theorem strV_inj {a b : List UInt8} : (⟨a.toArray⟩ : ByteArray) = ⟨b.toArray⟩ ↔ a = b := ⟨fun h => by injection h with h; simpa using h, fun h => by rw [h]⟩
theorem conv_bytes (w : World) (A : Option Addr) (n c : Nat) (bs : List UInt8) (hn : n = bs.length) (hr : Rd w A (bs.map bv)) :
    (convert 22 9 (.slice A n c)).run Tryd.prog w = .ok (.string ⟨bs.toArray⟩) w := by
  subst hn
  rcases A with _ | ad
  · have hnil : bs = [] := by
      rcases bs with _ | ⟨b, r⟩
      · rfl
      · obtain ⟨ad, h0, _⟩ := hr 0 _ rfl
        cases h0
    subst hnil
    exact Lib.run_convert_nil_bytes w _ _ 5 c Tryd.underlying22 Tryd.underlying5 Tryd.underlying9
  · refine run_convert_bytes_back w _ _ 5 ad c bs Tryd.underlying22 Tryd.underlying5 Tryd.underlying9 (fun j hj => ?_)
    obtain ⟨ad', h1, h2⟩ := hr j (bv bs[j]) (by simp [hj])
    injection h1 with h1
    subst h1
    exact h2
end Go.Proofs.YtlpjeopeboemmaaDoor
