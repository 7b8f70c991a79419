
/-
  The document's map of numbers and texts, in memory.
-/
import Derived.Test.YtnapeckpjnbcgaaGa
import Derived.Test.YtnapeckpjnbcgaaNa
import Derived.Test.YtnapeckpjnbcgaaBb
import Derived.BigQuiet
namespace Go.Proofs.Ytnapeckpjnbcgaa
open Go.RowKit

/-- A number and a text, as a pair's cells. -/
def EP : El (Int × List UInt8) where
  sz := 2
  enc p := [.int .i64 p.1, .string ⟨p.2.toArray⟩]
  len _ := rfl
  one p u hu := by
    rcases List.mem_cons.1 hu with rfl | hu
    · rfl
    · rw [List.mem_singleton.1 hu]; rfl
def ltI (a b : Int) : Bool := decide (a < b)
theorem rises_ltI : Rises ltI := rises_int
theorem has_at {L : List (Int × List UInt8)} {k : Int} {i : Nat} {p : Int × List UInt8} (h : plc ltI L k = i) (hp : L[i]? = some p) : hasK ltI L k = decide (p.1 = k) := by
  unfold hasK
  rw [h, hp]
theorem has_not {L : List (Int × List UInt8)} {k : Int} {i : Nat} (h : plc ltI L k = i) (hi : L.length ≤ i) : hasK ltI L k = false := by
  unfold hasK
  rw [h, List.getElem?_eq_none hi]

end Go.Proofs.Ytnapeckpjnbcgaa
