
/-
  Stage 9: the document's All; facts held against each other.
-/
import Derived.Test.YtieffpngknglpaaZd
namespace Go.Proofs.Ytieffpngknglpaa
open Go.RowKit

set_option maxRecDepth 100000

/-- What All answers, as a value. -/
def allV (l : List F9) (n : Int) : Value := .tuple #[.int .i64 (allB l n).1, .int .i64 (allB l n).2]
theorem allV_bad {l : List F9} {n : Int} (h : ¬ (1 ≤ n ∧ n ≤ 4 ∧ 1 ≤ l.length ∧ l.length ≤ 50)) : allV l n = .tuple #[.int .i64 1, .int .i64 0] := by
  unfold allV allB
  rw [if_neg]
  intro ⟨h1, h2, h3⟩
  unfold okDims at h1
  simp only [Bool.and_eq_true, decide_eq_true_iff] at h1
  exact h ⟨h1.1, h1.2, h2, h3⟩
theorem allV_at {l : List F9} {n : Int} (h : 1 ≤ n ∧ n ≤ 4 ∧ 1 ≤ l.length ∧ l.length ≤ 50) {a b : Int} (e : badAt n l 0 = (a, b)) : allV l n = .tuple #[.int .i64 a, .int .i64 b] := by
  unfold allV allB
  rw [if_pos ⟨by unfold okDims; simp [h.1, h.2.1], h.2.2⟩, e]

end Go.Proofs.Ytieffpngknglpaa
