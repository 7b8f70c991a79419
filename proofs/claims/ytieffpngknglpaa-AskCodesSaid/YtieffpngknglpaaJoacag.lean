/-
  Texts laid one behind the other: Zc Zd.
-/
import Derived.Test.YtieffpngknglpaaJoacaf

/-
  Stage 9: the document's Compare, Check, All.
-/
namespace Go.Proofs.Ytieffpngknglpaa
open Go.RowKit

set_option maxRecDepth 100000

end Go.Proofs.Ytieffpngknglpaa

/-
  Stage 9: the document's Check and All.
-/
namespace Go.Proofs.Ytieffpngknglpaa
open Go.RowKit

set_option maxRecDepth 100000

theorem chk_dims {f : F9} {n : Int} (h : ¬ (1 ≤ n ∧ n ≤ 4)) : chkF f n = 1 := by
  unfold chkF okDims
  rw [if_neg (by simpa using h)]
theorem chk_range {f : F9} {n : Int} (hn : 1 ≤ n ∧ n ≤ 4) (h : ¬ (0 ≤ f.k.h ∧ f.k.h ≤ 16777216 ∧ f.v ≤ 1152921504606846976 ∧ -1152921504606846976 ≤ f.v)) : chkF f n = 2 := by
  unfold chkF okDims
  rw [if_pos (by simpa using hn), if_neg h]
theorem chk_text {f : F9} {n : Int} (hn : 1 ≤ n ∧ n ≤ 4) (h : 0 ≤ f.k.h ∧ f.k.h ≤ 16777216 ∧ f.v ≤ 1152921504606846976 ∧ -1152921504606846976 ≤ f.v) (ht : okTexts n f.k = false) : chkF f n = 4 := by
  unfold chkF okDims
  rw [if_pos (by simpa using hn), if_pos h, ht]
  rfl
theorem chk_ok {f : F9} {n : Int} (hn : 1 ≤ n ∧ n ≤ 4) (h : 0 ≤ f.k.h ∧ f.k.h ≤ 16777216 ∧ f.v ≤ 1152921504606846976 ∧ -1152921504606846976 ≤ f.v) (ht : okTexts n f.k = true) : chkF f n = 0 := by
  unfold chkF okDims
  rw [if_pos (by simpa using hn), if_pos h, ht]
  rfl

end Go.Proofs.Ytieffpngknglpaa
