
/-
  Worlds that have only grown, and drawn: what slices.SortFunc asks of a closure. No type is named.
-/
import Derived.Test.YtejilonhdgfkbaaOa
import Derived.Sort.Grow
namespace Go.Proofs.Ytejilonhdgfkbaa
open Go.RowKit

/-- w' has come of w by blocks laid and draws alone. -/
def Gr (w w' : World) : Prop := ∃ q os, w' = Sort.grow (w.drewN q) os
theorem Gr.refl (w : World) : Gr w w := ⟨0, #[], by rw [Sort.grow_empty]; rfl⟩
theorem Gr.trans {a b c : World} (h : Gr a b) (g : Gr b c) : Gr a c := by
  obtain ⟨q, os, rfl⟩ := h
  obtain ⟨q2, os2, rfl⟩ := g
  refine ⟨q + q2, os ++ os2, ?_⟩
  show Sort.grow (Sort.grow ((a.drewN q).drewN q2) os) os2 = _
  rw [Sort.grow_grow]
  congr 1
  simp [World.drewN, Nat.add_assoc]
theorem Gr.drewN {a b : World} (h : Gr a b) (n : Nat) : Gr a (b.drewN n) := h.trans ⟨n, #[], by rw [Sort.grow_empty]⟩
theorem Gr.drew {a b : World} (h : Gr a b) : Gr a b.drew := h.drewN 1
theorem Gr.alloc {a b : World} (h : Gr a b) (o : Obj) : Gr a (b.alloc o) := h.trans ⟨0, #[o], Sort.alloc_eq_grow b o⟩
theorem Gr.turn {a b : World} (h : Gr a b) : Turn (fun _ => False) a b := by
  obtain ⟨q, os, rfl⟩ := h
  refine ⟨rfl, rfl, rfl, ?_, ?_⟩
  · show a.heap.size ≤ (a.heap ++ os).size
    rw [Array.size_append]
    omega
  · intro k hk _
    show (a.heap ++ os)[k]? = a.heap[k]?
    rw [Array.getElem?_append_left hk]

end Go.Proofs.Ytejilonhdgfkbaa
