
/-
  Stage 9: the document's Read.
-/
import Derived.Test.YtieffpngknglpaaZl
import Derived.Test.YtieffpngknglpaaEa
namespace Go.Proofs.Ytieffpngknglpaa
open Go.RowKit

set_option maxRecDepth 100000

/-- The texts that are read into a key; a fact; all facts. -/
def textsK (k0 : K9) (s : RS9) : Nat → K9 × RS9
  | 0 => (k0, s)
  | i + 1 => ((textsK k0 s i).1.put i (sText (textsK k0 s i).2), sText' (textsK k0 s i).2)
def oneF (n h : Nat) (s : RS9) : F9 × RS9 := (⟨(textsK ⟨h, [], [], [], []⟩ s n).1, sInt (textsK ⟨h, [], [], [], []⟩ s n).2⟩, sNum' (textsK ⟨h, [], [], [], []⟩ s n).2)
def readR (n : Nat) : Nat → RS9 → List F9 → Int × List F9
  | 0, s, out => if s.2 ≠ 0 then ((s.2 : Int), []) else if 0 < s.1.length then (4, []) else if (allB out n).1 ≠ 0 then ((allB out n).1, []) else (0, out)
  | i + 1, s, out => if 16777216 < sNum s then (2, []) else if (oneF n (sNum s) (sNum' s)).2.2 ≠ 0 then (((oneF n (sNum s) (sNum' s)).2.2 : Int), []) else readR n i (oneF n (sNum s) (sNum' s)).2 (out ++ [(oneF n (sNum s) (sNum' s)).1])
def readB (m : List UInt8) (n : Int) : Int × List F9 := if okDims n then readR n.toNat (sCount (m, 0)) (sCount' (m, 0)) [] else (1, [])
/-- Behind Read: the facts, or none. -/
def Readed (w : World) (m : List UInt8) (n : Int) (e : Ending) (w' : World) : Prop := ∃ v, e = .returned (.tuple #[v, .int .i64 (readB m n).1]) ∧ RdE EF w' v (readB m n).2 ∧ Turn (fun _ => False) w w'

/-- A fact's cells, in the block that a round has made. -/
abbrev cells9 (k : K9) (v : Int) : Array Value := #[.int .i64 k.h, sv9 k.a, sv9 k.b, sv9 k.c, sv9 k.d, .int .i64 v]
structure In9 (w : World) (q B b : Nat) (x8 : Value) (out : List F9) (k : K9) (v : Int) (s : RS9) (W : World) : Prop where
  box : Box W b 77 (cells9 k v)
  xs : XS W q B s
  new : NewE EF 77 w W x8 out
  ob : ∀ k, x8.ownBlock = some k → k ≠ b ∧ k ≠ q
  lo : w.heap.size ≤ q ∧ w.heap.size ≤ b ∧ b ≠ q
  hB : B < w.heap.size
section
variable {w W W2 : World} {q B b : Nat} {x8 : Value} {out : List F9} {k : K9} {v : Int} {s s2 : RS9}
theorem new_over {S : Nat → Prop} (h : NewE EF 77 w W x8 out) (ht : Turn S W W2) (h1 : ∀ k, x8.ownBlock = some k → ¬ S k) (h2 : ∀ k, S k → w.heap.size ≤ k) : NewE EF 77 w W2 x8 out :=
  ⟨h.own.turn ht h1, h.new, h.turn.trans ht (fun k hk e => by have := h2 k e; omega)⟩
theorem In9.read (h : In9 w q B b x8 out k v s W) (hx : XS W2 q B s2) (ht : Turn (fun g => g = q) W W2) : In9 w q B b x8 out k v s2 W2 :=
  ⟨h.box.turn ht h.lo.2.2, hx, new_over h.new ht (fun k hk e => (h.ob k hk).2 e) (fun k e => by have := h.lo.1; omega), h.ob, h.lo, h.hB⟩
theorem In9.set (h : In9 w q B b x8 out k v s W) (i : Nat) (u : Value) {k2 : K9} {v2 : Int} (hc : (cells9 k v).setIfInBounds i u = cells9 k2 v2) : In9 w q B b x8 out k2 v2 s (W.setCell ⟨b, i, none⟩ u) := by
  have ht : Turn (fun g => g = b) W (W.setCell ⟨b, i, none⟩ u) := Turn.setCell (S := fun g => g = b) (p := ⟨b, i, none⟩) (Turn.refl _ W) (fun _ => rfl) u
  refine ⟨?_, h.xs.turn ht (fun e => h.lo.2.2 e.symm) (fun e => by have := h.lo.2.1; have := h.hB; omega), new_over h.new ht (fun k hk e => (h.ob k hk).1 e) (fun k e => by have := h.lo.2.1; omega), h.ob, h.lo, h.hB⟩
  rw [← hc]
  exact h.box.set i u
theorem put_cells9 (k : K9) (v : Int) {i : Nat} (hi : i < 4) (t : List UInt8) : (cells9 k v).setIfInBounds (1 + i) (sv9 t) = cells9 (k.put i t) v := by
  match i, hi with
  | 0, _ => rfl
  | 1, _ => rfl
  | 2, _ => rfl
  | 3, _ => rfl
end

end Go.Proofs.Ytieffpngknglpaa
