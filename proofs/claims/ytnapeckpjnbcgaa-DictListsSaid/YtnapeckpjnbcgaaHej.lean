
/-
  A tree's least key; a tree in which a key has no value (keys int64, values int).
-/
import Derived.Test.YtnapeckpjnbcgaaHdj
namespace Go.Proofs.Ytnapeckpjnbcgaa.omj
open Go.RowKit

/-- A tree, perhaps empty, whose list is L. -/
def Has0 (w w' : World) (e : Ending) (L : List (Int × Int)) : Prop := ∃ (y : Tr Int Int) (A : Option Addr), y.flat = L ∧ e = .returned (.pointer A) ∧ Nd w' y (.pointer A) ∧ Turn (fun _ => False) w w'
/-- How many nodes a tree has, as its top says. -/
def szAt (w : World) : Value → Nat
  | .pointer (some a) => match w.cell? ⟨a.block, 4, none⟩ with
    | some (.int _ n) => n.toNat
    | _ => 0
  | _ => 0
theorem sz_is {w : World} {x : Tr Int Int} {p : Value} (h : Nd w x p) : szAt w p = x.cnt := by
  cases x with
  | nil => obtain rfl : p = .pointer none := h; rfl
  | node l k v r =>
    obtain ⟨g, pl, pr, rfl, hg, _, _⟩ := nd_node h
    unfold szAt
    dsimp only
    rw [hg.cells.2.2.2.2]
    rfl

/-- A node with the least key of a tree. -/
def Least (w : World) (x : Tr Int Int) (p : Value) : Prop := ∃ g k v pl pr n rest, p = .pointer (some ⟨g, 0, none⟩) ∧ One w g k v pl pr n ∧ x.flat = (k, v) :: rest
structure LeastRel (w : World) (x : Tr Int Int) (p : Value) : Prop where
  out : ∃ (l r : Tr Int Int) (k : Int) (v : Int) (tl : List (Int × Int)), Nd w (.node l k v r) p ∧ x.flat = (Tr.node l k v r).flat ++ tl

end Go.Proofs.Ytnapeckpjnbcgaa.omj
