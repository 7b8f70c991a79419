/-
  No cell of these rows narrows 'for every input' (looked for: loops, veiled, ifaces, maps, wideKeys, modest, calm, conditions, laid).
  DERIVED. THE GIVEN ROWS OF THIS SEAT. 3 by the template 'for every input the law returns true; each argument reads behind the call as it read before'; 0 by the template 'total and deterministic' (their statements: YtklpmajaihmmfaaTotals.lean).
  GIVEN WITH THE SEED: the statements are not yours to turn. If you find one false, say at which input.
  Laid BY PROGRAM, IN A SANDBOX (cutbox-rows.mjs): the forced cells as the released guide's own fill.sh prints them over the translation 1134900e9c69c64d… (all of the seat's roots in one cut). By AI agents, Wed Nov 11 2026. No macro, syntax, notation, axiom, sorry.
-/
import Derived.Test.YtklpmajaihmmfaaChecked
import GoSem.Claim
import GoSem.ClaimJoined
import GoSem.ClaimMapViews
import Derived.JoinedTies
import Derived.KernelRfl
namespace Go.Proofs.Ytklpmajaihmmfaa
/- THE CELL 'sum', in the pinned program and in every row, IS THE sha256 OF THE DUMP (.gsa) THAT YtklpmajaihmmfaaProg.lean LOADS. Nothing in Lean hashes anything: it is a label: what it is worth is what the hold of that sum in a sandbox is worth. -/
noncomputable def Try.pinned : Pinned := { name := "ytklpmajaihmmfaa", sum := "1134900e9c69c64db19ae85ac2dc5c4bf8c2889cc9b2abe2c69b7b54e030af60", checked := Try.checked }
namespace Rows
def none {H : Type} : Left H := { results := [], args := [] }

/-- 'ossuarylaw14.FoldSegs': WHATEVER THE INPUT: true; the input reads as it did. -/
def foldSegsSpec : ChangeSpec := { name := "foldSegs", fn := fun _ => fun
  | [d1, d2] => { results := [.lit (.bool true)], args := [d1, d2] }
  | _ => none }
def foldSegsRow : OpenClaim := { program := "ytklpmajaihmmfaa", sum := "1134900e9c69c64db19ae85ac2dc5c4bf8c2889cc9b2abe2c69b7b54e030af60", func := "ossuary/ossuarylaw14.FoldSegs", spec := "foldSegs", unfollowed := true, recurses := true, plainKeys := false, apart := false }
def FoldSegsSaid : Prop := foldSegsRow.holds Try.pinned (OpenSpec.ofChange foldSegsSpec)

/-- ITS FALSE NEIGHBOUR: 'it returns false'. Refute it at one input. -/
def foldSegsWrong : ChangeSpec := { name := "foldSegs", fn := fun _ => fun
  | [d1, d2] => { results := [.lit (.bool false)], args := [d1, d2] }
  | _ => none }
def FoldSegsWrongFalsely : Prop := foldSegsRow.holds Try.pinned (OpenSpec.ofChange foldSegsWrong)

/-- 'ossuarylaw14.FoldFacts': WHATEVER THE INPUT: true; the input reads as it did. -/
def foldFactsSpec : ChangeSpec := { name := "foldFacts", fn := fun _ => fun
  | [d1, d2] => { results := [.lit (.bool true)], args := [d1, d2] }
  | _ => none }
def foldFactsRow : OpenClaim := { program := "ytklpmajaihmmfaa", sum := "1134900e9c69c64db19ae85ac2dc5c4bf8c2889cc9b2abe2c69b7b54e030af60", func := "ossuary/ossuarylaw14.FoldFacts", spec := "foldFacts", unfollowed := true, recurses := true, plainKeys := false, apart := false }
def FoldFactsSaid : Prop := foldFactsRow.holds Try.pinned (OpenSpec.ofChange foldFactsSpec)

/-- ITS FALSE NEIGHBOUR: 'it returns false'. Refute it at one input. -/
def foldFactsWrong : ChangeSpec := { name := "foldFacts", fn := fun _ => fun
  | [d1, d2] => { results := [.lit (.bool false)], args := [d1, d2] }
  | _ => none }
def FoldFactsWrongFalsely : Prop := foldFactsRow.holds Try.pinned (OpenSpec.ofChange foldFactsWrong)

/-- 'ossuarylaw14.FoldParts': WHATEVER THE INPUT: true; the input reads as it did. -/
def foldPartsSpec : ChangeSpec := { name := "foldParts", fn := fun _ => fun
  | [d1, d2, d3] => { results := [.lit (.bool true)], args := [d1, d2, d3] }
  | _ => none }
def foldPartsRow : OpenClaim := { program := "ytklpmajaihmmfaa", sum := "1134900e9c69c64db19ae85ac2dc5c4bf8c2889cc9b2abe2c69b7b54e030af60", func := "ossuary/ossuarylaw14.FoldParts", spec := "foldParts", unfollowed := true, recurses := true, plainKeys := false, apart := false }
def FoldPartsSaid : Prop := foldPartsRow.holds Try.pinned (OpenSpec.ofChange foldPartsSpec)

/-- ITS FALSE NEIGHBOUR: 'it returns false'. Refute it at one input. -/
def foldPartsWrong : ChangeSpec := { name := "foldParts", fn := fun _ => fun
  | [d1, d2, d3] => { results := [.lit (.bool false)], args := [d1, d2, d3] }
  | _ => none }
def FoldPartsWrongFalsely : Prop := foldPartsRow.holds Try.pinned (OpenSpec.ofChange foldPartsWrong)

/- THE SECOND FORM. 'bulk': how many values and letters a reading holds, each counted each time it is reached (what is shared counts as often as it is met; a slice's spare places count too). A statement '..UptoSaid' is the law's where the arguments, and the package variables that the reading takes, are together of bulk at most 1048576: NARROWER than '..Said'. Prove '..Said' where nothing that the law and all that it calls make is longer than what came in: it says more and counts as full. Else prove '..UptoSaid'. A law counts once. -/
mutual
def uptoBulk {H : Type} : DataW H → Nat
  | .lit (.string bytes) => bytes.length + 1
  | .lit _ => 1
  | .nil => 1
  | .ptr d => uptoBulk d + 1
  | .slice elems spare => uptoBulkAll elems + uptoBulkAll spare + 1
  | .agg parts => uptoBulkAll parts + 1
  | .iface _ d => uptoBulk d + 1
  | .map entries => uptoBulkEntries entries + 1
  | .held _ => 1
def uptoBulkAll {H : Type} : List (DataW H) → Nat
  | [] => 0
  | d :: r => uptoBulk d + uptoBulkAll r
def uptoBulkEntries {H : Type} : List (Lit × DataW H) → Nat
  | [] => 0
  | x :: r => uptoBulkEntry x + uptoBulkEntries r
def uptoBulkEntry {H : Type} : Lit × DataW H → Nat
  | (.string bytes, d) => bytes.length + uptoBulk d + 1
  | (_, d) => uptoBulk d + 1
 end
def uptoSmall : (H : Type) → List (DataW H) → Bool := fun _ ds => decide (uptoBulkAll ds ≤ 1048576)
def OpenSpec.upto (s : _root_.Go.ChangeSpec) : _root_.Go.OpenSpec := { _root_.Go.OpenSpec.ofChange s with cond := some uptoSmall }

/-- 'ossuarylaw14.FoldSegs', WHERE WHAT IT READS IS OF BULK AT MOST 1048576: true; the input reads as it did. -/
def foldSegsUptoRow : OpenClaim := { program := "ytklpmajaihmmfaa", sum := "1134900e9c69c64db19ae85ac2dc5c4bf8c2889cc9b2abe2c69b7b54e030af60", func := "ossuary/ossuarylaw14.FoldSegs", spec := "foldSegs", unfollowed := true, recurses := true, plainKeys := false, apart := false, narrowed := true }
def FoldSegsUptoSaid : Prop := foldSegsUptoRow.holds Try.pinned (OpenSpec.upto foldSegsSpec)

/-- 'ossuarylaw14.FoldFacts', WHERE WHAT IT READS IS OF BULK AT MOST 1048576: true; the input reads as it did. -/
def foldFactsUptoRow : OpenClaim := { program := "ytklpmajaihmmfaa", sum := "1134900e9c69c64db19ae85ac2dc5c4bf8c2889cc9b2abe2c69b7b54e030af60", func := "ossuary/ossuarylaw14.FoldFacts", spec := "foldFacts", unfollowed := true, recurses := true, plainKeys := false, apart := false, narrowed := true }
def FoldFactsUptoSaid : Prop := foldFactsUptoRow.holds Try.pinned (OpenSpec.upto foldFactsSpec)

/-- 'ossuarylaw14.FoldParts', WHERE WHAT IT READS IS OF BULK AT MOST 1048576: true; the input reads as it did. -/
def foldPartsUptoRow : OpenClaim := { program := "ytklpmajaihmmfaa", sum := "1134900e9c69c64db19ae85ac2dc5c4bf8c2889cc9b2abe2c69b7b54e030af60", func := "ossuary/ossuarylaw14.FoldParts", spec := "foldParts", unfollowed := true, recurses := true, plainKeys := false, apart := false, narrowed := true }
def FoldPartsUptoSaid : Prop := foldPartsUptoRow.holds Try.pinned (OpenSpec.upto foldPartsSpec)

end Rows
end Go.Proofs.Ytklpmajaihmmfaa
