/-
  No cell of these rows narrows 'for every input' (looked for: loops, veiled, ifaces, maps, wideKeys, modest, calm, conditions, laid).
  DERIVED. THE GIVEN ROWS OF THIS SEAT. 4 by the template 'for every input the law returns true; each argument reads behind the call as it read before'; 0 by the template 'total and deterministic' (their statements: YtmpgfipfijbbkaaTotals.lean).
  GIVEN WITH THE SEED: the statements are not yours to turn. If you find one false, say at which input.
  Laid BY PROGRAM, IN A SANDBOX (cutbox-rows.mjs): the forced cells as the released guide's own fill.sh prints them over the translation 8ec71e93389be71a… (all of the seat's roots in one cut). By AI agents, Wed Nov 11 2026. No macro, syntax, notation, axiom, sorry.
-/
import Derived.Test.YtmpgfipfijbbkaaChecked
import GoSem.Claim
import GoSem.ClaimJoined
import GoSem.ClaimMapViews
import Derived.JoinedTies
import Derived.KernelRfl
namespace Go.Proofs.Ytmpgfipfijbbkaa
/- THE CELL 'sum', in the pinned program and in every row, IS THE sha256 OF THE DUMP (.gsa) THAT YtmpgfipfijbbkaaProg.lean LOADS. Nothing in Lean hashes anything: it is a label: what it is worth is what the hold of that sum in a sandbox is worth. -/
noncomputable def Try.pinned : Pinned := { name := "ytmpgfipfijbbkaa", sum := "8ec71e93389be71a7fb3bf1026322841c56ef2928237126f198a77bd2f41ab4f", checked := Try.checked }
namespace Rows
def none {H : Type} : Left H := { results := [], args := [] }

/-- 'ossuarylaw19.PartSpans': WHATEVER THE INPUT: true; the input reads as it did. -/
def partSpansSpec : ChangeSpec := { name := "partSpans", fn := fun _ => fun
  | [d1, d2, d3] => { results := [.lit (.bool true)], args := [d1, d2, d3] }
  | _ => none }
def partSpansRow : OpenClaim := { program := "ytmpgfipfijbbkaa", sum := "8ec71e93389be71a7fb3bf1026322841c56ef2928237126f198a77bd2f41ab4f", func := "ossuary/ossuarylaw19.PartSpans", spec := "partSpans", apart := false }
def PartSpansSaid : Prop := partSpansRow.holds Try.pinned (OpenSpec.ofChange partSpansSpec)

/-- ITS FALSE NEIGHBOUR: 'it returns false'. Refute it at one input. -/
def partSpansWrong : ChangeSpec := { name := "partSpans", fn := fun _ => fun
  | [d1, d2, d3] => { results := [.lit (.bool false)], args := [d1, d2, d3] }
  | _ => none }
def PartSpansWrongFalsely : Prop := partSpansRow.holds Try.pinned (OpenSpec.ofChange partSpansWrong)

/-- 'ossuarylaw19.PartPairs': WHATEVER THE INPUT: true; the input reads as it did. -/
def partPairsSpec : ChangeSpec := { name := "partPairs", fn := fun _ => fun
  | [d1, d2] => { results := [.lit (.bool true)], args := [d1, d2] }
  | _ => none }
def partPairsRow : OpenClaim := { program := "ytmpgfipfijbbkaa", sum := "8ec71e93389be71a7fb3bf1026322841c56ef2928237126f198a77bd2f41ab4f", func := "ossuary/ossuarylaw19.PartPairs", spec := "partPairs", apart := false }
def PartPairsSaid : Prop := partPairsRow.holds Try.pinned (OpenSpec.ofChange partPairsSpec)

/-- ITS FALSE NEIGHBOUR: 'it returns false'. Refute it at one input. -/
def partPairsWrong : ChangeSpec := { name := "partPairs", fn := fun _ => fun
  | [d1, d2] => { results := [.lit (.bool false)], args := [d1, d2] }
  | _ => none }
def PartPairsWrongFalsely : Prop := partPairsRow.holds Try.pinned (OpenSpec.ofChange partPairsWrong)

/-- 'ossuarylaw19.PartDues': WHATEVER THE INPUT: true; the input reads as it did. -/
def partDuesSpec : ChangeSpec := { name := "partDues", fn := fun _ => fun
  | [d1, d2, d3, d4] => { results := [.lit (.bool true)], args := [d1, d2, d3, d4] }
  | _ => none }
def partDuesRow : OpenClaim := { program := "ytmpgfipfijbbkaa", sum := "8ec71e93389be71a7fb3bf1026322841c56ef2928237126f198a77bd2f41ab4f", func := "ossuary/ossuarylaw19.PartDues", spec := "partDues", apart := false }
def PartDuesSaid : Prop := partDuesRow.holds Try.pinned (OpenSpec.ofChange partDuesSpec)

/-- ITS FALSE NEIGHBOUR: 'it returns false'. Refute it at one input. -/
def partDuesWrong : ChangeSpec := { name := "partDues", fn := fun _ => fun
  | [d1, d2, d3, d4] => { results := [.lit (.bool false)], args := [d1, d2, d3, d4] }
  | _ => none }
def PartDuesWrongFalsely : Prop := partDuesRow.holds Try.pinned (OpenSpec.ofChange partDuesWrong)

/-- 'ossuarylaw19.PartNests': WHATEVER THE INPUT: true; the input reads as it did. -/
def partNestsSpec : ChangeSpec := { name := "partNests", fn := fun _ => fun
  | [d1, d2, d3] => { results := [.lit (.bool true)], args := [d1, d2, d3] }
  | _ => none }
def partNestsRow : OpenClaim := { program := "ytmpgfipfijbbkaa", sum := "8ec71e93389be71a7fb3bf1026322841c56ef2928237126f198a77bd2f41ab4f", func := "ossuary/ossuarylaw19.PartNests", spec := "partNests", apart := false }
def PartNestsSaid : Prop := partNestsRow.holds Try.pinned (OpenSpec.ofChange partNestsSpec)

/-- ITS FALSE NEIGHBOUR: 'it returns false'. Refute it at one input. -/
def partNestsWrong : ChangeSpec := { name := "partNests", fn := fun _ => fun
  | [d1, d2, d3] => { results := [.lit (.bool false)], args := [d1, d2, d3] }
  | _ => none }
def PartNestsWrongFalsely : Prop := partNestsRow.holds Try.pinned (OpenSpec.ofChange partNestsWrong)

/- THE SECOND FORM. 'bulk': how many values and letters a reading holds, each counted each time it is reached (what is shared counts as often as it is met; a slice's spare places count too). A statement '..UptoSaid' is the law's where the arguments, and the package variables that the reading takes, are together of bulk at most 1048576: NARROWER than '..Said'. Prove '..Said' where nothing that the law and all that it calls make is longer than what came in: it says more and counts as full. Else prove '..UptoSaid'. A law counts once. -/
mutual
def uptoBulk {H : Type} : DataW H → Nat
  | .lit (.string bytes) => bytes.length + 1
  | .lit _ => 1
  | .nil => 1
  | .ptr d => uptoBulk d + 1
  | .slice elems spare => uptoBulkAll elems + uptoBulkAll spare + 1
  | .agg parts => uptoBulkAll parts + 1
  | .iface _ d => uptoBulk d + 1
  | .map entries => uptoBulkEntries entries + 1
  | .held _ => 1
def uptoBulkAll {H : Type} : List (DataW H) → Nat
  | [] => 0
  | d :: r => uptoBulk d + uptoBulkAll r
def uptoBulkEntries {H : Type} : List (Lit × DataW H) → Nat
  | [] => 0
  | x :: r => uptoBulkEntry x + uptoBulkEntries r
def uptoBulkEntry {H : Type} : Lit × DataW H → Nat
  | (.string bytes, d) => bytes.length + uptoBulk d + 1
  | (_, d) => uptoBulk d + 1
 end
def uptoSmall : (H : Type) → List (DataW H) → Bool := fun _ ds => decide (uptoBulkAll ds ≤ 1048576)
def OpenSpec.upto (s : _root_.Go.ChangeSpec) : _root_.Go.OpenSpec := { _root_.Go.OpenSpec.ofChange s with cond := some uptoSmall }

/-- 'ossuarylaw19.PartSpans', WHERE WHAT IT READS IS OF BULK AT MOST 1048576: true; the input reads as it did. -/
def partSpansUptoRow : OpenClaim := { program := "ytmpgfipfijbbkaa", sum := "8ec71e93389be71a7fb3bf1026322841c56ef2928237126f198a77bd2f41ab4f", func := "ossuary/ossuarylaw19.PartSpans", spec := "partSpans", apart := false, narrowed := true }
def PartSpansUptoSaid : Prop := partSpansUptoRow.holds Try.pinned (OpenSpec.upto partSpansSpec)

/-- 'ossuarylaw19.PartPairs', WHERE WHAT IT READS IS OF BULK AT MOST 1048576: true; the input reads as it did. -/
def partPairsUptoRow : OpenClaim := { program := "ytmpgfipfijbbkaa", sum := "8ec71e93389be71a7fb3bf1026322841c56ef2928237126f198a77bd2f41ab4f", func := "ossuary/ossuarylaw19.PartPairs", spec := "partPairs", apart := false, narrowed := true }
def PartPairsUptoSaid : Prop := partPairsUptoRow.holds Try.pinned (OpenSpec.upto partPairsSpec)

/-- 'ossuarylaw19.PartDues', WHERE WHAT IT READS IS OF BULK AT MOST 1048576: true; the input reads as it did. -/
def partDuesUptoRow : OpenClaim := { program := "ytmpgfipfijbbkaa", sum := "8ec71e93389be71a7fb3bf1026322841c56ef2928237126f198a77bd2f41ab4f", func := "ossuary/ossuarylaw19.PartDues", spec := "partDues", apart := false, narrowed := true }
def PartDuesUptoSaid : Prop := partDuesUptoRow.holds Try.pinned (OpenSpec.upto partDuesSpec)

/-- 'ossuarylaw19.PartNests', WHERE WHAT IT READS IS OF BULK AT MOST 1048576: true; the input reads as it did. -/
def partNestsUptoRow : OpenClaim := { program := "ytmpgfipfijbbkaa", sum := "8ec71e93389be71a7fb3bf1026322841c56ef2928237126f198a77bd2f41ab4f", func := "ossuary/ossuarylaw19.PartNests", spec := "partNests", apart := false, narrowed := true }
def PartNestsUptoSaid : Prop := partNestsUptoRow.holds Try.pinned (OpenSpec.upto partNestsSpec)

end Rows
end Go.Proofs.Ytmpgfipfijbbkaa
