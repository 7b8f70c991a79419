/-
  No cell of these rows narrows 'for every input' (looked for: loops, veiled, ifaces, maps, wideKeys, modest, calm, conditions, laid).
  DERIVED. THE GIVEN ROWS OF THIS SEAT. 5 by the template 'for every input the law returns true; each argument reads behind the call as it read before'; 0 by the template 'total and deterministic' (their statements: YtejilonhdgfkbaaTotals.lean).
  GIVEN WITH THE SEED: the statements are not yours to turn. If you find one false, say at which input.
  Laid BY PROGRAM, IN A SANDBOX (cutbox-rows.mjs): the forced cells as the released guide's own fill.sh prints them over the translation 1499b5de420e7f3d… (all of the seat's roots in one cut). By AI agents, Wed Nov 11 2026. No macro, syntax, notation, axiom, sorry.
-/
import Derived.Test.YtejilonhdgfkbaaChecked
import GoSem.Claim
import GoSem.ClaimJoined
import GoSem.ClaimMapViews
import Derived.JoinedTies
import Derived.KernelRfl
namespace Go.Proofs.Ytejilonhdgfkbaa
/- THE CELL 'sum', in the pinned program and in every row, IS THE sha256 OF THE DUMP (.gsa) THAT YtejilonhdgfkbaaProg.lean LOADS. Nothing in Lean hashes anything: it is a label: what it is worth is what the hold of that sum in a sandbox is worth. -/
noncomputable def Try.pinned : Pinned := { name := "ytejilonhdgfkbaa", sum := "1499b5de420e7f3d7dadc218ff74cd46695746ec592a540aed94bad3a0bd124b", checked := Try.checked }
namespace Rows
def none {H : Type} : Left H := { results := [], args := [] }

/-- 'ossuarylaw09.FactOrders': WHATEVER THE INPUT: true; the input reads as it did. -/
def factOrdersSpec : ChangeSpec := { name := "factOrders", fn := fun _ => fun
  | [d1, d2] => { results := [.lit (.bool true)], args := [d1, d2] }
  | _ => none }
def factOrdersRow : OpenClaim := { program := "ytejilonhdgfkbaa", sum := "1499b5de420e7f3d7dadc218ff74cd46695746ec592a540aed94bad3a0bd124b", func := "ossuary/ossuarylaw09.FactOrders", spec := "factOrders", unfollowed := true, recurses := true, apart := false }
def FactOrdersSaid : Prop := factOrdersRow.holds Try.pinned (OpenSpec.ofChange factOrdersSpec)

/-- ITS FALSE NEIGHBOUR: 'it returns false'. Refute it at one input. -/
def factOrdersWrong : ChangeSpec := { name := "factOrders", fn := fun _ => fun
  | [d1, d2] => { results := [.lit (.bool false)], args := [d1, d2] }
  | _ => none }
def FactOrdersWrongFalsely : Prop := factOrdersRow.holds Try.pinned (OpenSpec.ofChange factOrdersWrong)

/-- 'ossuarylaw09.FactChecks': WHATEVER THE INPUT: true; the input reads as it did. -/
def factChecksSpec : ChangeSpec := { name := "factChecks", fn := fun _ => fun
  | [d1, d2] => { results := [.lit (.bool true)], args := [d1, d2] }
  | _ => none }
def factChecksRow : OpenClaim := { program := "ytejilonhdgfkbaa", sum := "1499b5de420e7f3d7dadc218ff74cd46695746ec592a540aed94bad3a0bd124b", func := "ossuary/ossuarylaw09.FactChecks", spec := "factChecks", unfollowed := true, recurses := true, apart := false }
def FactChecksSaid : Prop := factChecksRow.holds Try.pinned (OpenSpec.ofChange factChecksSpec)

/-- ITS FALSE NEIGHBOUR: 'it returns false'. Refute it at one input. -/
def factChecksWrong : ChangeSpec := { name := "factChecks", fn := fun _ => fun
  | [d1, d2] => { results := [.lit (.bool false)], args := [d1, d2] }
  | _ => none }
def FactChecksWrongFalsely : Prop := factChecksRow.holds Try.pinned (OpenSpec.ofChange factChecksWrong)

/-- 'ossuarylaw09.FactLooks': WHATEVER THE INPUT: true; the input reads as it did. -/
def factLooksSpec : ChangeSpec := { name := "factLooks", fn := fun _ => fun
  | [d] => { results := [.lit (.bool true)], args := [d] }
  | _ => none }
def factLooksRow : OpenClaim := { program := "ytejilonhdgfkbaa", sum := "1499b5de420e7f3d7dadc218ff74cd46695746ec592a540aed94bad3a0bd124b", func := "ossuary/ossuarylaw09.FactLooks", spec := "factLooks", unfollowed := true, recurses := true, apart := false }
def FactLooksSaid : Prop := factLooksRow.holds Try.pinned (OpenSpec.ofChange factLooksSpec)

/-- ITS FALSE NEIGHBOUR: 'it returns false'. Refute it at one input. -/
def factLooksWrong : ChangeSpec := { name := "factLooks", fn := fun _ => fun
  | [d] => { results := [.lit (.bool false)], args := [d] }
  | _ => none }
def FactLooksWrongFalsely : Prop := factLooksRow.holds Try.pinned (OpenSpec.ofChange factLooksWrong)

/-- 'ossuarylaw09.FactCodes': WHATEVER THE INPUT: true; the input reads as it did. -/
def factCodesSpec : ChangeSpec := { name := "factCodes", fn := fun _ => fun
  | [d1, d2, d3] => { results := [.lit (.bool true)], args := [d1, d2, d3] }
  | _ => none }
def factCodesRow : OpenClaim := { program := "ytejilonhdgfkbaa", sum := "1499b5de420e7f3d7dadc218ff74cd46695746ec592a540aed94bad3a0bd124b", func := "ossuary/ossuarylaw09.FactCodes", spec := "factCodes", unfollowed := true, recurses := true, apart := false }
def FactCodesSaid : Prop := factCodesRow.holds Try.pinned (OpenSpec.ofChange factCodesSpec)

/-- ITS FALSE NEIGHBOUR: 'it returns false'. Refute it at one input. -/
def factCodesWrong : ChangeSpec := { name := "factCodes", fn := fun _ => fun
  | [d1, d2, d3] => { results := [.lit (.bool false)], args := [d1, d2, d3] }
  | _ => none }
def FactCodesWrongFalsely : Prop := factCodesRow.holds Try.pinned (OpenSpec.ofChange factCodesWrong)

/-- 'ossuarylaw09.FactBack': WHATEVER THE INPUT: true; the input reads as it did. -/
def factBackSpec : ChangeSpec := { name := "factBack", fn := fun _ => fun
  | [d1, d2, d3] => { results := [.lit (.bool true)], args := [d1, d2, d3] }
  | _ => none }
def factBackRow : OpenClaim := { program := "ytejilonhdgfkbaa", sum := "1499b5de420e7f3d7dadc218ff74cd46695746ec592a540aed94bad3a0bd124b", func := "ossuary/ossuarylaw09.FactBack", spec := "factBack", unfollowed := true, recurses := true, apart := false }
def FactBackSaid : Prop := factBackRow.holds Try.pinned (OpenSpec.ofChange factBackSpec)

/-- ITS FALSE NEIGHBOUR: 'it returns false'. Refute it at one input. -/
def factBackWrong : ChangeSpec := { name := "factBack", fn := fun _ => fun
  | [d1, d2, d3] => { results := [.lit (.bool false)], args := [d1, d2, d3] }
  | _ => none }
def FactBackWrongFalsely : Prop := factBackRow.holds Try.pinned (OpenSpec.ofChange factBackWrong)

/- THE SECOND FORM. 'bulk': how many values and letters a reading holds, each counted each time it is reached (what is shared counts as often as it is met; a slice's spare places count too). A statement '..UptoSaid' is the law's where the arguments, and the package variables that the reading takes, are together of bulk at most 1048576: NARROWER than '..Said'. Prove '..Said' where nothing that the law and all that it calls make is longer than what came in: it says more and counts as full. Else prove '..UptoSaid'. A law counts once. -/
mutual
def uptoBulk {H : Type} : DataW H → Nat
  | .lit (.string bytes) => bytes.length + 1
  | .lit _ => 1
  | .nil => 1
  | .ptr d => uptoBulk d + 1
  | .slice elems spare => uptoBulkAll elems + uptoBulkAll spare + 1
  | .agg parts => uptoBulkAll parts + 1
  | .iface _ d => uptoBulk d + 1
  | .map entries => uptoBulkEntries entries + 1
  | .held _ => 1
def uptoBulkAll {H : Type} : List (DataW H) → Nat
  | [] => 0
  | d :: r => uptoBulk d + uptoBulkAll r
def uptoBulkEntries {H : Type} : List (Lit × DataW H) → Nat
  | [] => 0
  | x :: r => uptoBulkEntry x + uptoBulkEntries r
def uptoBulkEntry {H : Type} : Lit × DataW H → Nat
  | (.string bytes, d) => bytes.length + uptoBulk d + 1
  | (_, d) => uptoBulk d + 1
 end
def uptoSmall : (H : Type) → List (DataW H) → Bool := fun _ ds => decide (uptoBulkAll ds ≤ 1048576)
def OpenSpec.upto (s : _root_.Go.ChangeSpec) : _root_.Go.OpenSpec := { _root_.Go.OpenSpec.ofChange s with cond := some uptoSmall }

/-- 'ossuarylaw09.FactOrders', WHERE WHAT IT READS IS OF BULK AT MOST 1048576: true; the input reads as it did. -/
def factOrdersUptoRow : OpenClaim := { program := "ytejilonhdgfkbaa", sum := "1499b5de420e7f3d7dadc218ff74cd46695746ec592a540aed94bad3a0bd124b", func := "ossuary/ossuarylaw09.FactOrders", spec := "factOrders", unfollowed := true, recurses := true, apart := false, narrowed := true }
def FactOrdersUptoSaid : Prop := factOrdersUptoRow.holds Try.pinned (OpenSpec.upto factOrdersSpec)

/-- 'ossuarylaw09.FactChecks', WHERE WHAT IT READS IS OF BULK AT MOST 1048576: true; the input reads as it did. -/
def factChecksUptoRow : OpenClaim := { program := "ytejilonhdgfkbaa", sum := "1499b5de420e7f3d7dadc218ff74cd46695746ec592a540aed94bad3a0bd124b", func := "ossuary/ossuarylaw09.FactChecks", spec := "factChecks", unfollowed := true, recurses := true, apart := false, narrowed := true }
def FactChecksUptoSaid : Prop := factChecksUptoRow.holds Try.pinned (OpenSpec.upto factChecksSpec)

/-- 'ossuarylaw09.FactLooks', WHERE WHAT IT READS IS OF BULK AT MOST 1048576: true; the input reads as it did. -/
def factLooksUptoRow : OpenClaim := { program := "ytejilonhdgfkbaa", sum := "1499b5de420e7f3d7dadc218ff74cd46695746ec592a540aed94bad3a0bd124b", func := "ossuary/ossuarylaw09.FactLooks", spec := "factLooks", unfollowed := true, recurses := true, apart := false, narrowed := true }
def FactLooksUptoSaid : Prop := factLooksUptoRow.holds Try.pinned (OpenSpec.upto factLooksSpec)

/-- 'ossuarylaw09.FactCodes', WHERE WHAT IT READS IS OF BULK AT MOST 1048576: true; the input reads as it did. -/
def factCodesUptoRow : OpenClaim := { program := "ytejilonhdgfkbaa", sum := "1499b5de420e7f3d7dadc218ff74cd46695746ec592a540aed94bad3a0bd124b", func := "ossuary/ossuarylaw09.FactCodes", spec := "factCodes", unfollowed := true, recurses := true, apart := false, narrowed := true }
def FactCodesUptoSaid : Prop := factCodesUptoRow.holds Try.pinned (OpenSpec.upto factCodesSpec)

/-- 'ossuarylaw09.FactBack', WHERE WHAT IT READS IS OF BULK AT MOST 1048576: true; the input reads as it did. -/
def factBackUptoRow : OpenClaim := { program := "ytejilonhdgfkbaa", sum := "1499b5de420e7f3d7dadc218ff74cd46695746ec592a540aed94bad3a0bd124b", func := "ossuary/ossuarylaw09.FactBack", spec := "factBack", unfollowed := true, recurses := true, apart := false, narrowed := true }
def FactBackUptoSaid : Prop := factBackUptoRow.holds Try.pinned (OpenSpec.upto factBackSpec)

end Rows
end Go.Proofs.Ytejilonhdgfkbaa
