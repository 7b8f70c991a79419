/-
  No cell of these rows narrows 'for every input' (looked for: loops, veiled, ifaces, maps, wideKeys, modest, calm, conditions, laid).
  DERIVED. THE GIVEN ROWS OF THIS SEAT. 3 by the template 'for every input the law returns true; each argument reads behind the call as it read before'; 0 by the template 'total and deterministic' (their statements: YtieffpngknglpaaTotals.lean).
  GIVEN WITH THE SEED: the statements are not yours to turn. If you find one false, say at which input.
  Laid BY PROGRAM, IN A SANDBOX (cutbox-rows.mjs): the forced cells as the released guide's own fill.sh prints them over the translation e154a6e09f664a3d… (all of the seat's roots in one cut). By AI agents, Wed Nov 11 2026. No macro, syntax, notation, axiom, sorry.
-/
import Derived.Test.YtieffpngknglpaaChecked
import GoSem.Claim
import GoSem.ClaimJoined
import GoSem.ClaimMapViews
import Derived.JoinedTies
import Derived.KernelRfl
namespace Go.Proofs.Ytieffpngknglpaa
/- THE CELL 'sum', in the pinned program and in every row, IS THE sha256 OF THE DUMP (.gsa) THAT YtieffpngknglpaaProg.lean LOADS. Nothing in Lean hashes anything: it is a label: what it is worth is what the hold of that sum in a sandbox is worth. -/
noncomputable def Try.pinned : Pinned := { name := "ytieffpngknglpaa", sum := "e154a6e09f664a3d3dbeab8d31f39b63611391e35148a31df0086fc6b6b42069", checked := Try.checked }
namespace Rows
def none {H : Type} : Left H := { results := [], args := [] }

/-- 'ossuarylaw13.AskMatches': WHATEVER THE INPUT: true; the input reads as it did. -/
def askMatchesSpec : ChangeSpec := { name := "askMatches", fn := fun _ => fun
  | [d1, d2] => { results := [.lit (.bool true)], args := [d1, d2] }
  | _ => none }
def askMatchesRow : OpenClaim := { program := "ytieffpngknglpaa", sum := "e154a6e09f664a3d3dbeab8d31f39b63611391e35148a31df0086fc6b6b42069", func := "ossuary/ossuarylaw13.AskMatches", spec := "askMatches", apart := false }
def AskMatchesSaid : Prop := askMatchesRow.holds Try.pinned (OpenSpec.ofChange askMatchesSpec)

/-- ITS FALSE NEIGHBOUR: 'it returns false'. Refute it at one input. -/
def askMatchesWrong : ChangeSpec := { name := "askMatches", fn := fun _ => fun
  | [d1, d2] => { results := [.lit (.bool false)], args := [d1, d2] }
  | _ => none }
def AskMatchesWrongFalsely : Prop := askMatchesRow.holds Try.pinned (OpenSpec.ofChange askMatchesWrong)

/-- 'ossuarylaw13.AskCodes': WHATEVER THE INPUT: true; the input reads as it did. -/
def askCodesSpec : ChangeSpec := { name := "askCodes", fn := fun _ => fun
  | [d1, d2, d3] => { results := [.lit (.bool true)], args := [d1, d2, d3] }
  | _ => none }
def askCodesRow : OpenClaim := { program := "ytieffpngknglpaa", sum := "e154a6e09f664a3d3dbeab8d31f39b63611391e35148a31df0086fc6b6b42069", func := "ossuary/ossuarylaw13.AskCodes", spec := "askCodes", unfollowed := true, recurses := true, apart := false }
def AskCodesSaid : Prop := askCodesRow.holds Try.pinned (OpenSpec.ofChange askCodesSpec)

/-- ITS FALSE NEIGHBOUR: 'it returns false'. Refute it at one input. -/
def askCodesWrong : ChangeSpec := { name := "askCodes", fn := fun _ => fun
  | [d1, d2, d3] => { results := [.lit (.bool false)], args := [d1, d2, d3] }
  | _ => none }
def AskCodesWrongFalsely : Prop := askCodesRow.holds Try.pinned (OpenSpec.ofChange askCodesWrong)

/-- 'ossuarylaw13.AskBack': WHATEVER THE INPUT: true; the input reads as it did. -/
def askBackSpec : ChangeSpec := { name := "askBack", fn := fun _ => fun
  | [d1, d2, d3, d4, d5] => { results := [.lit (.bool true)], args := [d1, d2, d3, d4, d5] }
  | _ => none }
def askBackRow : OpenClaim := { program := "ytieffpngknglpaa", sum := "e154a6e09f664a3d3dbeab8d31f39b63611391e35148a31df0086fc6b6b42069", func := "ossuary/ossuarylaw13.AskBack", spec := "askBack", unfollowed := true, recurses := true, apart := false }
def AskBackSaid : Prop := askBackRow.holds Try.pinned (OpenSpec.ofChange askBackSpec)

/-- ITS FALSE NEIGHBOUR: 'it returns false'. Refute it at one input. -/
def askBackWrong : ChangeSpec := { name := "askBack", fn := fun _ => fun
  | [d1, d2, d3, d4, d5] => { results := [.lit (.bool false)], args := [d1, d2, d3, d4, d5] }
  | _ => none }
def AskBackWrongFalsely : Prop := askBackRow.holds Try.pinned (OpenSpec.ofChange askBackWrong)

/- THE SECOND FORM. 'bulk': how many values and letters a reading holds, each counted each time it is reached (what is shared counts as often as it is met; a slice's spare places count too). A statement '..UptoSaid' is the law's where the arguments, and the package variables that the reading takes, are together of bulk at most 1048576: NARROWER than '..Said'. Prove '..Said' where nothing that the law and all that it calls make is longer than what came in: it says more and counts as full. Else prove '..UptoSaid'. A law counts once. -/
mutual
def uptoBulk {H : Type} : DataW H → Nat
  | .lit (.string bytes) => bytes.length + 1
  | .lit _ => 1
  | .nil => 1
  | .ptr d => uptoBulk d + 1
  | .slice elems spare => uptoBulkAll elems + uptoBulkAll spare + 1
  | .agg parts => uptoBulkAll parts + 1
  | .iface _ d => uptoBulk d + 1
  | .map entries => uptoBulkEntries entries + 1
  | .held _ => 1
def uptoBulkAll {H : Type} : List (DataW H) → Nat
  | [] => 0
  | d :: r => uptoBulk d + uptoBulkAll r
def uptoBulkEntries {H : Type} : List (Lit × DataW H) → Nat
  | [] => 0
  | x :: r => uptoBulkEntry x + uptoBulkEntries r
def uptoBulkEntry {H : Type} : Lit × DataW H → Nat
  | (.string bytes, d) => bytes.length + uptoBulk d + 1
  | (_, d) => uptoBulk d + 1
 end
def uptoSmall : (H : Type) → List (DataW H) → Bool := fun _ ds => decide (uptoBulkAll ds ≤ 1048576)
def OpenSpec.upto (s : _root_.Go.ChangeSpec) : _root_.Go.OpenSpec := { _root_.Go.OpenSpec.ofChange s with cond := some uptoSmall }

/-- 'ossuarylaw13.AskMatches', WHERE WHAT IT READS IS OF BULK AT MOST 1048576: true; the input reads as it did. -/
def askMatchesUptoRow : OpenClaim := { program := "ytieffpngknglpaa", sum := "e154a6e09f664a3d3dbeab8d31f39b63611391e35148a31df0086fc6b6b42069", func := "ossuary/ossuarylaw13.AskMatches", spec := "askMatches", apart := false, narrowed := true }
def AskMatchesUptoSaid : Prop := askMatchesUptoRow.holds Try.pinned (OpenSpec.upto askMatchesSpec)

/-- 'ossuarylaw13.AskCodes', WHERE WHAT IT READS IS OF BULK AT MOST 1048576: true; the input reads as it did. -/
def askCodesUptoRow : OpenClaim := { program := "ytieffpngknglpaa", sum := "e154a6e09f664a3d3dbeab8d31f39b63611391e35148a31df0086fc6b6b42069", func := "ossuary/ossuarylaw13.AskCodes", spec := "askCodes", unfollowed := true, recurses := true, apart := false, narrowed := true }
def AskCodesUptoSaid : Prop := askCodesUptoRow.holds Try.pinned (OpenSpec.upto askCodesSpec)

/-- 'ossuarylaw13.AskBack', WHERE WHAT IT READS IS OF BULK AT MOST 1048576: true; the input reads as it did. -/
def askBackUptoRow : OpenClaim := { program := "ytieffpngknglpaa", sum := "e154a6e09f664a3d3dbeab8d31f39b63611391e35148a31df0086fc6b6b42069", func := "ossuary/ossuarylaw13.AskBack", spec := "askBack", unfollowed := true, recurses := true, apart := false, narrowed := true }
def AskBackUptoSaid : Prop := askBackUptoRow.holds Try.pinned (OpenSpec.upto askBackSpec)

end Rows
end Go.Proofs.Ytieffpngknglpaa
