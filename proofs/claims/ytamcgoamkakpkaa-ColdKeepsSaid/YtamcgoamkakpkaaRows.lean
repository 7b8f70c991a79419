/-
  No cell of these rows narrows 'for every input' (looked for: loops, veiled, ifaces, maps, wideKeys, modest, calm, conditions, laid).
  DERIVED. THE GIVEN ROWS OF THIS SEAT. 3 by the template 'for every input the law returns true; each argument reads behind the call as it read before'; 0 by the template 'total and deterministic' (their statements: YtamcgoamkakpkaaTotals.lean).
  GIVEN WITH THE SEED: the statements are not yours to turn. If you find one false, say at which input.
  Laid BY PROGRAM, IN A SANDBOX (cutbox-rows.mjs): the forced cells as the released guide's own fill.sh prints them over the translation 3293dee3c73900b7… (all of the seat's roots in one cut). By AI agents, Wed Nov 11 2026. No macro, syntax, notation, axiom, sorry.
-/
import Derived.Test.YtamcgoamkakpkaaChecked
import GoSem.Claim
import GoSem.ClaimJoined
import GoSem.ClaimMapViews
import Derived.JoinedTies
import Derived.KernelRfl
namespace Go.Proofs.Ytamcgoamkakpkaa
/- THE CELL 'sum', in the pinned program and in every row, IS THE sha256 OF THE DUMP (.gsa) THAT YtamcgoamkakpkaaProg.lean LOADS. Nothing in Lean hashes anything: it is a label: what it is worth is what the hold of that sum in a sandbox is worth. -/
noncomputable def Try.pinned : Pinned := { name := "ytamcgoamkakpkaa", sum := "3293dee3c73900b74ff530998fb4391e00b6267c3f69c701f06ef17500fb91d4", checked := Try.checked }
namespace Rows
def none {H : Type} : Left H := { results := [], args := [] }

/-- 'ossuarylaw16.ColdPlays': WHATEVER THE INPUT: true; the input reads as it did. -/
def coldPlaysSpec : ChangeSpec := { name := "coldPlays", fn := fun _ => fun
  | [d] => { results := [.lit (.bool true)], args := [d] }
  | _ => none }
def coldPlaysRow : OpenClaim := { program := "ytamcgoamkakpkaa", sum := "3293dee3c73900b74ff530998fb4391e00b6267c3f69c701f06ef17500fb91d4", func := "ossuary/ossuarylaw16.ColdPlays", spec := "coldPlays", unfollowed := true, recurses := true, apart := false }
def ColdPlaysSaid : Prop := coldPlaysRow.holds Try.pinned (OpenSpec.ofChange coldPlaysSpec)

/-- ITS FALSE NEIGHBOUR: 'it returns false'. Refute it at one input. -/
def coldPlaysWrong : ChangeSpec := { name := "coldPlays", fn := fun _ => fun
  | [d] => { results := [.lit (.bool false)], args := [d] }
  | _ => none }
def ColdPlaysWrongFalsely : Prop := coldPlaysRow.holds Try.pinned (OpenSpec.ofChange coldPlaysWrong)

/-- 'ossuarylaw16.ColdKeeps': WHATEVER THE INPUT: true; the input reads as it did. -/
def coldKeepsSpec : ChangeSpec := { name := "coldKeeps", fn := fun _ => fun
  | [d1, d2, d3] => { results := [.lit (.bool true)], args := [d1, d2, d3] }
  | _ => none }
def coldKeepsRow : OpenClaim := { program := "ytamcgoamkakpkaa", sum := "3293dee3c73900b74ff530998fb4391e00b6267c3f69c701f06ef17500fb91d4", func := "ossuary/ossuarylaw16.ColdKeeps", spec := "coldKeeps", unfollowed := true, recurses := true, apart := false }
def ColdKeepsSaid : Prop := coldKeepsRow.holds Try.pinned (OpenSpec.ofChange coldKeepsSpec)

/-- ITS FALSE NEIGHBOUR: 'it returns false'. Refute it at one input. -/
def coldKeepsWrong : ChangeSpec := { name := "coldKeeps", fn := fun _ => fun
  | [d1, d2, d3] => { results := [.lit (.bool false)], args := [d1, d2, d3] }
  | _ => none }
def ColdKeepsWrongFalsely : Prop := coldKeepsRow.holds Try.pinned (OpenSpec.ofChange coldKeepsWrong)

/-- 'ossuarylaw16.ColdNils': WHATEVER THE INPUT: true; the input reads as it did. -/
def coldNilsSpec : ChangeSpec := { name := "coldNils", fn := fun _ => fun
  | [d1, d2] => { results := [.lit (.bool true)], args := [d1, d2] }
  | _ => none }
def coldNilsRow : OpenClaim := { program := "ytamcgoamkakpkaa", sum := "3293dee3c73900b74ff530998fb4391e00b6267c3f69c701f06ef17500fb91d4", func := "ossuary/ossuarylaw16.ColdNils", spec := "coldNils", unfollowed := true, recurses := true, apart := false }
def ColdNilsSaid : Prop := coldNilsRow.holds Try.pinned (OpenSpec.ofChange coldNilsSpec)

/-- ITS FALSE NEIGHBOUR: 'it returns false'. Refute it at one input. -/
def coldNilsWrong : ChangeSpec := { name := "coldNils", fn := fun _ => fun
  | [d1, d2] => { results := [.lit (.bool false)], args := [d1, d2] }
  | _ => none }
def ColdNilsWrongFalsely : Prop := coldNilsRow.holds Try.pinned (OpenSpec.ofChange coldNilsWrong)

/- THE SECOND FORM. 'bulk': how many values and letters a reading holds, each counted each time it is reached (what is shared counts as often as it is met; a slice's spare places count too). A statement '..UptoSaid' is the law's where the arguments, and the package variables that the reading takes, are together of bulk at most 1048576: NARROWER than '..Said'. Prove '..Said' where nothing that the law and all that it calls make is longer than what came in: it says more and counts as full. Else prove '..UptoSaid'. A law counts once. -/
mutual
def uptoBulk {H : Type} : DataW H → Nat
  | .lit (.string bytes) => bytes.length + 1
  | .lit _ => 1
  | .nil => 1
  | .ptr d => uptoBulk d + 1
  | .slice elems spare => uptoBulkAll elems + uptoBulkAll spare + 1
  | .agg parts => uptoBulkAll parts + 1
  | .iface _ d => uptoBulk d + 1
  | .map entries => uptoBulkEntries entries + 1
  | .held _ => 1
def uptoBulkAll {H : Type} : List (DataW H) → Nat
  | [] => 0
  | d :: r => uptoBulk d + uptoBulkAll r
def uptoBulkEntries {H : Type} : List (Lit × DataW H) → Nat
  | [] => 0
  | x :: r => uptoBulkEntry x + uptoBulkEntries r
def uptoBulkEntry {H : Type} : Lit × DataW H → Nat
  | (.string bytes, d) => bytes.length + uptoBulk d + 1
  | (_, d) => uptoBulk d + 1
 end
def uptoSmall : (H : Type) → List (DataW H) → Bool := fun _ ds => decide (uptoBulkAll ds ≤ 1048576)
def OpenSpec.upto (s : _root_.Go.ChangeSpec) : _root_.Go.OpenSpec := { _root_.Go.OpenSpec.ofChange s with cond := some uptoSmall }

/-- 'ossuarylaw16.ColdPlays', WHERE WHAT IT READS IS OF BULK AT MOST 1048576: true; the input reads as it did. -/
def coldPlaysUptoRow : OpenClaim := { program := "ytamcgoamkakpkaa", sum := "3293dee3c73900b74ff530998fb4391e00b6267c3f69c701f06ef17500fb91d4", func := "ossuary/ossuarylaw16.ColdPlays", spec := "coldPlays", unfollowed := true, recurses := true, apart := false, narrowed := true }
def ColdPlaysUptoSaid : Prop := coldPlaysUptoRow.holds Try.pinned (OpenSpec.upto coldPlaysSpec)

/-- 'ossuarylaw16.ColdKeeps', WHERE WHAT IT READS IS OF BULK AT MOST 1048576: true; the input reads as it did. -/
def coldKeepsUptoRow : OpenClaim := { program := "ytamcgoamkakpkaa", sum := "3293dee3c73900b74ff530998fb4391e00b6267c3f69c701f06ef17500fb91d4", func := "ossuary/ossuarylaw16.ColdKeeps", spec := "coldKeeps", unfollowed := true, recurses := true, apart := false, narrowed := true }
def ColdKeepsUptoSaid : Prop := coldKeepsUptoRow.holds Try.pinned (OpenSpec.upto coldKeepsSpec)

/-- 'ossuarylaw16.ColdNils', WHERE WHAT IT READS IS OF BULK AT MOST 1048576: true; the input reads as it did. -/
def coldNilsUptoRow : OpenClaim := { program := "ytamcgoamkakpkaa", sum := "3293dee3c73900b74ff530998fb4391e00b6267c3f69c701f06ef17500fb91d4", func := "ossuary/ossuarylaw16.ColdNils", spec := "coldNils", unfollowed := true, recurses := true, apart := false, narrowed := true }
def ColdNilsUptoSaid : Prop := coldNilsUptoRow.holds Try.pinned (OpenSpec.upto coldNilsSpec)

end Rows
end Go.Proofs.Ytamcgoamkakpkaa
