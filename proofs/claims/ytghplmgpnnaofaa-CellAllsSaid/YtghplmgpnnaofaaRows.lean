/-
  No cell of these rows narrows 'for every input' (looked for: loops, veiled, ifaces, maps, wideKeys, modest, calm, conditions, laid).
  DERIVED. THE GIVEN ROWS OF THIS SEAT. 3 by the template 'for every input the law returns true; each argument reads behind the call as it read before'; 0 by the template 'total and deterministic' (their statements: YtghplmgpnnaofaaTotals.lean).
  GIVEN WITH THE SEED: the statements are not yours to turn. If you find one false, say at which input.
  Laid BY PROGRAM, IN A SANDBOX (cutbox-rows.mjs): the forced cells as the released guide's own fill.sh prints them over the translation 03c922b5383e975a… (all of the seat's roots in one cut). By AI agents, Wed Nov 11 2026. No macro, syntax, notation, axiom, sorry.
-/
import Derived.Test.YtghplmgpnnaofaaChecked
import GoSem.Claim
import GoSem.ClaimJoined
import GoSem.ClaimMapViews
import Derived.JoinedTies
import Derived.KernelRfl
namespace Go.Proofs.Ytghplmgpnnaofaa
/- THE CELL 'sum', in the pinned program and in every row, IS THE sha256 OF THE DUMP (.gsa) THAT YtghplmgpnnaofaaProg.lean LOADS. Nothing in Lean hashes anything: it is a label: what it is worth is what the hold of that sum in a sandbox is worth. -/
noncomputable def Try.pinned : Pinned := { name := "ytghplmgpnnaofaa", sum := "03c922b5383e975a53c4f39d50f2aa177ef9b22e3109381cbb52fe160debb15e", checked := Try.checked }
namespace Rows
def none {H : Type} : Left H := { results := [], args := [] }

/-- 'ossuarylaw05.CellAlls': WHATEVER THE INPUT: true; the input reads as it did. -/
def cellAllsSpec : ChangeSpec := { name := "cellAlls", fn := fun _ => fun
  | [d] => { results := [.lit (.bool true)], args := [d] }
  | _ => none }
def cellAllsRow : OpenClaim := { program := "ytghplmgpnnaofaa", sum := "03c922b5383e975a53c4f39d50f2aa177ef9b22e3109381cbb52fe160debb15e", func := "ossuary/ossuarylaw05.CellAlls", spec := "cellAlls", unfollowed := true, recurses := true, apart := false }
def CellAllsSaid : Prop := cellAllsRow.holds Try.pinned (OpenSpec.ofChange cellAllsSpec)

/-- ITS FALSE NEIGHBOUR: 'it returns false'. Refute it at one input. -/
def cellAllsWrong : ChangeSpec := { name := "cellAlls", fn := fun _ => fun
  | [d] => { results := [.lit (.bool false)], args := [d] }
  | _ => none }
def CellAllsWrongFalsely : Prop := cellAllsRow.holds Try.pinned (OpenSpec.ofChange cellAllsWrong)

/-- 'ossuarylaw05.CellLooks': WHATEVER THE INPUT: true; the input reads as it did. -/
def cellLooksSpec : ChangeSpec := { name := "cellLooks", fn := fun _ => fun
  | [d] => { results := [.lit (.bool true)], args := [d] }
  | _ => none }
def cellLooksRow : OpenClaim := { program := "ytghplmgpnnaofaa", sum := "03c922b5383e975a53c4f39d50f2aa177ef9b22e3109381cbb52fe160debb15e", func := "ossuary/ossuarylaw05.CellLooks", spec := "cellLooks", unfollowed := true, recurses := true, apart := false }
def CellLooksSaid : Prop := cellLooksRow.holds Try.pinned (OpenSpec.ofChange cellLooksSpec)

/-- ITS FALSE NEIGHBOUR: 'it returns false'. Refute it at one input. -/
def cellLooksWrong : ChangeSpec := { name := "cellLooks", fn := fun _ => fun
  | [d] => { results := [.lit (.bool false)], args := [d] }
  | _ => none }
def CellLooksWrongFalsely : Prop := cellLooksRow.holds Try.pinned (OpenSpec.ofChange cellLooksWrong)

/-- 'ossuarylaw05.CellWeighs': WHATEVER THE INPUT: true; the input reads as it did. -/
def cellWeighsSpec : ChangeSpec := { name := "cellWeighs", fn := fun _ => fun
  | [d1, d2] => { results := [.lit (.bool true)], args := [d1, d2] }
  | _ => none }
def cellWeighsRow : OpenClaim := { program := "ytghplmgpnnaofaa", sum := "03c922b5383e975a53c4f39d50f2aa177ef9b22e3109381cbb52fe160debb15e", func := "ossuary/ossuarylaw05.CellWeighs", spec := "cellWeighs", unfollowed := true, recurses := true, apart := false }
def CellWeighsSaid : Prop := cellWeighsRow.holds Try.pinned (OpenSpec.ofChange cellWeighsSpec)

/-- ITS FALSE NEIGHBOUR: 'it returns false'. Refute it at one input. -/
def cellWeighsWrong : ChangeSpec := { name := "cellWeighs", fn := fun _ => fun
  | [d1, d2] => { results := [.lit (.bool false)], args := [d1, d2] }
  | _ => none }
def CellWeighsWrongFalsely : Prop := cellWeighsRow.holds Try.pinned (OpenSpec.ofChange cellWeighsWrong)

/- THE SECOND FORM. 'bulk': how many values and letters a reading holds, each counted each time it is reached (what is shared counts as often as it is met; a slice's spare places count too). A statement '..UptoSaid' is the law's where the arguments, and the package variables that the reading takes, are together of bulk at most 1048576: NARROWER than '..Said'. Prove '..Said' where nothing that the law and all that it calls make is longer than what came in: it says more and counts as full. Else prove '..UptoSaid'. A law counts once. -/
mutual
def uptoBulk {H : Type} : DataW H → Nat
  | .lit (.string bytes) => bytes.length + 1
  | .lit _ => 1
  | .nil => 1
  | .ptr d => uptoBulk d + 1
  | .slice elems spare => uptoBulkAll elems + uptoBulkAll spare + 1
  | .agg parts => uptoBulkAll parts + 1
  | .iface _ d => uptoBulk d + 1
  | .map entries => uptoBulkEntries entries + 1
  | .held _ => 1
def uptoBulkAll {H : Type} : List (DataW H) → Nat
  | [] => 0
  | d :: r => uptoBulk d + uptoBulkAll r
def uptoBulkEntries {H : Type} : List (Lit × DataW H) → Nat
  | [] => 0
  | x :: r => uptoBulkEntry x + uptoBulkEntries r
def uptoBulkEntry {H : Type} : Lit × DataW H → Nat
  | (.string bytes, d) => bytes.length + uptoBulk d + 1
  | (_, d) => uptoBulk d + 1
 end
def uptoSmall : (H : Type) → List (DataW H) → Bool := fun _ ds => decide (uptoBulkAll ds ≤ 1048576)
def OpenSpec.upto (s : _root_.Go.ChangeSpec) : _root_.Go.OpenSpec := { _root_.Go.OpenSpec.ofChange s with cond := some uptoSmall }

/-- 'ossuarylaw05.CellAlls', WHERE WHAT IT READS IS OF BULK AT MOST 1048576: true; the input reads as it did. -/
def cellAllsUptoRow : OpenClaim := { program := "ytghplmgpnnaofaa", sum := "03c922b5383e975a53c4f39d50f2aa177ef9b22e3109381cbb52fe160debb15e", func := "ossuary/ossuarylaw05.CellAlls", spec := "cellAlls", unfollowed := true, recurses := true, apart := false, narrowed := true }
def CellAllsUptoSaid : Prop := cellAllsUptoRow.holds Try.pinned (OpenSpec.upto cellAllsSpec)

/-- 'ossuarylaw05.CellLooks', WHERE WHAT IT READS IS OF BULK AT MOST 1048576: true; the input reads as it did. -/
def cellLooksUptoRow : OpenClaim := { program := "ytghplmgpnnaofaa", sum := "03c922b5383e975a53c4f39d50f2aa177ef9b22e3109381cbb52fe160debb15e", func := "ossuary/ossuarylaw05.CellLooks", spec := "cellLooks", unfollowed := true, recurses := true, apart := false, narrowed := true }
def CellLooksUptoSaid : Prop := cellLooksUptoRow.holds Try.pinned (OpenSpec.upto cellLooksSpec)

/-- 'ossuarylaw05.CellWeighs', WHERE WHAT IT READS IS OF BULK AT MOST 1048576: true; the input reads as it did. -/
def cellWeighsUptoRow : OpenClaim := { program := "ytghplmgpnnaofaa", sum := "03c922b5383e975a53c4f39d50f2aa177ef9b22e3109381cbb52fe160debb15e", func := "ossuary/ossuarylaw05.CellWeighs", spec := "cellWeighs", unfollowed := true, recurses := true, apart := false, narrowed := true }
def CellWeighsUptoSaid : Prop := cellWeighsUptoRow.holds Try.pinned (OpenSpec.upto cellWeighsSpec)

end Rows
end Go.Proofs.Ytghplmgpnnaofaa
