/-
  No cell of these rows narrows 'for every input' (looked for: loops, veiled, ifaces, maps, wideKeys, modest, calm, conditions, laid).
  DERIVED. THE GIVEN ROWS OF THIS SEAT. 3 by the template 'for every input the law returns true; each argument reads behind the call as it read before'; 0 by the template 'total and deterministic' (their statements: YticglepkbihldaaGreatTotals.lean).
  GIVEN WITH THE SEED: the statements are not yours to turn. If you find one false, say at which input.
  Laid BY PROGRAM, IN A SANDBOX (cutbox-rows.mjs): the forced cells as the released guide's own fill.sh prints them over the translation 8837d92b271ef59b… (all of the seat's roots in one cut). By AI agents, Wed Nov 11 2026. No macro, syntax, notation, axiom, sorry.
-/
import Derived.Test.YticglepkbihldaaGreatChecked
import GoSem.Claim
import GoSem.ClaimJoined
import GoSem.ClaimMapViews
import Derived.JoinedTies
import Derived.KernelRfl
namespace Go.Proofs.YticglepkbihldaaGreat
/- THE CELL 'sum', in the pinned program and in every row, IS THE sha256 OF THE DUMP (.gsa) THAT YticglepkbihldaaGreatProg.lean LOADS. Nothing in Lean hashes anything: it is a label: what it is worth is what the hold of that sum in a sandbox is worth. -/
noncomputable def Tryz.pinned : Pinned := { name := "yticglepkbihldaagreat", sum := "8837d92b271ef59ba6cc34f1b0d91b90de715ff4a5b014c61fabf5e600cad66e", checked := Tryz.checked }
namespace Rows
def none {H : Type} : Left H := { results := [], args := [] }

/-- 'ossuarylaw12.SegioFits': WHATEVER THE INPUT: true; the input reads as it did. -/
def segioFitsSpec : ChangeSpec := { name := "segioFits", fn := fun _ => fun
  | [d1, d2, d3] => { results := [.lit (.bool true)], args := [d1, d2, d3] }
  | _ => none }
def segioFitsRow : OpenClaim := { program := "yticglepkbihldaagreat", sum := "8837d92b271ef59ba6cc34f1b0d91b90de715ff4a5b014c61fabf5e600cad66e", func := "ossuary/ossuarylaw12.SegioFits", spec := "segioFits", unfollowed := true, recurses := true, apart := false }
def SegioFitsSaid : Prop := segioFitsRow.holds Tryz.pinned (OpenSpec.ofChange segioFitsSpec)

/-- ITS FALSE NEIGHBOUR: 'it returns false'. Refute it at one input. -/
def segioFitsWrong : ChangeSpec := { name := "segioFits", fn := fun _ => fun
  | [d1, d2, d3] => { results := [.lit (.bool false)], args := [d1, d2, d3] }
  | _ => none }
def SegioFitsWrongFalsely : Prop := segioFitsRow.holds Tryz.pinned (OpenSpec.ofChange segioFitsWrong)

/-- 'ossuarylaw12.SegioEncodes': WHATEVER THE INPUT: true; the input reads as it did. -/
def segioEncodesSpec : ChangeSpec := { name := "segioEncodes", fn := fun _ => fun
  | [d1, d2] => { results := [.lit (.bool true)], args := [d1, d2] }
  | _ => none }
def segioEncodesRow : OpenClaim := { program := "yticglepkbihldaagreat", sum := "8837d92b271ef59ba6cc34f1b0d91b90de715ff4a5b014c61fabf5e600cad66e", func := "ossuary/ossuarylaw12.SegioEncodes", spec := "segioEncodes", unfollowed := true, recurses := true, apart := false }
def SegioEncodesSaid : Prop := segioEncodesRow.holds Tryz.pinned (OpenSpec.ofChange segioEncodesSpec)

/-- ITS FALSE NEIGHBOUR: 'it returns false'. Refute it at one input. -/
def segioEncodesWrong : ChangeSpec := { name := "segioEncodes", fn := fun _ => fun
  | [d1, d2] => { results := [.lit (.bool false)], args := [d1, d2] }
  | _ => none }
def SegioEncodesWrongFalsely : Prop := segioEncodesRow.holds Tryz.pinned (OpenSpec.ofChange segioEncodesWrong)

/-- 'ossuarylaw12.SegioBack': WHATEVER THE INPUT: true; the input reads as it did. -/
def segioBackSpec : ChangeSpec := { name := "segioBack", fn := fun _ => fun
  | [d1, d2, d3, d4] => { results := [.lit (.bool true)], args := [d1, d2, d3, d4] }
  | _ => none }
def segioBackRow : OpenClaim := { program := "yticglepkbihldaagreat", sum := "8837d92b271ef59ba6cc34f1b0d91b90de715ff4a5b014c61fabf5e600cad66e", func := "ossuary/ossuarylaw12.SegioBack", spec := "segioBack", unfollowed := true, recurses := true, apart := false }
def SegioBackSaid : Prop := segioBackRow.holds Tryz.pinned (OpenSpec.ofChange segioBackSpec)

/-- ITS FALSE NEIGHBOUR: 'it returns false'. Refute it at one input. -/
def segioBackWrong : ChangeSpec := { name := "segioBack", fn := fun _ => fun
  | [d1, d2, d3, d4] => { results := [.lit (.bool false)], args := [d1, d2, d3, d4] }
  | _ => none }
def SegioBackWrongFalsely : Prop := segioBackRow.holds Tryz.pinned (OpenSpec.ofChange segioBackWrong)

/- THE SECOND FORM. 'bulk': how many values and letters a reading holds, each counted each time it is reached (what is shared counts as often as it is met; a slice's spare places count too). A statement '..UptoSaid' is the law's where the arguments, and the package variables that the reading takes, are together of bulk at most 1048576: NARROWER than '..Said'. Prove '..Said' where nothing that the law and all that it calls make is longer than what came in: it says more and counts as full. Else prove '..UptoSaid'. A law counts once. -/
mutual
def uptoBulk {H : Type} : DataW H → Nat
  | .lit (.string bytes) => bytes.length + 1
  | .lit _ => 1
  | .nil => 1
  | .ptr d => uptoBulk d + 1
  | .slice elems spare => uptoBulkAll elems + uptoBulkAll spare + 1
  | .agg parts => uptoBulkAll parts + 1
  | .iface _ d => uptoBulk d + 1
  | .map entries => uptoBulkEntries entries + 1
  | .held _ => 1
def uptoBulkAll {H : Type} : List (DataW H) → Nat
  | [] => 0
  | d :: r => uptoBulk d + uptoBulkAll r
def uptoBulkEntries {H : Type} : List (Lit × DataW H) → Nat
  | [] => 0
  | x :: r => uptoBulkEntry x + uptoBulkEntries r
def uptoBulkEntry {H : Type} : Lit × DataW H → Nat
  | (.string bytes, d) => bytes.length + uptoBulk d + 1
  | (_, d) => uptoBulk d + 1
 end
def uptoSmall : (H : Type) → List (DataW H) → Bool := fun _ ds => decide (uptoBulkAll ds ≤ 1048576)
def OpenSpec.upto (s : _root_.Go.ChangeSpec) : _root_.Go.OpenSpec := { _root_.Go.OpenSpec.ofChange s with cond := some uptoSmall }

/-- 'ossuarylaw12.SegioFits', WHERE WHAT IT READS IS OF BULK AT MOST 1048576: true; the input reads as it did. -/
def segioFitsUptoRow : OpenClaim := { program := "yticglepkbihldaagreat", sum := "8837d92b271ef59ba6cc34f1b0d91b90de715ff4a5b014c61fabf5e600cad66e", func := "ossuary/ossuarylaw12.SegioFits", spec := "segioFits", unfollowed := true, recurses := true, apart := false, narrowed := true }
def SegioFitsUptoSaid : Prop := segioFitsUptoRow.holds Tryz.pinned (OpenSpec.upto segioFitsSpec)

/-- 'ossuarylaw12.SegioEncodes', WHERE WHAT IT READS IS OF BULK AT MOST 1048576: true; the input reads as it did. -/
def segioEncodesUptoRow : OpenClaim := { program := "yticglepkbihldaagreat", sum := "8837d92b271ef59ba6cc34f1b0d91b90de715ff4a5b014c61fabf5e600cad66e", func := "ossuary/ossuarylaw12.SegioEncodes", spec := "segioEncodes", unfollowed := true, recurses := true, apart := false, narrowed := true }
def SegioEncodesUptoSaid : Prop := segioEncodesUptoRow.holds Tryz.pinned (OpenSpec.upto segioEncodesSpec)

/-- 'ossuarylaw12.SegioBack', WHERE WHAT IT READS IS OF BULK AT MOST 1048576: true; the input reads as it did. -/
def segioBackUptoRow : OpenClaim := { program := "yticglepkbihldaagreat", sum := "8837d92b271ef59ba6cc34f1b0d91b90de715ff4a5b014c61fabf5e600cad66e", func := "ossuary/ossuarylaw12.SegioBack", spec := "segioBack", unfollowed := true, recurses := true, apart := false, narrowed := true }
def SegioBackUptoSaid : Prop := segioBackUptoRow.holds Tryz.pinned (OpenSpec.upto segioBackSpec)

end Rows
end Go.Proofs.YticglepkbihldaaGreat
