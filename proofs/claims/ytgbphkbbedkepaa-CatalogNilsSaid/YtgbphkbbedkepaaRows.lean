/-
  No cell of these rows narrows 'for every input' (looked for: loops, veiled, ifaces, maps, wideKeys, modest, calm, conditions, laid).
  DERIVED. THE GIVEN ROWS OF THIS SEAT. 4 by the template 'for every input the law returns true; each argument reads behind the call as it read before'; 0 by the template 'total and deterministic' (their statements: YtgbphkbbedkepaaTotals.lean).
  GIVEN WITH THE SEED: the statements are not yours to turn. If you find one false, say at which input.
  Laid BY PROGRAM, IN A SANDBOX (cutbox-rows.mjs): the forced cells as the released guide's own fill.sh prints them over the translation 1cf88cfe521c4909… (all of the seat's roots in one cut). By AI agents, Wed Nov 11 2026. No macro, syntax, notation, axiom, sorry.
-/
import Derived.Test.YtgbphkbbedkepaaChecked
import GoSem.Claim
import GoSem.ClaimJoined
import GoSem.ClaimMapViews
import Derived.JoinedTies
import Derived.KernelRfl
namespace Go.Proofs.Ytgbphkbbedkepaa
/- THE CELL 'sum', in the pinned program and in every row, IS THE sha256 OF THE DUMP (.gsa) THAT YtgbphkbbedkepaaProg.lean LOADS. Nothing in Lean hashes anything: it is a label: what it is worth is what the hold of that sum in a sandbox is worth. -/
noncomputable def Try.pinned : Pinned := { name := "ytgbphkbbedkepaa", sum := "1cf88cfe521c4909177a35389f2d9aa6b1f167cb2f57ba22a4fc6f2ff5f1ae85", checked := Try.checked }
namespace Rows
def none {H : Type} : Left H := { results := [], args := [] }

/-- 'ossuarylaw20.CatalogLooks': WHATEVER THE INPUT: true; the input reads as it did. -/
def catalogLooksSpec : ChangeSpec := { name := "catalogLooks", fn := fun _ => fun
  | [d1, d2, d3, d4, d5] => { results := [.lit (.bool true)], args := [d1, d2, d3, d4, d5] }
  | _ => none }
def catalogLooksRow : OpenClaim := { program := "ytgbphkbbedkepaa", sum := "1cf88cfe521c4909177a35389f2d9aa6b1f167cb2f57ba22a4fc6f2ff5f1ae85", func := "ossuary/ossuarylaw20.CatalogLooks", spec := "catalogLooks", unfollowed := true, recurses := true, apart := false }
def CatalogLooksSaid : Prop := catalogLooksRow.holds Try.pinned (OpenSpec.ofChange catalogLooksSpec)

/-- ITS FALSE NEIGHBOUR: 'it returns false'. Refute it at one input. -/
def catalogLooksWrong : ChangeSpec := { name := "catalogLooks", fn := fun _ => fun
  | [d1, d2, d3, d4, d5] => { results := [.lit (.bool false)], args := [d1, d2, d3, d4, d5] }
  | _ => none }
def CatalogLooksWrongFalsely : Prop := catalogLooksRow.holds Try.pinned (OpenSpec.ofChange catalogLooksWrong)

/-- 'ossuarylaw20.CatalogEach': WHATEVER THE INPUT: true; the input reads as it did. -/
def catalogEachSpec : ChangeSpec := { name := "catalogEach", fn := fun _ => fun
  | [d1, d2, d3] => { results := [.lit (.bool true)], args := [d1, d2, d3] }
  | _ => none }
def catalogEachRow : OpenClaim := { program := "ytgbphkbbedkepaa", sum := "1cf88cfe521c4909177a35389f2d9aa6b1f167cb2f57ba22a4fc6f2ff5f1ae85", func := "ossuary/ossuarylaw20.CatalogEach", spec := "catalogEach", unfollowed := true, recurses := true, apart := false }
def CatalogEachSaid : Prop := catalogEachRow.holds Try.pinned (OpenSpec.ofChange catalogEachSpec)

/-- ITS FALSE NEIGHBOUR: 'it returns false'. Refute it at one input. -/
def catalogEachWrong : ChangeSpec := { name := "catalogEach", fn := fun _ => fun
  | [d1, d2, d3] => { results := [.lit (.bool false)], args := [d1, d2, d3] }
  | _ => none }
def CatalogEachWrongFalsely : Prop := catalogEachRow.holds Try.pinned (OpenSpec.ofChange catalogEachWrong)

/-- 'ossuarylaw20.CatalogOnce': WHATEVER THE INPUT: true; the input reads as it did. -/
def catalogOnceSpec : ChangeSpec := { name := "catalogOnce", fn := fun _ => fun
  | [d1, d2] => { results := [.lit (.bool true)], args := [d1, d2] }
  | _ => none }
def catalogOnceRow : OpenClaim := { program := "ytgbphkbbedkepaa", sum := "1cf88cfe521c4909177a35389f2d9aa6b1f167cb2f57ba22a4fc6f2ff5f1ae85", func := "ossuary/ossuarylaw20.CatalogOnce", spec := "catalogOnce", unfollowed := true, recurses := true, apart := false }
def CatalogOnceSaid : Prop := catalogOnceRow.holds Try.pinned (OpenSpec.ofChange catalogOnceSpec)

/-- ITS FALSE NEIGHBOUR: 'it returns false'. Refute it at one input. -/
def catalogOnceWrong : ChangeSpec := { name := "catalogOnce", fn := fun _ => fun
  | [d1, d2] => { results := [.lit (.bool false)], args := [d1, d2] }
  | _ => none }
def CatalogOnceWrongFalsely : Prop := catalogOnceRow.holds Try.pinned (OpenSpec.ofChange catalogOnceWrong)

/-- 'ossuarylaw20.CatalogNils': WHATEVER THE INPUT: true; the input reads as it did. -/
def catalogNilsSpec : ChangeSpec := { name := "catalogNils", fn := fun _ => fun
  | [d1, d2] => { results := [.lit (.bool true)], args := [d1, d2] }
  | _ => none }
def catalogNilsRow : OpenClaim := { program := "ytgbphkbbedkepaa", sum := "1cf88cfe521c4909177a35389f2d9aa6b1f167cb2f57ba22a4fc6f2ff5f1ae85", func := "ossuary/ossuarylaw20.CatalogNils", spec := "catalogNils", unfollowed := true, recurses := true, apart := false }
def CatalogNilsSaid : Prop := catalogNilsRow.holds Try.pinned (OpenSpec.ofChange catalogNilsSpec)

/-- ITS FALSE NEIGHBOUR: 'it returns false'. Refute it at one input. -/
def catalogNilsWrong : ChangeSpec := { name := "catalogNils", fn := fun _ => fun
  | [d1, d2] => { results := [.lit (.bool false)], args := [d1, d2] }
  | _ => none }
def CatalogNilsWrongFalsely : Prop := catalogNilsRow.holds Try.pinned (OpenSpec.ofChange catalogNilsWrong)

/- THE SECOND FORM. 'bulk': how many values and letters a reading holds, each counted each time it is reached (what is shared counts as often as it is met; a slice's spare places count too). A statement '..UptoSaid' is the law's where the arguments, and the package variables that the reading takes, are together of bulk at most 1048576: NARROWER than '..Said'. Prove '..Said' where nothing that the law and all that it calls make is longer than what came in: it says more and counts as full. Else prove '..UptoSaid'. A law counts once. -/
mutual
def uptoBulk {H : Type} : DataW H → Nat
  | .lit (.string bytes) => bytes.length + 1
  | .lit _ => 1
  | .nil => 1
  | .ptr d => uptoBulk d + 1
  | .slice elems spare => uptoBulkAll elems + uptoBulkAll spare + 1
  | .agg parts => uptoBulkAll parts + 1
  | .iface _ d => uptoBulk d + 1
  | .map entries => uptoBulkEntries entries + 1
  | .held _ => 1
def uptoBulkAll {H : Type} : List (DataW H) → Nat
  | [] => 0
  | d :: r => uptoBulk d + uptoBulkAll r
def uptoBulkEntries {H : Type} : List (Lit × DataW H) → Nat
  | [] => 0
  | x :: r => uptoBulkEntry x + uptoBulkEntries r
def uptoBulkEntry {H : Type} : Lit × DataW H → Nat
  | (.string bytes, d) => bytes.length + uptoBulk d + 1
  | (_, d) => uptoBulk d + 1
 end
def uptoSmall : (H : Type) → List (DataW H) → Bool := fun _ ds => decide (uptoBulkAll ds ≤ 1048576)
def OpenSpec.upto (s : _root_.Go.ChangeSpec) : _root_.Go.OpenSpec := { _root_.Go.OpenSpec.ofChange s with cond := some uptoSmall }

/-- 'ossuarylaw20.CatalogLooks', WHERE WHAT IT READS IS OF BULK AT MOST 1048576: true; the input reads as it did. -/
def catalogLooksUptoRow : OpenClaim := { program := "ytgbphkbbedkepaa", sum := "1cf88cfe521c4909177a35389f2d9aa6b1f167cb2f57ba22a4fc6f2ff5f1ae85", func := "ossuary/ossuarylaw20.CatalogLooks", spec := "catalogLooks", unfollowed := true, recurses := true, apart := false, narrowed := true }
def CatalogLooksUptoSaid : Prop := catalogLooksUptoRow.holds Try.pinned (OpenSpec.upto catalogLooksSpec)

/-- 'ossuarylaw20.CatalogEach', WHERE WHAT IT READS IS OF BULK AT MOST 1048576: true; the input reads as it did. -/
def catalogEachUptoRow : OpenClaim := { program := "ytgbphkbbedkepaa", sum := "1cf88cfe521c4909177a35389f2d9aa6b1f167cb2f57ba22a4fc6f2ff5f1ae85", func := "ossuary/ossuarylaw20.CatalogEach", spec := "catalogEach", unfollowed := true, recurses := true, apart := false, narrowed := true }
def CatalogEachUptoSaid : Prop := catalogEachUptoRow.holds Try.pinned (OpenSpec.upto catalogEachSpec)

/-- 'ossuarylaw20.CatalogOnce', WHERE WHAT IT READS IS OF BULK AT MOST 1048576: true; the input reads as it did. -/
def catalogOnceUptoRow : OpenClaim := { program := "ytgbphkbbedkepaa", sum := "1cf88cfe521c4909177a35389f2d9aa6b1f167cb2f57ba22a4fc6f2ff5f1ae85", func := "ossuary/ossuarylaw20.CatalogOnce", spec := "catalogOnce", unfollowed := true, recurses := true, apart := false, narrowed := true }
def CatalogOnceUptoSaid : Prop := catalogOnceUptoRow.holds Try.pinned (OpenSpec.upto catalogOnceSpec)

/-- 'ossuarylaw20.CatalogNils', WHERE WHAT IT READS IS OF BULK AT MOST 1048576: true; the input reads as it did. -/
def catalogNilsUptoRow : OpenClaim := { program := "ytgbphkbbedkepaa", sum := "1cf88cfe521c4909177a35389f2d9aa6b1f167cb2f57ba22a4fc6f2ff5f1ae85", func := "ossuary/ossuarylaw20.CatalogNils", spec := "catalogNils", unfollowed := true, recurses := true, apart := false, narrowed := true }
def CatalogNilsUptoSaid : Prop := catalogNilsUptoRow.holds Try.pinned (OpenSpec.upto catalogNilsSpec)

end Rows
end Go.Proofs.Ytgbphkbbedkepaa
