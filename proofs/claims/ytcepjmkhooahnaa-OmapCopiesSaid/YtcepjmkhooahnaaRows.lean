/-
  No cell of these rows narrows 'for every input' (looked for: loops, veiled, ifaces, maps, wideKeys, modest, calm, conditions, laid).
  DERIVED. THE GIVEN ROWS OF THIS SEAT. 5 by the template 'for every input the law returns true; each argument reads behind the call as it read before'; 0 by the template 'total and deterministic' (their statements: YtcepjmkhooahnaaTotals.lean).
  GIVEN WITH THE SEED: the statements are not yours to turn. If you find one false, say at which input.
  Laid BY PROGRAM, IN A SANDBOX (cutbox-rows.mjs): the forced cells as the released guide's own fill.sh prints them over the translation 4570ac6a65dba663… (all of the seat's roots in one cut). By AI agents, Wed Nov 11 2026. No macro, syntax, notation, axiom, sorry.
-/
import Derived.Test.YtcepjmkhooahnaaChecked
import GoSem.Claim
import GoSem.ClaimJoined
import GoSem.ClaimMapViews
import Derived.JoinedTies
import Derived.KernelRfl
namespace Go.Proofs.Ytcepjmkhooahnaa
/- THE CELL 'sum', in the pinned program and in every row, IS THE sha256 OF THE DUMP (.gsa) THAT YtcepjmkhooahnaaProg.lean LOADS. Nothing in Lean hashes anything: it is a label: what it is worth is what the hold of that sum in a sandbox is worth. -/
noncomputable def Try.pinned : Pinned := { name := "ytcepjmkhooahnaa", sum := "4570ac6a65dba6630ae51c2b0b8661deca79e8eb86629abaacf27c893185e24d", checked := Try.checked }
namespace Rows
def none {H : Type} : Left H := { results := [], args := [] }

/-- 'ossuarylaw06.OmapPlays': WHATEVER THE INPUT: true; the input reads as it did. -/
def omapPlaysSpec : ChangeSpec := { name := "omapPlays", fn := fun _ => fun
  | [d] => { results := [.lit (.bool true)], args := [d] }
  | _ => none }
def omapPlaysRow : OpenClaim := { program := "ytcepjmkhooahnaa", sum := "4570ac6a65dba6630ae51c2b0b8661deca79e8eb86629abaacf27c893185e24d", func := "ossuary/ossuarylaw06.OmapPlays", spec := "omapPlays", unfollowed := true, recurses := true, apart := false }
def OmapPlaysSaid : Prop := omapPlaysRow.holds Try.pinned (OpenSpec.ofChange omapPlaysSpec)

/-- ITS FALSE NEIGHBOUR: 'it returns false'. Refute it at one input. -/
def omapPlaysWrong : ChangeSpec := { name := "omapPlays", fn := fun _ => fun
  | [d] => { results := [.lit (.bool false)], args := [d] }
  | _ => none }
def OmapPlaysWrongFalsely : Prop := omapPlaysRow.holds Try.pinned (OpenSpec.ofChange omapPlaysWrong)

/-- 'ossuarylaw06.OmapRanges': WHATEVER THE INPUT: true; the input reads as it did. -/
def omapRangesSpec : ChangeSpec := { name := "omapRanges", fn := fun _ => fun
  | [d1, d2, d3, d4] => { results := [.lit (.bool true)], args := [d1, d2, d3, d4] }
  | _ => none }
def omapRangesRow : OpenClaim := { program := "ytcepjmkhooahnaa", sum := "4570ac6a65dba6630ae51c2b0b8661deca79e8eb86629abaacf27c893185e24d", func := "ossuary/ossuarylaw06.OmapRanges", spec := "omapRanges", unfollowed := true, recurses := true, apart := false }
def OmapRangesSaid : Prop := omapRangesRow.holds Try.pinned (OpenSpec.ofChange omapRangesSpec)

/-- ITS FALSE NEIGHBOUR: 'it returns false'. Refute it at one input. -/
def omapRangesWrong : ChangeSpec := { name := "omapRanges", fn := fun _ => fun
  | [d1, d2, d3, d4] => { results := [.lit (.bool false)], args := [d1, d2, d3, d4] }
  | _ => none }
def OmapRangesWrongFalsely : Prop := omapRangesRow.holds Try.pinned (OpenSpec.ofChange omapRangesWrong)

/-- 'ossuarylaw06.OmapCopies': WHATEVER THE INPUT: true; the input reads as it did. -/
def omapCopiesSpec : ChangeSpec := { name := "omapCopies", fn := fun _ => fun
  | [d1, d2] => { results := [.lit (.bool true)], args := [d1, d2] }
  | _ => none }
def omapCopiesRow : OpenClaim := { program := "ytcepjmkhooahnaa", sum := "4570ac6a65dba6630ae51c2b0b8661deca79e8eb86629abaacf27c893185e24d", func := "ossuary/ossuarylaw06.OmapCopies", spec := "omapCopies", unfollowed := true, recurses := true, apart := false }
def OmapCopiesSaid : Prop := omapCopiesRow.holds Try.pinned (OpenSpec.ofChange omapCopiesSpec)

/-- ITS FALSE NEIGHBOUR: 'it returns false'. Refute it at one input. -/
def omapCopiesWrong : ChangeSpec := { name := "omapCopies", fn := fun _ => fun
  | [d1, d2] => { results := [.lit (.bool false)], args := [d1, d2] }
  | _ => none }
def OmapCopiesWrongFalsely : Prop := omapCopiesRow.holds Try.pinned (OpenSpec.ofChange omapCopiesWrong)

/-- 'ossuarylaw06.OmapSorts': WHATEVER THE INPUT: true; the input reads as it did. -/
def omapSortsSpec : ChangeSpec := { name := "omapSorts", fn := fun _ => fun
  | [d] => { results := [.lit (.bool true)], args := [d] }
  | _ => none }
def omapSortsRow : OpenClaim := { program := "ytcepjmkhooahnaa", sum := "4570ac6a65dba6630ae51c2b0b8661deca79e8eb86629abaacf27c893185e24d", func := "ossuary/ossuarylaw06.OmapSorts", spec := "omapSorts", unfollowed := true, recurses := true, apart := false }
def OmapSortsSaid : Prop := omapSortsRow.holds Try.pinned (OpenSpec.ofChange omapSortsSpec)

/-- ITS FALSE NEIGHBOUR: 'it returns false'. Refute it at one input. -/
def omapSortsWrong : ChangeSpec := { name := "omapSorts", fn := fun _ => fun
  | [d] => { results := [.lit (.bool false)], args := [d] }
  | _ => none }
def OmapSortsWrongFalsely : Prop := omapSortsRow.holds Try.pinned (OpenSpec.ofChange omapSortsWrong)

/-- 'ossuarylaw06.OmapNils': WHATEVER THE INPUT: true; the input reads as it did. -/
def omapNilsSpec : ChangeSpec := { name := "omapNils", fn := fun _ => fun
  | [d1, d2] => { results := [.lit (.bool true)], args := [d1, d2] }
  | _ => none }
def omapNilsRow : OpenClaim := { program := "ytcepjmkhooahnaa", sum := "4570ac6a65dba6630ae51c2b0b8661deca79e8eb86629abaacf27c893185e24d", func := "ossuary/ossuarylaw06.OmapNils", spec := "omapNils", unfollowed := true, recurses := true, apart := false }
def OmapNilsSaid : Prop := omapNilsRow.holds Try.pinned (OpenSpec.ofChange omapNilsSpec)

/-- ITS FALSE NEIGHBOUR: 'it returns false'. Refute it at one input. -/
def omapNilsWrong : ChangeSpec := { name := "omapNils", fn := fun _ => fun
  | [d1, d2] => { results := [.lit (.bool false)], args := [d1, d2] }
  | _ => none }
def OmapNilsWrongFalsely : Prop := omapNilsRow.holds Try.pinned (OpenSpec.ofChange omapNilsWrong)

/- THE SECOND FORM. 'bulk': how many values and letters a reading holds, each counted each time it is reached (what is shared counts as often as it is met; a slice's spare places count too). A statement '..UptoSaid' is the law's where the arguments, and the package variables that the reading takes, are together of bulk at most 1048576: NARROWER than '..Said'. Prove '..Said' where nothing that the law and all that it calls make is longer than what came in: it says more and counts as full. Else prove '..UptoSaid'. A law counts once. -/
mutual
def uptoBulk {H : Type} : DataW H → Nat
  | .lit (.string bytes) => bytes.length + 1
  | .lit _ => 1
  | .nil => 1
  | .ptr d => uptoBulk d + 1
  | .slice elems spare => uptoBulkAll elems + uptoBulkAll spare + 1
  | .agg parts => uptoBulkAll parts + 1
  | .iface _ d => uptoBulk d + 1
  | .map entries => uptoBulkEntries entries + 1
  | .held _ => 1
def uptoBulkAll {H : Type} : List (DataW H) → Nat
  | [] => 0
  | d :: r => uptoBulk d + uptoBulkAll r
def uptoBulkEntries {H : Type} : List (Lit × DataW H) → Nat
  | [] => 0
  | x :: r => uptoBulkEntry x + uptoBulkEntries r
def uptoBulkEntry {H : Type} : Lit × DataW H → Nat
  | (.string bytes, d) => bytes.length + uptoBulk d + 1
  | (_, d) => uptoBulk d + 1
 end
def uptoSmall : (H : Type) → List (DataW H) → Bool := fun _ ds => decide (uptoBulkAll ds ≤ 1048576)
def OpenSpec.upto (s : _root_.Go.ChangeSpec) : _root_.Go.OpenSpec := { _root_.Go.OpenSpec.ofChange s with cond := some uptoSmall }

/-- 'ossuarylaw06.OmapPlays', WHERE WHAT IT READS IS OF BULK AT MOST 1048576: true; the input reads as it did. -/
def omapPlaysUptoRow : OpenClaim := { program := "ytcepjmkhooahnaa", sum := "4570ac6a65dba6630ae51c2b0b8661deca79e8eb86629abaacf27c893185e24d", func := "ossuary/ossuarylaw06.OmapPlays", spec := "omapPlays", unfollowed := true, recurses := true, apart := false, narrowed := true }
def OmapPlaysUptoSaid : Prop := omapPlaysUptoRow.holds Try.pinned (OpenSpec.upto omapPlaysSpec)

/-- 'ossuarylaw06.OmapRanges', WHERE WHAT IT READS IS OF BULK AT MOST 1048576: true; the input reads as it did. -/
def omapRangesUptoRow : OpenClaim := { program := "ytcepjmkhooahnaa", sum := "4570ac6a65dba6630ae51c2b0b8661deca79e8eb86629abaacf27c893185e24d", func := "ossuary/ossuarylaw06.OmapRanges", spec := "omapRanges", unfollowed := true, recurses := true, apart := false, narrowed := true }
def OmapRangesUptoSaid : Prop := omapRangesUptoRow.holds Try.pinned (OpenSpec.upto omapRangesSpec)

/-- 'ossuarylaw06.OmapCopies', WHERE WHAT IT READS IS OF BULK AT MOST 1048576: true; the input reads as it did. -/
def omapCopiesUptoRow : OpenClaim := { program := "ytcepjmkhooahnaa", sum := "4570ac6a65dba6630ae51c2b0b8661deca79e8eb86629abaacf27c893185e24d", func := "ossuary/ossuarylaw06.OmapCopies", spec := "omapCopies", unfollowed := true, recurses := true, apart := false, narrowed := true }
def OmapCopiesUptoSaid : Prop := omapCopiesUptoRow.holds Try.pinned (OpenSpec.upto omapCopiesSpec)

/-- 'ossuarylaw06.OmapSorts', WHERE WHAT IT READS IS OF BULK AT MOST 1048576: true; the input reads as it did. -/
def omapSortsUptoRow : OpenClaim := { program := "ytcepjmkhooahnaa", sum := "4570ac6a65dba6630ae51c2b0b8661deca79e8eb86629abaacf27c893185e24d", func := "ossuary/ossuarylaw06.OmapSorts", spec := "omapSorts", unfollowed := true, recurses := true, apart := false, narrowed := true }
def OmapSortsUptoSaid : Prop := omapSortsUptoRow.holds Try.pinned (OpenSpec.upto omapSortsSpec)

/-- 'ossuarylaw06.OmapNils', WHERE WHAT IT READS IS OF BULK AT MOST 1048576: true; the input reads as it did. -/
def omapNilsUptoRow : OpenClaim := { program := "ytcepjmkhooahnaa", sum := "4570ac6a65dba6630ae51c2b0b8661deca79e8eb86629abaacf27c893185e24d", func := "ossuary/ossuarylaw06.OmapNils", spec := "omapNils", unfollowed := true, recurses := true, apart := false, narrowed := true }
def OmapNilsUptoSaid : Prop := omapNilsUptoRow.holds Try.pinned (OpenSpec.upto omapNilsSpec)

end Rows
end Go.Proofs.Ytcepjmkhooahnaa
