
/-
  Acts on a map that came in.
-/
import Derived.Test.YtcepjmkhooahnaaGf
namespace Go.Proofs.Ytcepjmkhooahnaa
open Go.RowKit Go.ChangeShapes Go.WideShapes Go.Deep

/-- An act: its kind, a key, a text. -/
structure AC where
  kind : Int
  k : Int
  v : List UInt8
instance : Inhabited AC := ⟨⟨0, 0, []⟩⟩
def EA : El AC where
  sz := 3
  enc a := [.int .i64 a.kind, .int .i64 a.k, .string ⟨a.v.toArray⟩]
  len _ := rfl
  one a u hu := by
    simp only [List.mem_cons, List.not_mem_nil, or_false] at hu
    rcases hu with rfl | rfl | rfl <;> rfl
def AC.ok (a : AC) : Prop := (Lit.int .i64 a.kind).wf = true ∧ (Lit.int .i64 a.k).wf = true ∧ a.v.length ≤ maxLen
theorem open_act {H : Type} {enc : TypeId × Value → H} {W : World} (n : Nat) (cs : List Value) (y : DataW H × List MemPlace) (hl : cs.length = EA.sz) (h : DataW.trod enc Try.prog W 0 (fun _ => true) true n 32 cs = some y) :
    ∃ x, cs = EA.enc x ∧ AC.ok x := by
  obtain ⟨y0, y1, y2, n', _, _, g0, g1, g2⟩ := trod_struct3 Try.underlying32 h
  have e3 : Try.prog.cellsOf 3 = 1 := by kernel_rfl
  have e2 : Try.prog.cellsOf 2 = 1 := by kernel_rfl
  have e9 : Try.prog.cellsOf 9 = 1 := by kernel_rfl
  match cs, hl with
  | [c0, c1, c2], _ =>
    simp [e3, e2, e9] at g0 g1 g2
    obtain ⟨K, k0, _, kw⟩ := DataW.trod_int Try.underlying3 g0
    obtain ⟨M, k1, _, mw⟩ := DataW.trod_int Try.underlying2 g1
    obtain ⟨S, k2, _, sw⟩ := DataW.trod_string Try.underlying9 g2
    simp only [List.cons.injEq, and_true] at k0 k1 k2
    subst k0 k1 k2
    exact ⟨⟨K, M, S.data.toList⟩, by simp [EA], kw, mw, by show S.data.toList.length ≤ _; rw [Array.length_toList]; exact sw⟩
theorem open_acts {H : Type} {enc : TypeId × Value → H} {W : World} {v : Value} {d : DataW H} {p : List MemPlace} {a : Option Addr} {len cap : Nat} (hv : v = .slice a len cap)
    (h : DataW.Trod enc Try.prog W 0 (fun _ => true) true 22 v d p) : ∃ l : List AC, RdE EA W v l ∧ l.length ≤ maxLen ∧ ∀ x ∈ l, AC.ok x :=
  open_elems EA AC.ok Try.underlying22 (by kernel_rfl) hv h open_act

end Go.Proofs.Ytcepjmkhooahnaa
