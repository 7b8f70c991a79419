
/-
  Stage 10: texts that came in.
-/
import Derived.Test.YtnapeckpjnbcgaaDca
import Derived.Test.YtnapeckpjnbcgaaGf
namespace Go.Proofs.Ytnapeckpjnbcgaa
open Go.RowKit Go.ChangeShapes Go.WideShapes Go.Deep

theorem open_str10 {H : Type} {enc : TypeId × Value → H} {W : World} (n : Nat) (cs : List Value) (y : DataW H × List MemPlace) (hl : cs.length = ET10.sz) (h : DataW.trod enc Try.prog W 0 (fun _ => true) true n 9 cs = some y) :
    ∃ x, cs = ET10.enc x ∧ x.length ≤ maxLen := by
  match cs, hl with
  | [c0], _ =>
    obtain ⟨S, k0, _, sw⟩ := DataW.trod_string Try.underlying9 h
    simp only [List.cons.injEq, and_true] at k0
    subst k0
    exact ⟨S.data.toList, by simp [ET10], by rw [Array.length_toList]; exact sw⟩
theorem open_texts10 {H : Type} {enc : TypeId × Value → H} {W : World} {v : Value} {d : DataW H} {p : List MemPlace} {a : Option Addr} {len cap : Nat} (hv : v = .slice a len cap)
    (h : DataW.Trod enc Try.prog W 0 (fun _ => true) true 22 v d p) : ∃ l : List (List UInt8), RdE ET10 W v l ∧ l.length ≤ maxLen ∧ ∀ x ∈ l, x.length ≤ maxLen :=
  open_elems ET10 (fun x => x.length ≤ maxLen) Try.underlying22 (by kernel_rfl) hv h open_str10

end Go.Proofs.Ytnapeckpjnbcgaa
