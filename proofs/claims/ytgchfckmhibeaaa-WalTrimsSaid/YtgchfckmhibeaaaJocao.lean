/-
  Texts laid one behind the other: R1o.
-/
import Derived.Test.YtgchfckmhibeaaaJocai
import Derived.Test.YtgchfckmhibeaaaJocan
import Derived.Lib.SmallJoins

/-
  Stage 17: batches that came in.
-/
namespace Go.Proofs.Ytgchfckmhibeaaa
open Go.RowKit Go.ChangeShapes Go.WideShapes Go.Deep

set_option maxRecDepth 100000

theorem open_facts_in17 {H : Type} {enc : TypeId × Value → H} {W : World} {fuel : Nat} {cs : List Value} {x : DataW H × List MemPlace}
    (hf : DataW.trod enc Try.prog W 0 (fun _ => true) true fuel 43 cs = some x) : ∃ v l, cs = [v] ∧ RdE EF W v l ∧ l.length ≤ maxLen := by
  have key : ∀ (a : Option Addr) (len cap : Nat), cs = [.slice a len cap] → ∃ v l, cs = [v] ∧ RdE EF W v l ∧ l.length ≤ maxLen := fun a len cap hcs => by
    obtain ⟨d, p⟩ := x
    obtain ⟨l, h1, h2, _⟩ := open_facts9 (enc := enc) (W := W) (v := .slice a len cap) (d := d) (p := p) rfl ⟨fuel, by
      show DataW.trod enc Try.prog W 0 (fun _ => true) true fuel _ _ = _
      rw [hcs] at hf
      simpa [Value.cells] using hf⟩
    exact ⟨_, l, hcs, h1, h2⟩
  rcases open_slice Try.underlying43 hf with ⟨hcs, _⟩ | ⟨a', len, cap, m, n, D, Pl, hcs, _⟩
  · exact key _ _ _ hcs
  · exact key _ _ _ hcs
theorem fits17 {x : Int} (h : (Lit.int .i64 x).wf = true) : I64 x := by
  unfold I64
  simpa [Lit.wf, IntKind.min, IntKind.max, IntKind.signed, IntKind.bits] using h
theorem open_bat17 {H : Type} {enc : TypeId × Value → H} {W : World} (n : Nat) (cs : List Value) (y : DataW H × List MemPlace) (hl : cs.length = EB17.sz) (h : DataW.trod enc Try.prog W 0 (fun _ => true) true n 52 cs = some y) :
    ∃ b, cs = EB17.enc b ∧ (RdE EF W b.sl b.f ∧ b.f.length ≤ maxLen ∧ b.fits) := by
  obtain ⟨y0, y1, y2, y3, n', _, _, g0, g1, g2, g3⟩ := Go.Joins.trod_struct4 Try.underlying52 h
  have e1 : Try.prog.cellsOf 2 = 1 := by kernel_rfl
  have e4 : Try.prog.cellsOf 43 = 1 := by kernel_rfl
  match cs, hl with
  | [c0, c1, c2, c3], _ =>
    simp [e1, e4] at g0 g1 g2 g3
    obtain ⟨K, k0, _, kw⟩ := DataW.trod_int Try.underlying2 g0
    obtain ⟨K1, k1, _, kw1⟩ := DataW.trod_int Try.underlying2 g1
    obtain ⟨K2, k2, _, kw2⟩ := DataW.trod_int Try.underlying2 g2
    obtain ⟨v, l, k3, hr, hl3⟩ := open_facts_in17 g3
    simp only [List.cons.injEq, and_true] at k0 k1 k2 k3
    subst k0 k1 k2 k3
    obtain ⟨A, c, rfl⟩ := hr.shape
    exact ⟨⟨K, K1, K2, A, c, l⟩, rfl, hr, hl3, fits17 kw, fits17 kw1, fits17 kw2⟩
theorem open_bats17 {H : Type} {enc : TypeId × Value → H} {W : World} {v : Value} {d : DataW H} {p : List MemPlace} {a : Option Addr} {len cap : Nat} (hv : v = .slice a len cap)
    (h : DataW.Trod enc Try.prog W 0 (fun _ => true) true 23 v d p) : ∃ l : List B17, BR17 W v l ∧ l.length ≤ maxLen ∧ ∀ b ∈ l, b.f.length ≤ maxLen ∧ b.fits := by
  obtain ⟨l, h1, h2, h3⟩ := open_elems EB17 (fun b => RdE EF W b.sl b.f ∧ b.f.length ≤ maxLen ∧ b.fits) Try.underlying23 (by kernel_rfl) hv h open_bat17
  exact ⟨l, ⟨h1, fun b hb => (h3 b hb).1⟩, h2, fun b hb => (h3 b hb).2⟩

end Go.Proofs.Ytgchfckmhibeaaa
