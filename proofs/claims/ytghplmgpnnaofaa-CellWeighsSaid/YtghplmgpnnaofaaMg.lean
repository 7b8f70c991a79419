
/-
  A cell, and a slice of numbers, that came in.
-/
import Derived.Test.YtghplmgpnnaofaaMf
import Derived.Lib.SmallJoins
namespace Go.Proofs.Ytghplmgpnnaofaa
open Go.RowKit Go.ChangeShapes Go.WideShapes Go.Deep

theorem fit_of {x : Int} (h : (Lit.int .i64 x).wf = true) : fit x = true := by
  rw [fit_iff]
  simpa [Lit.wf, IntKind.min, IntKind.max, IntKind.signed, IntKind.bits] using h
theorem one_i64 {H : Type} {enc : TypeId × Value → H} {W : World} {n : Nat} {v : Value} {y : DataW H × List MemPlace} (h : DataW.trod enc Try.prog W 0 (fun _ => true) true n 2 [v] = some y) : ∃ x, v = .int .i64 x ∧ fit x = true := by
  obtain ⟨K, k0, _, kw⟩ := DataW.trod_int Try.underlying2 h
  simp only [List.cons.injEq, and_true] at k0
  exact ⟨K, k0, fit_of kw⟩
theorem open_cell {H : Type} {enc : TypeId × Value → H} {W : World} {b0 : Nat} {v : Value} {d : DataW H} {p : List MemPlace} (hv : Value.okWide Try.prog W .any b0 25 v) (h : DataW.Trod enc Try.prog W 0 (fun _ => true) true 25 v d p) :
    ∃ n s lo hi, v = .agg #[.int .i64 n, .int .i64 s, .int .i64 lo, .int .i64 hi] ∧ okC ⟨n, s, lo, hi⟩ := by
  obtain ⟨v0, v1, v2, v3, y0, y1, y2, y3, n, rfl, _, _, h0, h1, h2, h3⟩ := Go.Joins.open_agg4 Try.underlying25 (by kernel_rfl) (by kernel_rfl) hv h
  obtain ⟨x0, rfl, f0⟩ := one_i64 h0
  obtain ⟨x1, rfl, f1⟩ := one_i64 h1
  obtain ⟨x2, rfl, f2⟩ := one_i64 h2
  obtain ⟨x3, rfl, f3⟩ := one_i64 h3
  exact ⟨x0, x1, x2, x3, rfl, f0, f1, f2, f3⟩

/-- A cell laid in memory stays as it is where nothing that was there turns. -/
theorem cell_keep {w : World} {c : Cl} (w' : World) (h : Turn (fun _ => False) (w.alloc (.cells (ca c) 25)) w') :
    w'.cell? ⟨w.heap.size, 0, none⟩ = some (.int .i64 c.n) ∧ w'.cell? ⟨w.heap.size, 1, none⟩ = some (.int .i64 c.s) ∧ w'.cell? ⟨w.heap.size, 2, none⟩ = some (.int .i64 c.lo) ∧ w'.cell? ⟨w.heap.size, 3, none⟩ = some (.int .i64 c.hi) := by
  have hb := (Box.new w 25 (ca c)).turn h (fun f => f)
  exact ⟨hb.cell 0, hb.cell 1, hb.cell 2, hb.cell 3⟩
theorem cell_held {w w2 : World} {c : Cl} (h : Turn (fun _ => False) (w.alloc (.cells (ca c) 25)) w2) (w' : World) (ht : Turn (fun _ => False) w2 w') :
    (w'.cell? ⟨w.heap.size, 0, none⟩ = some (.int .i64 c.n) ∧ w'.cell? ⟨w.heap.size, 1, none⟩ = some (.int .i64 c.s) ∧ w'.cell? ⟨w.heap.size, 2, none⟩ = some (.int .i64 c.lo) ∧ w'.cell? ⟨w.heap.size, 3, none⟩ = some (.int .i64 c.hi)) ∧ Turn (fun _ => False) w2 w' :=
  ⟨cell_keep _ (h.trans ht (fun _ _ f => f)), ht⟩

end Go.Proofs.Ytghplmgpnnaofaa
