
/-
  Cells by the program and by the document: one value's cell, a mean, which are right.
-/
import Derived.Test.YtejilonhdgfkbaaMa
import Derived.Laws.ResultCell
import Derived.Laws.StructEq
import Derived.Deep.RegionWith
namespace Go.Proofs.Ytejilonhdgfkbaa
open Go.RowKit

theorem results_cell {fn : Func} {p : Tmp} {ty : TypeId} (h : fn.results = #[.cell p ty]) (tmps : Array Value) (P : Program) (w : World) :
    (results fn tmps).run P w = ((asAddr (tmps.getD p undef)).run P w).andThen fun a w₁ => (loadVar ty a).run P w₁ := by
  simp only [results, h]
  simp [Sem.run_bind, Result.andThen]

/-- A cell, as a value. -/
def cv (c : Cl) : Value := .agg #[.int .i64 c.n, .int .i64 c.s, .int .i64 c.lo, .int .i64 c.hi]
/-- Numbers that an int64 holds. -/
def okC (c : Cl) : Prop := fit c.n = true ∧ fit c.s = true ∧ fit c.lo = true ∧ fit c.hi = true

/-- What Mean answers. -/
def meanV (n s : Int) : Value := if n < 1 then .tuple #[.int .i64 0, .bool false] else .tuple #[.int .i64 (s / n), .bool true]
theorem meanV_shape (n s : Int) : ∃ x b, meanV n s = .tuple #[.int .i64 x, .bool b] := by
  unfold meanV
  split <;> exact ⟨_, _, rfl⟩
theorem mean_no {n s : Int} (h : n < 1) : Ending.returned (.tuple #[.int .i64 0, .bool false]) = .returned (meanV n s) := by
  unfold meanV
  rw [if_pos h]
theorem mean_div {n s : Int} (hs : fit s = true) (h : 1 ≤ n) : wrap64 (s.tdiv n) = s.tdiv n := by
  rw [fit_iff] at hs
  have h1 : (s.tdiv n).natAbs ≤ s.natAbs := by rw [Int.natAbs_tdiv]; exact Nat.div_le_self _ _
  unfold wrap64
  generalize hq : s.tdiv n = q at *
  by_cases h0 : 0 ≤ s
  · have : 0 ≤ q := by rw [← hq]; exact Int.tdiv_nonneg h0 (by omega)
    omega
  · have h2 : 0 ≤ (-s).tdiv n := Int.tdiv_nonneg (by omega) (by omega)
    rw [Int.neg_tdiv, hq] at h2
    omega
theorem mean_a {n s : Int} (hs : fit s = true) (h : 1 ≤ n) (g : s.tmod n < 0) : Ending.returned (.tuple #[.int .i64 (wrap64 (wrap64 (s.tdiv n) - 1)), .bool true]) = .returned (meanV n s) := by
  have hf := floor_of s n (by omega)
  rw [if_pos g] at hf
  rw [mean_div hs h, hf]
  unfold meanV
  rw [if_neg (by omega)]
  refine ret_pair ?_
  rw [fit_iff] at hs
  have h1 := Int.ediv_mul_le s (b := n) (by omega)
  have h2 := Int.lt_ediv_add_one_mul_self s (b := n) (by omega)
  have h3 : -9223372036854775808 ≤ s / n := by
    rw [Int.le_ediv_iff_mul_le (by omega)]
    have : (-9223372036854775808 : Int) * n ≤ -9223372036854775808 * 1 := by omega
    omega
  have h4 : s / n ≤ 9223372036854775807 := by
    have h5 : s / n < 9223372036854775808 := by
      rw [Int.ediv_lt_iff_lt_mul (by omega)]
      omega
    omega
  unfold wrap64
  omega
theorem mean_b {n s : Int} (hs : fit s = true) (h : 1 ≤ n) (g : 0 ≤ s.tmod n) : Ending.returned (.tuple #[.int .i64 (wrap64 (s.tdiv n)), .bool true]) = .returned (meanV n s) := by
  have hf := floor_of s n (by omega)
  rw [if_neg (by omega)] at hf
  rw [mean_div hs h, hf]
  unfold meanV
  rw [if_neg (by omega)]

theorem rightC_eq (n s lo hi : Int) : rightC ⟨n, s, lo, hi⟩ = true ↔ (n = 0 ∧ s = 0 ∧ lo = 0 ∧ hi = 0) ∨ (0 < n ∧ lo ≤ hi ∧ (1 < n ∨ (s = lo ∧ s = hi))) := by
  unfold rightC
  by_cases h : n = 0
  · subst h
    simp [Cl.zero]
  · simp only [if_neg h, Bool.and_eq_true, Bool.or_eq_true, decide_eq_true_iff]
    constructor
    · exact fun g => .inr g
    · rintro (g | g)
      · exact absurd g.1 h
      · exact g
theorem right_is {n s lo hi : Int} {b : Bool} (h : b = true ↔ (n = 0 ∧ s = 0 ∧ lo = 0 ∧ hi = 0) ∨ (0 < n ∧ lo ≤ hi ∧ (1 < n ∨ (s = lo ∧ s = hi)))) : b = rightC ⟨n, s, lo, hi⟩ := by
  rw [Bool.eq_iff_iff, rightC_eq]
  exact h

theorem right_t {n s lo hi : Int} (h : (n = 0 ∧ s = 0 ∧ lo = 0 ∧ hi = 0) ∨ (0 < n ∧ lo ≤ hi ∧ (1 < n ∨ (s = lo ∧ s = hi)))) : true = rightC ⟨n, s, lo, hi⟩ := right_is ⟨fun _ => h, fun _ => rfl⟩
theorem right_f {n s lo hi : Int} (h : ¬ ((n = 0 ∧ s = 0 ∧ lo = 0 ∧ hi = 0) ∨ (0 < n ∧ lo ≤ hi ∧ (1 < n ∨ (s = lo ∧ s = hi))))) : false = rightC ⟨n, s, lo, hi⟩ := right_is ⟨fun e => (by cases e), fun g => absurd g h⟩
theorem right_d {n s lo hi : Int} {q : Prop} [Decidable q] (h : q ↔ ((n = 0 ∧ s = 0 ∧ lo = 0 ∧ hi = 0) ∨ (0 < n ∧ lo ≤ hi ∧ (1 < n ∨ (s = lo ∧ s = hi))))) : decide q = rightC ⟨n, s, lo, hi⟩ := right_is (by rw [decide_eq_true_iff]; exact h)
theorem right_b {n s lo hi a b : Int} (h : a = b ↔ ((n = 0 ∧ s = 0 ∧ lo = 0 ∧ hi = 0) ∨ (0 < n ∧ lo ≤ hi ∧ (1 < n ∨ (s = lo ∧ s = hi))))) : (a == b) = rightC ⟨n, s, lo, hi⟩ := right_is (by rw [beq_iff_eq]; exact h)

theorem right_o {n s lo hi a b : Int} {q : Prop} [Decidable q] (h : (q ∨ a = b) ↔ ((n = 0 ∧ s = 0 ∧ lo = 0 ∧ hi = 0) ∨ (0 < n ∧ lo ≤ hi ∧ (1 < n ∨ (s = lo ∧ s = hi))))) : (decide q || a == b) = rightC ⟨n, s, lo, hi⟩ := right_is (by rw [Bool.or_eq_true, decide_eq_true_iff, beq_iff_eq]; exact h)

end Go.Proofs.Ytejilonhdgfkbaa
