
/-
  Cells by the program and by the document: one value's cell, a mean, which are right.
-/
import Derived.Test.YtghplmgpnnaofaaMa
import Derived.Laws.ResultCell
import Derived.Laws.StructEq
import Derived.Deep.RegionWith
namespace Go.Proofs.Ytghplmgpnnaofaa
open Go.RowKit

theorem results_cell {fn : Func} {p : Tmp} {ty : TypeId} (h : fn.results = #[.cell p ty]) (tmps : Array Value) (P : Program) (w : World) :
    (results fn tmps).run P w = ((asAddr (tmps.getD p undef)).run P w).andThen fun a w₁ => (loadVar ty a).run P w₁ := by
  simp only [results, h]
  simp [Sem.run_bind, Result.andThen]

/-- A cell, as a value. -/
def cv (c : Cl) : Value := .agg #[.int .i64 c.n, .int .i64 c.s, .int .i64 c.lo, .int .i64 c.hi]
/-- Numbers that an int64 holds. -/
def okC (c : Cl) : Prop := fit c.n = true ∧ fit c.s = true ∧ fit c.lo = true ∧ fit c.hi = true

set_option maxRecDepth 100000 in
set_option maxHeartbeats 400000 in
theorem of_any (v : Int) (w : World) :
    Calls Try.prog 17 #[.int .i64 v] w fun e w' => e = .returned (.agg #[.int .i64 1, .int .i64 v, .int .i64 v, .int .i64 v]) ∧ w' = w.alloc (.cells #[.int .i64 1, .int .i64 v, .int .i64 v, .int .i64 v] 25) := by
  go_enter Try.func17, Try.ntmps17
  go_wp2
  refine bodyPost_ret (v := .agg #[.int .i64 1, .int .i64 v, .int .i64 v, .int .i64 v]) ?_ rfl ⟨rfl, rfl⟩
  rw [results_cell rfl]
  go_simp
set_option maxRecDepth 100000 in
set_option maxHeartbeats 400000 in
theorem ref_of (v : Int) (w : World) :
    Calls Try.prog 19 #[.int .i64 v] w fun e w' => e = .returned (.agg #[.int .i64 1, .int .i64 v, .int .i64 v, .int .i64 v]) ∧ w' = w.alloc (.cells #[.int .i64 1, .int .i64 v, .int .i64 v, .int .i64 v] 25) := by
  go_enter Try.func19, Try.ntmps19
  go_wp2
  refine bodyPost_ret (v := .agg #[.int .i64 1, .int .i64 v, .int .i64 v, .int .i64 v]) ?_ rfl ⟨rfl, rfl⟩
  rw [results_cell rfl]
  go_simp

/-- What Mean answers. -/
def meanV (n s : Int) : Value := if n < 1 then .tuple #[.int .i64 0, .bool false] else .tuple #[.int .i64 (s / n), .bool true]
theorem meanV_shape (n s : Int) : ∃ x b, meanV n s = .tuple #[.int .i64 x, .bool b] := by
  unfold meanV
  split <;> exact ⟨_, _, rfl⟩
theorem mean_no {n s : Int} (h : n < 1) : Ending.returned (.tuple #[.int .i64 0, .bool false]) = .returned (meanV n s) := by
  unfold meanV
  rw [if_pos h]
theorem mean_div {n s : Int} (hs : fit s = true) (h : 1 ≤ n) : wrap64 (s.tdiv n) = s.tdiv n := by
  rw [fit_iff] at hs
  have h1 : (s.tdiv n).natAbs ≤ s.natAbs := by rw [Int.natAbs_tdiv]; exact Nat.div_le_self _ _
  unfold wrap64
  generalize hq : s.tdiv n = q at *
  by_cases h0 : 0 ≤ s
  · have : 0 ≤ q := by rw [← hq]; exact Int.tdiv_nonneg h0 (by omega)
    omega
  · have h2 : 0 ≤ (-s).tdiv n := Int.tdiv_nonneg (by omega) (by omega)
    rw [Int.neg_tdiv, hq] at h2
    omega
theorem mean_a {n s : Int} (hs : fit s = true) (h : 1 ≤ n) (g : s.tmod n < 0) : Ending.returned (.tuple #[.int .i64 (wrap64 (wrap64 (s.tdiv n) - 1)), .bool true]) = .returned (meanV n s) := by
  have hf := floor_of s n (by omega)
  rw [if_pos g] at hf
  rw [mean_div hs h, hf]
  unfold meanV
  rw [if_neg (by omega)]
  refine ret_pair ?_
  rw [fit_iff] at hs
  have h1 := Int.ediv_mul_le s (b := n) (by omega)
  have h2 := Int.lt_ediv_add_one_mul_self s (b := n) (by omega)
  have h3 : -9223372036854775808 ≤ s / n := by
    rw [Int.le_ediv_iff_mul_le (by omega)]
    have : (-9223372036854775808 : Int) * n ≤ -9223372036854775808 * 1 := by omega
    omega
  have h4 : s / n ≤ 9223372036854775807 := by
    have h5 : s / n < 9223372036854775808 := by
      rw [Int.ediv_lt_iff_lt_mul (by omega)]
      omega
    omega
  unfold wrap64
  omega
theorem mean_b {n s : Int} (hs : fit s = true) (h : 1 ≤ n) (g : 0 ≤ s.tmod n) : Ending.returned (.tuple #[.int .i64 (wrap64 (s.tdiv n)), .bool true]) = .returned (meanV n s) := by
  have hf := floor_of s n (by omega)
  rw [if_neg (by omega)] at hf
  rw [mean_div hs h, hf]
  unfold meanV
  rw [if_neg (by omega)]

set_option maxRecDepth 100000 in
set_option maxHeartbeats 400000 in
theorem mean_any (n s lo hi : Int) (w : World) (hs : Hid (fit s = true)) :
    Calls Try.prog 11 #[.agg #[.int .i64 n, .int .i64 s, .int .i64 lo, .int .i64 hi]] w fun e w' => e = .returned (meanV n s) ∧ Turn (fun _ => False) w w' := by
  go_enter Try.func11, Try.ntmps11
  go_wp2
  · go_ret2
    exact ⟨mean_no (by assumption), (Turn.refl _ w).alloc _⟩
  · go_ret2
    exact ⟨mean_a hs.out (by assumption) (by assumption), (Turn.refl _ w).alloc _⟩
  · go_ret2
    exact ⟨mean_b hs.out (by assumption) (by assumption), (Turn.refl _ w).alloc _⟩
set_option maxRecDepth 100000 in
set_option maxHeartbeats 400000 in
theorem ref_mean (n s lo hi : Int) (w : World) (hs : Hid (fit s = true)) :
    Calls Try.prog 12 #[.agg #[.int .i64 n, .int .i64 s, .int .i64 lo, .int .i64 hi]] w fun e w' => e = .returned (meanV n s) ∧ Turn (fun _ => False) w w' := by
  go_enter Try.func12, Try.ntmps12
  go_wp2
  · go_ret2
    exact ⟨mean_no (by assumption), (Turn.refl _ w).alloc _⟩
  · go_ret2
    exact ⟨mean_a hs.out (by assumption) (by assumption), (Turn.refl _ w).alloc _⟩
  · go_ret2
    exact ⟨mean_b hs.out (by assumption) (by assumption), (Turn.refl _ w).alloc _⟩

theorem rightC_eq (n s lo hi : Int) : rightC ⟨n, s, lo, hi⟩ = true ↔ (n = 0 ∧ s = 0 ∧ lo = 0 ∧ hi = 0) ∨ (0 < n ∧ lo ≤ hi ∧ (1 < n ∨ (s = lo ∧ s = hi))) := by
  unfold rightC
  by_cases h : n = 0
  · subst h
    simp [Cl.zero]
  · simp only [if_neg h, Bool.and_eq_true, Bool.or_eq_true, decide_eq_true_iff]
    constructor
    · exact fun g => .inr g
    · rintro (g | g)
      · exact absurd g.1 h
      · exact g
theorem right_is {n s lo hi : Int} {b : Bool} (h : b = true ↔ (n = 0 ∧ s = 0 ∧ lo = 0 ∧ hi = 0) ∨ (0 < n ∧ lo ≤ hi ∧ (1 < n ∨ (s = lo ∧ s = hi)))) : b = rightC ⟨n, s, lo, hi⟩ := by
  rw [Bool.eq_iff_iff, rightC_eq]
  exact h

theorem right_t {n s lo hi : Int} (h : (n = 0 ∧ s = 0 ∧ lo = 0 ∧ hi = 0) ∨ (0 < n ∧ lo ≤ hi ∧ (1 < n ∨ (s = lo ∧ s = hi)))) : true = rightC ⟨n, s, lo, hi⟩ := right_is ⟨fun _ => h, fun _ => rfl⟩
theorem right_f {n s lo hi : Int} (h : ¬ ((n = 0 ∧ s = 0 ∧ lo = 0 ∧ hi = 0) ∨ (0 < n ∧ lo ≤ hi ∧ (1 < n ∨ (s = lo ∧ s = hi))))) : false = rightC ⟨n, s, lo, hi⟩ := right_is ⟨fun e => (by cases e), fun g => absurd g h⟩
theorem right_d {n s lo hi : Int} {q : Prop} [Decidable q] (h : q ↔ ((n = 0 ∧ s = 0 ∧ lo = 0 ∧ hi = 0) ∨ (0 < n ∧ lo ≤ hi ∧ (1 < n ∨ (s = lo ∧ s = hi))))) : decide q = rightC ⟨n, s, lo, hi⟩ := right_is (by rw [decide_eq_true_iff]; exact h)
theorem right_b {n s lo hi a b : Int} (h : a = b ↔ ((n = 0 ∧ s = 0 ∧ lo = 0 ∧ hi = 0) ∨ (0 < n ∧ lo ≤ hi ∧ (1 < n ∨ (s = lo ∧ s = hi))))) : (a == b) = rightC ⟨n, s, lo, hi⟩ := right_is (by rw [beq_iff_eq]; exact h)

theorem right_o {n s lo hi a b : Int} {q : Prop} [Decidable q] (h : (q ∨ a = b) ↔ ((n = 0 ∧ s = 0 ∧ lo = 0 ∧ hi = 0) ∨ (0 < n ∧ lo ≤ hi ∧ (1 < n ∨ (s = lo ∧ s = hi))))) : (decide q || a == b) = rightC ⟨n, s, lo, hi⟩ := right_is (by rw [Bool.or_eq_true, decide_eq_true_iff, beq_iff_eq]; exact h)

set_option maxRecDepth 100000 in
set_option maxHeartbeats 1000000 in
theorem right_any (n s lo hi : Int) (w : World) :
    Calls Try.prog 13 #[.agg #[.int .i64 n, .int .i64 s, .int .i64 lo, .int .i64 hi]] w fun e w' => e = .returned (.bool (rightC ⟨n, s, lo, hi⟩)) ∧ Turn (fun _ => False) w w' := by
  by_cases hn : n = 1
  · subst hn
    by_cases h1 : lo = s
    · by_cases h2 : hi = s
      · subst h1 h2
        go_enter Try.func13, Try.ntmps13
        go_wp2_with fail
        go_region_with (go_at_call 17; refine (of_any _ _).mono ?_; rintro e w' ⟨rfl, rfl⟩)
        all_goals go_wp2
        all_goals go_ret
        all_goals exact ⟨ret_bool (right_is (by simp)), ((Turn.refl _ w).alloc _).drew.alloc _⟩
      · have h2' : ¬ s = hi := fun e => h2 e.symm
        go_enter Try.func13, Try.ntmps13
        go_wp2_with fail
        go_region_with (go_at_call 17; refine (of_any _ _).mono ?_; rintro e w' ⟨rfl, rfl⟩)
        all_goals go_wp2
        all_goals go_ret
        all_goals exact ⟨ret_bool (right_is (by simp; omega)), ((Turn.refl _ w).alloc _).drew.alloc _⟩
    · have h1' : ¬ s = lo := fun e => h1 e.symm
      go_enter Try.func13, Try.ntmps13
      go_wp2_with fail
      go_region_with (go_at_call 17; refine (of_any _ _).mono ?_; rintro e w' ⟨rfl, rfl⟩)
      all_goals go_wp2
      all_goals go_ret
      all_goals exact ⟨ret_bool (right_is (by simp; omega)), ((Turn.refl _ w).alloc _).drew.alloc _⟩
  · have hn1 : (n == 1) = false := by rw [beq_eq_false_iff_ne]; exact hn
    go_enter Try.func13, Try.ntmps13
    go_wp2
    all_goals go_ret
    all_goals
      simp only [beq_iff_eq, beq_eq_false_iff_ne, ne_eq] at *
      first
        | exact ⟨ret_bool (right_t (by omega)), (Turn.refl _ w).alloc _⟩
        | exact ⟨ret_bool (right_f (by omega)), (Turn.refl _ w).alloc _⟩
        | exact ⟨ret_bool (right_d (by omega)), (Turn.refl _ w).alloc _⟩
        | exact ⟨ret_bool (right_b (by omega)), (Turn.refl _ w).alloc _⟩

set_option maxRecDepth 100000 in
set_option maxHeartbeats 1000000 in
theorem ref_right (n s lo hi : Int) (w : World) :
    Calls Try.prog 14 #[.agg #[.int .i64 n, .int .i64 s, .int .i64 lo, .int .i64 hi]] w fun e w' => e = .returned (.bool (rightC ⟨n, s, lo, hi⟩)) ∧ Turn (fun _ => False) w w' := by
  go_enter Try.func14, Try.ntmps14
  go_wp2
  all_goals go_ret
  all_goals
    simp only [beq_iff_eq, beq_eq_false_iff_ne, ne_eq] at *
    first
      | exact ⟨ret_bool (right_t (by omega)), (Turn.refl _ w).alloc _⟩
      | exact ⟨ret_bool (right_f (by omega)), (Turn.refl _ w).alloc _⟩
      | exact ⟨ret_bool (right_d (by omega)), (Turn.refl _ w).alloc _⟩
      | exact ⟨ret_bool (right_b (by omega)), (Turn.refl _ w).alloc _⟩
      | exact ⟨ret_bool (right_o (by omega)), (Turn.refl _ w).alloc _⟩

end Go.Proofs.Ytghplmgpnnaofaa
