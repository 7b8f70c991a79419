/-
  Texts laid one behind the other: Mb Mc Sc Zc Sd Md Es Eh.
-/
import Derived.Test.YtnnlgeldjjknmaaJocab
import Derived.Laws.ResultCell
import Derived.Laws.StructEq
import Derived.Deep.RegionWith
import Derived.Test.YtnnlgeldjjknmaaJocaa
import Derived.Deep.RegionHeld3
import Derived.Laws.OwnMore
import Derived.Laws.Slices

/-
  Cells by the program and by the document: one value's cell, a mean, which are right.
-/
namespace Go.Proofs.Ytnnlgeldjjknmaa
open Go.RowKit

theorem results_cell {fn : Func} {p : Tmp} {ty : TypeId} (h : fn.results = #[.cell p ty]) (tmps : Array Value) (P : Program) (w : World) :
    (results fn tmps).run P w = ((asAddr (tmps.getD p undef)).run P w).andThen fun a w₁ => (loadVar ty a).run P w₁ := by
  simp only [results, h]
  simp [Sem.run_bind, Result.andThen]

/-- A cell, as a value. -/
def cv (c : Cl) : Value := .agg #[.int .i64 c.n, .int .i64 c.s, .int .i64 c.lo, .int .i64 c.hi]
/-- Numbers that an int64 holds. -/
def okC (c : Cl) : Prop := fit c.n = true ∧ fit c.s = true ∧ fit c.lo = true ∧ fit c.hi = true

set_option maxRecDepth 100000 in
set_option maxHeartbeats 400000 in
theorem of_any (v : Int) (w : World) :
    Calls Try.prog 30 #[.int .i64 v] w fun e w' => e = .returned (.agg #[.int .i64 1, .int .i64 v, .int .i64 v, .int .i64 v]) ∧ w' = w.alloc (.cells #[.int .i64 1, .int .i64 v, .int .i64 v, .int .i64 v] 47) := by
  go_enter Try.func30, Try.ntmps30
  go_wp2
  refine bodyPost_ret (v := .agg #[.int .i64 1, .int .i64 v, .int .i64 v, .int .i64 v]) ?_ rfl ⟨rfl, rfl⟩
  rw [results_cell rfl]
  go_simp
set_option maxRecDepth 100000 in
set_option maxHeartbeats 400000 in
theorem ref_of (v : Int) (w : World) :
    Calls Try.prog 35 #[.int .i64 v] w fun e w' => e = .returned (.agg #[.int .i64 1, .int .i64 v, .int .i64 v, .int .i64 v]) ∧ w' = w.alloc (.cells #[.int .i64 1, .int .i64 v, .int .i64 v, .int .i64 v] 47) := by
  go_enter Try.func35, Try.ntmps35
  go_wp2
  refine bodyPost_ret (v := .agg #[.int .i64 1, .int .i64 v, .int .i64 v, .int .i64 v]) ?_ rfl ⟨rfl, rfl⟩
  rw [results_cell rfl]
  go_simp

/-- What Mean answers. -/
def meanV (n s : Int) : Value := if n < 1 then .tuple #[.int .i64 0, .bool false] else .tuple #[.int .i64 (s / n), .bool true]
theorem meanV_shape (n s : Int) : ∃ x b, meanV n s = .tuple #[.int .i64 x, .bool b] := by
  unfold meanV
  split <;> exact ⟨_, _, rfl⟩
theorem mean_no {n s : Int} (h : n < 1) : Ending.returned (.tuple #[.int .i64 0, .bool false]) = .returned (meanV n s) := by
  unfold meanV
  rw [if_pos h]
theorem mean_div {n s : Int} (hs : fit s = true) (h : 1 ≤ n) : wrap64 (s.tdiv n) = s.tdiv n := by
  rw [fit_iff] at hs
  have h1 : (s.tdiv n).natAbs ≤ s.natAbs := by rw [Int.natAbs_tdiv]; exact Nat.div_le_self _ _
  unfold wrap64
  generalize hq : s.tdiv n = q at *
  by_cases h0 : 0 ≤ s
  · have : 0 ≤ q := by rw [← hq]; exact Int.tdiv_nonneg h0 (by omega)
    omega
  · have h2 : 0 ≤ (-s).tdiv n := Int.tdiv_nonneg (by omega) (by omega)
    rw [Int.neg_tdiv, hq] at h2
    omega
theorem mean_a {n s : Int} (hs : fit s = true) (h : 1 ≤ n) (g : s.tmod n < 0) : Ending.returned (.tuple #[.int .i64 (wrap64 (wrap64 (s.tdiv n) - 1)), .bool true]) = .returned (meanV n s) := by
  have hf := floor_of s n (by omega)
  rw [if_pos g] at hf
  rw [mean_div hs h, hf]
  unfold meanV
  rw [if_neg (by omega)]
  refine ret_pair ?_
  rw [fit_iff] at hs
  have h1 := Int.ediv_mul_le s (b := n) (by omega)
  have h2 := Int.lt_ediv_add_one_mul_self s (b := n) (by omega)
  have h3 : -9223372036854775808 ≤ s / n := by
    rw [Int.le_ediv_iff_mul_le (by omega)]
    have : (-9223372036854775808 : Int) * n ≤ -9223372036854775808 * 1 := by omega
    omega
  have h4 : s / n ≤ 9223372036854775807 := by
    have h5 : s / n < 9223372036854775808 := by
      rw [Int.ediv_lt_iff_lt_mul (by omega)]
      omega
    omega
  unfold wrap64
  omega
theorem mean_b {n s : Int} (hs : fit s = true) (h : 1 ≤ n) (g : 0 ≤ s.tmod n) : Ending.returned (.tuple #[.int .i64 (wrap64 (s.tdiv n)), .bool true]) = .returned (meanV n s) := by
  have hf := floor_of s n (by omega)
  rw [if_neg (by omega)] at hf
  rw [mean_div hs h, hf]
  unfold meanV
  rw [if_neg (by omega)]

theorem rightC_eq (n s lo hi : Int) : rightC ⟨n, s, lo, hi⟩ = true ↔ (n = 0 ∧ s = 0 ∧ lo = 0 ∧ hi = 0) ∨ (0 < n ∧ lo ≤ hi ∧ (1 < n ∨ (s = lo ∧ s = hi))) := by
  unfold rightC
  by_cases h : n = 0
  · subst h
    simp [Cl.zero]
  · simp only [if_neg h, Bool.and_eq_true, Bool.or_eq_true, decide_eq_true_iff]
    constructor
    · exact fun g => .inr g
    · rintro (g | g)
      · exact absurd g.1 h
      · exact g
theorem right_is {n s lo hi : Int} {b : Bool} (h : b = true ↔ (n = 0 ∧ s = 0 ∧ lo = 0 ∧ hi = 0) ∨ (0 < n ∧ lo ≤ hi ∧ (1 < n ∨ (s = lo ∧ s = hi)))) : b = rightC ⟨n, s, lo, hi⟩ := by
  rw [Bool.eq_iff_iff, rightC_eq]
  exact h

theorem right_t {n s lo hi : Int} (h : (n = 0 ∧ s = 0 ∧ lo = 0 ∧ hi = 0) ∨ (0 < n ∧ lo ≤ hi ∧ (1 < n ∨ (s = lo ∧ s = hi)))) : true = rightC ⟨n, s, lo, hi⟩ := right_is ⟨fun _ => h, fun _ => rfl⟩
theorem right_f {n s lo hi : Int} (h : ¬ ((n = 0 ∧ s = 0 ∧ lo = 0 ∧ hi = 0) ∨ (0 < n ∧ lo ≤ hi ∧ (1 < n ∨ (s = lo ∧ s = hi))))) : false = rightC ⟨n, s, lo, hi⟩ := right_is ⟨fun e => (by cases e), fun g => absurd g h⟩
theorem right_d {n s lo hi : Int} {q : Prop} [Decidable q] (h : q ↔ ((n = 0 ∧ s = 0 ∧ lo = 0 ∧ hi = 0) ∨ (0 < n ∧ lo ≤ hi ∧ (1 < n ∨ (s = lo ∧ s = hi))))) : decide q = rightC ⟨n, s, lo, hi⟩ := right_is (by rw [decide_eq_true_iff]; exact h)
theorem right_b {n s lo hi a b : Int} (h : a = b ↔ ((n = 0 ∧ s = 0 ∧ lo = 0 ∧ hi = 0) ∨ (0 < n ∧ lo ≤ hi ∧ (1 < n ∨ (s = lo ∧ s = hi))))) : (a == b) = rightC ⟨n, s, lo, hi⟩ := right_is (by rw [beq_iff_eq]; exact h)

theorem right_o {n s lo hi a b : Int} {q : Prop} [Decidable q] (h : (q ∨ a = b) ↔ ((n = 0 ∧ s = 0 ∧ lo = 0 ∧ hi = 0) ∨ (0 < n ∧ lo ≤ hi ∧ (1 < n ∨ (s = lo ∧ s = hi))))) : (decide q || a == b) = rightC ⟨n, s, lo, hi⟩ := right_is (by rw [Bool.or_eq_true, decide_eq_true_iff, beq_iff_eq]; exact h)

set_option maxRecDepth 100000 in
set_option maxHeartbeats 1000000 in
theorem right_any (n s lo hi : Int) (w : World) :
    Calls Try.prog 36 #[.agg #[.int .i64 n, .int .i64 s, .int .i64 lo, .int .i64 hi]] w fun e w' => e = .returned (.bool (rightC ⟨n, s, lo, hi⟩)) ∧ Turn (fun _ => False) w w' := by
  by_cases hn : n = 1
  · subst hn
    by_cases h1 : lo = s
    · by_cases h2 : hi = s
      · subst h1 h2
        go_enter Try.func36, Try.ntmps36
        go_wp2_with fail
        go_region_with (go_at_call 30; refine (of_any _ _).mono ?_; rintro e w' ⟨rfl, rfl⟩)
        all_goals go_wp2
        all_goals go_ret
        all_goals exact ⟨ret_bool (right_is (by simp)), ((Turn.refl _ w).alloc _).drew.alloc _⟩
      · have h2' : ¬ s = hi := fun e => h2 e.symm
        go_enter Try.func36, Try.ntmps36
        go_wp2_with fail
        go_region_with (go_at_call 30; refine (of_any _ _).mono ?_; rintro e w' ⟨rfl, rfl⟩)
        all_goals go_wp2
        all_goals go_ret
        all_goals exact ⟨ret_bool (right_is (by simp; omega)), ((Turn.refl _ w).alloc _).drew.alloc _⟩
    · have h1' : ¬ s = lo := fun e => h1 e.symm
      go_enter Try.func36, Try.ntmps36
      go_wp2_with fail
      go_region_with (go_at_call 30; refine (of_any _ _).mono ?_; rintro e w' ⟨rfl, rfl⟩)
      all_goals go_wp2
      all_goals go_ret
      all_goals exact ⟨ret_bool (right_is (by simp; omega)), ((Turn.refl _ w).alloc _).drew.alloc _⟩
  · have hn1 : (n == 1) = false := by rw [beq_eq_false_iff_ne]; exact hn
    go_enter Try.func36, Try.ntmps36
    go_wp2
    all_goals go_ret
    all_goals
      simp only [beq_iff_eq, beq_eq_false_iff_ne, ne_eq] at *
      first
        | exact ⟨ret_bool (right_t (by omega)), (Turn.refl _ w).alloc _⟩
        | exact ⟨ret_bool (right_f (by omega)), (Turn.refl _ w).alloc _⟩
        | exact ⟨ret_bool (right_d (by omega)), (Turn.refl _ w).alloc _⟩
        | exact ⟨ret_bool (right_b (by omega)), (Turn.refl _ w).alloc _⟩

set_option maxRecDepth 100000 in
set_option maxHeartbeats 1000000 in
theorem ref_right (n s lo hi : Int) (w : World) :
    Calls Try.prog 39 #[.agg #[.int .i64 n, .int .i64 s, .int .i64 lo, .int .i64 hi]] w fun e w' => e = .returned (.bool (rightC ⟨n, s, lo, hi⟩)) ∧ Turn (fun _ => False) w w' := by
  go_enter Try.func39, Try.ntmps39
  go_wp2
  all_goals go_ret
  all_goals
    simp only [beq_iff_eq, beq_eq_false_iff_ne, ne_eq] at *
    first
      | exact ⟨ret_bool (right_t (by omega)), (Turn.refl _ w).alloc _⟩
      | exact ⟨ret_bool (right_f (by omega)), (Turn.refl _ w).alloc _⟩
      | exact ⟨ret_bool (right_d (by omega)), (Turn.refl _ w).alloc _⟩
      | exact ⟨ret_bool (right_b (by omega)), (Turn.refl _ w).alloc _⟩
      | exact ⟨ret_bool (right_o (by omega)), (Turn.refl _ w).alloc _⟩

end Go.Proofs.Ytnnlgeldjjknmaa

/-
  Two cells together, by the program and by the document.
-/
namespace Go.Proofs.Ytnnlgeldjjknmaa
open Go.RowKit

/-- What a call that makes a cell answers. -/
def outC : Option Cl → Value
  | some c => .tuple #[cv c, .bool true]
  | none => .tuple #[cv Cl.zero, .bool false]
theorem okC_zero : okC Cl.zero := ⟨rfl, rfl, rfl, rfl⟩
theorem okC_of {v : Int} (h : fit v = true) : okC (Cl.of v) := ⟨rfl, h, h, h⟩
theorem okC_merge {a b c : Cl} (ha : okC a) (hb : okC b) (h : mergeC a b = some c) : okC c := by
  unfold mergeC at h
  split at h
  · cases h
    exact hb
  · split at h
    · cases h
      exact ha
    · split at h
      · rename_i g
        rw [Bool.and_eq_true] at g
        cases h
        obtain ⟨_, _, a3, a4⟩ := ha
        obtain ⟨_, _, b3, b4⟩ := hb
        refine ⟨g.1, g.2, ?_, ?_⟩
        · show fit (min a.lo b.lo) = true
          rw [fit_iff] at *
          omega
        · show fit (max a.hi b.hi) = true
          rw [fit_iff] at *
          omega
      · cases h
theorem merge_l {n : Int} (s lo hi : Int) (b : Cl) (h : n = 0) : Ending.returned (.tuple #[cv b, .bool true]) = .returned (outC (mergeC ⟨n, s, lo, hi⟩ b)) := by
  unfold mergeC
  rw [if_pos h]
  rfl
theorem merge_r {m : Int} (t lo' hi' : Int) (a : Cl) (h : ¬ a.n = 0) (g : m = 0) : Ending.returned (.tuple #[cv a, .bool true]) = .returned (outC (mergeC a ⟨m, t, lo', hi'⟩)) := by
  unfold mergeC
  rw [if_neg h, if_pos g]
  rfl
theorem merge_no {a b : Cl} (h0 : ¬ a.n = 0) (h1 : ¬ b.n = 0) (h : fit (a.n + b.n) = false ∨ fit (a.s + b.s) = false) : Ending.returned (.tuple #[cv Cl.zero, .bool false]) = .returned (outC (mergeC a b)) := by
  unfold mergeC
  rw [if_neg h0, if_neg h1, if_neg (by rcases h with h | h <;> rw [h] <;> simp)]
  rfl
theorem merge_yes {a b : Cl} (h0 : ¬ a.n = 0) (h1 : ¬ b.n = 0) (ha : fit (a.n + b.n) = true) (hb : fit (a.s + b.s) = true) {LO HI : Int} (g1 : LO = min a.lo b.lo) (g2 : HI = max a.hi b.hi) :
    Ending.returned (.tuple #[.agg #[.int .i64 (a.n + b.n), .int .i64 (a.s + b.s), .int .i64 LO, .int .i64 HI], .bool true]) = .returned (outC (mergeC a b)) := by
  subst g1 g2
  unfold mergeC
  rw [if_neg h0, if_neg h1, if_pos (by rw [ha, hb]; rfl)]
  rfl

set_option maxRecDepth 100000 in
set_option maxHeartbeats 2000000 in
theorem merge_any (n s lo hi m t lo' hi' : Int) (w : World) (hn : Hid (okC ⟨n, s, lo, hi⟩)) (hm : Hid (okC ⟨m, t, lo', hi'⟩)) :
    Calls Try.prog 29 #[.agg #[.int .i64 n, .int .i64 s, .int .i64 lo, .int .i64 hi], .agg #[.int .i64 m, .int .i64 t, .int .i64 lo', .int .i64 hi']] w fun e w' => e = .returned (outC (mergeC ⟨n, s, lo, hi⟩ ⟨m, t, lo', hi'⟩)) ∧ Turn (fun _ => False) w w' := by
  have HS := Lib.hid (sum_any n m · (Lib.hid hn.out.1) (Lib.hid hm.out.1))
  have HT := Lib.hid (sum_any s t · (Lib.hid hn.out.2.1) (Lib.hid hm.out.2.1))
  clear hn hm
  by_cases h0 : n = 0
  · have hr := Lib.hid (merge_l s lo hi (⟨m, t, lo', hi'⟩ : Cl) h0)
    subst h0
    go_enter Try.func29, Try.ntmps29
    go_wp2
    refine bodyPost_ret (v := .tuple #[.agg #[.int .i64 m, .int .i64 t, .int .i64 lo', .int .i64 hi'], .bool true]) ?_ rfl ⟨hr.out, (((Turn.refl _ w).alloc _).alloc _).alloc _⟩
    rw [results_cell_tmp rfl]
    go_simp
  have h0' : (n == 0) = false := by rw [beq_eq_false_iff_ne]; exact h0
  by_cases h1 : m = 0
  · have hr := Lib.hid (merge_r t lo' hi' (⟨n, s, lo, hi⟩ : Cl) h0 h1)
    subst h1
    go_enter Try.func29, Try.ntmps29
    go_wp2
    refine bodyPost_ret (v := .tuple #[.agg #[.int .i64 n, .int .i64 s, .int .i64 lo, .int .i64 hi], .bool true]) ?_ rfl ⟨hr.out, (((Turn.refl _ w).alloc _).alloc _).alloc _⟩
    rw [results_cell_tmp rfl]
    go_simp
  have h1' : (m == 0) = false := by rw [beq_eq_false_iff_ne]; exact h1
  cases ha : fit (n + m)
  · rw [sumV_no ha] at HS
    have hr := Lib.hid (merge_no (a := ⟨n, s, lo, hi⟩) (b := ⟨m, t, lo', hi'⟩) h0 h1 (.inl ha))
    cases hb : fit (s + t)
    · rw [sumV_no hb] at HT
      have HA := Lib.hid ha; have HB := Lib.hid hb; clear ha hb
      go_enter Try.func29, Try.ntmps29
      go_wp2_with (first
        | (go_at_call 49; (with_reducible refine (HS.out _).mono ?_); rintro e w' ⟨rfl, rfl⟩)
        | (go_at_call 49; (with_reducible refine (HT.out _).mono ?_); rintro e w' ⟨rfl, rfl⟩))
      refine bodyPost_ret (v := .tuple #[.agg #[.int .i64 0, .int .i64 0, .int .i64 0, .int .i64 0], .bool false]) ?_ rfl ⟨hr.out, (((Turn.refl _ w).alloc _).alloc _).alloc _⟩
      rw [results_cell_tmp rfl]
      go_simp
    · rw [sumV_yes hb] at HT
      have HA := Lib.hid ha; have HB := Lib.hid hb; clear ha hb
      go_enter Try.func29, Try.ntmps29
      go_wp2_with (first
        | (go_at_call 49; (with_reducible refine (HS.out _).mono ?_); rintro e w' ⟨rfl, rfl⟩)
        | (go_at_call 49; (with_reducible refine (HT.out _).mono ?_); rintro e w' ⟨rfl, rfl⟩))
      refine bodyPost_ret (v := .tuple #[.agg #[.int .i64 0, .int .i64 0, .int .i64 0, .int .i64 0], .bool false]) ?_ rfl ⟨hr.out, (((Turn.refl _ w).alloc _).alloc _).alloc _⟩
      rw [results_cell_tmp rfl]
      go_simp
  · rw [sumV_yes ha] at HS
    cases hb : fit (s + t)
    · rw [sumV_no hb] at HT
      have hr := Lib.hid (merge_no (a := ⟨n, s, lo, hi⟩) (b := ⟨m, t, lo', hi'⟩) h0 h1 (.inr hb))
      have HA := Lib.hid ha; have HB := Lib.hid hb; clear ha hb
      go_enter Try.func29, Try.ntmps29
      go_wp2_with (first
        | (go_at_call 49; (with_reducible refine (HS.out _).mono ?_); rintro e w' ⟨rfl, rfl⟩)
        | (go_at_call 49; (with_reducible refine (HT.out _).mono ?_); rintro e w' ⟨rfl, rfl⟩))
      refine bodyPost_ret (v := .tuple #[.agg #[.int .i64 0, .int .i64 0, .int .i64 0, .int .i64 0], .bool false]) ?_ rfl ⟨hr.out, (((Turn.refl _ w).alloc _).alloc _).alloc _⟩
      rw [results_cell_tmp rfl]
      go_simp
    · rw [sumV_yes hb] at HT
      have hr := fun LO HI (g1 : LO = min lo lo') (g2 : HI = max hi hi') => merge_yes (a := ⟨n, s, lo, hi⟩) (b := ⟨m, t, lo', hi'⟩) h0 h1 ha hb g1 g2
      have HR := Lib.hid hr; clear hr
      have HA := Lib.hid ha; have HB := Lib.hid hb; clear ha hb
      go_enter Try.func29, Try.ntmps29
      go_wp2_with (first
        | (go_at_call 49; (with_reducible refine (HS.out _).mono ?_); rintro e w' ⟨rfl, rfl⟩)
        | (go_at_call 49; (with_reducible refine (HT.out _).mono ?_); rintro e w' ⟨rfl, rfl⟩))
      all_goals refine bodyPost_ret (v := .tuple #[.agg #[.int .i64 (n + m), .int .i64 (s + t), .int .i64 (min lo lo'), .int .i64 (max hi hi')], .bool true]) ?_ rfl ⟨HR.out _ _ rfl rfl, (((Turn.refl _ w).alloc _).alloc _).alloc _⟩
      · rw [results_cell_tmp rfl, show min lo lo' = lo' by omega, show max hi hi' = hi' by omega]
        go_simp
      · rw [results_cell_tmp rfl, show min lo lo' = lo' by omega, show max hi hi' = hi by omega]
        go_simp
      · rw [results_cell_tmp rfl, show min lo lo' = lo by omega, show max hi hi' = hi' by omega]
        go_simp
      · rw [results_cell_tmp rfl, show min lo lo' = lo by omega, show max hi hi' = hi by omega]
        go_simp

set_option maxRecDepth 100000 in
set_option maxHeartbeats 2000000 in
theorem ref_merge (n s lo hi m t lo' hi' : Int) (w : World) (hn : Hid (okC ⟨n, s, lo, hi⟩)) (hm : Hid (okC ⟨m, t, lo', hi'⟩)) :
    Calls Try.prog 45 #[.agg #[.int .i64 n, .int .i64 s, .int .i64 lo, .int .i64 hi], .agg #[.int .i64 m, .int .i64 t, .int .i64 lo', .int .i64 hi']] w fun e w' => e = .returned (outC (mergeC ⟨n, s, lo, hi⟩ ⟨m, t, lo', hi'⟩)) ∧ Turn (fun _ => False) w w' := by
  have HS := Lib.hid (ref_add n m · (Lib.hid hn.out.1) (Lib.hid hm.out.1))
  have HT := Lib.hid (ref_add s t · (Lib.hid hn.out.2.1) (Lib.hid hm.out.2.1))
  clear hn hm
  by_cases h0 : n = 0
  · have hr := Lib.hid (merge_l s lo hi (⟨m, t, lo', hi'⟩ : Cl) h0)
    subst h0
    go_enter Try.func45, Try.ntmps45
    go_wp2
    refine bodyPost_ret (v := .tuple #[.agg #[.int .i64 m, .int .i64 t, .int .i64 lo', .int .i64 hi'], .bool true]) ?_ rfl ⟨hr.out, (((Turn.refl _ w).alloc _).alloc _).alloc _⟩
    rw [results_cell_tmp rfl]
    go_simp
  have h0' : (n == 0) = false := by rw [beq_eq_false_iff_ne]; exact h0
  by_cases h1 : m = 0
  · have hr := Lib.hid (merge_r t lo' hi' (⟨n, s, lo, hi⟩ : Cl) h0 h1)
    subst h1
    go_enter Try.func45, Try.ntmps45
    go_wp2
    refine bodyPost_ret (v := .tuple #[.agg #[.int .i64 n, .int .i64 s, .int .i64 lo, .int .i64 hi], .bool true]) ?_ rfl ⟨hr.out, (((Turn.refl _ w).alloc _).alloc _).alloc _⟩
    rw [results_cell_tmp rfl]
    go_simp
  have h1' : (m == 0) = false := by rw [beq_eq_false_iff_ne]; exact h1
  cases ha : fit (n + m)
  · rw [sumV_no ha] at HS
    have hr := Lib.hid (merge_no (a := ⟨n, s, lo, hi⟩) (b := ⟨m, t, lo', hi'⟩) h0 h1 (.inl ha))
    cases hb : fit (s + t)
    · rw [sumV_no hb] at HT
      have HA := Lib.hid ha; have HB := Lib.hid hb; clear ha hb
      go_enter Try.func45, Try.ntmps45
      go_wp2_with (first
        | (go_at_call 56; (with_reducible refine (HS.out _).mono ?_); rintro e w' ⟨rfl, rfl⟩)
        | (go_at_call 56; (with_reducible refine (HT.out _).mono ?_); rintro e w' ⟨rfl, rfl⟩))
      refine bodyPost_ret (v := .tuple #[.agg #[.int .i64 0, .int .i64 0, .int .i64 0, .int .i64 0], .bool false]) ?_ rfl ⟨hr.out, (((Turn.refl _ w).alloc _).alloc _).alloc _⟩
      rw [results_cell_tmp rfl]
      go_simp
    · rw [sumV_yes hb] at HT
      have HA := Lib.hid ha; have HB := Lib.hid hb; clear ha hb
      go_enter Try.func45, Try.ntmps45
      go_wp2_with (first
        | (go_at_call 56; (with_reducible refine (HS.out _).mono ?_); rintro e w' ⟨rfl, rfl⟩)
        | (go_at_call 56; (with_reducible refine (HT.out _).mono ?_); rintro e w' ⟨rfl, rfl⟩))
      refine bodyPost_ret (v := .tuple #[.agg #[.int .i64 0, .int .i64 0, .int .i64 0, .int .i64 0], .bool false]) ?_ rfl ⟨hr.out, (((Turn.refl _ w).alloc _).alloc _).alloc _⟩
      rw [results_cell_tmp rfl]
      go_simp
  · rw [sumV_yes ha] at HS
    cases hb : fit (s + t)
    · rw [sumV_no hb] at HT
      have hr := Lib.hid (merge_no (a := ⟨n, s, lo, hi⟩) (b := ⟨m, t, lo', hi'⟩) h0 h1 (.inr hb))
      have HA := Lib.hid ha; have HB := Lib.hid hb; clear ha hb
      go_enter Try.func45, Try.ntmps45
      go_wp2_with (first
        | (go_at_call 56; (with_reducible refine (HS.out _).mono ?_); rintro e w' ⟨rfl, rfl⟩)
        | (go_at_call 56; (with_reducible refine (HT.out _).mono ?_); rintro e w' ⟨rfl, rfl⟩))
      refine bodyPost_ret (v := .tuple #[.agg #[.int .i64 0, .int .i64 0, .int .i64 0, .int .i64 0], .bool false]) ?_ rfl ⟨hr.out, (((Turn.refl _ w).alloc _).alloc _).alloc _⟩
      rw [results_cell_tmp rfl]
      go_simp
    · rw [sumV_yes hb] at HT
      have hr := fun LO HI (g1 : LO = min lo lo') (g2 : HI = max hi hi') => merge_yes (a := ⟨n, s, lo, hi⟩) (b := ⟨m, t, lo', hi'⟩) h0 h1 ha hb g1 g2
      have HR := Lib.hid hr; clear hr
      have HA := Lib.hid ha; have HB := Lib.hid hb; clear ha hb
      go_enter Try.func45, Try.ntmps45
      go_wp2_with (first
        | (go_at_call 56; (with_reducible refine (HS.out _).mono ?_); rintro e w' ⟨rfl, rfl⟩)
        | (go_at_call 56; (with_reducible refine (HT.out _).mono ?_); rintro e w' ⟨rfl, rfl⟩))
      all_goals refine bodyPost_ret (v := .tuple #[.agg #[.int .i64 (n + m), .int .i64 (s + t), .int .i64 (min lo lo'), .int .i64 (max hi hi')], .bool true]) ?_ rfl ⟨HR.out _ _ rfl rfl, (((Turn.refl _ w).alloc _).alloc _).alloc _⟩
      · rw [results_cell_tmp rfl, show min lo lo' = lo' by omega, show max hi hi' = hi' by omega]
        go_simp
      · rw [results_cell_tmp rfl, show min lo lo' = lo' by omega, show max hi hi' = hi by omega]
        go_simp
      · rw [results_cell_tmp rfl, show min lo lo' = lo by omega, show max hi hi' = hi' by omega]
        go_simp
      · rw [results_cell_tmp rfl, show min lo lo' = lo by omega, show max hi hi' = hi by omega]
        go_simp

end Go.Proofs.Ytnnlgeldjjknmaa

/-
  Stage 11: rows in memory; rows held against each other by ==.
-/
namespace Go.Proofs.Ytnnlgeldjjknmaa
open Go.RowKit

set_option maxRecDepth 100000

/-- A row's cells. -/
def ER : El R11 where
  sz := 9
  enc r := [.int .i64 r.k.h, sv9 r.k.a, sv9 r.k.b, sv9 r.k.c, sv9 r.k.d, .int .i64 r.c.n, .int .i64 r.c.s, .int .i64 r.c.lo, .int .i64 r.c.hi]
  len _ := rfl
  one r u hu := by
    simp only [List.mem_cons, List.not_mem_nil, or_false] at hu
    rcases hu with rfl | rfl | rfl | rfl | rfl | rfl | rfl | rfl | rfl <;> rfl
abbrev cells11 (r : R11) : Array Value := #[.int .i64 r.k.h, sv9 r.k.a, sv9 r.k.b, sv9 r.k.c, sv9 r.k.d, .int .i64 r.c.n, .int .i64 r.c.s, .int .i64 r.c.lo, .int .i64 r.c.hi]
abbrev rv11 (r : R11) : Value := .agg (cells11 r)
abbrev zv11 : Value := .agg #[.int .i64 0, .string ⟨#[]⟩, .string ⟨#[]⟩, .string ⟨#[]⟩, .string ⟨#[]⟩, .int .i64 0, .int .i64 0, .int .i64 0, .int .i64 0]
theorem row_info11 : (Try.prog.info? 51).map (fun i => (i.zero, i.size, i.bytes)) = some (some zv11, ER.sz, 104) := by kernel_rfl
theorem row_zero11 : (Value.cells zv11).size = ER.sz := rfl
theorem row_size11 : (Try.prog.info? 51).map (·.size) = some ER.sz := by kernel_rfl
/-- A row in memory, cell by cell. -/
def RowAt (W : World) (ad : Addr) (r : R11) : Prop :=
  W.cell? ad = some (.int .i64 r.k.h) ∧ W.cell? ⟨ad.block, ad.off + 1, none⟩ = some (sv9 r.k.a) ∧ W.cell? ⟨ad.block, ad.off + 2, none⟩ = some (sv9 r.k.b) ∧ W.cell? ⟨ad.block, ad.off + 3, none⟩ = some (sv9 r.k.c) ∧ W.cell? ⟨ad.block, ad.off + 4, none⟩ = some (sv9 r.k.d) ∧
  W.cell? ⟨ad.block, ad.off + 5, none⟩ = some (.int .i64 r.c.n) ∧ W.cell? ⟨ad.block, ad.off + 6, none⟩ = some (.int .i64 r.c.s) ∧ W.cell? ⟨ad.block, ad.off + 7, none⟩ = some (.int .i64 r.c.lo) ∧ W.cell? ⟨ad.block, ad.off + 8, none⟩ = some (.int .i64 r.c.hi)
theorem row_at11 {w : World} {A : Option Addr} {n c : Nat} {L : List R11} (h : RdE ER w (.slice A n c) L) {j : Nat} {r : R11} (hj : L[j]? = some r) :
    ∃ ad, A = some ad ∧ ∀ W, Turn (fun _ => False) w W → RowAt W (ad.add (j * 9)) r := by
  obtain ⟨ad, hA, _⟩ := h.cells hj
  refine ⟨ad, hA, fun W ht => ?_⟩
  obtain ⟨ad', hA', hc⟩ := (h.later ht).cells hj
  rw [hA] at hA'
  cases hA'
  have key : ∀ (k : Nat) (u : Value), (ER.enc r)[k + 1]? = some u → W.cell? ⟨(ad.add (j * 9)).block, (ad.add (j * 9)).off + (k + 1), none⟩ = some u := fun k u hu => by
    rw [show (⟨(ad.add (j * 9)).block, (ad.add (j * 9)).off + (k + 1), none⟩ : Addr) = (ad.add (j * 9)).add (k + 1) from rfl, eadd_add]
    exact hc (k + 1) u hu
  exact ⟨hc 0 _ rfl, key 0 _ rfl, key 1 _ rfl, key 2 _ rfl, key 3 _ rfl, key 4 _ rfl, key 5 _ rfl, key 6 _ rfl, key 7 _ rfl⟩
theorem wpList_rows11 (w : World) {ops : Array Oper} {rest : List Oper} {o : Oper} {a : Act} {Q : Exit → Act → World → Prop} (hgd : o.guard = none) (s x : Operand)
    (ho : o.op = .call { callee := .builtin .append, args := #[s, x], argTypes := #[23, 23] }) (v : Value) (l : List R11) (hs : a.eval s = v) (hown : OwE ER 51 w v l)
    (y : Value) (hx : a.eval x = y) (m : List R11) (hy : RdE ER w y m) (hl : l.length + m.length ≤ 1000000)
    (h : ∀ A n c w', OwE ER 51 w' (.slice A n c) (l ++ m) → Turn (fun k => v.ownBlock = some k) w w' → ((Value.slice A n c).ownBlock = v.ownBlock ∨ (Value.slice A n c).ownBlock = some w.heap.size) → wpList Try.prog ops Q rest (a.put o.dst (.slice A n c)) w') :
    wpList Try.prog ops Q (o :: rest) a w :=
  wpList_appE Try.underlying23 row_info11 row_zero11 w hgd s x _ ho v l hs hown y hx m (hy.src Try.underlying23) (by simp only [maxLen]; omega) (by omega) h
/-- Behind a list of rows laid in new memory. -/
def Rows11 (w : World) (l : List R11) (e : Ending) (w' : World) : Prop := ∃ v, e = .returned v ∧ RdE ER w' v l ∧ Turn (fun _ => False) w w'

theorem eq_cell11 (d : Nat) (p q : Cl) (w : World) : (Op.equalIn (d + 2) 47 (cv p) (cv q)).run Try.prog w = .ok (decide (p = q)) w := by
  have hS : Try.prog.underlying 47 = some (.struct (Try.prog.fieldsOf 47)) := by kernel_rfl
  have hp : Try.prog.stoodInHeld 47 = false := by kernel_rfl
  have u2 := Try.underlying2
  have i2 := Try.isAgg2
  have z2 := Try.sizeOf2
  obtain ⟨n, s, lo, hi⟩ := p
  obtain ⟨n', s', lo', hi'⟩ := q
  unfold cv
  rw [run_equalIn_agg w (d + 1) 47 _ _ hS hp]
  simp only [Program.fieldsOf, Try.underlying47]
  go_simp
  by_cases h0 : n = n' <;> by_cases h1 : s = s' <;> by_cases h2 : lo = lo' <;> by_cases h3 : hi = hi' <;> simp [h0, h1, h2, h3]
theorem eq_row11 (d : Nat) (f g : R11) (w : World) : (Op.equalIn (d + 4) 51 (rv11 f) (rv11 g)).run Try.prog w = .ok (decide (f = g)) w := by
  have hS : Try.prog.underlying 51 = some (.struct (Try.prog.fieldsOf 51)) := by kernel_rfl
  have hp : Try.prog.stoodInHeld 51 = false := by kernel_rfl
  have i4 := Try.isAgg44
  have z4 := Try.sizeOf44
  have i5 := Try.isAgg47
  have z5 := Try.sizeOf47
  have key := eq_key9 d f.k g.k
  have cel := eq_cell11 (d + 1) f.c g.c
  unfold cv at cel
  rw [run_equalIn_agg w (d + 3) 51 _ _ hS hp]
  simp only [Program.fieldsOf, Try.underlying51]
  go_simp
  obtain ⟨k, v⟩ := f
  obtain ⟨k', v'⟩ := g
  by_cases h0 : k = k' <;> by_cases h1 : v = v' <;> simp [h0, h1]
theorem run_neq_row (f g : R11) (w : World) : (binOp .neq 51 (rv11 f) (rv11 g)).run Try.prog w = .ok (.bool (!decide (f = g))) w := by
  rw [run_neq_struct, show (10000 : Nat) = 9996 + 4 from rfl, eq_row11]
  rfl
theorem guard_row11 (op : BinOp) (x y : Operand) (f g : R11) (w : World) : (eqGuard op 51 x y (rv11 f) (rv11 g)).run Try.prog w = .ok () w := run_eqGuard_agg w op _ x y _ _ (by kernel_rfl)

end Go.Proofs.Ytnnlgeldjjknmaa

/-
  Stage 9: the document's Compare, Check, All.
-/
namespace Go.Proofs.Ytnnlgeldjjknmaa
open Go.RowKit

set_option maxRecDepth 100000

set_option maxHeartbeats 4000000 in
theorem ref_compare9 (p q : K9) (w : World) : Calls Try.prog 38 #[kv9 p, kv9 q] w fun e w' => e = .returned (.int .i64 (cmpK p q)) ∧ Turn (fun _ => False) w w' := by
  unfold kv9
  obtain ⟨w0, hw0⟩ : ∃ w0, w0 = (w.alloc (.cells #[.int .i64 p.h, sv9 p.a, sv9 p.b, sv9 p.c, sv9 p.d] 44)).alloc (.cells #[.int .i64 q.h, sv9 q.a, sv9 q.b, sv9 q.c, sv9 q.d] 44) := ⟨_, rfl⟩
  have HT0 : Hid (Turn (fun _ => False) w w0) := by rw [hw0]; exact ((Turn.refl _ w).alloc _).alloc _
  have hb1 : Box w0 w.heap.size 44 #[.int .i64 p.h, sv9 p.a, sv9 p.b, sv9 p.c, sv9 p.d] := by rw [hw0]; exact (Box.new w _ _).alloc _
  have hb2 : Box w0 (w.heap.size + 1) 44 #[.int .i64 q.h, sv9 q.a, sv9 q.b, sv9 q.c, sv9 q.d] := by
    rw [hw0]
    have h := Box.new (w.alloc (.cells #[.int .i64 p.h, sv9 p.a, sv9 p.b, sv9 p.c, sv9 p.d] 44)) 44 #[.int .i64 q.h, sv9 q.a, sv9 q.b, sv9 q.c, sv9 q.d]
    rw [World.size_alloc] at h
    exact h
  have HD1 := Lib.hid (dim_cell (o := 1) hb1 key_cells)
  have HD2 := Lib.hid (dim_cell (o := 1) hb2 key_cells)
  have c1 := hb1.cell 0
  have c2 := hb2.cell 0
  have HW := Lib.hid hw0
  clear hb1 hb2 hw0
  by_cases h1 : p.h < q.h
  · rw [cmpK_lt (key_hour h1)]
    have hne : (p.h == q.h) = false := by simp; omega
    go_enter Try.func38, Try.ntmps38
    go_wp2_with fail
    rw [← HW.out]
    go_ret
    exact ⟨rfl, HT0.out⟩
  · by_cases h2 : q.h < p.h
    · rw [cmpK_gt (key_hour h2)]
      have hne : (p.h == q.h) = false := by simp; omega
      go_enter Try.func38, Try.ntmps38
      go_wp2_with fail
      rw [← HW.out]
      go_ret
      exact ⟨rfl, HT0.out⟩
    · have h0 : p.h = q.h := by omega
      have HW2 : Hid (w0 = (w.alloc (.cells #[.int .i64 q.h, sv9 p.a, sv9 p.b, sv9 p.c, sv9 p.d] 44)).alloc (.cells #[.int .i64 q.h, sv9 q.a, sv9 q.b, sv9 q.c, sv9 q.d] 44)) := by rw [← h0]; rw [← h0] at HW; exact HW.out
      have hne : (p.h == q.h) = true := by simp; omega
      go_enter Try.func38, Try.ntmps38
      go_wp2_with fail
      rw [← HW2.out]
      clear c1 c2
      go_loopw [5] (fun x5 wr => ∃ i : Nat, x5 = .int .i64 (i : Int) ∧ i ≤ 4 ∧ (∀ k, k < i → p.dim k = q.dim k) ∧ ∃ n, wr = w0.drewN n) (fun x5 _ => 4 - (intOf x5).toNat)
      case atStart => exact ⟨0, rfl, Nat.zero_le _, fun k hk => absurd hk (Nat.not_lt_zero k), 0, rfl⟩
      case round =>
        obtain ⟨i, rfl, hi, he, n, rfl⟩ := hrel
        have HE := Lib.hid he
        clear he
        by_cases hlt : i < 4
        · have e1 := HD1.out i hlt
          have e2 := HD2.out i hlt
          have hil : (i : Int) < 4 := by omega
          unfold sv9 at e1 e2
          by_cases hl : Op.bytesLess (p.dim i) (q.dim i) = true
          · have HK := Lib.hid (cmpK_lt (key_dim hlt h0 HE.out hl))
            go_wp2_with fail
            go_quiet (fail)
            go_wp2
            go_ret
            rw [HK.out]
            exact ⟨rfl, (HT0.out.drewN _).drewN _⟩
          · have hl' : Op.bytesLess (p.dim i) (q.dim i) = false := by simpa using hl
            by_cases hg : Op.bytesLess (q.dim i) (p.dim i) = true
            · have HK := Lib.hid (cmpK_gt (key_dim hlt h0.symm (fun k hk => (HE.out k hk).symm) hg))
              have heq : (p.dim i == q.dim i) = false := by
                cases e : p.dim i == q.dim i with
                | false => rfl
                | true =>
                  rw [eq_of_beq e, less_irr] at hg
                  cases hg
              go_wp2_with fail
              go_quiet (fail)
              go_wp2_with fail
              go_quiet (fail)
              go_wp2
              go_ret
              rw [HK.out]
              exact ⟨rfl, ((HT0.out.drewN _).drewN _).drewN _⟩
            · have hg' : Op.bytesLess (q.dim i) (p.dim i) = false := by simpa using hg
              have HS := Lib.hid (bytes_same hl' hg')
              have heq : (p.dim i == q.dim i) = true := by rw [HS.out]; exact beq_self_eq_true _
              go_wp2_with fail
              go_quiet (fail)
              rename_i nq1
              go_wp2_with fail
              go_quiet (fail)
              go_wp2
              go_roundw
              case rel => exact ⟨i + 1, by go_num, hlt, fun k hk => by
                by_cases ek : k = i
                · rw [ek]; exact HS.out
                · exact HE.out k (by omega), _, rfl⟩
              case measure => simp [intOf]; omega
        · obtain rfl : i = 4 := by omega
          have HK := Lib.hid (key_same h0 HE.out)
          go_wp2
          go_ret
          rw [HK.out, cmpK_self]
          exact ⟨rfl, HT0.out.drewN _⟩

end Go.Proofs.Ytnnlgeldjjknmaa

/-
  Stage 11: the document's Same, Range and Right.
-/
namespace Go.Proofs.Ytnnlgeldjjknmaa
open Go.RowKit

set_option maxRecDepth 100000

set_option maxHeartbeats 4000000 in
theorem same_refl11 (a b : Value) (L : List R11) (w : World) (ha : RdE ER w a L) (hb : RdE ER w b L) (hl : L.length ≤ 1000000) :
    Calls Try.prog 13 #[a, b] w fun e w' => e = .returned (.bool true) ∧ Turn (fun _ => False) w w' := by
  have HA := Lib.hid ha; have HB := Lib.hid hb
  obtain ⟨A, c, rfl⟩ := ha.shape
  obtain ⟨B, d, rfl⟩ := hb.shape
  clear ha hb
  go_enter Try.func13, Try.ntmps13
  go_wp2_with fail
  go_loopw [5] (fun x5 wr => ∃ i : Nat, x5 = .int .i64 (i : Int) ∧ i ≤ L.length ∧ ∃ n, wr = w.drewN n) (fun x5 _ => L.length - (intOf x5).toNat)
  case atStart => exact ⟨0, rfl, Nat.zero_le _, 0, rfl⟩
  case round =>
    obtain ⟨i, rfl, hi, n, rfl⟩ := hrel
    by_cases hlt : i < L.length
    · obtain ⟨x, hx⟩ : ∃ x, L[i]? = some x := ⟨_, List.getElem?_eq_getElem hlt⟩
      obtain ⟨ad, rfl, hc⟩ := row_at11 HA.out hx
      obtain ⟨bd, rfl, hd⟩ := row_at11 HB.out hx
      obtain ⟨c0, c1, c2, c3, c4, c5, c6, c7, c8⟩ := hc w (Turn.refl _ _)
      obtain ⟨d0, d1, d2, d3, d4, d5, d6, d7, d8⟩ := hd w (Turn.refl _ _)
      clear hc hd hx
      have hil : (i : Int) < L.length := by omega
      have hne := run_neq_row x x
      have hgd := fun X Y => guard_row11 .neq X Y x x
      rw [decide_eq_true rfl, Bool.not_true] at hne
      go_wp2_with fail
      go_quiet (fail)
      go_wp2
      go_roundw
      case rel => exact ⟨i + 1, by go_num, hlt, n + nq, by simp [World.drewN]⟩
      case measure => simp [intOf]; omega
    · obtain rfl : i = L.length := by omega
      go_wp2
      go_ret
      exact ⟨rfl, (Turn.refl _ w).drewN _⟩

/-- The rows of hours. -/
def inH (a b : Int) (r : R11) : Bool := decide (a ≤ r.k.h) && decide (r.k.h < b)
def rangeR (l : List R11) (a b : Int) : List R11 := l.filter (inH a b)
theorem rangeR_step {l : List R11} {a b : Int} {i : Nat} {r : R11} (h : l[i]? = some r) : rangeR (l.take (i + 1)) a b = rangeR (l.take i) a b ++ if inH a b r then [r] else [] := by
  obtain ⟨h0, e⟩ := List.getElem?_eq_some_iff.1 h
  unfold rangeR
  rw [List.take_succ_eq_append_getElem h0, e, List.filter_append]
  congr 1
  simp only [List.filter_cons, List.filter_nil]

set_option maxHeartbeats 4000000 in
theorem ref_range11 (v : Value) (l : List R11) (a b : Int) (w : World) (hv : RdE ER w v l) (hl : l.length ≤ 1000) :
    Calls Try.prog 20 #[v, .int .i64 a, .int .i64 b] w fun e w' => Rows11 w (rangeR l a b) e w' := by
  have HV := Lib.hid hv
  obtain ⟨A, c, rfl⟩ := hv.shape
  clear hv
  have HN0 : Hid (NewE ER 51 w w (.slice none 0 0) (rangeR (l.take 0) a b)) := ⟨OwE.nil _, (fun k e => by simp [Value.ownBlock] at e), Turn.refl _ w⟩
  go_enter Try.func20, Try.ntmps20
  go_wp2_with fail
  go_loopw [7, 8] (fun x7 x8 wr => ∃ i : Nat, x8 = .int .i64 (i : Int) ∧ i ≤ l.length ∧ NewE ER 51 w wr x7 (rangeR (l.take i) a b)) (fun _ x8 _ => l.length - (intOf x8).toNat)
  case atStart => exact ⟨0, rfl, Nat.zero_le _, HN0.out⟩
  case round =>
    clear HN0
    obtain ⟨i, rfl, hi, hm⟩ := hrel
    have HM := Lib.hid hm
    have hln : (rangeR (l.take i) a b).length ≤ i := Nat.le_trans (List.length_filter_le _ _) (by rw [List.length_take]; omega)
    obtain ⟨A2, c2, rfl⟩ := hm.own.shape
    clear hm
    by_cases hlt : i < l.length
    · obtain ⟨r, hr⟩ : ∃ r, l[i]? = some r := ⟨_, List.getElem?_eq_getElem hlt⟩
      have HST := Lib.hid (rangeR_step (a := a) (b := b) hr)
      obtain ⟨ad, rfl, hc⟩ := row_at11 HV.out hr
      obtain ⟨c0, c1, c2', c3, c4, c5, c6, c7, c8⟩ := hc wr HM.out.turn
      have hil : (i : Int) < l.length := by omega
      generalize hO : rangeR (l.take i) a b = O at *
      clear hc hr hO
      by_cases h1 : a ≤ r.k.h
      · by_cases h2 : r.k.h < b
        · have HIN : Hid (inH a b r = true) := by show _ = _; unfold inH; rw [decide_eq_true h1, decide_eq_true h2]; rfl
          rw [HIN.out, if_pos rfl] at HST
          have HN1 := Lib.hid (HM.out.alloc (.cells #[.int .i64 r.k.h, sv9 r.k.a, sv9 r.k.b, sv9 r.k.c, sv9 r.k.d, .int .i64 r.c.n, .int .i64 r.c.s, .int .i64 r.c.lo, .int .i64 r.c.hi] 51))
          have HSR := Lib.hid (one_row ER 51 wr r)
          go_wp2_with (at_builtin; refine wpList_rows11 _ rfl _ _ rfl _ _ rfl HN1.out.own _ rfl [r] HSR.out (by simp only [List.length_cons, List.length_nil]; omega) ?_; intro A3 n3 c3 w3 ho ht hn; have HN3 := Lib.hid (HN1.out.step ho ht hn); clear ho ht hn)
          go_roundw
          case rel => exact ⟨i + 1, by go_num, hlt, by rw [HST.out]; exact HN3.out⟩
          case measure => simp [intOf]; omega
        · have HIN : Hid (inH a b r = false) := by show _ = _; unfold inH; rw [decide_eq_false h2, Bool.and_false]
          rw [HIN.out, if_neg (by simp), List.append_nil] at HST
          go_wp2
          go_roundw
          case rel => exact ⟨i + 1, by go_num, hlt, by rw [HST.out]; exact HM.out⟩
          case measure => simp [intOf]; omega
      · have HIN : Hid (inH a b r = false) := by show _ = _; unfold inH; rw [decide_eq_false h1, Bool.false_and]
        rw [HIN.out, if_neg (by simp), List.append_nil] at HST
        go_wp2
        go_roundw
        case rel => exact ⟨i + 1, by go_num, hlt, by rw [HST.out]; exact HM.out⟩
        case measure => simp [intOf]; omega
    · obtain rfl : i = l.length := by omega
      have HM2 := HM.out
      rw [List.take_length] at HM2
      have HM3 := Lib.hid HM2
      clear HM2
      go_wp2
      go_ret
      rw [List.take_length]
      exact ⟨_, rfl, HM3.out.own.rd, HM3.out.turn⟩

end Go.Proofs.Ytnnlgeldjjknmaa

/-
  The cell of values, by the program and by the document.
-/
namespace Go.Proofs.Ytnnlgeldjjknmaa
open Go.RowKit

/-- A cell's numbers, in memory. -/
def ca (c : Cl) : Array Value := #[.int .i64 c.n, .int .i64 c.s, .int .i64 c.lo, .int .i64 c.hi]
theorem box_cells {w : World} {g : Nat} {t : TypeId} {n s lo hi : Int} (h : Box w g t (ca ⟨n, s, lo, hi⟩)) :
    (w.cell? ⟨g, 0, none⟩ = some (.int .i64 n) ∧ w.cell? ⟨g, 1, none⟩ = some (.int .i64 s) ∧ w.cell? ⟨g, 2, none⟩ = some (.int .i64 lo) ∧ w.cell? ⟨g, 3, none⟩ = some (.int .i64 hi)) ∧
    (w.frozen? ⟨g, 0, none⟩ = false ∧ w.frozen? ⟨g, 1, none⟩ = false ∧ w.frozen? ⟨g, 2, none⟩ = false ∧ w.frozen? ⟨g, 3, none⟩ = false) :=
  ⟨⟨h.cell 0, h.cell 1, h.cell 2, h.cell 3⟩, ⟨h.free 0, h.free 1, h.free 2, h.free 3⟩⟩
theorem box_set4 {w : World} {g : Nat} {t : TypeId} {c : Cl} {n s lo hi : Int} (h : Box w g t (ca c)) :
    Box ((((w.setCell ⟨g, 0, none⟩ (.int .i64 n)).setCell ⟨g, 1, none⟩ (.int .i64 s)).setCell ⟨g, 2, none⟩ (.int .i64 lo)).setCell ⟨g, 3, none⟩ (.int .i64 hi)) g t (ca ⟨n, s, lo, hi⟩) :=
  (((h.set 0 _).set 1 _).set 2 _).set 3 _
theorem turn_set4 {S : Nat → Prop} {w0 w : World} {g : Nat} {a b c d : Value} (h : Turn S w0 w) (hg : g < w0.heap.size → S g) :
    Turn S w0 ((((w.setCell ⟨g, 0, none⟩ a).setCell ⟨g, 1, none⟩ b).setCell ⟨g, 2, none⟩ c).setCell ⟨g, 3, none⟩ d) :=
  (((h.setCell hg _).setCell hg _).setCell hg _).setCell hg _

/-- Behind a value put to a cell in memory. -/
def PAdd (g : Nat) (o : Option Cl) (w : World) (e : Ending) (w' : World) : Prop :=
  e = .returned (.bool o.isSome) ∧ Box w' g 47 (ca (o.getD Cl.zero)) ∧ Turn (fun k => k = g) w w'

theorem outC_shape (o : Option Cl) : ∃ n s lo hi, outC o = .tuple #[.agg #[.int .i64 n, .int .i64 s, .int .i64 lo, .int .i64 hi], .bool o.isSome] ∧ o.getD Cl.zero = ⟨n, s, lo, hi⟩ := by
  cases o with
  | none => exact ⟨0, 0, 0, 0, rfl, rfl⟩
  | some c => exact ⟨c.n, c.s, c.lo, c.hi, rfl, rfl⟩

/-- The cell of the values so far, in memory, and the place of the answer. -/
structure AS (w wr : World) (l : List Int) (k : Nat) (c : Cl) : Prop where
  row : Box wr (w.heap.size + 1) 47 (ca c)
  out : Box wr w.heap.size 47 (ca Cl.zero)
  turn : Turn (fun _ => False) w wr
  is : allC (l.take k) = some c
  ok : okC c
theorem as_start (w : World) (l : List Int) : AS w ((w.alloc (.cells #[.int .i64 0, .int .i64 0, .int .i64 0, .int .i64 0] 47)).alloc (.cells #[.int .i64 0, .int .i64 0, .int .i64 0, .int .i64 0] 47)) l 0 Cl.zero := by
  refine ⟨?_, (Box.new w _ _).alloc _, ((Turn.refl _ w).alloc _).alloc _, rfl, okC_zero⟩
  have h := Box.new (w.alloc (.cells #[.int .i64 0, .int .i64 0, .int .i64 0, .int .i64 0] 47)) 47 (ca Cl.zero)
  rw [show (w.alloc (.cells #[.int .i64 0, .int .i64 0, .int .i64 0, .int .i64 0] 47)).heap.size = w.heap.size + 1 by simp] at h
  exact h
theorem as_step {w wr w' : World} {l : List Int} {k : Nat} {c d : Cl} {x : Int} (h : AS w wr l k c) (hx : l[k]? = some x) (hf : fit x = true) (hm : mergeC c (Cl.of x) = some d)
    (hb : Box w' (w.heap.size + 1) 47 (ca d)) (ht : Turn (fun j => j = w.heap.size + 1) wr w') : AS w w' l (k + 1) d := by
  refine ⟨hb, h.out.turn ht (fun e => by omega), h.turn.trans ht (fun j hj e => by omega), ?_, okC_merge h.ok (okC_of hf) hm⟩
  rw [allC_take hx, h.is]
  exact hm
theorem all_no {l : List Int} {k : Nat} {c : Cl} {x : Int} (h : allC (l.take k) = some c) (hx : l[k]? = some x) (hm : mergeC c (Cl.of x) = none) : Ending.returned (.tuple #[cv Cl.zero, .bool false]) = .returned (outC (allC l)) := by
  have : allC (l.take (k + 1)) = none := by rw [allC_take hx, h]; exact hm
  rw [allC_none this]
  rfl
theorem all_yes {l : List Int} {k : Nat} {c : Cl} (h : allC (l.take k) = some c) (hk : k = l.length) : Ending.returned (.tuple #[cv c, .bool true]) = .returned (outC (allC l)) := by
  rw [hk, List.take_length] at h
  rw [h]
  rfl

theorem new_one {w w3 : World} {o : Obj} (h : Turn (fun _ => False) ((w.alloc (.cells #[.int .i64 0, .int .i64 0, .int .i64 0, .int .i64 0] 47)).alloc o).drew w3) : Box w3 w.heap.size 47 (ca ⟨0, 0, 0, 0⟩) :=
  Box.turn (Box.turn ((Box.new w _ _).alloc o) (Turn.refl (fun _ => False) _).drew (fun f => f)) h (fun f => f)
theorem new_two {w w3 : World} {o : Obj} (h : Turn (fun _ => False) ((w.alloc o).alloc (.cells #[.int .i64 0, .int .i64 0, .int .i64 0, .int .i64 0] 47)).drew w3) : Box w3 (w.heap.size + 1) 47 (ca ⟨0, 0, 0, 0⟩) := by
  have hb := Box.new (w.alloc o) 47 (ca Cl.zero)
  rw [show (w.alloc o).heap.size = w.heap.size + 1 by simp] at hb
  exact Box.turn (Box.turn hb (Turn.refl (fun _ => False) _).drew (fun f => f)) h (fun f => f)

theorem as_keep {w : World} {g k : Nat} {n s lo hi x : Int} {ad : Addr} (hb : Box w g 47 (ca ⟨n, s, lo, hi⟩)) (hc : w.cell? (ad.add k) = some (.int .i64 x)) (w' : World) (ht : Turn (fun _ => False) w w') :
    (w'.cell? ⟨g, 0, none⟩ = some (.int .i64 n) ∧ w'.cell? ⟨g, 1, none⟩ = some (.int .i64 s) ∧ w'.cell? ⟨g, 2, none⟩ = some (.int .i64 lo) ∧ w'.cell? ⟨g, 3, none⟩ = some (.int .i64 hi) ∧ w'.cell? (ad.add k) = some (.int .i64 x)) ∧ Turn (fun _ => False) w w' := by
  have hb' := hb.turn ht (fun f => f)
  refine ⟨⟨hb'.cell 0, hb'.cell 1, hb'.cell 2, hb'.cell 3, ?_⟩, ht⟩
  rw [ht.cell (World.block_lt_of_cell? w _ hc) (fun f => f)]
  exact hc

end Go.Proofs.Ytnnlgeldjjknmaa

/-
  A struct stored whole into a box, in a region that draws. No type is named here.
-/
namespace Go.Proofs.Ytnnlgeldjjknmaa
open Go.RowKit

theorem put_box {P : Program} {ops : Array Oper} {ty rt : TypeId} {pos : String} {af : Array Edge} {px vx : Operand} {a : Act} {w : World} {K : Act → World → Prop} {Q : Exit → Act → World → Prop} {F : Prop}
    (b o : Nat) (cs : Array Value) (ht : w.there b o cs.size) (hp : a.eval px = .pointer (some ⟨b, o, none⟩)) (hv : a.eval vx = .agg cs) (hi : (P.info? ty).map (·.size) = some cs.size) (h1 : cs.all (·.oneCell') = true)
    (h : K a (w.setCells b o cs.toList)) :
    if Region.wanted { dst := none, op := .store ty px vx, type := rt, pos := pos, after := af, guard := none } (yielded ops a.tmps) = true then Oper.wp P { dst := none, op := .store ty px vx, type := rt, pos := pos, after := af, guard := none } a w K Q else F := by
  rw [if_pos (by rfl)]
  exact wp_store_mid ty px vx rfl b o cs hp hv ht hi h1 h
/-- A box, whole: there to be stored into. -/
theorem Box.there {w : World} {g : Nat} {t : TypeId} {cs : Array Value} (h : Box w g t cs) {n : Nat} (hn : n ≤ cs.size) : w.there g 0 n := fun i hi => by
  refine ⟨?_, h.free _⟩
  rw [h.cell, Nat.zero_add, Array.getElem?_eq_getElem (by omega)]
  rfl
/-- A box stored whole. -/
theorem Box.all {w : World} {g : Nat} {t : TypeId} {cs : Array Value} (h : Box w g t cs) (ds : Array Value) (hd : ds.size = cs.size) : Box (w.setCells g 0 ds.toList) g t ds := by
  have h1 := h.setCells ds.toList 0 cs w (by rw [Array.length_toList]; omega)
  have e : (cs.toList.take 0 ++ ds.toList ++ cs.toList.drop (0 + ds.toList.length)).toArray = ds := by
    rw [List.take_zero, List.nil_append, Nat.zero_add, List.drop_of_length_le (by rw [Array.length_toList, Array.length_toList]; omega), List.append_nil, Array.toArray_toList]
  rwa [e] at h1

section
variable {T : Type} {E : El T} {e : TypeId} {w : World} {ad : Addr} {n c : Nat} {L : List T}
/-- One element stored into a row, in a region that draws nothing. -/
theorem wpList_put {P : Program} {ops : Array Oper} {rest : List Oper} {op : Oper} {a : Act} {Q : Exit → Act → World → Prop} (hgd : op.guard = none) (ty : TypeId) (x y : Operand) (ho : op.op = .store ty x y)
    (hown : OwE E e w (.slice (some ad) n c) L) (j : Nat) (t : T) (hj : j < L.length) (hx : a.eval x = .pointer (some (ad.add (j * E.sz)))) (hy : a.eval y = .agg (E.enc t).toArray) (hi : (P.info? ty).map (·.size) = some E.sz)
    (h : ∀ w', OwE E e w' (.slice (some ad) n c) (L.set j t) → Turn (fun k => k = ad.block) w w' → wpList P ops Q rest (a.put op.dst undef) w') : wpList P ops Q (op :: rest) a w := by
  obtain ⟨cur, ha, -⟩ := hown.home
  have hadd : ad.add (j * E.sz) = ⟨ad.block, ad.off + j * E.sz, none⟩ := by
    obtain ⟨b, o, s⟩ := ad
    simp only [Addr.mk.injEq, true_and] at ha
    obtain ⟨rfl, rfl⟩ := ha
    rw [own_add, Nat.zero_add]
  refine wpList_store_mid hgd ty x y ho ad.block (ad.off + j * E.sz) (E.enc t).toArray (by rw [hx, hadd]) hy (by rw [List.size_toArray, E.len]; exact hown.there hj) (by rw [List.size_toArray, E.len]; exact hi) (all_oneCell_toArray (E.one t)) ?_
  exact h _ (hown.put hj t) (turn_setCells (S := fun k => k = ad.block) rfl _ _ _)
/-- The cells that make lays: so many zeros. -/
theorem made_flat (t : T) (h0 : 0 < E.sz) (N : Nat) : (madeCells (E.enc t).toArray (N * E.sz)).toList = E.flat (List.replicate N t) := by
  refine List.ext_getElem? fun j => ?_
  have hfl : (E.flat (List.replicate N t)).length = N * E.sz := by rw [E.flat_len, List.length_replicate]
  by_cases hj : j < N * E.sz
  · have hm : j % E.sz < E.sz := Nat.mod_lt _ h0
    have hd : j / E.sz < N := Nat.div_lt_of_lt_mul (by rw [Nat.mul_comm]; exact hj)
    have e := E.flat_at (l := List.replicate N t) (j := j / E.sz) (t := t) (by rw [List.getElem?_replicate, if_pos hd]) hm
    rw [Nat.mul_comm, Nat.div_add_mod] at e
    rw [e]
    have hmz : j % E.sz < (E.enc t).length := by rw [E.len]; exact hm
    simp [madeCells, hj, E.len]
    rw [List.getElem?_eq_getElem hmz]
    rfl
  · rw [List.getElem?_eq_none (by rw [Array.length_toList, size_madeCells]; omega), List.getElem?_eq_none (by omega)]
end

end Go.Proofs.Ytnnlgeldjjknmaa

/-
  In a region that draws its order: 'append(append(append([]T{}, a...), x), b...)', whatever order its parts come in; slices cut at their front and tail. No type is named here.
-/
namespace Go.Proofs.Ytnnlgeldjjknmaa
open Go.RowKit

section
variable {P : Program} {T : Type} {E : El T} {tS e : TypeId}
/-- A slice's tail, as it is cut. -/
def tailV (E : El T) (A : Option Addr) (n c i : Nat) : Value := .slice (if c = i then A else A.map (fun a => a.add (i * E.sz))) (n - i) (c - i)
theorem rd_tailV {w : World} {A : Option Addr} {n c i : Nat} {L : List T} (h : RdE E w (.slice A n c) L) (hi : i ≤ n) : RdE E w (tailV E A n c i) (L.drop i) := by
  have hf := h.fits
  unfold tailV
  by_cases hc : c = i
  · rw [if_pos hc]
    have e : L.drop i = [] := List.eq_nil_of_length_eq_zero (by rw [List.length_drop]; omega)
    rw [e, show n - i = 0 by omega, show c - i = 0 by omega]
    cases A with
    | none => exact RdE.nil w
    | some ad => exact RdE.none_left _ (by simp) w 0 (Nat.zero_le _)
  · rw [if_neg hc]
    cases A with
    | none => have := (hf.2.2.2 rfl); omega
    | some ad => exact h.back i hi
theorem run_tailV (ht : P.underlying tS = some (.slice e)) (hz : (P.info? e).map (·.size) = some E.sz) (A : Option Addr) (n c i : Nat) (hi : i ≤ n) (w : World) :
    (Instr.slice tS (.slice A n c) (some (.int .i64 (i : Int))) none none).run P w = .ok (tailV E A n c i) w := by
  obtain ⟨j, hj, hz⟩ := Option.map_eq_some_iff.1 hz
  unfold tailV
  rw [← hz]
  simp [Instr.slice, Instr.sliceBounds, Instr.sliceBound, asIntOf, run_underlying ht, sizeOf, typeInfo, hj]
  intro h
  omega
theorem run_frontV (ht : P.underlying tS = some (.slice e)) (hz : (P.info? e).map (·.size) = some E.sz) (A : Option Addr) (n c i : Nat) (hi : i ≤ c) (w : World) :
    (Instr.slice tS (.slice A n c) none (some (.int .i64 (i : Int))) none).run P w = .ok (.slice A i c) w := by
  obtain ⟨j, hj, hz⟩ := Option.map_eq_some_iff.1 hz
  cases A
  all_goals
    simp [Instr.slice, Instr.sliceBounds, Instr.sliceBound, asIntOf, run_underlying ht, sizeOf, typeInfo, hj, Addr.add]
    intro h
    omega
theorem exec_tail {o : Oper} {a : Act} {xo ko : Operand} {A : Option Addr} {n c i : Nat} (ho : o.op = .slice tS xo (some ko) none none) (hx : a.eval xo = .slice A n c) (hk : a.eval ko = .int .i64 (i : Int)) (ht : P.underlying tS = some (.slice e)) (hz : (P.info? e).map (·.size) = some E.sz) (hi : i ≤ n) (w : World) :
    (execOp a.eval o).run P w = .ok (.value (tailV E A n c i)) w := by
  unfold execOp
  simp [ho, hx, hk, Instr.sliceAt, run_underlying ht, run_tailV (E := E) ht hz A n c i hi w]
theorem exec_front {o : Oper} {a : Act} {xo ko : Operand} {A : Option Addr} {n c i : Nat} (ho : o.op = .slice tS xo none (some ko) none) (hx : a.eval xo = .slice A n c) (hk : a.eval ko = .int .i64 (i : Int)) (ht : P.underlying tS = some (.slice e)) (hz : (P.info? e).map (·.size) = some E.sz) (hi : i ≤ c) (w : World) :
    (execOp a.eval o).run P w = .ok (.value (.slice A i c)) w := by
  unfold execOp
  simp [ho, hx, hk, Instr.sliceAt, run_underlying ht, run_frontV (E := E) ht hz A n c i hi w]
/-- append onto a row of one's own. -/
theorem run_appE {z : Value} {by' : Nat} (ht : P.underlying tS = some (.slice e)) (hi0 : (P.info? e).map (fun i => (i.zero, i.size, i.bytes)) = some (some z, E.sz, by')) (hz : z.cells.size = E.sz) (hby : by' ≤ 1000) (w : World) (ty : TypeId) (v : Value) (l : List T) (hown : OwE E e w v l)
    (y : Value) (m : List T) (hy : RdE E w y m) (hl : l.length + m.length ≤ 3000000) :
    ∃ A n c w', (Builtin.append_ #[tS, tS] ty #[v, y]).run P w = .ok (.slice A n c) w' ∧ OwE E e w' (.slice A n c) (l ++ m) ∧ Turn (fun k => v.ownBlock = some k) w w' ∧ ((Value.slice A n c).ownBlock = v.ownBlock ∨ (Value.slice A n c).ownBlock = some w.heap.size) := by
  obtain ⟨i, hi, hz0, h1, h2⟩ := info_parts hi0
  have hsrc := hy.src (P := P) ht
  unfold OwE at hown
  rw [← h1] at hown hsrc
  obtain ⟨A, n, c, w', hr, g1, g2, g3⟩ := run_app (P := P) w tS tS ty e i z ht hi hz0 (by rw [h1]; exact hz) v l.length _ hown y m.length _ hsrc (by simp only [maxLen]; omega) (by rw [h2]; exact Nat.le_trans (Nat.mul_le_mul hl hby) (by omega))
  refine ⟨A, n, c, w', hr, ?_, (Turn.refl _ w).grown g2 (fun k _ e => e), g3⟩
  unfold OwE
  rw [List.length_append, E.flat_append, ← h1]
  exact g1
end

section
variable {P : Program} {ops : Array Oper} {Q : Exit → Act → World → Prop} {S : World → Prop} {zs : List Nat}
theorem slot_ne {ts : Array Value} {d k : Nat} {v : Value} (h : d ≠ k) : (ts.setIfInBounds d v).getD k undef = ts.getD k undef := by
  simp [Array.getD_eq_getD_getElem?, Array.getElem?_setIfInBounds_ne h]
theorem slot_eq {ts : Array Value} {d : Nat} {v : Value} (h : d < ts.size) : (ts.setIfInBounds d v).getD d undef = v := by
  simp [Array.getD_eq_getD_getElem?, h]
/-- One that yields a value, in some world. -/
theorem drawn_does {fuel : Nat} {listed : Array Bool} {ts : Array Value} {ds : List Deferred} {w : World} {i d : Nat} {o : Oper} {rs : List Nat} (R : Value → World → Prop) (ho : nthL ops.toList i = some o) (hg : o.guard = none) (hd : o.dst = some d)
    (hr : ∃ v w', (execOp ({ tmps := ts, defers := ds } : Act).eval o).run P w = .ok (.value v) w' ∧ R v w')
    (h : ∀ v w', R v w' → S w' ∧ Drawn P ops Q S zs fuel (listed.setIfInBounds i true) (ts.setIfInBounds d v) ds w')
    (hs : DrawnAll P ops Q S zs fuel listed ts ds w rs) : DrawnAll P ops Q S zs fuel listed ts ds w (i :: rs) :=
  drawn_cons ho (fun K hK => by
    rw [if_pos (by simp [Region.wanted, hg])]
    obtain ⟨v, w', hrun, hR⟩ := hr
    unfold Oper.wp
    rw [hrun]
    show K (({ tmps := ts, defers := ds } : Act).put o.dst v) w'
    rw [hd]
    obtain ⟨h1, h2⟩ := h v w' hR
    exact hK.out _ _ _ h1 h2) hs
variable {T : Type} {E : El T} {tS e : TypeId}
theorem app_does {z : Value} {by' : Nat} (ht : P.underlying tS = some (.slice e)) (hi0 : (P.info? e).map (fun i => (i.zero, i.size, i.bytes)) = some (some z, E.sz, by')) (hz : z.cells.size = E.sz) (hby : by' ≤ 1000)
    {w0 w : World} {a : Act} {o : Oper} {s x : Operand} (ho : o.op = .call { callee := .builtin .append, args := #[s, x], argTypes := #[tS, tS] }) {v y : Value} {l m : List T} (hs : a.eval s = v) (hx : a.eval x = y) (hn : NewE E e w0 w v l) (hy : RdE E w y m) (hl : l.length + m.length ≤ 3000000) :
    ∃ u w', (execOp a.eval o).run P w = .ok (.value u) w' ∧ NewE E e w0 w' u (l ++ m) ∧ Turn (fun k => v.ownBlock = some k) w w' := by
  obtain ⟨A, n, c, w', hr, g1, g2, g3⟩ := run_appE (P := P) ht hi0 hz hby w o.type v l hn.own y m hy hl
  refine ⟨_, w', ?_, hn.step g1 g2 g3, g2⟩
  unfold execOp
  simp only [ho, resolve, invoke, builtin, Sem.run_bind, Sem.run_pure, Result.andThen_ok, List.map_toArray, List.map_cons, List.map_nil, hs, hx, hr]

/-- append(append(append([]T{}, a...), x), b...): all that is read lies in slots; whatever order the rest comes in. -/
theorem drawn_ins {z : Value} {by' : Nat} (ht : P.underlying tS = some (.slice e)) (hi0 : (P.info? e).map (fun i => (i.zero, i.size, i.bytes)) = some (some z, E.sz, by')) (hz : z.cells.size = E.sz) (hby : by' ≤ 1000)
    {w0 : World} (HS : ∀ W, Turn (fun _ => False) w0 W → S W) (ie i1 ix i2 i3 de d1 dx d2 d3 kf kx kt : Nat) {oe o1 ox o2 o3 : Oper}
    (he : nthL ops.toList ie = some oe) (ge : oe.guard = none) (te : oe.dst = some de) (pe : oe.op = .buildSlice tS 0 #[])
    (h1 : nthL ops.toList i1 = some o1) (g1 : o1.guard = none) (t1 : o1.dst = some d1) (p1 : o1.op = .call { callee := .builtin .append, args := #[.tmp de, .tmp kf], argTypes := #[tS, tS] })
    (hx : nthL ops.toList ix = some ox) (gx : ox.guard = none) (tx : ox.dst = some dx) (px : ox.op = .buildSlice tS 1 #[(0, .tmp kx)])
    (h2 : nthL ops.toList i2 = some o2) (g2 : o2.guard = none) (t2 : o2.dst = some d2) (p2 : o2.op = .call { callee := .builtin .append, args := #[.tmp d1, .tmp dx], argTypes := #[tS, tS] })
    (h3 : nthL ops.toList i3 = some o3) (g3 : o3.guard = none) (t3 : o3.dst = some d3) (p3 : o3.op = .call { callee := .builtin .append, args := #[.tmp d2, .tmp kt], argTypes := #[tS, tS] })
    {fuel : Nat} {listed : Array Bool} {ts : Array Value} {ds : List Deferred} {w : World}
    (r0 : Region.ready .any ops listed = [ie, ix]) (re : Region.ready .any ops (listed.setIfInBounds ie true) = [i1, ix]) (re1 : Region.ready .any ops ((listed.setIfInBounds ie true).setIfInBounds i1 true) = [ix])
    (rex : Region.ready .any ops ((listed.setIfInBounds ie true).setIfInBounds ix true) = [i1]) (rx : Region.ready .any ops (listed.setIfInBounds ix true) = [ie])
    (r3 : Region.ready .any ops (((listed.setIfInBounds ie true).setIfInBounds i1 true).setIfInBounds ix true) = [i2]) (r4 : Region.ready .any ops ((((listed.setIfInBounds ie true).setIfInBounds i1 true).setIfInBounds ix true).setIfInBounds i2 true) = [i3])
    (hd : (ie ≠ i1 ∧ ie ≠ ix ∧ i1 ≠ ix) ∧ (de ≠ d1 ∧ de ≠ dx ∧ d1 ≠ dx ∧ de ≠ kf ∧ de ≠ kx ∧ dx ≠ kf ∧ d1 ≠ kx) ∧ (de ≠ kt ∧ d1 ≠ kt ∧ dx ≠ kt ∧ d2 ≠ kt) ∧ de < ts.size ∧ d1 < ts.size ∧ dx < ts.size ∧ d2 < ts.size)
    {vf vt xv : Value} {l1 l3 : List T} {x : T} (kf' : ts.getD kf undef = vf) (kt' : ts.getD kt undef = vt) (kx' : ts.getD kx undef = xv)
    (HF : ∀ W, Turn (fun _ => False) w0 W → RdE E W vf l1) (HT : ∀ W, Turn (fun _ => False) w0 W → RdE E W vt l3) (hl : l1.length + l3.length ≤ 2000000)
    (hE : ∀ W, (Instr.buildSlice tS 0 #[]).run P W = .ok (.slice (some ⟨W.heap.size, 0, none⟩) 0 0) (W.alloc (.cells #[] e)))
    (hX : ∀ W, (Instr.buildSlice tS 1 #[(0, xv)]).run P W = .ok (.slice (some ⟨W.heap.size, 0, none⟩) 1 1) (W.alloc (.cells (E.enc x).toArray e)))
    (hw : Turn (fun _ => False) w0 w)
    (h : ∀ W v a b c d, NewE E e w0 W v (l1 ++ x :: l3) → Drawn P ops Q S zs fuel (((((listed.setIfInBounds ie true).setIfInBounds i1 true).setIfInBounds ix true).setIfInBounds i2 true).setIfInBounds i3 true) (((((ts.setIfInBounds de a).setIfInBounds d1 b).setIfInBounds dx c).setIfInBounds d2 d).setIfInBounds d3 v) ds W) :
    Drawn P ops Q S zs (fuel + 5) listed ts ds w := by
  obtain ⟨⟨n1, n2, n3⟩, ⟨m1, m2, m3, m4, m5, m6, m7⟩, ⟨q1, q2, q3, q4⟩, s1, s2, s3, s4⟩ := hd
  have EE : ∀ (ts : Array Value) W, ∃ v w', (execOp ({ tmps := ts, defers := ds } : Act).eval oe).run P W = .ok (.value v) w' ∧ (v = .slice (some ⟨W.heap.size, 0, none⟩) 0 0 ∧ w' = W.alloc (.cells #[] e)) := fun ts W =>
    ⟨_, _, by unfold execOp; simp [pe, hE], rfl, rfl⟩
  have EX : ∀ (ts : Array Value) W, ts.getD kx undef = xv → ∃ v w', (execOp ({ tmps := ts, defers := ds } : Act).eval ox).run P W = .ok (.value v) w' ∧ (v = .slice (some ⟨W.heap.size, 0, none⟩) 1 1 ∧ w' = W.alloc (.cells (E.enc x).toArray e)) := fun ts W hk =>
    ⟨_, _, by rw [Array.getD_eq_getD_getElem?] at hk; unfold execOp; simp [px, Act.eval, hk, hX], rfl, rfl⟩
  have tail : ∀ (W : World) (a b c : Value), NewE E e w0 W b l1 → RdE E W c [x] →
      Drawn P ops Q S zs (fuel + 2) (((listed.setIfInBounds ie true).setIfInBounds i1 true).setIfInBounds ix true) (((ts.setIfInBounds de a).setIfInBounds d1 b).setIfInBounds dx c) ds W := fun W a b c hn hc => by
    refine drawn_any [i2] r3 (by simp) (drawn_does (fun u w' => NewE E e w0 w' u (l1 ++ [x])) h2 g2 t2 ?_ (fun u w' hu => ⟨HS _ hu.turn, ?_⟩) drawn_nil)
    · obtain ⟨u, w', e1, e2, -⟩ := app_does (P := P) ht hi0 hz hby (a := ({ tmps := ((ts.setIfInBounds de a).setIfInBounds d1 b).setIfInBounds dx c, defers := ds } : Act)) p2 (v := b) (y := c) (by simp only [Act.eval]; rw [slot_ne (Ne.symm m3), slot_eq (by simpa using s2)]) (by simp only [Act.eval]; rw [slot_eq (by simpa using s3)]) hn hc (by simp; omega)
      exact ⟨u, w', e1, e2⟩
    · refine drawn_any [i3] r4 (by simp) (drawn_does (fun v w' => NewE E e w0 w' v (l1 ++ x :: l3)) h3 g3 t3 ?_ (fun v w' hv => ⟨HS _ hv.turn, h w' v a b c u hv⟩) drawn_nil)
      obtain ⟨v, w'', e1, e2, -⟩ := app_does (P := P) ht hi0 hz hby (a := ({ tmps := (((ts.setIfInBounds de a).setIfInBounds d1 b).setIfInBounds dx c).setIfInBounds d2 u, defers := ds } : Act)) p3 (v := u) (y := vt) (by simp only [Act.eval]; rw [slot_eq (by simpa using s4)]) (by simp only [Act.eval]; rw [slot_ne q4, slot_ne q3, slot_ne q2, slot_ne q1, kt']) hu (HT _ hu.turn) (by simp; omega)
      exact ⟨v, w'', e1, by simpa using e2⟩
  refine drawn_any [ie, ix] r0 (by simp) (drawn_does (fun v w' => v = .slice (some ⟨w.heap.size, 0, none⟩) 0 0 ∧ w' = w.alloc (.cells #[] e)) he ge te (EE ts w) ?_ (drawn_does (fun v w' => v = .slice (some ⟨w.heap.size, 0, none⟩) 1 1 ∧ w' = w.alloc (.cells (E.enc x).toArray e)) hx gx tx (EX ts w kx') ?_ drawn_nil))
  · rintro v w' ⟨rfl, rfl⟩
    have hn := NewE.empty (E := E) (e := e) w0 w hw
    refine ⟨HS _ hn.turn, drawn_any [i1, ix] re (by simp) (drawn_does (fun u w' => NewE E e w0 w' u l1) h1 g1 t1 ?_ (fun u w' hu => ⟨HS _ hu.turn, ?_⟩) (drawn_does (fun v w' => v = .slice (some ⟨(w.alloc (.cells #[] e)).heap.size, 0, none⟩) 1 1 ∧ w' = (w.alloc (.cells #[] e)).alloc (.cells (E.enc x).toArray e)) hx gx tx (EX _ _ (by rw [slot_ne m5, kx'])) ?_ drawn_nil))⟩
    · obtain ⟨u, w', e1, e2, -⟩ := app_does (P := P) ht hi0 hz hby (a := ({ tmps := ts.setIfInBounds de (.slice (some ⟨w.heap.size, 0, none⟩) 0 0), defers := ds } : Act)) p1 (y := vf) (by simp only [Act.eval]; rw [slot_eq s1]) (by simp only [Act.eval]; rw [slot_ne m4, kf']) hn (HF _ hn.turn) (by simp; omega)
      exact ⟨u, w', e1, by simpa using e2⟩
    · refine drawn_any [ix] re1 (by simp) (drawn_does (fun v w2 => v = .slice (some ⟨w'.heap.size, 0, none⟩) 1 1 ∧ w2 = w'.alloc (.cells (E.enc x).toArray e)) hx gx tx (EX _ _ (by rw [slot_ne m7, slot_ne m5, kx'])) ?_ drawn_nil)
      rintro v w2 ⟨rfl, rfl⟩
      exact ⟨HS _ (hu.alloc _).turn, tail _ _ _ _ (hu.alloc _) (one_row E e w' x)⟩
    · rintro v w2 ⟨rfl, rfl⟩
      have hn2 := hn.alloc (.cells (E.enc x).toArray e)
      have hr := one_row E e (w.alloc (.cells #[] e)) x
      refine ⟨HS _ hn2.turn, drawn_any [i1] rex (by simp) (drawn_does (fun u w3 => NewE E e w0 w3 u l1 ∧ RdE E w3 (.slice (some ⟨(w.alloc (.cells #[] e)).heap.size, 0, none⟩) 1 1) [x]) h1 g1 t1 ?_ (fun u w3 hu => ⟨HS _ hu.1.turn, ?_⟩) drawn_nil)⟩
      · obtain ⟨u, w3, e1, e2, e3⟩ := app_does (P := P) ht hi0 hz hby (a := ({ tmps := (ts.setIfInBounds de (.slice (some ⟨w.heap.size, 0, none⟩) 0 0)).setIfInBounds dx (.slice (some ⟨(w.alloc (.cells #[] e)).heap.size, 0, none⟩) 1 1), defers := ds } : Act)) p1 (v := .slice (some ⟨w.heap.size, 0, none⟩) 0 0) (y := vf) (by simp only [Act.eval]; rw [slot_ne (Ne.symm m2), slot_eq s1]) (by simp only [Act.eval]; rw [slot_ne m6, slot_ne m4, kf']) hn2 (HF _ hn2.turn) (by simp; omega)
        refine ⟨u, w3, e1, by simpa using e2, hr.turn e3 (fun k h1 h2 => ?_)⟩
        rw [World.size_alloc] at h1
        simp [Value.ownBlock] at h1 h2
        omega
      · rw [Array.setIfInBounds_comm _ _ (Ne.symm n3), Array.setIfInBounds_comm _ _ (Ne.symm m3)]
        exact tail _ _ _ _ hu.1 hu.2
  · rintro v w' ⟨rfl, rfl⟩
    have hr := one_row E e w x
    have hw1 : Turn (fun _ => False) w0 (w.alloc (.cells (E.enc x).toArray e)) := hw.alloc _
    refine ⟨HS _ hw1, drawn_any [ie] rx (by simp) (drawn_does (fun v w' => v = .slice (some ⟨(w.alloc (.cells (E.enc x).toArray e)).heap.size, 0, none⟩) 0 0 ∧ w' = (w.alloc (.cells (E.enc x).toArray e)).alloc (.cells #[] e)) he ge te (EE _ _) ?_ drawn_nil)⟩
    rintro v w2 ⟨rfl, rfl⟩
    have hn := NewE.empty (E := E) (e := e) w0 _ hw1
    have hr2 := hr.later ((Turn.refl _ (w.alloc (.cells (E.enc x).toArray e))).alloc (.cells #[] e))
    rw [Array.setIfInBounds_comm _ _ (Ne.symm n2), Array.setIfInBounds_comm _ _ (Ne.symm m2)]
    refine ⟨HS _ hn.turn, drawn_any [i1] rex (by simp) (drawn_does (fun u w3 => NewE E e w0 w3 u l1 ∧ RdE E w3 (.slice (some ⟨w.heap.size, 0, none⟩) 1 1) [x]) h1 g1 t1 ?_ (fun u w3 hu => ⟨HS _ hu.1.turn, ?_⟩) drawn_nil)⟩
    · obtain ⟨u, w3, e1, e2, e3⟩ := app_does (P := P) ht hi0 hz hby (a := ({ tmps := (ts.setIfInBounds de (.slice (some ⟨(w.alloc (.cells (E.enc x).toArray e)).heap.size, 0, none⟩) 0 0)).setIfInBounds dx (.slice (some ⟨w.heap.size, 0, none⟩) 1 1), defers := ds } : Act)) p1 (v := .slice (some ⟨(w.alloc (.cells (E.enc x).toArray e)).heap.size, 0, none⟩) 0 0) (y := vf) (by simp only [Act.eval]; rw [slot_ne (Ne.symm m2), slot_eq s1]) (by simp only [Act.eval]; rw [slot_ne m6, slot_ne m4, kf']) hn (HF _ hn.turn) (by simp; omega)
      refine ⟨u, w3, e1, by simpa using e2, hr2.turn e3 (fun k h1 h2 => ?_)⟩
      rw [World.size_alloc] at h2
      simp [Value.ownBlock] at h1 h2
      omega
    · rw [Array.setIfInBounds_comm _ _ (Ne.symm n3), Array.setIfInBounds_comm _ _ (Ne.symm m3)]
      exact tail _ _ _ _ hu.1 hu.2
end

end Go.Proofs.Ytnnlgeldjjknmaa
