
/-
  Two cells together, by the program and by the document.
-/
import Derived.Test.YtghplmgpnnaofaaMb
namespace Go.Proofs.Ytghplmgpnnaofaa
open Go.RowKit

/-- What a call that makes a cell answers. -/
def outC : Option Cl → Value
  | some c => .tuple #[cv c, .bool true]
  | none => .tuple #[cv Cl.zero, .bool false]
theorem okC_zero : okC Cl.zero := ⟨rfl, rfl, rfl, rfl⟩
theorem okC_of {v : Int} (h : fit v = true) : okC (Cl.of v) := ⟨rfl, h, h, h⟩
theorem okC_merge {a b c : Cl} (ha : okC a) (hb : okC b) (h : mergeC a b = some c) : okC c := by
  unfold mergeC at h
  split at h
  · cases h
    exact hb
  · split at h
    · cases h
      exact ha
    · split at h
      · rename_i g
        rw [Bool.and_eq_true] at g
        cases h
        obtain ⟨_, _, a3, a4⟩ := ha
        obtain ⟨_, _, b3, b4⟩ := hb
        refine ⟨g.1, g.2, ?_, ?_⟩
        · show fit (min a.lo b.lo) = true
          rw [fit_iff] at *
          omega
        · show fit (max a.hi b.hi) = true
          rw [fit_iff] at *
          omega
      · cases h
theorem merge_l {n : Int} (s lo hi : Int) (b : Cl) (h : n = 0) : Ending.returned (.tuple #[cv b, .bool true]) = .returned (outC (mergeC ⟨n, s, lo, hi⟩ b)) := by
  unfold mergeC
  rw [if_pos h]
  rfl
theorem merge_r {m : Int} (t lo' hi' : Int) (a : Cl) (h : ¬ a.n = 0) (g : m = 0) : Ending.returned (.tuple #[cv a, .bool true]) = .returned (outC (mergeC a ⟨m, t, lo', hi'⟩)) := by
  unfold mergeC
  rw [if_neg h, if_pos g]
  rfl
theorem merge_no {a b : Cl} (h0 : ¬ a.n = 0) (h1 : ¬ b.n = 0) (h : fit (a.n + b.n) = false ∨ fit (a.s + b.s) = false) : Ending.returned (.tuple #[cv Cl.zero, .bool false]) = .returned (outC (mergeC a b)) := by
  unfold mergeC
  rw [if_neg h0, if_neg h1, if_neg (by rcases h with h | h <;> rw [h] <;> simp)]
  rfl
theorem merge_yes {a b : Cl} (h0 : ¬ a.n = 0) (h1 : ¬ b.n = 0) (ha : fit (a.n + b.n) = true) (hb : fit (a.s + b.s) = true) {LO HI : Int} (g1 : LO = min a.lo b.lo) (g2 : HI = max a.hi b.hi) :
    Ending.returned (.tuple #[.agg #[.int .i64 (a.n + b.n), .int .i64 (a.s + b.s), .int .i64 LO, .int .i64 HI], .bool true]) = .returned (outC (mergeC a b)) := by
  subst g1 g2
  unfold mergeC
  rw [if_neg h0, if_neg h1, if_pos (by rw [ha, hb]; rfl)]
  rfl

set_option maxRecDepth 100000 in
set_option maxHeartbeats 2000000 in
theorem merge_any (n s lo hi m t lo' hi' : Int) (w : World) (hn : Hid (okC ⟨n, s, lo, hi⟩)) (hm : Hid (okC ⟨m, t, lo', hi'⟩)) :
    Calls Try.prog 15 #[.agg #[.int .i64 n, .int .i64 s, .int .i64 lo, .int .i64 hi], .agg #[.int .i64 m, .int .i64 t, .int .i64 lo', .int .i64 hi']] w fun e w' => e = .returned (outC (mergeC ⟨n, s, lo, hi⟩ ⟨m, t, lo', hi'⟩)) ∧ Turn (fun _ => False) w w' := by
  have HS := Lib.hid (sum_any n m · (Lib.hid hn.out.1) (Lib.hid hm.out.1))
  have HT := Lib.hid (sum_any s t · (Lib.hid hn.out.2.1) (Lib.hid hm.out.2.1))
  clear hn hm
  by_cases h0 : n = 0
  · have hr := Lib.hid (merge_l s lo hi (⟨m, t, lo', hi'⟩ : Cl) h0)
    subst h0
    go_enter Try.func15, Try.ntmps15
    go_wp2
    refine bodyPost_ret (v := .tuple #[.agg #[.int .i64 m, .int .i64 t, .int .i64 lo', .int .i64 hi'], .bool true]) ?_ rfl ⟨hr.out, (((Turn.refl _ w).alloc _).alloc _).alloc _⟩
    rw [results_cell_tmp rfl]
    go_simp
  have h0' : (n == 0) = false := by rw [beq_eq_false_iff_ne]; exact h0
  by_cases h1 : m = 0
  · have hr := Lib.hid (merge_r t lo' hi' (⟨n, s, lo, hi⟩ : Cl) h0 h1)
    subst h1
    go_enter Try.func15, Try.ntmps15
    go_wp2
    refine bodyPost_ret (v := .tuple #[.agg #[.int .i64 n, .int .i64 s, .int .i64 lo, .int .i64 hi], .bool true]) ?_ rfl ⟨hr.out, (((Turn.refl _ w).alloc _).alloc _).alloc _⟩
    rw [results_cell_tmp rfl]
    go_simp
  have h1' : (m == 0) = false := by rw [beq_eq_false_iff_ne]; exact h1
  cases ha : fit (n + m)
  · rw [sumV_no ha] at HS
    have hr := Lib.hid (merge_no (a := ⟨n, s, lo, hi⟩) (b := ⟨m, t, lo', hi'⟩) h0 h1 (.inl ha))
    cases hb : fit (s + t)
    · rw [sumV_no hb] at HT
      have HA := Lib.hid ha; have HB := Lib.hid hb; clear ha hb
      go_enter Try.func15, Try.ntmps15
      go_wp2_with (first
        | (go_at_call 22; (with_reducible refine (HS.out _).mono ?_); rintro e w' ⟨rfl, rfl⟩)
        | (go_at_call 22; (with_reducible refine (HT.out _).mono ?_); rintro e w' ⟨rfl, rfl⟩))
      refine bodyPost_ret (v := .tuple #[.agg #[.int .i64 0, .int .i64 0, .int .i64 0, .int .i64 0], .bool false]) ?_ rfl ⟨hr.out, (((Turn.refl _ w).alloc _).alloc _).alloc _⟩
      rw [results_cell_tmp rfl]
      go_simp
    · rw [sumV_yes hb] at HT
      have HA := Lib.hid ha; have HB := Lib.hid hb; clear ha hb
      go_enter Try.func15, Try.ntmps15
      go_wp2_with (first
        | (go_at_call 22; (with_reducible refine (HS.out _).mono ?_); rintro e w' ⟨rfl, rfl⟩)
        | (go_at_call 22; (with_reducible refine (HT.out _).mono ?_); rintro e w' ⟨rfl, rfl⟩))
      refine bodyPost_ret (v := .tuple #[.agg #[.int .i64 0, .int .i64 0, .int .i64 0, .int .i64 0], .bool false]) ?_ rfl ⟨hr.out, (((Turn.refl _ w).alloc _).alloc _).alloc _⟩
      rw [results_cell_tmp rfl]
      go_simp
  · rw [sumV_yes ha] at HS
    cases hb : fit (s + t)
    · rw [sumV_no hb] at HT
      have hr := Lib.hid (merge_no (a := ⟨n, s, lo, hi⟩) (b := ⟨m, t, lo', hi'⟩) h0 h1 (.inr hb))
      have HA := Lib.hid ha; have HB := Lib.hid hb; clear ha hb
      go_enter Try.func15, Try.ntmps15
      go_wp2_with (first
        | (go_at_call 22; (with_reducible refine (HS.out _).mono ?_); rintro e w' ⟨rfl, rfl⟩)
        | (go_at_call 22; (with_reducible refine (HT.out _).mono ?_); rintro e w' ⟨rfl, rfl⟩))
      refine bodyPost_ret (v := .tuple #[.agg #[.int .i64 0, .int .i64 0, .int .i64 0, .int .i64 0], .bool false]) ?_ rfl ⟨hr.out, (((Turn.refl _ w).alloc _).alloc _).alloc _⟩
      rw [results_cell_tmp rfl]
      go_simp
    · rw [sumV_yes hb] at HT
      have hr := fun LO HI (g1 : LO = min lo lo') (g2 : HI = max hi hi') => merge_yes (a := ⟨n, s, lo, hi⟩) (b := ⟨m, t, lo', hi'⟩) h0 h1 ha hb g1 g2
      have HR := Lib.hid hr; clear hr
      have HA := Lib.hid ha; have HB := Lib.hid hb; clear ha hb
      go_enter Try.func15, Try.ntmps15
      go_wp2_with (first
        | (go_at_call 22; (with_reducible refine (HS.out _).mono ?_); rintro e w' ⟨rfl, rfl⟩)
        | (go_at_call 22; (with_reducible refine (HT.out _).mono ?_); rintro e w' ⟨rfl, rfl⟩))
      all_goals refine bodyPost_ret (v := .tuple #[.agg #[.int .i64 (n + m), .int .i64 (s + t), .int .i64 (min lo lo'), .int .i64 (max hi hi')], .bool true]) ?_ rfl ⟨HR.out _ _ rfl rfl, (((Turn.refl _ w).alloc _).alloc _).alloc _⟩
      · rw [results_cell_tmp rfl, show min lo lo' = lo' by omega, show max hi hi' = hi' by omega]
        go_simp
      · rw [results_cell_tmp rfl, show min lo lo' = lo' by omega, show max hi hi' = hi by omega]
        go_simp
      · rw [results_cell_tmp rfl, show min lo lo' = lo by omega, show max hi hi' = hi' by omega]
        go_simp
      · rw [results_cell_tmp rfl, show min lo lo' = lo by omega, show max hi hi' = hi by omega]
        go_simp

set_option maxRecDepth 100000 in
set_option maxHeartbeats 2000000 in
theorem ref_merge (n s lo hi m t lo' hi' : Int) (w : World) (hn : Hid (okC ⟨n, s, lo, hi⟩)) (hm : Hid (okC ⟨m, t, lo', hi'⟩)) :
    Calls Try.prog 18 #[.agg #[.int .i64 n, .int .i64 s, .int .i64 lo, .int .i64 hi], .agg #[.int .i64 m, .int .i64 t, .int .i64 lo', .int .i64 hi']] w fun e w' => e = .returned (outC (mergeC ⟨n, s, lo, hi⟩ ⟨m, t, lo', hi'⟩)) ∧ Turn (fun _ => False) w w' := by
  have HS := Lib.hid (ref_add n m · (Lib.hid hn.out.1) (Lib.hid hm.out.1))
  have HT := Lib.hid (ref_add s t · (Lib.hid hn.out.2.1) (Lib.hid hm.out.2.1))
  clear hn hm
  by_cases h0 : n = 0
  · have hr := Lib.hid (merge_l s lo hi (⟨m, t, lo', hi'⟩ : Cl) h0)
    subst h0
    go_enter Try.func18, Try.ntmps18
    go_wp2
    refine bodyPost_ret (v := .tuple #[.agg #[.int .i64 m, .int .i64 t, .int .i64 lo', .int .i64 hi'], .bool true]) ?_ rfl ⟨hr.out, (((Turn.refl _ w).alloc _).alloc _).alloc _⟩
    rw [results_cell_tmp rfl]
    go_simp
  have h0' : (n == 0) = false := by rw [beq_eq_false_iff_ne]; exact h0
  by_cases h1 : m = 0
  · have hr := Lib.hid (merge_r t lo' hi' (⟨n, s, lo, hi⟩ : Cl) h0 h1)
    subst h1
    go_enter Try.func18, Try.ntmps18
    go_wp2
    refine bodyPost_ret (v := .tuple #[.agg #[.int .i64 n, .int .i64 s, .int .i64 lo, .int .i64 hi], .bool true]) ?_ rfl ⟨hr.out, (((Turn.refl _ w).alloc _).alloc _).alloc _⟩
    rw [results_cell_tmp rfl]
    go_simp
  have h1' : (m == 0) = false := by rw [beq_eq_false_iff_ne]; exact h1
  cases ha : fit (n + m)
  · rw [sumV_no ha] at HS
    have hr := Lib.hid (merge_no (a := ⟨n, s, lo, hi⟩) (b := ⟨m, t, lo', hi'⟩) h0 h1 (.inl ha))
    cases hb : fit (s + t)
    · rw [sumV_no hb] at HT
      have HA := Lib.hid ha; have HB := Lib.hid hb; clear ha hb
      go_enter Try.func18, Try.ntmps18
      go_wp2_with (first
        | (go_at_call 23; (with_reducible refine (HS.out _).mono ?_); rintro e w' ⟨rfl, rfl⟩)
        | (go_at_call 23; (with_reducible refine (HT.out _).mono ?_); rintro e w' ⟨rfl, rfl⟩))
      refine bodyPost_ret (v := .tuple #[.agg #[.int .i64 0, .int .i64 0, .int .i64 0, .int .i64 0], .bool false]) ?_ rfl ⟨hr.out, (((Turn.refl _ w).alloc _).alloc _).alloc _⟩
      rw [results_cell_tmp rfl]
      go_simp
    · rw [sumV_yes hb] at HT
      have HA := Lib.hid ha; have HB := Lib.hid hb; clear ha hb
      go_enter Try.func18, Try.ntmps18
      go_wp2_with (first
        | (go_at_call 23; (with_reducible refine (HS.out _).mono ?_); rintro e w' ⟨rfl, rfl⟩)
        | (go_at_call 23; (with_reducible refine (HT.out _).mono ?_); rintro e w' ⟨rfl, rfl⟩))
      refine bodyPost_ret (v := .tuple #[.agg #[.int .i64 0, .int .i64 0, .int .i64 0, .int .i64 0], .bool false]) ?_ rfl ⟨hr.out, (((Turn.refl _ w).alloc _).alloc _).alloc _⟩
      rw [results_cell_tmp rfl]
      go_simp
  · rw [sumV_yes ha] at HS
    cases hb : fit (s + t)
    · rw [sumV_no hb] at HT
      have hr := Lib.hid (merge_no (a := ⟨n, s, lo, hi⟩) (b := ⟨m, t, lo', hi'⟩) h0 h1 (.inr hb))
      have HA := Lib.hid ha; have HB := Lib.hid hb; clear ha hb
      go_enter Try.func18, Try.ntmps18
      go_wp2_with (first
        | (go_at_call 23; (with_reducible refine (HS.out _).mono ?_); rintro e w' ⟨rfl, rfl⟩)
        | (go_at_call 23; (with_reducible refine (HT.out _).mono ?_); rintro e w' ⟨rfl, rfl⟩))
      refine bodyPost_ret (v := .tuple #[.agg #[.int .i64 0, .int .i64 0, .int .i64 0, .int .i64 0], .bool false]) ?_ rfl ⟨hr.out, (((Turn.refl _ w).alloc _).alloc _).alloc _⟩
      rw [results_cell_tmp rfl]
      go_simp
    · rw [sumV_yes hb] at HT
      have hr := fun LO HI (g1 : LO = min lo lo') (g2 : HI = max hi hi') => merge_yes (a := ⟨n, s, lo, hi⟩) (b := ⟨m, t, lo', hi'⟩) h0 h1 ha hb g1 g2
      have HR := Lib.hid hr; clear hr
      have HA := Lib.hid ha; have HB := Lib.hid hb; clear ha hb
      go_enter Try.func18, Try.ntmps18
      go_wp2_with (first
        | (go_at_call 23; (with_reducible refine (HS.out _).mono ?_); rintro e w' ⟨rfl, rfl⟩)
        | (go_at_call 23; (with_reducible refine (HT.out _).mono ?_); rintro e w' ⟨rfl, rfl⟩))
      all_goals refine bodyPost_ret (v := .tuple #[.agg #[.int .i64 (n + m), .int .i64 (s + t), .int .i64 (min lo lo'), .int .i64 (max hi hi')], .bool true]) ?_ rfl ⟨HR.out _ _ rfl rfl, (((Turn.refl _ w).alloc _).alloc _).alloc _⟩
      · rw [results_cell_tmp rfl, show min lo lo' = lo' by omega, show max hi hi' = hi' by omega]
        go_simp
      · rw [results_cell_tmp rfl, show min lo lo' = lo' by omega, show max hi hi' = hi by omega]
        go_simp
      · rw [results_cell_tmp rfl, show min lo lo' = lo by omega, show max hi hi' = hi' by omega]
        go_simp
      · rw [results_cell_tmp rfl, show min lo lo' = lo by omega, show max hi hi' = hi by omega]
        go_simp

end Go.Proofs.Ytghplmgpnnaofaa
