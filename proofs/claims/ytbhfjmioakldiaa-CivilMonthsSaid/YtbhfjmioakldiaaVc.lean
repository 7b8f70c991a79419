
/-
  'CivilMonths': the month of any day, the days of any month, and the day of any hour, are the same by the program and by the document. No condition.
-/
import Derived.Test.YtbhfjmioakldiaaKj
import Derived.Test.YtbhfjmioakldiaaKg
import Derived.ProofKit
import Derived.OpenShut
namespace Go.Proofs.Ytbhfjmioakldiaa.civilMonths
open Go.ChangeShapes Go.WideShapes Go.ChangeAt Go.RowKit
set_option linter.unusedVariables false

theorem own : ownKnob Try.prog.godebug = none := by kernel_rfl
theorem laidOut : laidOutB Try.prog = true := by kernel_rfl

set_option maxRecDepth 100000 in
set_option maxHeartbeats 1000000 in
theorem out (a0 a1 a2 : Int) (h : a0 < 0 ∨ a0 > 1048576 ∨ a1 < 0 ∨ a1 > 35000 ∨ a2 < 0 ∨ a2 > 16777216) (w : World) :
    Calls Try.prog 5 #[.int .i64 a0, .int .i64 a1, .int .i64 a2] w fun e w' => e = .returned (.bool true) ∧ Below w.heap.size w w' := by
  by_cases h1 : a0 < 0
  · go_enter Try.func5, Try.ntmps5
    go_wp2_with (go_at_call 9; refine (alive_any4 _).mono ?_; rintro e w5 ⟨rfl, ht⟩; have HT := Lib.hid ht; clear ht)
    go_ret
    exact ⟨rfl, HT.out.below (Nat.le_refl _) (fun _ f => f.elim)⟩
  by_cases h2 : a0 > 1048576
  · go_enter Try.func5, Try.ntmps5
    go_wp2_with (go_at_call 9; refine (alive_any4 _).mono ?_; rintro e w5 ⟨rfl, ht⟩; have HT := Lib.hid ht; clear ht)
    go_ret
    exact ⟨rfl, HT.out.below (Nat.le_refl _) (fun _ f => f.elim)⟩
  by_cases h3 : a1 < 0
  · go_enter Try.func5, Try.ntmps5
    go_wp2_with (go_at_call 9; refine (alive_any4 _).mono ?_; rintro e w5 ⟨rfl, ht⟩; have HT := Lib.hid ht; clear ht)
    go_ret
    exact ⟨rfl, HT.out.below (Nat.le_refl _) (fun _ f => f.elim)⟩
  by_cases h4 : a1 > 35000
  · go_enter Try.func5, Try.ntmps5
    go_wp2_with (go_at_call 9; refine (alive_any4 _).mono ?_; rintro e w5 ⟨rfl, ht⟩; have HT := Lib.hid ht; clear ht)
    go_ret
    exact ⟨rfl, HT.out.below (Nat.le_refl _) (fun _ f => f.elim)⟩
  by_cases h5 : a2 < 0
  · go_enter Try.func5, Try.ntmps5
    go_wp2_with (go_at_call 9; refine (alive_any4 _).mono ?_; rintro e w5 ⟨rfl, ht⟩; have HT := Lib.hid ht; clear ht)
    go_ret
    exact ⟨rfl, HT.out.below (Nat.le_refl _) (fun _ f => f.elim)⟩
  have h6 : a2 > 16777216 := by omega
  clear h
  go_enter Try.func5, Try.ntmps5
  go_wp2_with (go_at_call 9; refine (alive_any4 _).mono ?_; rintro e w5 ⟨rfl, ht⟩; have HT := Lib.hid ht; clear ht)
  go_ret
  exact ⟨rfl, HT.out.below (Nat.le_refl _) (fun _ f => f.elim)⟩

set_option maxRecDepth 100000 in
set_option maxHeartbeats 1000000 in
theorem walk (a0 : Int) (w0 : (Lit.int .i64 a0).wf = true) (a1 : Int) (w1 : (Lit.int .i64 a1).wf = true) (a2 : Int) (w2 : (Lit.int .i64 a2).wf = true) (w : World) :
    Calls Try.prog 5 #[.int .i64 a0, .int .i64 a1, .int .i64 a2] w fun e w' => e = .returned (.bool true) ∧ Below w.heap.size w w' := by
  clear w0 w1 w2
  by_cases h : a0 < 0 ∨ a0 > 1048576 ∨ a1 < 0 ∨ a1 > 35000 ∨ a2 < 0 ∨ a2 > 16777216
  · exact out a0 a1 a2 h w
  obtain ⟨N, rfl⟩ := Int.eq_ofNat_of_zero_le (a := a0) (by omega)
  obtain ⟨M, rfl⟩ := Int.eq_ofNat_of_zero_le (a := a1) (by omega)
  obtain ⟨H, rfl⟩ := Int.eq_ofNat_of_zero_le (a := a2) (by omega)
  have b1 : N ≤ 1048576 := by omega
  have b2 : M ≤ 35000 := by omega
  have b3 : H ≤ 16777216 := by omega
  clear h
  have HM := Lib.hid (month_any N · (by omega))
  have HR := Lib.hid (ref_month N · (by omega))
  have HS := Lib.hid (span_any M · (by omega))
  have HP := Lib.hid (ref_span M · (by omega))
  have HD := Lib.hid (dayof_any H · (by omega))
  have e1 : (H : Int) / 24 = (H / 24 : Nat) := by omega
  generalize 12 * ((dateOf N).1 - 1970) + ((dateOf N).2.1 - 1) = x at *
  generalize num (1970 + M / 12) (M % 12 + 1) 1 + mlen (1970 + M / 12) (M % 12 + 1) = z at *
  generalize num (1970 + M / 12) (M % 12 + 1) 1 = y at *
  generalize H / 24 = q at *
  go_enter Try.func5, Try.ntmps5
  go_wp2_with (first
    | (go_at_call 20; refine (HM.out _).mono ?_; rintro e w' ⟨rfl, k, rfl⟩)
    | (go_at_call 21; refine (HR.out _).mono ?_; rintro e w' ⟨rfl, rfl⟩)
    | (go_at_call 18; refine (HS.out _).mono ?_; rintro e w' ⟨rfl, k2, rfl⟩)
    | (go_at_call 19; refine (HP.out _).mono ?_; rintro e w' ⟨rfl, rfl⟩)
    | (go_at_call 22; refine (HD.out _).mono ?_; rintro e w' ⟨rfl, k3, rfl⟩)
    | (go_at_call 9; refine (alive_any4 _).mono ?_; rintro e w5 ⟨rfl, ht⟩; have HT := Lib.hid ht; clear ht))
  go_ret
  exact ⟨rfl, (((Turn.refl (fun _ => False) w).drewN _).trans HT.out (fun _ _ f => f)).below (Nat.le_refl _) (fun _ f => f.elim)⟩

set_option maxRecDepth 100000 in
theorem lifted (os : Os) (started : os.Started) (H : Type) (enc : TypeId × Value → H) :
    ReturnsInHanded {} Try.checked os 5 .any (Rows.civilMonthsSpec.pre6 enc Try.prog Try.f5 Rows.civilMonthsRow.domain false) (Rows.civilMonthsSpec.post enc Try.prog Try.f5 false true false false) := by
  refine returnsInHanded_of_change (C := Try.checked) own started (by kernel_rfl) Try.func5
    (ChangeSpec.witness6 (enc := enc) (C := Try.checked) false ⟨#[], #[.int .i64 0, .int .i64 0, .int .i64 0], []⟩ 8 (by kernel_rfl) (by kernel_rfl) (by kernel_rfl) (by kernel_rfl)) ?_
  intro W base args ds gs before hval0 hW hcnd _
  have hval : ∀ (j : Nat) t v, Try.f5.params[j]? = some t → args[j]? = some v → Value.okWide Try.prog W .any base t v := hval0
  have hW' := hW
  obtain ⟨p, q, hA0, hV, rfl, hfz, hnd⟩ := hW
  have hA : DataW.TrodAll enc Try.prog W 0 (fun _ => true) true Try.f5.params.toList args.toList ds p := hA0
  rw [Try.params5] at hA hval
  obtain ⟨v0, vs0, d0, ds0, p0, q0, hargs, rfl, rfl, h0, r0⟩ := trodAll_cons hA
  obtain ⟨v1, vs1, d1, ds1, p1, q1, rfl, rfl, rfl, h1, r1⟩ := trodAll_cons r0
  obtain ⟨v2, vs2, d2, ds2, p2, q2, rfl, rfl, rfl, h2, r2⟩ := trodAll_cons r1
  obtain ⟨rfl, rfl, rfl⟩ := trodAll_nil r2
  obtain rfl : args = #[v0, v1, v2] := by cases args; simp_all
  obtain ⟨rfl, rfl⟩ := trodVars_none hV
  obtain ⟨a0, rfl, rfl, rfl, w0⟩ := open_int Try.underlying2 (hval 0 2 v0 rfl rfl) h0
  obtain ⟨a1, rfl, rfl, rfl, w1⟩ := open_int Try.underlying2 (hval 1 2 v1 rfl rfl) h1
  obtain ⟨a2, rfl, rfl, rfl, w2⟩ := open_int Try.underlying2 (hval 2 2 v2 rfl rfl) h2
  clear hA0 hval0
  simp only [List.append_nil] at hW'
  refine (walk a0 w0 a1 w1 a2 w2 W).mono fun e W' ⟨he, bel⟩ => ?_
  subst he
  exact ⟨_, rfl, _, _, _, [], [], [], hW', trodAll_mk1 (shut_bool Try.underlying4 _), (trodAll_cons_mk (shut_int Try.underlying2 w0) (trodAll_cons_mk (shut_int Try.underlying2 w1) (trodAll_cons_mk (shut_int Try.underlying2 w2) trodAll_mk0))), rfl, bel.frame _, fun h => by cases h⟩

theorem over : Rows.civilMonthsRow.holds Try.pinned (OpenSpec.ofChange Rows.civilMonthsSpec) :=
  OpenClaim.holds_of_wide 5 Try.f5 rfl rfl rfl rfl rfl rfl rfl ⟨rfl, rfl, rfl, rfl, rfl⟩ rfl rfl rfl rfl rfl (by kernel_rfl) Try.func5 (by kernel_rfl)
    (of_decide_eq_true (by kernel_rfl)) (by unfold Func.isWrapper; first | (rw [if_pos (by decide +kernel)]; kernel_rfl) | (rw [if_neg (by decide +kernel)]; exact ⟨rfl, rfl⟩))
    (fun os started H enc _ => lifted os started H enc)

theorem proved : Rows.CivilMonthsSaid := over
#print axioms proved
end Go.Proofs.Ytbhfjmioakldiaa.civilMonths
