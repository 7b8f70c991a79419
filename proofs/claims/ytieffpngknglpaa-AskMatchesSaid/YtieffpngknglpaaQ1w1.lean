
/-
  'AskMatches': which keys match a query that is right, and the group of any. No condition.
-/
import Derived.Test.YtieffpngknglpaaQ1g
import Derived.Test.YtieffpngknglpaaQ1e
import Derived.Test.YtieffpngknglpaaQ1o
import Derived.Test.YtieffpngknglpaaZk
import Derived.ProofKit
import Derived.OpenShut
namespace Go.Proofs.Ytieffpngknglpaa.askMatches
open Go.ChangeShapes Go.WideShapes Go.ChangeAt Go.RowKit
set_option linter.unusedVariables false

theorem own : ownKnob Try.prog.godebug = none := by kernel_rfl
theorem laidOut : laidOutB Try.prog = true := by kernel_rfl

set_option maxRecDepth 100000 in
set_option maxHeartbeats 16000000 in
theorem walk (q : Q13) (k : K9) (w : World) : Calls Try.prog 3 #[qv13 q, kv9 k] w fun e w' => e = .returned (.bool true) ∧ Below w.heap.size w w' := by
  unfold qv13 kv9
  obtain ⟨w0, hw0⟩ : ∃ w0, w0 = (w.alloc (.cells (cells13 q) 25)).alloc (.cells #[.int .i64 k.h, sv9 k.a, sv9 k.b, sv9 k.c, sv9 k.d] 27) := ⟨_, rfl⟩
  have h0 := Qk13.new w q k
  rw [← hw0] at h0
  have HW := Lib.hid hw0
  have HAT0 := Lib.hid h0
  have HAL : Hid (∀ W, Calls Try.prog 8 #[] W fun e w' => e = .returned (.bool true) ∧ Turn (fun _ => False) W w') := fun W => alive_any13 W
  have HLI : Hid (∀ W, Calls Try.prog 6 #[.agg (cells13 q)] W fun e w' => e = .returned (.bool (light13 q)) ∧ Turn (fun _ => False) W w') := fun W => light_any13 q W
  have HCK : Hid (∀ W, Calls Try.prog 7 #[.agg (cells13 q), .int .i64 4] W fun e w' => e = .returned (.int .i64 (chkQ q 4)) ∧ Turn (fun _ => False) W w') := fun W => ref_check13 q 4 W
  obtain ⟨⟨c0, c1, c2, c3, c4, c5, c6, c7, c8, c9, c10, c11, c12, c13⟩, -⟩ := h0.s
  rw [hw0] at c0 c1 c2 c3 c4 c5 c6 c7 c8 c9 c10 c11 c12 c13
  clear hw0 h0
  cases hL : light13 q with
  | false =>
    rw [hL] at HLI
    clear hL
    go_enter Try.func3, Try.ntmps3
    go_wp2_with fail
    rw [← HW.out]
    refine (HLI.out _).mono ?_
    rintro e w1 ⟨rfl, t1⟩
    have HATX := Lib.hid (HAT0.out.later t1)
    clear t1 c0 c1 c2 c3 c4 c5 c6 c7 c8 c9 c10 c11 c12 c13
    go_wp2_with fail
    refine (HAL.out _).mono ?_
    rintro e wB ⟨rfl, tB⟩
    have HTB := Lib.hid (HATX.out.turn.trans tB (fun _ _ f => f))
    clear tB
    go_wp2
    go_ret
    exact ⟨rfl, HTB.out.below (Nat.le_refl _) (fun _ f => f.elim)⟩
  | true =>
    rw [hL] at HLI
    clear hL
    go_enter Try.func3, Try.ntmps3
    go_wp2_with fail
    rw [← HW.out]
    refine (HLI.out _).mono ?_
    rintro e w1 ⟨rfl, t1⟩
    have HAT1 := Lib.hid (HAT0.out.later t1)
    clear t1 c0 c1 c2 c3 c4 c5 c6 c7 c8 c9 c10 c11 c12 c13 HAT0
    obtain ⟨⟨c0, c1, c2, c3, c4, c5, c6, c7, c8, c9, c10, c11, c12, c13⟩, -⟩ := HAT1.out.s
    go_wp2_with fail
    refine (HCK.out _).mono ?_
    rintro e w2 ⟨rfl, t2⟩
    have HATX := Lib.hid (HAT1.out.later t2)
    clear t2 c0 c1 c2 c3 c4 c5 c6 c7 c8 c9 c10 c11 c12 c13 HAT1
    by_cases hc : chkQ q 4 = 0
    · rw [hc]
      clear hc HCK HLI HW
      go_wp2_with fail
      obtain ⟨b, hbb⟩ : ∃ b, b = w.heap.size := ⟨_, rfl⟩
      obtain ⟨m, hmm⟩ : ∃ m, m = w.heap.size + 1 := ⟨_, rfl⟩
      rw [← hmm, ← hbb]
      rw [← hmm, ← hbb] at HATX
      have HAT := Lib.hid (HATX.out.later (Turn.refl (fun _ => False) w2).drew)
      clear hmm hbb HATX
      refine drawn_region (fun W => CQ13 W b q ∧ CK13 W m k) [] (by kernel_rfl) ?_
      generalize World.drew w2 = wd at *
      have hS0 : CQ13 wd b q ∧ CK13 wd m k := HAT.out.s
      refine drawn_take 0 14 (.agg (cells13 q)) rfl rfl (by kernel_rfl) (by kernel_rfl) (by kernel_rfl) (by kernel_rfl) (fun _ _ _ h => h) (by rfl) (by assumption) (by intro w hSw; obtain ⟨⟨b0, b1, b2, b3, b4, b5, b6, b7, b8, b9, b10, b11, b12, b13⟩, ⟨m0, m1, m2, m3, m4⟩⟩ := hSw; go_simp) ?_
      try simp only [List.setIfInBounds_toArray, List.set_cons_zero, List.set_cons_succ]
      refine drawn_take 1 15 (.agg #[.int .i64 k.h, sv9 k.a, sv9 k.b, sv9 k.c, sv9 k.d]) rfl rfl (by kernel_rfl) (by kernel_rfl) (by kernel_rfl) (by kernel_rfl) (fun _ _ _ h => h) (by rfl) (by assumption) (by intro w hSw; obtain ⟨⟨b0, b1, b2, b3, b4, b5, b6, b7, b8, b9, b10, b11, b12, b13⟩, ⟨m0, m1, m2, m3, m4⟩⟩ := hSw; go_simp) ?_
      try simp only [List.setIfInBounds_toArray, List.set_cons_zero, List.set_cons_succ]
      refine drawn_take 3 17 (.agg (cells13 q)) rfl rfl (by kernel_rfl) (by kernel_rfl) (by kernel_rfl) (by kernel_rfl) (fun _ _ _ h => h) (by rfl) (by assumption) (by intro w hSw; obtain ⟨⟨b0, b1, b2, b3, b4, b5, b6, b7, b8, b9, b10, b11, b12, b13⟩, ⟨m0, m1, m2, m3, m4⟩⟩ := hSw; go_simp) ?_
      try simp only [List.setIfInBounds_toArray, List.set_cons_zero, List.set_cons_succ]
      refine drawn_take 4 18 (.agg #[.int .i64 k.h, sv9 k.a, sv9 k.b, sv9 k.c, sv9 k.d]) rfl rfl (by kernel_rfl) (by kernel_rfl) (by kernel_rfl) (by kernel_rfl) (fun _ _ _ h => h) (by rfl) (by assumption) (by intro w hSw; obtain ⟨⟨b0, b1, b2, b3, b4, b5, b6, b7, b8, b9, b10, b11, b12, b13⟩, ⟨m0, m1, m2, m3, m4⟩⟩ := hSw; go_simp) ?_
      try simp only [List.setIfInBounds_toArray, List.set_cons_zero, List.set_cons_succ]
      refine drawn_any [2] (by kernel_rfl) (by simp) ?_
      refine drawn_cons rfl (fun K2 hK => ?_) drawn_nil
      go_simp
      refine (matches_any13 q k wd).mono ?_
      rintro e w3 ⟨rfl, t3⟩
      have HAT3 := Lib.hid (HAT.out.later t3)
      have hS3 : CQ13 w3 b q ∧ CK13 w3 m k := HAT3.out.s
      refine hK.out _ _ _ hS3 ?_
      clear hK K2 HAT hS0 t3
      try simp only [List.setIfInBounds_toArray, List.set_cons_zero, List.set_cons_succ]
      refine drawn_any [5] (by kernel_rfl) (by simp) ?_
      refine drawn_cons rfl (fun K2 hK => ?_) drawn_nil
      go_simp
      refine (ref_matches13 q k w3).mono ?_
      rintro e w4 ⟨rfl, t4⟩
      have HAT4 := Lib.hid (HAT3.out.later t4)
      have hS4 : CQ13 w4 b q ∧ CK13 w4 m k := HAT4.out.s
      refine hK.out _ _ _ hS4 ?_
      clear hK K2 HAT3 hS3 t4
      try simp only [List.setIfInBounds_toArray, List.set_cons_zero, List.set_cons_succ]
      generalize matchB q k = r
      refine drawn_take 6 20 (.bool true) rfl rfl (by kernel_rfl) (by kernel_rfl) (by kernel_rfl) (by kernel_rfl) (fun _ _ _ h => h) (by rfl) (by assumption) (by intro w hSw; obtain ⟨⟨b0, b1, b2, b3, b4, b5, b6, b7, b8, b9, b10, b11, b12, b13⟩, ⟨m0, m1, m2, m3, m4⟩⟩ := hSw; go_simp) ?_
      try simp only [List.setIfInBounds_toArray, List.set_cons_zero, List.set_cons_succ]
      refine drawn_take 7 21 (.bool true) rfl rfl (by kernel_rfl) (by kernel_rfl) (by kernel_rfl) (by kernel_rfl) (fun _ _ _ h => h) (by rfl) (by assumption) (by intro w hSw; obtain ⟨⟨b0, b1, b2, b3, b4, b5, b6, b7, b8, b9, b10, b11, b12, b13⟩, ⟨m0, m1, m2, m3, m4⟩⟩ := hSw; go_simp) ?_
      try simp only [List.setIfInBounds_toArray, List.set_cons_zero, List.set_cons_succ]
      refine drawn_take 8 22 (.agg (cells13 q)) rfl rfl (by kernel_rfl) (by kernel_rfl) (by kernel_rfl) (by kernel_rfl) (fun _ _ _ h => h) (by rfl) (by assumption) (by intro w hSw; obtain ⟨⟨b0, b1, b2, b3, b4, b5, b6, b7, b8, b9, b10, b11, b12, b13⟩, ⟨m0, m1, m2, m3, m4⟩⟩ := hSw; go_simp) ?_
      try simp only [List.setIfInBounds_toArray, List.set_cons_zero, List.set_cons_succ]
      refine drawn_take 9 23 (.agg #[.int .i64 k.h, sv9 k.a, sv9 k.b, sv9 k.c, sv9 k.d]) rfl rfl (by kernel_rfl) (by kernel_rfl) (by kernel_rfl) (by kernel_rfl) (fun _ _ _ h => h) (by rfl) (by assumption) (by intro w hSw; obtain ⟨⟨b0, b1, b2, b3, b4, b5, b6, b7, b8, b9, b10, b11, b12, b13⟩, ⟨m0, m1, m2, m3, m4⟩⟩ := hSw; go_simp) ?_
      try simp only [List.setIfInBounds_toArray, List.set_cons_zero, List.set_cons_succ]
      refine drawn_take 11 25 (.agg (cells13 q)) rfl rfl (by kernel_rfl) (by kernel_rfl) (by kernel_rfl) (by kernel_rfl) (fun _ _ _ h => h) (by rfl) (by assumption) (by intro w hSw; obtain ⟨⟨b0, b1, b2, b3, b4, b5, b6, b7, b8, b9, b10, b11, b12, b13⟩, ⟨m0, m1, m2, m3, m4⟩⟩ := hSw; go_simp) ?_
      try simp only [List.setIfInBounds_toArray, List.set_cons_zero, List.set_cons_succ]
      refine drawn_take 12 26 (.agg #[.int .i64 k.h, sv9 k.a, sv9 k.b, sv9 k.c, sv9 k.d]) rfl rfl (by kernel_rfl) (by kernel_rfl) (by kernel_rfl) (by kernel_rfl) (fun _ _ _ h => h) (by rfl) (by assumption) (by intro w hSw; obtain ⟨⟨b0, b1, b2, b3, b4, b5, b6, b7, b8, b9, b10, b11, b12, b13⟩, ⟨m0, m1, m2, m3, m4⟩⟩ := hSw; go_simp) ?_
      try simp only [List.setIfInBounds_toArray, List.set_cons_zero, List.set_cons_succ]
      refine drawn_any [10] (by kernel_rfl) (by simp) ?_
      refine drawn_cons rfl (fun K2 hK => ?_) drawn_nil
      go_simp
      refine (group_any13 q k w4).mono ?_
      rintro e w5 ⟨rfl, t5⟩
      have HAT5 := Lib.hid (HAT4.out.later t5)
      have hS5 : CQ13 w5 b q ∧ CK13 w5 m k := HAT5.out.s
      refine hK.out _ _ _ hS5 ?_
      clear hK K2 HAT4 hS4 t5
      try simp only [List.setIfInBounds_toArray, List.set_cons_zero, List.set_cons_succ]
      refine drawn_any [13] (by kernel_rfl) (by simp) ?_
      refine drawn_cons rfl (fun K2 hK => ?_) drawn_nil
      go_simp
      refine (ref_group13 q k w5).mono ?_
      rintro e w6 ⟨rfl, t6⟩
      have HAT6 := Lib.hid (HAT5.out.later t6)
      have hS6 : CQ13 w6 b q ∧ CK13 w6 m k := HAT6.out.s
      refine hK.out _ _ _ hS6 ?_
      clear hK K2 HAT5 hS5 t6
      try simp only [List.setIfInBounds_toArray, List.set_cons_zero, List.set_cons_succ]
      have hne := run_eql_key (groupK q k) (groupK q k)
      have hgd := fun op X Y => guard_key9 op X Y (groupK q k) (groupK q k)
      rw [decide_eq_true rfl] at hne
      generalize groupK q k = u at *
      refine drawn_take 14 28 (.bool true) rfl rfl (by kernel_rfl) (by kernel_rfl) (by kernel_rfl) (by kernel_rfl) (fun _ _ _ h => h) (by rfl) (by assumption) (by intro w hSw; obtain ⟨⟨b0, b1, b2, b3, b4, b5, b6, b7, b8, b9, b10, b11, b12, b13⟩, ⟨m0, m1, m2, m3, m4⟩⟩ := hSw; go_simp) ?_
      try simp only [List.setIfInBounds_toArray, List.set_cons_zero, List.set_cons_succ]
      refine drawn_take 15 29 (.bool true) rfl rfl (by kernel_rfl) (by kernel_rfl) (by kernel_rfl) (by kernel_rfl) (fun _ _ _ h => h) (by rfl) (by assumption) (by intro w hSw; obtain ⟨⟨b0, b1, b2, b3, b4, b5, b6, b7, b8, b9, b10, b11, b12, b13⟩, ⟨m0, m1, m2, m3, m4⟩⟩ := hSw; go_simp) ?_
      try simp only [List.setIfInBounds_toArray, List.set_cons_zero, List.set_cons_succ]
      refine drawn_take 16 30 (.bool true) rfl rfl (by kernel_rfl) (by kernel_rfl) (by kernel_rfl) (by kernel_rfl) (fun _ _ _ h => h) (by rfl) (by assumption) (by intro w hSw; obtain ⟨⟨b0, b1, b2, b3, b4, b5, b6, b7, b8, b9, b10, b11, b12, b13⟩, ⟨m0, m1, m2, m3, m4⟩⟩ := hSw; go_simp) ?_
      try simp only [List.setIfInBounds_toArray, List.set_cons_zero, List.set_cons_succ]
      clear hne hgd
      refine drawn_any [17] (by kernel_rfl) (by simp) ?_
      refine drawn_cons rfl (fun K2 hK => ?_) drawn_nil
      go_simp
      refine (HAL.out w6).mono ?_
      rintro e w7 ⟨rfl, t7⟩
      have HAT7 := Lib.hid (HAT6.out.later t7)
      have hS7 : CQ13 w7 b q ∧ CK13 w7 m k := HAT7.out.s
      refine hK.out _ _ _ hS7 ?_
      clear hK K2 HAT6 hS6 t7
      try simp only [List.setIfInBounds_toArray, List.set_cons_zero, List.set_cons_succ]
      refine drawn_take 18 32 (.bool true) rfl rfl (by kernel_rfl) (by kernel_rfl) (by kernel_rfl) (by kernel_rfl) (fun _ _ _ h => h) (by rfl) (by assumption) (by intro w hSw; obtain ⟨⟨b0, b1, b2, b3, b4, b5, b6, b7, b8, b9, b10, b11, b12, b13⟩, ⟨m0, m1, m2, m3, m4⟩⟩ := hSw; go_simp) ?_
      try simp only [List.setIfInBounds_toArray, List.set_cons_zero, List.set_cons_succ]
      refine drawn_last1 19 4 (.bool true) rfl rfl (by kernel_rfl) (by kernel_rfl) (by rfl) (by intro w; go_simp) hS7 ?_
      try simp only [List.setIfInBounds_toArray, List.set_cons_zero, List.set_cons_succ]
      clear hS7
      go_wp2
      go_ret
      exact ⟨rfl, HAT7.out.turn.below (Nat.le_refl _) (fun _ f => f.elim)⟩
    · have hcn : (chkQ q 4 != 0) = true := by simp [bne, hc]
      clear hc HCK HLI HW
      generalize chkQ q 4 = cf at *
      go_wp2_with fail
      refine (HAL.out _).mono ?_
      rintro e wB ⟨rfl, tB⟩
      have HTB := Lib.hid (HATX.out.turn.trans tB (fun _ _ f => f))
      clear tB
      go_wp2
      go_ret
      exact ⟨rfl, HTB.out.below (Nat.le_refl _) (fun _ f => f.elim)⟩

set_option maxRecDepth 100000 in
set_option maxRecDepth 100000 in
theorem lifted (os : Os) (started : os.Started) (H : Type) (enc : TypeId × Value → H) :
    ReturnsInHanded {} Try.checked os 3 .any (Rows.askMatchesSpec.pre6 enc Try.prog Try.f3 Rows.askMatchesRow.domain false) (Rows.askMatchesSpec.post enc Try.prog Try.f3 false true false false) := by
  refine returnsInHanded_of_change (C := Try.checked) own started (by kernel_rfl) Try.func3
    (ChangeSpec.witness6 (enc := enc) (C := Try.checked) false ⟨#[], #[.agg #[.int .i64 0, .int .i64 0, .bool false, .bool false, .bool false, .bool false, .bool false, .bool false, .bool false, .bool false, .string ⟨#[]⟩, .string ⟨#[]⟩, .string ⟨#[]⟩, .string ⟨#[]⟩], .agg #[.int .i64 0, .string ⟨#[]⟩, .string ⟨#[]⟩, .string ⟨#[]⟩, .string ⟨#[]⟩]], []⟩ 8 (by kernel_rfl) (by kernel_rfl) (by kernel_rfl) (by kernel_rfl)) ?_
  intro W base args ds gs before hval0 hW hcnd _
  have hval : ∀ (j : Nat) t v, Try.f3.params[j]? = some t → args[j]? = some v → Value.okWide Try.prog W .any base t v := hval0
  have hW' := hW
  obtain ⟨p, q, hA0, hV, rfl, hfz, hnd⟩ := hW
  have hA : DataW.TrodAll enc Try.prog W 0 (fun _ => true) true Try.f3.params.toList args.toList ds p := hA0
  rw [Try.params3] at hA hval
  obtain ⟨v0, vs0, d0, ds0, p0, q0, hargs, rfl, rfl, h0, r0⟩ := trodAll_cons hA
  obtain ⟨v1, vs1, d1, ds1, p1, q1, rfl, rfl, rfl, h1, r1⟩ := trodAll_cons r0
  obtain ⟨rfl, rfl, rfl⟩ := trodAll_nil r1
  obtain rfl : args = #[v0, v1] := by cases args; simp_all
  obtain ⟨rfl, rfl⟩ := trodVars_none hV
  have k0 := h0
  have lt0 : ∀ x ∈ p0, x.block < W.heap.size := by obtain ⟨m, hm⟩ := k0; exact DataW.trod_lt m _ _ _ hm
  obtain ⟨qy0, hq0⟩ := open_query13 (hval 0 25 v0 rfl rfl) h0
  subst hq0
  have k1 := h1
  have lt1 : ∀ x ∈ p1, x.block < W.heap.size := by obtain ⟨m, hm⟩ := k1; exact DataW.trod_lt m _ _ _ hm
  obtain ⟨ky1, hk1⟩ := open_key9 (hval 1 27 v1 rfl rfl) h1
  subst hk1
  clear hA0 hval0
  refine (walk qy0 ky1 W).mono fun e W' ⟨he, bel⟩ => ?_
  subst he
  exact ⟨_, rfl, _, _, _, [], _, [], hW', trodAll_mk1 (shut_bool Try.underlying4 _), (trodAll_cons_mk (Below.trod laidOut (by kernel_rfl) (of_decide_eq_true (by kernel_rfl)) k0 bel lt0) (trodAll_cons_mk (Below.trod laidOut (by kernel_rfl) (of_decide_eq_true (by kernel_rfl)) k1 bel lt1) trodAll_mk0)), rfl, bel.frame _, fun h => by cases h⟩

theorem over : Rows.askMatchesRow.holds Try.pinned (OpenSpec.ofChange Rows.askMatchesSpec) :=
  OpenClaim.holds_of_wide 3 Try.f3 rfl rfl rfl rfl rfl rfl rfl ⟨rfl, rfl, rfl, rfl, rfl⟩ rfl rfl rfl rfl rfl (by kernel_rfl) Try.func3 (by kernel_rfl)
    (of_decide_eq_true (by kernel_rfl)) (by unfold Func.isWrapper; first | (rw [if_pos (by decide +kernel)]; kernel_rfl) | (rw [if_neg (by decide +kernel)]; exact ⟨rfl, rfl⟩))
    (fun os started H enc _ => lifted os started H enc)

theorem proved : Rows.AskMatchesSaid := over
#print axioms proved
end Go.Proofs.Ytieffpngknglpaa.askMatches
