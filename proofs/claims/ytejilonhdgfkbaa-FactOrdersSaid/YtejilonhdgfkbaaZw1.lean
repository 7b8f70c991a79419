
/-
  'FactOrders': which of any two keys stands ahead. No condition.
-/
import Derived.Test.YtejilonhdgfkbaaZs
import Derived.Test.YtejilonhdgfkbaaZo
import Derived.Test.YtejilonhdgfkbaaEg
import Derived.Test.YtejilonhdgfkbaaZt
import Derived.Test.YtejilonhdgfkbaaZc
import Derived.ProofKit
import Derived.OpenShut
namespace Go.Proofs.Ytejilonhdgfkbaa.factOrders
open Go.ChangeShapes Go.WideShapes Go.ChangeAt Go.RowKit
set_option linter.unusedVariables false

theorem own : ownKnob Try.prog.godebug = none := by kernel_rfl
theorem laidOut : laidOutB Try.prog = true := by kernel_rfl

set_option maxRecDepth 100000 in
set_option maxHeartbeats 8000000 in
theorem walk (p q : K9) (w : World) : Calls Try.prog 3 #[kv9 p, kv9 q] w fun e w' => e = .returned (.bool true) ∧ Below w.heap.size w w' := by
  unfold kv9
  obtain ⟨w0, hw0⟩ : ∃ w0, w0 = (w.alloc (.cells #[.int .i64 p.h, sv9 p.a, sv9 p.b, sv9 p.c, sv9 p.d] 24)).alloc (.cells #[.int .i64 q.h, sv9 q.a, sv9 q.b, sv9 q.c, sv9 q.d] 24) := ⟨_, rfl⟩
  have HT0 : Hid (Turn (fun _ => False) w w0) := by rw [hw0]; exact ((Turn.refl _ w).alloc _).alloc _
  have hb1 : Box w0 w.heap.size 24 #[.int .i64 p.h, sv9 p.a, sv9 p.b, sv9 p.c, sv9 p.d] := by rw [hw0]; exact (Box.new w _ _).alloc _
  have hb2 : Box w0 (w.heap.size + 1) 24 #[.int .i64 q.h, sv9 q.a, sv9 q.b, sv9 q.c, sv9 q.d] := by
    rw [hw0]
    have h := Box.new (w.alloc (.cells #[.int .i64 p.h, sv9 p.a, sv9 p.b, sv9 p.c, sv9 p.d] 24)) 24 #[.int .i64 q.h, sv9 q.a, sv9 q.b, sv9 q.c, sv9 q.d]
    rw [World.size_alloc] at h
    exact h
  have H1 : Hid (∀ W, Turn (fun _ => False) w0 W → (W.cell? ⟨w.heap.size, 0, none⟩ = some (.int .i64 p.h) ∧ W.cell? ⟨w.heap.size, 1, none⟩ = some (sv9 p.a) ∧ W.cell? ⟨w.heap.size, 2, none⟩ = some (sv9 p.b) ∧ W.cell? ⟨w.heap.size, 3, none⟩ = some (sv9 p.c) ∧ W.cell? ⟨w.heap.size, 4, none⟩ = some (sv9 p.d))) := fun W ht => by
    have h := hb1.turn ht (fun f => f)
    exact ⟨h.cell 0, h.cell 1, h.cell 2, h.cell 3, h.cell 4⟩
  have H2 : Hid (∀ W, Turn (fun _ => False) w0 W → (W.cell? ⟨w.heap.size + 1, 0, none⟩ = some (.int .i64 q.h) ∧ W.cell? ⟨w.heap.size + 1, 1, none⟩ = some (sv9 q.a) ∧ W.cell? ⟨w.heap.size + 1, 2, none⟩ = some (sv9 q.b) ∧ W.cell? ⟨w.heap.size + 1, 3, none⟩ = some (sv9 q.c) ∧ W.cell? ⟨w.heap.size + 1, 4, none⟩ = some (sv9 q.d))) := fun W ht => by
    have h := hb2.turn ht (fun f => f)
    exact ⟨h.cell 0, h.cell 1, h.cell 2, h.cell 3, h.cell 4⟩
  have HW := Lib.hid hw0
  clear hb1 hb2 hw0
  have HA : Hid (∀ W, Calls Try.prog 8 #[.agg #[.int .i64 p.h, sv9 p.a, sv9 p.b, sv9 p.c, sv9 p.d], .agg #[.int .i64 q.h, sv9 q.a, sv9 q.b, sv9 q.c, sv9 q.d]] W fun e w' => e = .returned (.int .i64 (cmpK p q)) ∧ Turn (fun _ => False) W w') := fun W => compare_any9 p q W
  have HR : Hid (∀ W, Calls Try.prog 9 #[.agg #[.int .i64 p.h, sv9 p.a, sv9 p.b, sv9 p.c, sv9 p.d], .agg #[.int .i64 q.h, sv9 q.a, sv9 q.b, sv9 q.c, sv9 q.d]] W fun e w' => e = .returned (.int .i64 (cmpK p q)) ∧ Turn (fun _ => False) W w') := fun W => ref_compare9 p q W
  have HB : Hid (∀ W, Calls Try.prog 8 #[.agg #[.int .i64 q.h, sv9 q.a, sv9 q.b, sv9 q.c, sv9 q.d], .agg #[.int .i64 p.h, sv9 p.a, sv9 p.b, sv9 p.c, sv9 p.d]] W fun e w' => e = .returned (.int .i64 (cmpK q p)) ∧ Turn (fun _ => False) W w') := fun W => compare_any9 q p W
  have h3 : (cmpK p q = -1 ∧ cmpK q p = 1) ∨ (cmpK p q = 1 ∧ cmpK q p = -1) ∨ (cmpK p q = 0 ∧ cmpK q p = 0) := by
    rcases cmpK_cases p q with ⟨_, h, g⟩ | ⟨_, h, g⟩ | ⟨e, h⟩
    · exact .inl ⟨h, g⟩
    · exact .inr (.inl ⟨h, g⟩)
    · exact .inr (.inr ⟨h, by rw [cmpK_neg, h]; rfl⟩)
  generalize cmpK p q = a at *
  generalize cmpK q p = b at *
  rcases h3 with ⟨rfl, rfl⟩ | ⟨rfl, rfl⟩ | ⟨rfl, rfl⟩
  ·
    go_enter Try.func3, Try.ntmps3
    go_wp2_with fail
    rw [← HW.out]
    refine drawn_region (fun W => Turn (fun _ => False) w0 W) [] (by kernel_rfl) ?_
    have ht0 : Turn (fun _ => False) w0 (World.drew w0) := (Turn.refl _ w0).drew
    generalize World.drew w0 = wd at *
    have HD := Lib.hid ht0
    have hS0 := ht0
    clear ht0
    refine drawn_take 0 5 (.agg #[.int .i64 p.h, sv9 p.a, sv9 p.b, sv9 p.c, sv9 p.d]) rfl rfl (by kernel_rfl) (by kernel_rfl) (by kernel_rfl) (by kernel_rfl) (fun _ _ _ h => h) (by rfl) (by assumption) (by intro w hSw; obtain ⟨a0, a1, a2, a3, a4⟩ := H1.out w hSw; go_simp) ?_
    try simp only [List.setIfInBounds_toArray, List.set_cons_zero, List.set_cons_succ]
    refine drawn_take 1 6 (.agg #[.int .i64 q.h, sv9 q.a, sv9 q.b, sv9 q.c, sv9 q.d]) rfl rfl (by kernel_rfl) (by kernel_rfl) (by kernel_rfl) (by kernel_rfl) (fun _ _ _ h => h) (by rfl) (by assumption) (by intro w hSw; obtain ⟨a0, a1, a2, a3, a4⟩ := H2.out w hSw; go_simp) ?_
    try simp only [List.setIfInBounds_toArray, List.set_cons_zero, List.set_cons_succ]
    refine drawn_take 3 8 (.agg #[.int .i64 p.h, sv9 p.a, sv9 p.b, sv9 p.c, sv9 p.d]) rfl rfl (by kernel_rfl) (by kernel_rfl) (by kernel_rfl) (by kernel_rfl) (fun _ _ _ h => h) (by rfl) (by assumption) (by intro w hSw; obtain ⟨a0, a1, a2, a3, a4⟩ := H1.out w hSw; go_simp) ?_
    try simp only [List.setIfInBounds_toArray, List.set_cons_zero, List.set_cons_succ]
    refine drawn_take 4 9 (.agg #[.int .i64 q.h, sv9 q.a, sv9 q.b, sv9 q.c, sv9 q.d]) rfl rfl (by kernel_rfl) (by kernel_rfl) (by kernel_rfl) (by kernel_rfl) (fun _ _ _ h => h) (by rfl) (by assumption) (by intro w hSw; obtain ⟨a0, a1, a2, a3, a4⟩ := H2.out w hSw; go_simp) ?_
    try simp only [List.setIfInBounds_toArray, List.set_cons_zero, List.set_cons_succ]
    refine drawn_any [2] (by kernel_rfl) (by simp) ?_
    refine drawn_cons rfl (fun K hK => ?_) drawn_nil
    go_simp
    refine (HA.out wd).mono ?_
    rintro e w2 ⟨rfl, t2⟩
    have HT2 : Hid (Turn (fun _ => False) w0 w2) := HD.out.trans t2 (fun _ _ f => f)
    refine hK.out _ _ _ HT2.out ?_
    clear hK K hS0 t2
    have hS0 := HT2.out
    try simp only [List.setIfInBounds_toArray, List.set_cons_zero, List.set_cons_succ]
    refine drawn_any [5] (by kernel_rfl) (by simp) ?_
    refine drawn_cons rfl (fun K hK => ?_) drawn_nil
    go_simp
    refine (HR.out w2).mono ?_
    rintro e w3 ⟨rfl, t3⟩
    have HT3 : Hid (Turn (fun _ => False) w0 w3) := HT2.out.trans t3 (fun _ _ f => f)
    refine hK.out _ _ _ HT3.out ?_
    clear hK K hS0 t3
    have hS0 := HT3.out
    try simp only [List.setIfInBounds_toArray, List.set_cons_zero, List.set_cons_succ]
    refine drawn_take 6 11 (.bool true) rfl rfl (by kernel_rfl) (by kernel_rfl) (by kernel_rfl) (by kernel_rfl) (fun _ _ _ h => h) (by rfl) (by assumption) (by intro w hSw; obtain hS1 := hSw; go_simp) ?_
    try simp only [List.setIfInBounds_toArray, List.set_cons_zero, List.set_cons_succ]
    refine drawn_take 7 12 (.bool true) rfl rfl (by kernel_rfl) (by kernel_rfl) (by kernel_rfl) (by kernel_rfl) (fun _ _ _ h => h) (by rfl) (by assumption) (by intro w hSw; obtain hS1 := hSw; go_simp) ?_
    try simp only [List.setIfInBounds_toArray, List.set_cons_zero, List.set_cons_succ]
    refine drawn_take 8 13 (.agg #[.int .i64 q.h, sv9 q.a, sv9 q.b, sv9 q.c, sv9 q.d]) rfl rfl (by kernel_rfl) (by kernel_rfl) (by kernel_rfl) (by kernel_rfl) (fun _ _ _ h => h) (by rfl) (by assumption) (by intro w hSw; obtain ⟨a0, a1, a2, a3, a4⟩ := H2.out w hSw; go_simp) ?_
    try simp only [List.setIfInBounds_toArray, List.set_cons_zero, List.set_cons_succ]
    refine drawn_take 9 14 (.agg #[.int .i64 p.h, sv9 p.a, sv9 p.b, sv9 p.c, sv9 p.d]) rfl rfl (by kernel_rfl) (by kernel_rfl) (by kernel_rfl) (by kernel_rfl) (fun _ _ _ h => h) (by rfl) (by assumption) (by intro w hSw; obtain ⟨a0, a1, a2, a3, a4⟩ := H1.out w hSw; go_simp) ?_
    try simp only [List.setIfInBounds_toArray, List.set_cons_zero, List.set_cons_succ]
    refine drawn_take 11 16 (.agg #[.int .i64 p.h, sv9 p.a, sv9 p.b, sv9 p.c, sv9 p.d]) rfl rfl (by kernel_rfl) (by kernel_rfl) (by kernel_rfl) (by kernel_rfl) (fun _ _ _ h => h) (by rfl) (by assumption) (by intro w hSw; obtain ⟨a0, a1, a2, a3, a4⟩ := H1.out w hSw; go_simp) ?_
    try simp only [List.setIfInBounds_toArray, List.set_cons_zero, List.set_cons_succ]
    refine drawn_take 12 17 (.agg #[.int .i64 q.h, sv9 q.a, sv9 q.b, sv9 q.c, sv9 q.d]) rfl rfl (by kernel_rfl) (by kernel_rfl) (by kernel_rfl) (by kernel_rfl) (fun _ _ _ h => h) (by rfl) (by assumption) (by intro w hSw; obtain ⟨a0, a1, a2, a3, a4⟩ := H2.out w hSw; go_simp) ?_
    try simp only [List.setIfInBounds_toArray, List.set_cons_zero, List.set_cons_succ]
    refine drawn_any [10] (by kernel_rfl) (by simp) ?_
    refine drawn_cons rfl (fun K hK => ?_) drawn_nil
    go_simp
    refine (HB.out w3).mono ?_
    rintro e w4 ⟨rfl, t4⟩
    have HT4 : Hid (Turn (fun _ => False) w0 w4) := HT3.out.trans t4 (fun _ _ f => f)
    refine hK.out _ _ _ HT4.out ?_
    clear hK K hS0 t4
    have hS0 := HT4.out
    try simp only [List.setIfInBounds_toArray, List.set_cons_zero, List.set_cons_succ]
    refine drawn_any [13] (by kernel_rfl) (by simp) ?_
    refine drawn_cons rfl (fun K hK => ?_) drawn_nil
    go_simp
    refine (HA.out w4).mono ?_
    rintro e w5 ⟨rfl, t5⟩
    have HT5 : Hid (Turn (fun _ => False) w0 w5) := HT4.out.trans t5 (fun _ _ f => f)
    refine hK.out _ _ _ HT5.out ?_
    clear hK K hS0 t5
    have hS0 := HT5.out
    try simp only [List.setIfInBounds_toArray, List.set_cons_zero, List.set_cons_succ]
    refine drawn_take 14 19 (.int .i64 1) rfl rfl (by kernel_rfl) (by kernel_rfl) (by kernel_rfl) (by kernel_rfl) (fun _ _ _ h => h) (by rfl) (by assumption) (by intro w hSw; go_simp; first | done | rfl | decide | fail) ?_
    try simp only [List.setIfInBounds_toArray, List.set_cons_zero, List.set_cons_succ]
    refine drawn_take 15 20 (.bool true) rfl rfl (by kernel_rfl) (by kernel_rfl) (by kernel_rfl) (by kernel_rfl) (fun _ _ _ h => h) (by rfl) (by assumption) (by intro w hSw; obtain hS1 := hSw; go_simp) ?_
    try simp only [List.setIfInBounds_toArray, List.set_cons_zero, List.set_cons_succ]
    refine drawn_take 16 21 (.bool true) rfl rfl (by kernel_rfl) (by kernel_rfl) (by kernel_rfl) (by kernel_rfl) (fun _ _ _ h => h) (by rfl) (by assumption) (by intro w hSw; obtain hS1 := hSw; go_simp) ?_
    try simp only [List.setIfInBounds_toArray, List.set_cons_zero, List.set_cons_succ]
    refine drawn_take 17 22 (.bool true) rfl rfl (by kernel_rfl) (by kernel_rfl) (by kernel_rfl) (by kernel_rfl) (fun _ _ _ h => h) (by rfl) (by assumption) (by intro w hSw; obtain hS1 := hSw; go_simp) ?_
    try simp only [List.setIfInBounds_toArray, List.set_cons_zero, List.set_cons_succ]
    refine drawn_any [18] (by kernel_rfl) (by simp) ?_
    refine drawn_cons rfl (fun K hK => ?_) drawn_nil
    go_simp
    refine (alive_any9 w5).mono ?_
    rintro e w6 ⟨rfl, t6⟩
    have HT6 : Hid (Turn (fun _ => False) w0 w6) := HT5.out.trans t6 (fun _ _ f => f)
    refine hK.out _ _ _ HT6.out ?_
    clear hK K hS0 t6
    have hS0 := HT6.out
    try simp only [List.setIfInBounds_toArray, List.set_cons_zero, List.set_cons_succ]
    refine drawn_take 19 24 (.bool true) rfl rfl (by kernel_rfl) (by kernel_rfl) (by kernel_rfl) (by kernel_rfl) (fun _ _ _ h => h) (by rfl) (by assumption) (by intro w hSw; obtain hS1 := hSw; go_simp) ?_
    try simp only [List.setIfInBounds_toArray, List.set_cons_zero, List.set_cons_succ]
    refine drawn_last1 20 4 (.bool true) rfl rfl (by kernel_rfl) (by kernel_rfl) (by rfl) (by intro w; go_simp) hS0 ?_
    try simp only [List.setIfInBounds_toArray, List.set_cons_zero, List.set_cons_succ]
    clear hS0
    go_wp2
    go_ret
    exact ⟨rfl, (HT0.out.trans HT6.out (fun _ _ f => f)).below (Nat.le_refl _) (fun _ f => f.elim)⟩
  ·
    go_enter Try.func3, Try.ntmps3
    go_wp2_with fail
    rw [← HW.out]
    refine drawn_region (fun W => Turn (fun _ => False) w0 W) [] (by kernel_rfl) ?_
    have ht0 : Turn (fun _ => False) w0 (World.drew w0) := (Turn.refl _ w0).drew
    generalize World.drew w0 = wd at *
    have HD := Lib.hid ht0
    have hS0 := ht0
    clear ht0
    refine drawn_take 0 5 (.agg #[.int .i64 p.h, sv9 p.a, sv9 p.b, sv9 p.c, sv9 p.d]) rfl rfl (by kernel_rfl) (by kernel_rfl) (by kernel_rfl) (by kernel_rfl) (fun _ _ _ h => h) (by rfl) (by assumption) (by intro w hSw; obtain ⟨a0, a1, a2, a3, a4⟩ := H1.out w hSw; go_simp) ?_
    try simp only [List.setIfInBounds_toArray, List.set_cons_zero, List.set_cons_succ]
    refine drawn_take 1 6 (.agg #[.int .i64 q.h, sv9 q.a, sv9 q.b, sv9 q.c, sv9 q.d]) rfl rfl (by kernel_rfl) (by kernel_rfl) (by kernel_rfl) (by kernel_rfl) (fun _ _ _ h => h) (by rfl) (by assumption) (by intro w hSw; obtain ⟨a0, a1, a2, a3, a4⟩ := H2.out w hSw; go_simp) ?_
    try simp only [List.setIfInBounds_toArray, List.set_cons_zero, List.set_cons_succ]
    refine drawn_take 3 8 (.agg #[.int .i64 p.h, sv9 p.a, sv9 p.b, sv9 p.c, sv9 p.d]) rfl rfl (by kernel_rfl) (by kernel_rfl) (by kernel_rfl) (by kernel_rfl) (fun _ _ _ h => h) (by rfl) (by assumption) (by intro w hSw; obtain ⟨a0, a1, a2, a3, a4⟩ := H1.out w hSw; go_simp) ?_
    try simp only [List.setIfInBounds_toArray, List.set_cons_zero, List.set_cons_succ]
    refine drawn_take 4 9 (.agg #[.int .i64 q.h, sv9 q.a, sv9 q.b, sv9 q.c, sv9 q.d]) rfl rfl (by kernel_rfl) (by kernel_rfl) (by kernel_rfl) (by kernel_rfl) (fun _ _ _ h => h) (by rfl) (by assumption) (by intro w hSw; obtain ⟨a0, a1, a2, a3, a4⟩ := H2.out w hSw; go_simp) ?_
    try simp only [List.setIfInBounds_toArray, List.set_cons_zero, List.set_cons_succ]
    refine drawn_any [2] (by kernel_rfl) (by simp) ?_
    refine drawn_cons rfl (fun K hK => ?_) drawn_nil
    go_simp
    refine (HA.out wd).mono ?_
    rintro e w2 ⟨rfl, t2⟩
    have HT2 : Hid (Turn (fun _ => False) w0 w2) := HD.out.trans t2 (fun _ _ f => f)
    refine hK.out _ _ _ HT2.out ?_
    clear hK K hS0 t2
    have hS0 := HT2.out
    try simp only [List.setIfInBounds_toArray, List.set_cons_zero, List.set_cons_succ]
    refine drawn_any [5] (by kernel_rfl) (by simp) ?_
    refine drawn_cons rfl (fun K hK => ?_) drawn_nil
    go_simp
    refine (HR.out w2).mono ?_
    rintro e w3 ⟨rfl, t3⟩
    have HT3 : Hid (Turn (fun _ => False) w0 w3) := HT2.out.trans t3 (fun _ _ f => f)
    refine hK.out _ _ _ HT3.out ?_
    clear hK K hS0 t3
    have hS0 := HT3.out
    try simp only [List.setIfInBounds_toArray, List.set_cons_zero, List.set_cons_succ]
    refine drawn_take 6 11 (.bool true) rfl rfl (by kernel_rfl) (by kernel_rfl) (by kernel_rfl) (by kernel_rfl) (fun _ _ _ h => h) (by rfl) (by assumption) (by intro w hSw; obtain hS1 := hSw; go_simp) ?_
    try simp only [List.setIfInBounds_toArray, List.set_cons_zero, List.set_cons_succ]
    refine drawn_take 7 12 (.bool true) rfl rfl (by kernel_rfl) (by kernel_rfl) (by kernel_rfl) (by kernel_rfl) (fun _ _ _ h => h) (by rfl) (by assumption) (by intro w hSw; obtain hS1 := hSw; go_simp) ?_
    try simp only [List.setIfInBounds_toArray, List.set_cons_zero, List.set_cons_succ]
    refine drawn_take 8 13 (.agg #[.int .i64 q.h, sv9 q.a, sv9 q.b, sv9 q.c, sv9 q.d]) rfl rfl (by kernel_rfl) (by kernel_rfl) (by kernel_rfl) (by kernel_rfl) (fun _ _ _ h => h) (by rfl) (by assumption) (by intro w hSw; obtain ⟨a0, a1, a2, a3, a4⟩ := H2.out w hSw; go_simp) ?_
    try simp only [List.setIfInBounds_toArray, List.set_cons_zero, List.set_cons_succ]
    refine drawn_take 9 14 (.agg #[.int .i64 p.h, sv9 p.a, sv9 p.b, sv9 p.c, sv9 p.d]) rfl rfl (by kernel_rfl) (by kernel_rfl) (by kernel_rfl) (by kernel_rfl) (fun _ _ _ h => h) (by rfl) (by assumption) (by intro w hSw; obtain ⟨a0, a1, a2, a3, a4⟩ := H1.out w hSw; go_simp) ?_
    try simp only [List.setIfInBounds_toArray, List.set_cons_zero, List.set_cons_succ]
    refine drawn_take 11 16 (.agg #[.int .i64 p.h, sv9 p.a, sv9 p.b, sv9 p.c, sv9 p.d]) rfl rfl (by kernel_rfl) (by kernel_rfl) (by kernel_rfl) (by kernel_rfl) (fun _ _ _ h => h) (by rfl) (by assumption) (by intro w hSw; obtain ⟨a0, a1, a2, a3, a4⟩ := H1.out w hSw; go_simp) ?_
    try simp only [List.setIfInBounds_toArray, List.set_cons_zero, List.set_cons_succ]
    refine drawn_take 12 17 (.agg #[.int .i64 q.h, sv9 q.a, sv9 q.b, sv9 q.c, sv9 q.d]) rfl rfl (by kernel_rfl) (by kernel_rfl) (by kernel_rfl) (by kernel_rfl) (fun _ _ _ h => h) (by rfl) (by assumption) (by intro w hSw; obtain ⟨a0, a1, a2, a3, a4⟩ := H2.out w hSw; go_simp) ?_
    try simp only [List.setIfInBounds_toArray, List.set_cons_zero, List.set_cons_succ]
    refine drawn_any [10] (by kernel_rfl) (by simp) ?_
    refine drawn_cons rfl (fun K hK => ?_) drawn_nil
    go_simp
    refine (HB.out w3).mono ?_
    rintro e w4 ⟨rfl, t4⟩
    have HT4 : Hid (Turn (fun _ => False) w0 w4) := HT3.out.trans t4 (fun _ _ f => f)
    refine hK.out _ _ _ HT4.out ?_
    clear hK K hS0 t4
    have hS0 := HT4.out
    try simp only [List.setIfInBounds_toArray, List.set_cons_zero, List.set_cons_succ]
    refine drawn_any [13] (by kernel_rfl) (by simp) ?_
    refine drawn_cons rfl (fun K hK => ?_) drawn_nil
    go_simp
    refine (HA.out w4).mono ?_
    rintro e w5 ⟨rfl, t5⟩
    have HT5 : Hid (Turn (fun _ => False) w0 w5) := HT4.out.trans t5 (fun _ _ f => f)
    refine hK.out _ _ _ HT5.out ?_
    clear hK K hS0 t5
    have hS0 := HT5.out
    try simp only [List.setIfInBounds_toArray, List.set_cons_zero, List.set_cons_succ]
    refine drawn_take 14 19 (.int .i64 (-1)) rfl rfl (by kernel_rfl) (by kernel_rfl) (by kernel_rfl) (by kernel_rfl) (fun _ _ _ h => h) (by rfl) (by assumption) (by intro w hSw; go_simp; first | done | rfl | decide | fail) ?_
    try simp only [List.setIfInBounds_toArray, List.set_cons_zero, List.set_cons_succ]
    refine drawn_take 15 20 (.bool true) rfl rfl (by kernel_rfl) (by kernel_rfl) (by kernel_rfl) (by kernel_rfl) (fun _ _ _ h => h) (by rfl) (by assumption) (by intro w hSw; obtain hS1 := hSw; go_simp) ?_
    try simp only [List.setIfInBounds_toArray, List.set_cons_zero, List.set_cons_succ]
    refine drawn_take 16 21 (.bool true) rfl rfl (by kernel_rfl) (by kernel_rfl) (by kernel_rfl) (by kernel_rfl) (fun _ _ _ h => h) (by rfl) (by assumption) (by intro w hSw; obtain hS1 := hSw; go_simp) ?_
    try simp only [List.setIfInBounds_toArray, List.set_cons_zero, List.set_cons_succ]
    refine drawn_take 17 22 (.bool true) rfl rfl (by kernel_rfl) (by kernel_rfl) (by kernel_rfl) (by kernel_rfl) (fun _ _ _ h => h) (by rfl) (by assumption) (by intro w hSw; obtain hS1 := hSw; go_simp) ?_
    try simp only [List.setIfInBounds_toArray, List.set_cons_zero, List.set_cons_succ]
    refine drawn_any [18] (by kernel_rfl) (by simp) ?_
    refine drawn_cons rfl (fun K hK => ?_) drawn_nil
    go_simp
    refine (alive_any9 w5).mono ?_
    rintro e w6 ⟨rfl, t6⟩
    have HT6 : Hid (Turn (fun _ => False) w0 w6) := HT5.out.trans t6 (fun _ _ f => f)
    refine hK.out _ _ _ HT6.out ?_
    clear hK K hS0 t6
    have hS0 := HT6.out
    try simp only [List.setIfInBounds_toArray, List.set_cons_zero, List.set_cons_succ]
    refine drawn_take 19 24 (.bool true) rfl rfl (by kernel_rfl) (by kernel_rfl) (by kernel_rfl) (by kernel_rfl) (fun _ _ _ h => h) (by rfl) (by assumption) (by intro w hSw; obtain hS1 := hSw; go_simp) ?_
    try simp only [List.setIfInBounds_toArray, List.set_cons_zero, List.set_cons_succ]
    refine drawn_last1 20 4 (.bool true) rfl rfl (by kernel_rfl) (by kernel_rfl) (by rfl) (by intro w; go_simp) hS0 ?_
    try simp only [List.setIfInBounds_toArray, List.set_cons_zero, List.set_cons_succ]
    clear hS0
    go_wp2
    go_ret
    exact ⟨rfl, (HT0.out.trans HT6.out (fun _ _ f => f)).below (Nat.le_refl _) (fun _ f => f.elim)⟩
  ·
    go_enter Try.func3, Try.ntmps3
    go_wp2_with fail
    rw [← HW.out]
    refine drawn_region (fun W => Turn (fun _ => False) w0 W) [] (by kernel_rfl) ?_
    have ht0 : Turn (fun _ => False) w0 (World.drew w0) := (Turn.refl _ w0).drew
    generalize World.drew w0 = wd at *
    have HD := Lib.hid ht0
    have hS0 := ht0
    clear ht0
    refine drawn_take 0 5 (.agg #[.int .i64 p.h, sv9 p.a, sv9 p.b, sv9 p.c, sv9 p.d]) rfl rfl (by kernel_rfl) (by kernel_rfl) (by kernel_rfl) (by kernel_rfl) (fun _ _ _ h => h) (by rfl) (by assumption) (by intro w hSw; obtain ⟨a0, a1, a2, a3, a4⟩ := H1.out w hSw; go_simp) ?_
    try simp only [List.setIfInBounds_toArray, List.set_cons_zero, List.set_cons_succ]
    refine drawn_take 1 6 (.agg #[.int .i64 q.h, sv9 q.a, sv9 q.b, sv9 q.c, sv9 q.d]) rfl rfl (by kernel_rfl) (by kernel_rfl) (by kernel_rfl) (by kernel_rfl) (fun _ _ _ h => h) (by rfl) (by assumption) (by intro w hSw; obtain ⟨a0, a1, a2, a3, a4⟩ := H2.out w hSw; go_simp) ?_
    try simp only [List.setIfInBounds_toArray, List.set_cons_zero, List.set_cons_succ]
    refine drawn_take 3 8 (.agg #[.int .i64 p.h, sv9 p.a, sv9 p.b, sv9 p.c, sv9 p.d]) rfl rfl (by kernel_rfl) (by kernel_rfl) (by kernel_rfl) (by kernel_rfl) (fun _ _ _ h => h) (by rfl) (by assumption) (by intro w hSw; obtain ⟨a0, a1, a2, a3, a4⟩ := H1.out w hSw; go_simp) ?_
    try simp only [List.setIfInBounds_toArray, List.set_cons_zero, List.set_cons_succ]
    refine drawn_take 4 9 (.agg #[.int .i64 q.h, sv9 q.a, sv9 q.b, sv9 q.c, sv9 q.d]) rfl rfl (by kernel_rfl) (by kernel_rfl) (by kernel_rfl) (by kernel_rfl) (fun _ _ _ h => h) (by rfl) (by assumption) (by intro w hSw; obtain ⟨a0, a1, a2, a3, a4⟩ := H2.out w hSw; go_simp) ?_
    try simp only [List.setIfInBounds_toArray, List.set_cons_zero, List.set_cons_succ]
    refine drawn_any [2] (by kernel_rfl) (by simp) ?_
    refine drawn_cons rfl (fun K hK => ?_) drawn_nil
    go_simp
    refine (HA.out wd).mono ?_
    rintro e w2 ⟨rfl, t2⟩
    have HT2 : Hid (Turn (fun _ => False) w0 w2) := HD.out.trans t2 (fun _ _ f => f)
    refine hK.out _ _ _ HT2.out ?_
    clear hK K hS0 t2
    have hS0 := HT2.out
    try simp only [List.setIfInBounds_toArray, List.set_cons_zero, List.set_cons_succ]
    refine drawn_any [5] (by kernel_rfl) (by simp) ?_
    refine drawn_cons rfl (fun K hK => ?_) drawn_nil
    go_simp
    refine (HR.out w2).mono ?_
    rintro e w3 ⟨rfl, t3⟩
    have HT3 : Hid (Turn (fun _ => False) w0 w3) := HT2.out.trans t3 (fun _ _ f => f)
    refine hK.out _ _ _ HT3.out ?_
    clear hK K hS0 t3
    have hS0 := HT3.out
    try simp only [List.setIfInBounds_toArray, List.set_cons_zero, List.set_cons_succ]
    refine drawn_take 6 11 (.bool true) rfl rfl (by kernel_rfl) (by kernel_rfl) (by kernel_rfl) (by kernel_rfl) (fun _ _ _ h => h) (by rfl) (by assumption) (by intro w hSw; obtain hS1 := hSw; go_simp) ?_
    try simp only [List.setIfInBounds_toArray, List.set_cons_zero, List.set_cons_succ]
    refine drawn_take 7 12 (.bool true) rfl rfl (by kernel_rfl) (by kernel_rfl) (by kernel_rfl) (by kernel_rfl) (fun _ _ _ h => h) (by rfl) (by assumption) (by intro w hSw; obtain hS1 := hSw; go_simp) ?_
    try simp only [List.setIfInBounds_toArray, List.set_cons_zero, List.set_cons_succ]
    refine drawn_take 8 13 (.agg #[.int .i64 q.h, sv9 q.a, sv9 q.b, sv9 q.c, sv9 q.d]) rfl rfl (by kernel_rfl) (by kernel_rfl) (by kernel_rfl) (by kernel_rfl) (fun _ _ _ h => h) (by rfl) (by assumption) (by intro w hSw; obtain ⟨a0, a1, a2, a3, a4⟩ := H2.out w hSw; go_simp) ?_
    try simp only [List.setIfInBounds_toArray, List.set_cons_zero, List.set_cons_succ]
    refine drawn_take 9 14 (.agg #[.int .i64 p.h, sv9 p.a, sv9 p.b, sv9 p.c, sv9 p.d]) rfl rfl (by kernel_rfl) (by kernel_rfl) (by kernel_rfl) (by kernel_rfl) (fun _ _ _ h => h) (by rfl) (by assumption) (by intro w hSw; obtain ⟨a0, a1, a2, a3, a4⟩ := H1.out w hSw; go_simp) ?_
    try simp only [List.setIfInBounds_toArray, List.set_cons_zero, List.set_cons_succ]
    refine drawn_take 11 16 (.agg #[.int .i64 p.h, sv9 p.a, sv9 p.b, sv9 p.c, sv9 p.d]) rfl rfl (by kernel_rfl) (by kernel_rfl) (by kernel_rfl) (by kernel_rfl) (fun _ _ _ h => h) (by rfl) (by assumption) (by intro w hSw; obtain ⟨a0, a1, a2, a3, a4⟩ := H1.out w hSw; go_simp) ?_
    try simp only [List.setIfInBounds_toArray, List.set_cons_zero, List.set_cons_succ]
    refine drawn_take 12 17 (.agg #[.int .i64 q.h, sv9 q.a, sv9 q.b, sv9 q.c, sv9 q.d]) rfl rfl (by kernel_rfl) (by kernel_rfl) (by kernel_rfl) (by kernel_rfl) (fun _ _ _ h => h) (by rfl) (by assumption) (by intro w hSw; obtain ⟨a0, a1, a2, a3, a4⟩ := H2.out w hSw; go_simp) ?_
    try simp only [List.setIfInBounds_toArray, List.set_cons_zero, List.set_cons_succ]
    refine drawn_any [10] (by kernel_rfl) (by simp) ?_
    refine drawn_cons rfl (fun K hK => ?_) drawn_nil
    go_simp
    refine (HB.out w3).mono ?_
    rintro e w4 ⟨rfl, t4⟩
    have HT4 : Hid (Turn (fun _ => False) w0 w4) := HT3.out.trans t4 (fun _ _ f => f)
    refine hK.out _ _ _ HT4.out ?_
    clear hK K hS0 t4
    have hS0 := HT4.out
    try simp only [List.setIfInBounds_toArray, List.set_cons_zero, List.set_cons_succ]
    refine drawn_any [13] (by kernel_rfl) (by simp) ?_
    refine drawn_cons rfl (fun K hK => ?_) drawn_nil
    go_simp
    refine (HA.out w4).mono ?_
    rintro e w5 ⟨rfl, t5⟩
    have HT5 : Hid (Turn (fun _ => False) w0 w5) := HT4.out.trans t5 (fun _ _ f => f)
    refine hK.out _ _ _ HT5.out ?_
    clear hK K hS0 t5
    have hS0 := HT5.out
    try simp only [List.setIfInBounds_toArray, List.set_cons_zero, List.set_cons_succ]
    refine drawn_take 14 19 (.int .i64 0) rfl rfl (by kernel_rfl) (by kernel_rfl) (by kernel_rfl) (by kernel_rfl) (fun _ _ _ h => h) (by rfl) (by assumption) (by intro w hSw; go_simp; first | done | rfl | decide | fail) ?_
    try simp only [List.setIfInBounds_toArray, List.set_cons_zero, List.set_cons_succ]
    refine drawn_take 15 20 (.bool true) rfl rfl (by kernel_rfl) (by kernel_rfl) (by kernel_rfl) (by kernel_rfl) (fun _ _ _ h => h) (by rfl) (by assumption) (by intro w hSw; obtain hS1 := hSw; go_simp) ?_
    try simp only [List.setIfInBounds_toArray, List.set_cons_zero, List.set_cons_succ]
    refine drawn_take 16 21 (.bool true) rfl rfl (by kernel_rfl) (by kernel_rfl) (by kernel_rfl) (by kernel_rfl) (fun _ _ _ h => h) (by rfl) (by assumption) (by intro w hSw; obtain hS1 := hSw; go_simp) ?_
    try simp only [List.setIfInBounds_toArray, List.set_cons_zero, List.set_cons_succ]
    refine drawn_take 17 22 (.bool true) rfl rfl (by kernel_rfl) (by kernel_rfl) (by kernel_rfl) (by kernel_rfl) (fun _ _ _ h => h) (by rfl) (by assumption) (by intro w hSw; obtain hS1 := hSw; go_simp) ?_
    try simp only [List.setIfInBounds_toArray, List.set_cons_zero, List.set_cons_succ]
    refine drawn_any [18] (by kernel_rfl) (by simp) ?_
    refine drawn_cons rfl (fun K hK => ?_) drawn_nil
    go_simp
    refine (alive_any9 w5).mono ?_
    rintro e w6 ⟨rfl, t6⟩
    have HT6 : Hid (Turn (fun _ => False) w0 w6) := HT5.out.trans t6 (fun _ _ f => f)
    refine hK.out _ _ _ HT6.out ?_
    clear hK K hS0 t6
    have hS0 := HT6.out
    try simp only [List.setIfInBounds_toArray, List.set_cons_zero, List.set_cons_succ]
    refine drawn_take 19 24 (.bool true) rfl rfl (by kernel_rfl) (by kernel_rfl) (by kernel_rfl) (by kernel_rfl) (fun _ _ _ h => h) (by rfl) (by assumption) (by intro w hSw; obtain hS1 := hSw; go_simp) ?_
    try simp only [List.setIfInBounds_toArray, List.set_cons_zero, List.set_cons_succ]
    refine drawn_last1 20 4 (.bool true) rfl rfl (by kernel_rfl) (by kernel_rfl) (by rfl) (by intro w; go_simp) hS0 ?_
    try simp only [List.setIfInBounds_toArray, List.set_cons_zero, List.set_cons_succ]
    clear hS0
    go_wp2
    go_ret
    exact ⟨rfl, (HT0.out.trans HT6.out (fun _ _ f => f)).below (Nat.le_refl _) (fun _ f => f.elim)⟩

set_option maxRecDepth 100000 in
theorem lifted (os : Os) (started : os.Started) (H : Type) (enc : TypeId × Value → H) :
    ReturnsInHanded {} Try.checked os 3 .any (Rows.factOrdersSpec.pre6 enc Try.prog Try.f3 Rows.factOrdersRow.domain false) (Rows.factOrdersSpec.post enc Try.prog Try.f3 false true false false) := by
  refine returnsInHanded_of_change (C := Try.checked) own started (by kernel_rfl) Try.func3
    (ChangeSpec.witness6 (enc := enc) (C := Try.checked) false ⟨#[], #[.agg #[.int .i64 0, .string ⟨#[]⟩, .string ⟨#[]⟩, .string ⟨#[]⟩, .string ⟨#[]⟩], .agg #[.int .i64 0, .string ⟨#[]⟩, .string ⟨#[]⟩, .string ⟨#[]⟩, .string ⟨#[]⟩]], []⟩ 8 (by kernel_rfl) (by kernel_rfl) (by kernel_rfl) (by kernel_rfl)) ?_
  intro W base args ds gs before hval0 hW hcnd _
  have hval : ∀ (j : Nat) t v, Try.f3.params[j]? = some t → args[j]? = some v → Value.okWide Try.prog W .any base t v := hval0
  have hW' := hW
  obtain ⟨p, q, hA0, hV, rfl, hfz, hnd⟩ := hW
  have hA : DataW.TrodAll enc Try.prog W 0 (fun _ => true) true Try.f3.params.toList args.toList ds p := hA0
  rw [Try.params3] at hA hval
  obtain ⟨v0, vs0, d0, ds0, p0, q0, hargs, rfl, rfl, h0, r0⟩ := trodAll_cons hA
  obtain ⟨v1, vs1, d1, ds1, p1, q1, rfl, rfl, rfl, h1, r1⟩ := trodAll_cons r0
  obtain ⟨rfl, rfl, rfl⟩ := trodAll_nil r1
  obtain rfl : args = #[v0, v1] := by cases args; simp_all
  obtain ⟨rfl, rfl⟩ := trodVars_none hV
  have k0 := h0
  have lt0 : ∀ x ∈ p0, x.block < W.heap.size := by obtain ⟨m, hm⟩ := k0; exact DataW.trod_lt m _ _ _ hm
  obtain ⟨ky0, hk0⟩ := open_key9 (hval 0 24 v0 rfl rfl) h0
  subst hk0
  have k1 := h1
  have lt1 : ∀ x ∈ p1, x.block < W.heap.size := by obtain ⟨m, hm⟩ := k1; exact DataW.trod_lt m _ _ _ hm
  obtain ⟨ky1, hk1⟩ := open_key9 (hval 1 24 v1 rfl rfl) h1
  subst hk1
  clear hA0 hval0
  refine (walk ky0 ky1 W).mono fun e W' ⟨he, bel⟩ => ?_
  subst he
  exact ⟨_, rfl, _, _, _, [], _, [], hW', trodAll_mk1 (shut_bool Try.underlying4 _), (trodAll_cons_mk (Below.trod laidOut (by kernel_rfl) (of_decide_eq_true (by kernel_rfl)) k0 bel lt0) (trodAll_cons_mk (Below.trod laidOut (by kernel_rfl) (of_decide_eq_true (by kernel_rfl)) k1 bel lt1) trodAll_mk0)), rfl, bel.frame _, fun h => by cases h⟩

theorem over : Rows.factOrdersRow.holds Try.pinned (OpenSpec.ofChange Rows.factOrdersSpec) :=
  OpenClaim.holds_of_wide 3 Try.f3 rfl rfl rfl rfl rfl rfl rfl ⟨rfl, rfl, rfl, rfl, rfl⟩ rfl rfl rfl rfl rfl (by kernel_rfl) Try.func3 (by kernel_rfl)
    (of_decide_eq_true (by kernel_rfl)) (by unfold Func.isWrapper; first | (rw [if_pos (by decide +kernel)]; kernel_rfl) | (rw [if_neg (by decide +kernel)]; exact ⟨rfl, rfl⟩))
    (fun os started H enc _ => lifted os started H enc)

theorem proved : Rows.FactOrdersSaid := over
#print axioms proved
end Go.Proofs.Ytejilonhdgfkbaa.factOrders
