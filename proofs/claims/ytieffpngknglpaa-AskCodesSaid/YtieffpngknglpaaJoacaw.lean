/-
  Texts laid one behind the other: Q1f Q1g.
-/
import Derived.Test.YtieffpngknglpaaJoacav
import Derived.Lib.MinMax
import Derived.BigQuiet

/-
  Stage 13: the program's Matches and Group.
-/
namespace Go.Proofs.Ytieffpngknglpaa
open Go.RowKit

set_option maxRecDepth 100000

/-- A query and a key, as a call lays them. -/
structure Qk13 (w : World) (b m : Nat) (q : Q13) (k : K9) (W : World) : Prop where
  q : Box W b 25 (cells13 q)
  k : Box W m 27 #[.int .i64 k.h, sv9 k.a, sv9 k.b, sv9 k.c, sv9 k.d]
  turn : Turn (fun _ => False) w W
theorem Qk13.later {w W W2 : World} {b m : Nat} {q : Q13} {k : K9} (h : Qk13 w b m q k W) (ht : Turn (fun _ => False) W W2) : Qk13 w b m q k W2 :=
  ⟨h.q.turn ht (fun f => f), h.k.turn ht (fun f => f), h.turn.trans ht (fun _ _ f => f)⟩
theorem Qk13.s {w W : World} {b m : Nat} {q : Q13} {k : K9} (h : Qk13 w b m q k W) : CQ13 W b q ∧ CK13 W m k := ⟨cq_box13 h.q, ck_box13 h.k⟩
theorem Qk13.new (w : World) (q : Q13) (k : K9) : Qk13 w w.heap.size (w.heap.size + 1) q k ((w.alloc (.cells (cells13 q) 25)).alloc (.cells #[.int .i64 k.h, sv9 k.a, sv9 k.b, sv9 k.c, sv9 k.d] 27)) := by
  have h := Box.new (w.alloc (.cells (cells13 q) 25)) 27 #[.int .i64 k.h, sv9 k.a, sv9 k.b, sv9 k.c, sv9 k.d]
  rw [World.size_alloc] at h
  exact ⟨(Box.new w _ _).alloc _, h, ((Turn.refl _ w).alloc _).alloc _⟩

set_option maxHeartbeats 16000000 in
theorem matches_any13 (q : Q13) (k : K9) (w : World) : Calls Try.prog 9 #[qv13 q, kv9 k] w fun e w' => e = .returned (.bool (matchB q k)) ∧ Turn (fun _ => False) w w' := by
  unfold qv13 kv9
  obtain ⟨w0, hw0⟩ : ∃ w0, w0 = (w.alloc (.cells (cells13 q) 25)).alloc (.cells #[.int .i64 k.h, sv9 k.a, sv9 k.b, sv9 k.c, sv9 k.d] 27) := ⟨_, rfl⟩
  have h0 := Qk13.new w q k
  rw [← hw0] at h0
  have HW := Lib.hid hw0
  have HAT0 := Lib.hid h0
  clear hw0 h0
  go_enter Try.func9, Try.ntmps9
  go_wp2_with fail
  rw [← HW.out]
  obtain ⟨b, hbb⟩ : ∃ b, b = w.heap.size := ⟨_, rfl⟩
  obtain ⟨m, hmm⟩ : ∃ m, m = w.heap.size + 1 := ⟨_, rfl⟩
  rw [← hmm, ← hbb]
  rw [← hmm, ← hbb] at HAT0
  have HAT := Lib.hid (HAT0.out.later (Turn.refl (fun _ => False) w0).drew)
  clear hbb hmm HW HAT0
  refine drawn_region (fun W => CQ13 W b q ∧ CK13 W m k) [] (by kernel_rfl) ?_
  generalize World.drew w0 = wd at *
  have hS0 : CQ13 wd b q ∧ CK13 wd m k := HAT.out.s
  refine drawn_take 0 5 (.pointer (some ⟨b, 0, none⟩)) rfl rfl (by kernel_rfl) (by kernel_rfl) (by kernel_rfl) (by kernel_rfl) (fun _ _ _ h => h) (by rfl) (by assumption) (by intro w hSw; obtain ⟨⟨b0, b1, b2, b3, b4, b5, b6, b7, b8, b9, b10, b11, b12, b13⟩, ⟨m0, m1, m2, m3, m4⟩⟩ := hSw; go_simp) ?_
  try simp only [List.setIfInBounds_toArray, List.set_cons_zero, List.set_cons_succ]
  refine drawn_take 1 6 (.int .i64 q.lo) rfl rfl (by kernel_rfl) (by kernel_rfl) (by kernel_rfl) (by kernel_rfl) (fun _ _ _ h => h) (by rfl) (by assumption) (by intro w hSw; obtain ⟨⟨b0, b1, b2, b3, b4, b5, b6, b7, b8, b9, b10, b11, b12, b13⟩, ⟨m0, m1, m2, m3, m4⟩⟩ := hSw; go_simp) ?_
  try simp only [List.setIfInBounds_toArray, List.set_cons_zero, List.set_cons_succ]
  refine drawn_take 2 7 (.pointer (some ⟨m, 0, none⟩)) rfl rfl (by kernel_rfl) (by kernel_rfl) (by kernel_rfl) (by kernel_rfl) (fun _ _ _ h => h) (by rfl) (by assumption) (by intro w hSw; obtain ⟨⟨b0, b1, b2, b3, b4, b5, b6, b7, b8, b9, b10, b11, b12, b13⟩, ⟨m0, m1, m2, m3, m4⟩⟩ := hSw; go_simp) ?_
  try simp only [List.setIfInBounds_toArray, List.set_cons_zero, List.set_cons_succ]
  refine drawn_take 3 8 (.int .i64 k.h) rfl rfl (by kernel_rfl) (by kernel_rfl) (by kernel_rfl) (by kernel_rfl) (fun _ _ _ h => h) (by rfl) (by assumption) (by intro w hSw; obtain ⟨⟨b0, b1, b2, b3, b4, b5, b6, b7, b8, b9, b10, b11, b12, b13⟩, ⟨m0, m1, m2, m3, m4⟩⟩ := hSw; go_simp) ?_
  try simp only [List.setIfInBounds_toArray, List.set_cons_zero, List.set_cons_succ]
  by_cases hA : q.lo ≤ k.h
  · have dA : decide (q.lo ≤ k.h) = true := decide_eq_true hA
    refine drawn_take 4 9 (.bool true) rfl rfl (by kernel_rfl) (by kernel_rfl) (by kernel_rfl) (by kernel_rfl) (fun _ _ _ h => h) (by rfl) (by assumption) (by intro w hSw; obtain ⟨⟨b0, b1, b2, b3, b4, b5, b6, b7, b8, b9, b10, b11, b12, b13⟩, ⟨m0, m1, m2, m3, m4⟩⟩ := hSw; go_simp) ?_
    try simp only [List.setIfInBounds_toArray, List.set_cons_zero, List.set_cons_succ]
    refine drawn_take 5 10 (.bool true) rfl rfl (by kernel_rfl) (by kernel_rfl) (by kernel_rfl) (by kernel_rfl) (fun _ _ _ h => h) (by rfl) (by assumption) (by intro w hSw; obtain ⟨⟨b0, b1, b2, b3, b4, b5, b6, b7, b8, b9, b10, b11, b12, b13⟩, ⟨m0, m1, m2, m3, m4⟩⟩ := hSw; go_simp) ?_
    try simp only [List.setIfInBounds_toArray, List.set_cons_zero, List.set_cons_succ]
    refine drawn_take 6 11 (.pointer (some ⟨m, 0, none⟩)) rfl rfl (by kernel_rfl) (by kernel_rfl) (by kernel_rfl) (by kernel_rfl) (fun _ _ _ h => h) (by rfl) (by assumption) (by intro w hSw; obtain ⟨⟨b0, b1, b2, b3, b4, b5, b6, b7, b8, b9, b10, b11, b12, b13⟩, ⟨m0, m1, m2, m3, m4⟩⟩ := hSw; go_simp) ?_
    try simp only [List.setIfInBounds_toArray, List.set_cons_zero, List.set_cons_succ]
    refine drawn_take 7 12 (.int .i64 k.h) rfl rfl (by kernel_rfl) (by kernel_rfl) (by kernel_rfl) (by kernel_rfl) (fun _ _ _ h => h) (by rfl) (by assumption) (by intro w hSw; obtain ⟨⟨b0, b1, b2, b3, b4, b5, b6, b7, b8, b9, b10, b11, b12, b13⟩, ⟨m0, m1, m2, m3, m4⟩⟩ := hSw; go_simp) ?_
    try simp only [List.setIfInBounds_toArray, List.set_cons_zero, List.set_cons_succ]
    refine drawn_take 8 13 (.pointer (some ⟨b, 1, none⟩)) rfl rfl (by kernel_rfl) (by kernel_rfl) (by kernel_rfl) (by kernel_rfl) (fun _ _ _ h => h) (by rfl) (by assumption) (by intro w hSw; obtain ⟨⟨b0, b1, b2, b3, b4, b5, b6, b7, b8, b9, b10, b11, b12, b13⟩, ⟨m0, m1, m2, m3, m4⟩⟩ := hSw; go_simp) ?_
    try simp only [List.setIfInBounds_toArray, List.set_cons_zero, List.set_cons_succ]
    refine drawn_take 9 14 (.int .i64 q.hi) rfl rfl (by kernel_rfl) (by kernel_rfl) (by kernel_rfl) (by kernel_rfl) (fun _ _ _ h => h) (by rfl) (by assumption) (by intro w hSw; obtain ⟨⟨b0, b1, b2, b3, b4, b5, b6, b7, b8, b9, b10, b11, b12, b13⟩, ⟨m0, m1, m2, m3, m4⟩⟩ := hSw; go_simp) ?_
    try simp only [List.setIfInBounds_toArray, List.set_cons_zero, List.set_cons_succ]
    by_cases hB : k.h < q.hi
    · have dB : decide (k.h < q.hi) = true := decide_eq_true hB
      refine drawn_take 10 15 (.bool true) rfl rfl (by kernel_rfl) (by kernel_rfl) (by kernel_rfl) (by kernel_rfl) (fun _ _ _ h => h) (by rfl) (by assumption) (by intro w hSw; obtain ⟨⟨b0, b1, b2, b3, b4, b5, b6, b7, b8, b9, b10, b11, b12, b13⟩, ⟨m0, m1, m2, m3, m4⟩⟩ := hSw; go_simp) ?_
      try simp only [List.setIfInBounds_toArray, List.set_cons_zero, List.set_cons_succ]
      refine drawn_take 11 16 (.bool true) rfl rfl (by kernel_rfl) (by kernel_rfl) (by kernel_rfl) (by kernel_rfl) (fun _ _ _ h => h) (by rfl) (by assumption) (by intro w hSw; obtain ⟨⟨b0, b1, b2, b3, b4, b5, b6, b7, b8, b9, b10, b11, b12, b13⟩, ⟨m0, m1, m2, m3, m4⟩⟩ := hSw; go_simp) ?_
      try simp only [List.setIfInBounds_toArray, List.set_cons_zero, List.set_cons_succ]
      refine drawn_take 12 17 (.bool true) rfl rfl (by kernel_rfl) (by kernel_rfl) (by kernel_rfl) (by kernel_rfl) (fun _ _ _ h => h) (by rfl) (by assumption) (by intro w hSw; obtain ⟨⟨b0, b1, b2, b3, b4, b5, b6, b7, b8, b9, b10, b11, b12, b13⟩, ⟨m0, m1, m2, m3, m4⟩⟩ := hSw; go_simp) ?_
      try simp only [List.setIfInBounds_toArray, List.set_cons_zero, List.set_cons_succ]
      have HFIN : Hid (matchB q k = decide (onlyP [] (txOf k) q.h = onlyP [] q.f q.h)) := by
        show matchB q k = _
        unfold matchB
        rw [dA, dB]
        rfl
      clear dA dB hA hB
      refine drawn_take 13 18 (.pointer (some ⟨m, 1, none⟩)) rfl rfl (by kernel_rfl) (by kernel_rfl) (by kernel_rfl) (by kernel_rfl) (fun _ _ _ h => h) (by rfl) (by assumption) (by intro w hSw; obtain ⟨⟨b0, b1, b2, b3, b4, b5, b6, b7, b8, b9, b10, b11, b12, b13⟩, ⟨m0, m1, m2, m3, m4⟩⟩ := hSw; go_simp) ?_
      try simp only [List.setIfInBounds_toArray, List.set_cons_zero, List.set_cons_succ]
      refine drawn_take 14 19 (.agg #[sv9 k.a, sv9 k.b, sv9 k.c, sv9 k.d]) rfl rfl (by kernel_rfl) (by kernel_rfl) (by kernel_rfl) (by kernel_rfl) (fun _ _ _ h => h) (by rfl) (by assumption) (by intro w hSw; obtain ⟨⟨b0, b1, b2, b3, b4, b5, b6, b7, b8, b9, b10, b11, b12, b13⟩, ⟨m0, m1, m2, m3, m4⟩⟩ := hSw; go_simp) ?_
      try simp only [List.setIfInBounds_toArray, List.set_cons_zero, List.set_cons_succ]
      refine drawn_take 15 20 (.pointer (some ⟨b, 6, none⟩)) rfl rfl (by kernel_rfl) (by kernel_rfl) (by kernel_rfl) (by kernel_rfl) (fun _ _ _ h => h) (by rfl) (by assumption) (by intro w hSw; obtain ⟨⟨b0, b1, b2, b3, b4, b5, b6, b7, b8, b9, b10, b11, b12, b13⟩, ⟨m0, m1, m2, m3, m4⟩⟩ := hSw; go_simp) ?_
      try simp only [List.setIfInBounds_toArray, List.set_cons_zero, List.set_cons_succ]
      refine drawn_take 16 21 (.agg (bs13 q.h)) rfl rfl (by kernel_rfl) (by kernel_rfl) (by kernel_rfl) (by kernel_rfl) (fun _ _ _ h => h) (by rfl) (by assumption) (by intro w hSw; obtain ⟨⟨b0, b1, b2, b3, b4, b5, b6, b7, b8, b9, b10, b11, b12, b13⟩, ⟨m0, m1, m2, m3, m4⟩⟩ := hSw; go_simp) ?_
      try simp only [List.setIfInBounds_toArray, List.set_cons_zero, List.set_cons_succ]
      refine drawn_take 18 23 (.pointer (some ⟨b, 10, none⟩)) rfl rfl (by kernel_rfl) (by kernel_rfl) (by kernel_rfl) (by kernel_rfl) (fun _ _ _ h => h) (by rfl) (by assumption) (by intro w hSw; obtain ⟨⟨b0, b1, b2, b3, b4, b5, b6, b7, b8, b9, b10, b11, b12, b13⟩, ⟨m0, m1, m2, m3, m4⟩⟩ := hSw; go_simp) ?_
      try simp only [List.setIfInBounds_toArray, List.set_cons_zero, List.set_cons_succ]
      refine drawn_take 19 24 (.agg (ts13 q.f)) rfl rfl (by kernel_rfl) (by kernel_rfl) (by kernel_rfl) (by kernel_rfl) (fun _ _ _ h => h) (by rfl) (by assumption) (by intro w hSw; obtain ⟨⟨b0, b1, b2, b3, b4, b5, b6, b7, b8, b9, b10, b11, b12, b13⟩, ⟨m0, m1, m2, m3, m4⟩⟩ := hSw; go_simp) ?_
      try simp only [List.setIfInBounds_toArray, List.set_cons_zero, List.set_cons_succ]
      refine drawn_take 20 25 (.pointer (some ⟨b, 6, none⟩)) rfl rfl (by kernel_rfl) (by kernel_rfl) (by kernel_rfl) (by kernel_rfl) (fun _ _ _ h => h) (by rfl) (by assumption) (by intro w hSw; obtain ⟨⟨b0, b1, b2, b3, b4, b5, b6, b7, b8, b9, b10, b11, b12, b13⟩, ⟨m0, m1, m2, m3, m4⟩⟩ := hSw; go_simp) ?_
      try simp only [List.setIfInBounds_toArray, List.set_cons_zero, List.set_cons_succ]
      refine drawn_take 21 26 (.agg (bs13 q.h)) rfl rfl (by kernel_rfl) (by kernel_rfl) (by kernel_rfl) (by kernel_rfl) (fun _ _ _ h => h) (by rfl) (by assumption) (by intro w hSw; obtain ⟨⟨b0, b1, b2, b3, b4, b5, b6, b7, b8, b9, b10, b11, b12, b13⟩, ⟨m0, m1, m2, m3, m4⟩⟩ := hSw; go_simp) ?_
      try simp only [List.setIfInBounds_toArray, List.set_cons_zero, List.set_cons_succ]
      refine drawn_any [17] (by kernel_rfl) (by simp) ?_
      refine drawn_cons rfl (fun K2 hK => ?_) drawn_nil
      go_simp
      refine (only_text13 (txOf k) q.h wd).mono ?_
      rintro e w4 ⟨rfl, t4⟩
      have HAT4 := Lib.hid (HAT.out.later t4)
      have hS4 : CQ13 w4 b q ∧ CK13 w4 m k := HAT4.out.s
      refine hK.out _ _ _ hS4 ?_
      clear hK K2 HAT hS0 t4
      try simp only [List.setIfInBounds_toArray, List.set_cons_zero, List.set_cons_succ]
      refine drawn_any [22] (by kernel_rfl) (by simp) ?_
      refine drawn_cons rfl (fun K2 hK => ?_) drawn_nil
      go_simp
      refine (only_text13 q.f q.h w4).mono ?_
      rintro e w5 ⟨rfl, t5⟩
      have HAT5 := Lib.hid (HAT4.out.later t5)
      have hS5 : CQ13 w5 b q ∧ CK13 w5 m k := HAT5.out.s
      refine hK.out _ _ _ hS5 ?_
      clear hK K2 HAT4 hS4 t5
      try simp only [List.setIfInBounds_toArray, List.set_cons_zero, List.set_cons_succ]
      have g3 := fun op X Y => guard_four13 op X Y (onlyP [] (txOf k) q.h) (onlyP [] q.f q.h)
      have ne3 := run_eql_four13 (onlyP [] (txOf k) q.h) (onlyP [] q.f q.h)
      rw [← HFIN.out] at ne3
      generalize onlyP [] (txOf k) q.h = o1 at *
      generalize onlyP [] q.f q.h = o2 at *
      obtain ⟨r, hr⟩ : ∃ r, r = matchB q k := ⟨_, rfl⟩
      rw [← hr] at ne3
      have HR := Lib.hid hr
      clear HFIN hr
      refine drawn_take 23 28 (.bool r) rfl rfl (by kernel_rfl) (by kernel_rfl) (by kernel_rfl) (by kernel_rfl) (fun _ _ _ h => h) (by rfl) (by assumption) (by intro w hSw; obtain ⟨⟨b0, b1, b2, b3, b4, b5, b6, b7, b8, b9, b10, b11, b12, b13⟩, ⟨m0, m1, m2, m3, m4⟩⟩ := hSw; go_simp) ?_
      try simp only [List.setIfInBounds_toArray, List.set_cons_zero, List.set_cons_succ]
      refine drawn_take 24 29 (.bool r) rfl rfl (by kernel_rfl) (by kernel_rfl) (by kernel_rfl) (by kernel_rfl) (fun _ _ _ h => h) (by rfl) (by assumption) (by intro w hSw; obtain ⟨⟨b0, b1, b2, b3, b4, b5, b6, b7, b8, b9, b10, b11, b12, b13⟩, ⟨m0, m1, m2, m3, m4⟩⟩ := hSw; go_simp) ?_
      try simp only [List.setIfInBounds_toArray, List.set_cons_zero, List.set_cons_succ]
      refine drawn_last1 25 4 (.bool r) rfl rfl (by kernel_rfl) (by kernel_rfl) (by rfl) (by intro w; go_simp) hS5 ?_
      try simp only [List.setIfInBounds_toArray, List.set_cons_zero, List.set_cons_succ]
      go_wp2
      go_ret
      rw [← HR.out]
      exact ⟨rfl, HAT5.out.turn⟩
    · have dB : decide (k.h < q.hi) = false := decide_eq_false hB
      have HFIN : Hid (matchB q k = false) := by
        show matchB q k = _
        unfold matchB
        rw [dB, Bool.and_false, Bool.false_and]
      refine drawn_take 10 15 (.bool false) rfl rfl (by kernel_rfl) (by kernel_rfl) (by kernel_rfl) (by kernel_rfl) (fun _ _ _ h => h) (by rfl) (by assumption) (by intro w hSw; obtain ⟨⟨b0, b1, b2, b3, b4, b5, b6, b7, b8, b9, b10, b11, b12, b13⟩, ⟨m0, m1, m2, m3, m4⟩⟩ := hSw; go_simp) ?_
      try simp only [List.setIfInBounds_toArray, List.set_cons_zero, List.set_cons_succ]
      refine drawn_take 11 16 (.bool false) rfl rfl (by kernel_rfl) (by kernel_rfl) (by kernel_rfl) (by kernel_rfl) (fun _ _ _ h => h) (by rfl) (by assumption) (by intro w hSw; obtain ⟨⟨b0, b1, b2, b3, b4, b5, b6, b7, b8, b9, b10, b11, b12, b13⟩, ⟨m0, m1, m2, m3, m4⟩⟩ := hSw; go_simp) ?_
      try simp only [List.setIfInBounds_toArray, List.set_cons_zero, List.set_cons_succ]
      refine drawn_take 12 17 (.bool false) rfl rfl (by kernel_rfl) (by kernel_rfl) (by kernel_rfl) (by kernel_rfl) (fun _ _ _ h => h) (by rfl) (by assumption) (by intro w hSw; obtain ⟨⟨b0, b1, b2, b3, b4, b5, b6, b7, b8, b9, b10, b11, b12, b13⟩, ⟨m0, m1, m2, m3, m4⟩⟩ := hSw; go_simp) ?_
      try simp only [List.setIfInBounds_toArray, List.set_cons_zero, List.set_cons_succ]
      refine drawn_skip 13 18 rfl rfl (by kernel_rfl) (by kernel_rfl) (by kernel_rfl) (by kernel_rfl) (fun _ _ _ h => h) (by rfl) (fun _ => by assumption) ?_
      try simp only [List.setIfInBounds_toArray, List.set_cons_zero, List.set_cons_succ]
      refine drawn_skip 14 19 rfl rfl (by kernel_rfl) (by kernel_rfl) (by kernel_rfl) (by kernel_rfl) (fun _ _ _ h => h) (by rfl) (fun _ => by assumption) ?_
      try simp only [List.setIfInBounds_toArray, List.set_cons_zero, List.set_cons_succ]
      refine drawn_skip 15 20 rfl rfl (by kernel_rfl) (by kernel_rfl) (by kernel_rfl) (by kernel_rfl) (fun _ _ _ h => h) (by rfl) (fun _ => by assumption) ?_
      try simp only [List.setIfInBounds_toArray, List.set_cons_zero, List.set_cons_succ]
      refine drawn_skip 16 21 rfl rfl (by kernel_rfl) (by kernel_rfl) (by kernel_rfl) (by kernel_rfl) (fun _ _ _ h => h) (by rfl) (fun _ => by assumption) ?_
      try simp only [List.setIfInBounds_toArray, List.set_cons_zero, List.set_cons_succ]
      refine drawn_skip 17 22 rfl rfl (by kernel_rfl) (by kernel_rfl) (by kernel_rfl) (by kernel_rfl) (fun _ _ _ h => h) (by rfl) (fun _ => by assumption) ?_
      try simp only [List.setIfInBounds_toArray, List.set_cons_zero, List.set_cons_succ]
      refine drawn_skip 18 23 rfl rfl (by kernel_rfl) (by kernel_rfl) (by kernel_rfl) (by kernel_rfl) (fun _ _ _ h => h) (by rfl) (fun _ => by assumption) ?_
      try simp only [List.setIfInBounds_toArray, List.set_cons_zero, List.set_cons_succ]
      refine drawn_skip 19 24 rfl rfl (by kernel_rfl) (by kernel_rfl) (by kernel_rfl) (by kernel_rfl) (fun _ _ _ h => h) (by rfl) (fun _ => by assumption) ?_
      try simp only [List.setIfInBounds_toArray, List.set_cons_zero, List.set_cons_succ]
      refine drawn_skip 20 25 rfl rfl (by kernel_rfl) (by kernel_rfl) (by kernel_rfl) (by kernel_rfl) (fun _ _ _ h => h) (by rfl) (fun _ => by assumption) ?_
      try simp only [List.setIfInBounds_toArray, List.set_cons_zero, List.set_cons_succ]
      refine drawn_skip 21 26 rfl rfl (by kernel_rfl) (by kernel_rfl) (by kernel_rfl) (by kernel_rfl) (fun _ _ _ h => h) (by rfl) (fun _ => by assumption) ?_
      try simp only [List.setIfInBounds_toArray, List.set_cons_zero, List.set_cons_succ]
      refine drawn_skip 22 27 rfl rfl (by kernel_rfl) (by kernel_rfl) (by kernel_rfl) (by kernel_rfl) (fun _ _ _ h => h) (by rfl) (fun _ => by assumption) ?_
      try simp only [List.setIfInBounds_toArray, List.set_cons_zero, List.set_cons_succ]
      refine drawn_skip 23 28 rfl rfl (by kernel_rfl) (by kernel_rfl) (by kernel_rfl) (by kernel_rfl) (fun _ _ _ h => h) (by rfl) (fun _ => by assumption) ?_
      try simp only [List.setIfInBounds_toArray, List.set_cons_zero, List.set_cons_succ]
      refine drawn_take 24 29 (.bool false) rfl rfl (by kernel_rfl) (by kernel_rfl) (by kernel_rfl) (by kernel_rfl) (fun _ _ _ h => h) (by rfl) (by assumption) (by intro w hSw; obtain ⟨⟨b0, b1, b2, b3, b4, b5, b6, b7, b8, b9, b10, b11, b12, b13⟩, ⟨m0, m1, m2, m3, m4⟩⟩ := hSw; go_simp) ?_
      try simp only [List.setIfInBounds_toArray, List.set_cons_zero, List.set_cons_succ]
      refine drawn_last1 25 4 (.bool false) rfl rfl (by kernel_rfl) (by kernel_rfl) (by rfl) (by intro w; go_simp) hS0 ?_
      try simp only [List.setIfInBounds_toArray, List.set_cons_zero, List.set_cons_succ]
      clear dB hB dA hA
      go_wp2
      go_ret
      rw [HFIN.out]
      exact ⟨rfl, HAT.out.turn⟩
  · have dA : decide (q.lo ≤ k.h) = false := decide_eq_false hA
    have HFIN : Hid (matchB q k = false) := by
      show matchB q k = _
      unfold matchB
      rw [dA, Bool.false_and, Bool.false_and]
    refine drawn_take 4 9 (.bool false) rfl rfl (by kernel_rfl) (by kernel_rfl) (by kernel_rfl) (by kernel_rfl) (fun _ _ _ h => h) (by rfl) (by assumption) (by intro w hSw; obtain ⟨⟨b0, b1, b2, b3, b4, b5, b6, b7, b8, b9, b10, b11, b12, b13⟩, ⟨m0, m1, m2, m3, m4⟩⟩ := hSw; go_simp) ?_
    try simp only [List.setIfInBounds_toArray, List.set_cons_zero, List.set_cons_succ]
    refine drawn_take 5 10 (.bool false) rfl rfl (by kernel_rfl) (by kernel_rfl) (by kernel_rfl) (by kernel_rfl) (fun _ _ _ h => h) (by rfl) (by assumption) (by intro w hSw; obtain ⟨⟨b0, b1, b2, b3, b4, b5, b6, b7, b8, b9, b10, b11, b12, b13⟩, ⟨m0, m1, m2, m3, m4⟩⟩ := hSw; go_simp) ?_
    try simp only [List.setIfInBounds_toArray, List.set_cons_zero, List.set_cons_succ]
    refine drawn_skip 6 11 rfl rfl (by kernel_rfl) (by kernel_rfl) (by kernel_rfl) (by kernel_rfl) (fun _ _ _ h => h) (by rfl) (fun _ => by assumption) ?_
    try simp only [List.setIfInBounds_toArray, List.set_cons_zero, List.set_cons_succ]
    refine drawn_skip 7 12 rfl rfl (by kernel_rfl) (by kernel_rfl) (by kernel_rfl) (by kernel_rfl) (fun _ _ _ h => h) (by rfl) (fun _ => by assumption) ?_
    try simp only [List.setIfInBounds_toArray, List.set_cons_zero, List.set_cons_succ]
    refine drawn_skip 8 13 rfl rfl (by kernel_rfl) (by kernel_rfl) (by kernel_rfl) (by kernel_rfl) (fun _ _ _ h => h) (by rfl) (fun _ => by assumption) ?_
    try simp only [List.setIfInBounds_toArray, List.set_cons_zero, List.set_cons_succ]
    refine drawn_skip 9 14 rfl rfl (by kernel_rfl) (by kernel_rfl) (by kernel_rfl) (by kernel_rfl) (fun _ _ _ h => h) (by rfl) (fun _ => by assumption) ?_
    try simp only [List.setIfInBounds_toArray, List.set_cons_zero, List.set_cons_succ]
    refine drawn_skip 10 15 rfl rfl (by kernel_rfl) (by kernel_rfl) (by kernel_rfl) (by kernel_rfl) (fun _ _ _ h => h) (by rfl) (fun _ => by assumption) ?_
    try simp only [List.setIfInBounds_toArray, List.set_cons_zero, List.set_cons_succ]
    refine drawn_take 11 16 (.bool false) rfl rfl (by kernel_rfl) (by kernel_rfl) (by kernel_rfl) (by kernel_rfl) (fun _ _ _ h => h) (by rfl) (by assumption) (by intro w hSw; obtain ⟨⟨b0, b1, b2, b3, b4, b5, b6, b7, b8, b9, b10, b11, b12, b13⟩, ⟨m0, m1, m2, m3, m4⟩⟩ := hSw; go_simp) ?_
    try simp only [List.setIfInBounds_toArray, List.set_cons_zero, List.set_cons_succ]
    refine drawn_take 12 17 (.bool false) rfl rfl (by kernel_rfl) (by kernel_rfl) (by kernel_rfl) (by kernel_rfl) (fun _ _ _ h => h) (by rfl) (by assumption) (by intro w hSw; obtain ⟨⟨b0, b1, b2, b3, b4, b5, b6, b7, b8, b9, b10, b11, b12, b13⟩, ⟨m0, m1, m2, m3, m4⟩⟩ := hSw; go_simp) ?_
    try simp only [List.setIfInBounds_toArray, List.set_cons_zero, List.set_cons_succ]
    refine drawn_skip 13 18 rfl rfl (by kernel_rfl) (by kernel_rfl) (by kernel_rfl) (by kernel_rfl) (fun _ _ _ h => h) (by rfl) (fun _ => by assumption) ?_
    try simp only [List.setIfInBounds_toArray, List.set_cons_zero, List.set_cons_succ]
    refine drawn_skip 14 19 rfl rfl (by kernel_rfl) (by kernel_rfl) (by kernel_rfl) (by kernel_rfl) (fun _ _ _ h => h) (by rfl) (fun _ => by assumption) ?_
    try simp only [List.setIfInBounds_toArray, List.set_cons_zero, List.set_cons_succ]
    refine drawn_skip 15 20 rfl rfl (by kernel_rfl) (by kernel_rfl) (by kernel_rfl) (by kernel_rfl) (fun _ _ _ h => h) (by rfl) (fun _ => by assumption) ?_
    try simp only [List.setIfInBounds_toArray, List.set_cons_zero, List.set_cons_succ]
    refine drawn_skip 16 21 rfl rfl (by kernel_rfl) (by kernel_rfl) (by kernel_rfl) (by kernel_rfl) (fun _ _ _ h => h) (by rfl) (fun _ => by assumption) ?_
    try simp only [List.setIfInBounds_toArray, List.set_cons_zero, List.set_cons_succ]
    refine drawn_skip 17 22 rfl rfl (by kernel_rfl) (by kernel_rfl) (by kernel_rfl) (by kernel_rfl) (fun _ _ _ h => h) (by rfl) (fun _ => by assumption) ?_
    try simp only [List.setIfInBounds_toArray, List.set_cons_zero, List.set_cons_succ]
    refine drawn_skip 18 23 rfl rfl (by kernel_rfl) (by kernel_rfl) (by kernel_rfl) (by kernel_rfl) (fun _ _ _ h => h) (by rfl) (fun _ => by assumption) ?_
    try simp only [List.setIfInBounds_toArray, List.set_cons_zero, List.set_cons_succ]
    refine drawn_skip 19 24 rfl rfl (by kernel_rfl) (by kernel_rfl) (by kernel_rfl) (by kernel_rfl) (fun _ _ _ h => h) (by rfl) (fun _ => by assumption) ?_
    try simp only [List.setIfInBounds_toArray, List.set_cons_zero, List.set_cons_succ]
    refine drawn_skip 20 25 rfl rfl (by kernel_rfl) (by kernel_rfl) (by kernel_rfl) (by kernel_rfl) (fun _ _ _ h => h) (by rfl) (fun _ => by assumption) ?_
    try simp only [List.setIfInBounds_toArray, List.set_cons_zero, List.set_cons_succ]
    refine drawn_skip 21 26 rfl rfl (by kernel_rfl) (by kernel_rfl) (by kernel_rfl) (by kernel_rfl) (fun _ _ _ h => h) (by rfl) (fun _ => by assumption) ?_
    try simp only [List.setIfInBounds_toArray, List.set_cons_zero, List.set_cons_succ]
    refine drawn_skip 22 27 rfl rfl (by kernel_rfl) (by kernel_rfl) (by kernel_rfl) (by kernel_rfl) (fun _ _ _ h => h) (by rfl) (fun _ => by assumption) ?_
    try simp only [List.setIfInBounds_toArray, List.set_cons_zero, List.set_cons_succ]
    refine drawn_skip 23 28 rfl rfl (by kernel_rfl) (by kernel_rfl) (by kernel_rfl) (by kernel_rfl) (fun _ _ _ h => h) (by rfl) (fun _ => by assumption) ?_
    try simp only [List.setIfInBounds_toArray, List.set_cons_zero, List.set_cons_succ]
    refine drawn_take 24 29 (.bool false) rfl rfl (by kernel_rfl) (by kernel_rfl) (by kernel_rfl) (by kernel_rfl) (fun _ _ _ h => h) (by rfl) (by assumption) (by intro w hSw; obtain ⟨⟨b0, b1, b2, b3, b4, b5, b6, b7, b8, b9, b10, b11, b12, b13⟩, ⟨m0, m1, m2, m3, m4⟩⟩ := hSw; go_simp) ?_
    try simp only [List.setIfInBounds_toArray, List.set_cons_zero, List.set_cons_succ]
    refine drawn_last1 25 4 (.bool false) rfl rfl (by kernel_rfl) (by kernel_rfl) (by rfl) (by intro w; go_simp) hS0 ?_
    try simp only [List.setIfInBounds_toArray, List.set_cons_zero, List.set_cons_succ]
    clear dA hA
    go_wp2
    go_ret
    rw [HFIN.out]
    exact ⟨rfl, HAT.out.turn⟩

set_option maxHeartbeats 16000000 in
theorem group_any13 (q : Q13) (k : K9) (w : World) : Calls Try.prog 11 #[qv13 q, kv9 k] w fun e w' => e = .returned (kv9 (groupK q k)) ∧ Turn (fun _ => False) w w' := by
  unfold qv13 kv9
  obtain ⟨w0, hw0⟩ : ∃ w0, w0 = (w.alloc (.cells (cells13 q) 25)).alloc (.cells #[.int .i64 k.h, sv9 k.a, sv9 k.b, sv9 k.c, sv9 k.d] 27) := ⟨_, rfl⟩
  have h0 := Qk13.new w q k
  rw [← hw0] at h0
  have HW := Lib.hid hw0
  have HAT0 := Lib.hid h0
  clear hw0 h0
  obtain ⟨w1, hw1⟩ : ∃ w1, w1 = w0.alloc (.cells #[.int .i64 0, .string ⟨#[]⟩, .string ⟨#[]⟩, .string ⟨#[]⟩, .string ⟨#[]⟩] 27) := ⟨_, rfl⟩
  have hs0 : w0.heap.size = w.heap.size + 1 + 1 := by rw [HW.out, World.size_alloc, World.size_alloc]
  have h1 := HAT0.out.later ((Turn.refl (fun _ => False) w0).alloc (.cells #[.int .i64 0, .string ⟨#[]⟩, .string ⟨#[]⟩, .string ⟨#[]⟩, .string ⟨#[]⟩] 27))
  have hr1 := Box.new w0 27 #[.int .i64 0, .string ⟨#[]⟩, .string ⟨#[]⟩, .string ⟨#[]⟩, .string ⟨#[]⟩]
  rw [hs0] at hr1
  rw [← hw1] at h1 hr1
  rw [HW.out] at hw1
  obtain ⟨⟨b0, b1, b2, b3, b4, b5, b6, b7, b8, b9, b10, b11, b12, b13⟩, ⟨m0, m1, m2, m3, m4⟩⟩ := HAT0.out.s
  rw [HW.out] at b0 b1 b2 b3 b4 b5 b6 b7 b8 b9 b10 b11 b12 b13 m0 m1 m2 m3 m4
  have HH1 := Lib.hid h1
  have HR1 := Lib.hid hr1
  have HW1 := Lib.hid hw1
  have HLT : Hid (w.heap.size ≤ w.heap.size + 1 + 1) := by show _ ≤ _; omega
  clear h1 hr1 hw1 hs0 HAT0
  clear HW w0
  go_enter Try.func11, Try.ntmps11
  go_wp2_with fail
  rw [← HW1.out]
  obtain ⟨r, hr⟩ : ∃ r, r = w.heap.size + 1 + 1 := ⟨_, rfl⟩
  rw [← hr]
  rw [← hr] at HR1 HLT
  clear b0 b1 b2 b3 b4 b5 b6 b7 b8 b9 b10 b11 b12 b13 m0 m1 m2 m3 m4 HW1 hr
  refine (only_text13 (txOf k) q.g w1).mono ?_
  rintro e w2 ⟨rfl, t2⟩
  have hb := HR1.out.turn t2 (fun f => f)
  have HG : Hid (groupK q k = kOf (onlyP [] (txOf k) q.g)) := rfl
  generalize onlyP [] (txOf k) q.g = o at *
  have d0 : w2.cell? ⟨r, 0, none⟩ = some (.int .i64 0) := hb.cell 0
  have d1 : w2.cell? ⟨r, 1, none⟩ = some (.string ⟨#[]⟩) := hb.cell 1
  have d2 : w2.cell? ⟨r, 2, none⟩ = some (.string ⟨#[]⟩) := hb.cell 2
  have d3 : w2.cell? ⟨r, 3, none⟩ = some (.string ⟨#[]⟩) := hb.cell 3
  have d4 : w2.cell? ⟨r, 4, none⟩ = some (.string ⟨#[]⟩) := hb.cell 4
  have z0 : w2.frozen? ⟨r, 0, none⟩ = false := hb.free 0
  have z1 : w2.frozen? ⟨r, 1, none⟩ = false := hb.free 1
  have z2 : w2.frozen? ⟨r, 2, none⟩ = false := hb.free 2
  have z3 : w2.frozen? ⟨r, 3, none⟩ = false := hb.free 3
  have z4 : w2.frozen? ⟨r, 4, none⟩ = false := hb.free 4
  have HT : Hid (Turn (fun _ => False) w (w2.setCells r 0 [.int .i64 0, sv9 o.a, sv9 o.b, sv9 o.c, sv9 o.d])) := (HH1.out.turn.trans t2 (fun _ _ f => f)).trans (turn_setCells (S := fun g => g = r) rfl _ 0 w2) (fun g hg e => by have := HLT.out; omega)
  clear hb t2 HR1 HH1
  go_wp2
  refine bodyPost_ret (v := .agg #[.int .i64 0, sv9 o.a, sv9 o.b, sv9 o.c, sv9 o.d]) ?_ rfl ⟨by rw [HG.out]; rfl, HT.out⟩
  rw [results_one13 rfl]
  go_simp

end Go.Proofs.Ytieffpngknglpaa

/-
  Stage 13: the document's Matches and Group; which queries are light; the program's Cut.
-/
namespace Go.Proofs.Ytieffpngknglpaa
open Go.RowKit

set_option maxRecDepth 100000

theorem key_cell13 {W : World} {g : Nat} {k : K9} (h : Box W g 27 #[.int .i64 k.h, sv9 k.a, sv9 k.b, sv9 k.c, sv9 k.d]) {i : Nat} (hi : i < 4) : W.cell? ⟨g, 1 + i, none⟩ = some (sv9 (k.dim i)) := dim_cell (o := 1) h key_cells i hi

set_option maxHeartbeats 16000000 in
theorem ref_matches13 (q : Q13) (k : K9) (w : World) : Calls Try.prog 10 #[qv13 q, kv9 k] w fun e w' => e = .returned (.bool (matchB q k)) ∧ Turn (fun _ => False) w w' := by
  unfold qv13 kv9
  obtain ⟨w0, hw0⟩ : ∃ w0, w0 = (w.alloc (.cells (cells13 q) 25)).alloc (.cells #[.int .i64 k.h, sv9 k.a, sv9 k.b, sv9 k.c, sv9 k.d] 27) := ⟨_, rfl⟩
  have h0 := Qk13.new w q k
  rw [← hw0] at h0
  have HW := Lib.hid hw0
  have HAT0 := Lib.hid h0
  obtain ⟨⟨b0, b1, -⟩, ⟨m0, -⟩⟩ := h0.s
  rw [hw0] at b0 b1 m0
  clear hw0 h0
  by_cases hA : q.lo ≤ k.h
  · by_cases hB : k.h < q.hi
    · have hA2 : ¬ (k.h < q.lo) := by omega
      have hB2 : ¬ (q.hi ≤ k.h) := by omega
      have HNO : Hid (∀ i, i < 4 → q.h.nth i = true → q.f.nth i ≠ k.dim i → matchB q k = false) := fun i hi ht hne => by
        unfold matchB
        rw [decide_eq_false (fun h => hne (match_iff.1 h i hi ht)), Bool.and_false]
      have HYES : Hid ((∀ i, i < 4 → q.h.nth i = true → q.f.nth i = k.dim i) → matchB q k = true) := fun h => by
        unfold matchB
        rw [decide_eq_true hA, decide_eq_true hB, decide_eq_true (match_iff.2 h)]
        rfl
      clear hA hB
      go_enter Try.func10, Try.ntmps10
      go_wp2_with fail
      rw [← HW.out]
      obtain ⟨b, hbb⟩ : ∃ b, b = w.heap.size := ⟨_, rfl⟩
      obtain ⟨m, hmm⟩ : ∃ m, m = w.heap.size + 1 := ⟨_, rfl⟩
      rw [← hmm, ← hbb]
      rw [← hmm, ← hbb] at HAT0
      clear b0 b1 m0 HW hbb hmm hA2 hB2
      go_loopw [5] (fun x5 wr => ∃ i n : Nat, wr = w0.drewN n ∧ x5 = .int .i64 (i : Int) ∧ i ≤ 4 ∧ ∀ j, j < i → q.h.nth j = true → q.f.nth j = k.dim j) (fun x5 _ => 4 - (intOf x5).toNat)
      case atStart => exact ⟨0, 0, rfl, rfl, Nat.zero_le _, fun k hk => absurd hk (Nat.not_lt_zero k)⟩
      case round =>
        obtain ⟨i, n, rfl, rfl, hi, he⟩ := hrel
        have HE := Lib.hid he
        clear he
        by_cases hlt : i < 4
        · have e1 := (HAT0.out.q.cell (6 + i)).trans (q_has13 q hlt)
          have e2 := (HAT0.out.q.cell (10 + i)).trans (q_text13 q hlt)
          have e3 := key_cell13 HAT0.out.k hlt
          have hil : (i : Int) < 4 := by omega
          have HNI := Lib.hid (HNO.out i hlt)
          have HSTEP : Hid ((q.h.nth i = true → q.f.nth i = k.dim i) → ∀ j, j < i + 1 → q.h.nth j = true → q.f.nth j = k.dim j) := fun h j hj => by
            by_cases ej : j = i
            · rw [ej]; exact h
            · exact HE.out j (by omega)
          unfold sv9 at e2 e3
          have HTURN : Hid (Turn (fun _ => False) w w0) := HAT0.out.turn
          generalize q.h.nth i = H at *
          generalize q.f.nth i = T at *
          generalize k.dim i = U at *
          clear HNO HYES HAT0 HE
          cases H with
          | false =>
            have HK := Lib.hid (HSTEP.out (fun h => by cases h))
            clear HSTEP HNI
            go_wp2_with fail
            go_quiet (fail)
            go_wp2
            go_roundw
            case rel => exact ⟨i + 1, _, by first | rfl | simp [World.drewN], by go_num, hlt, HK.out⟩
            case measure => simp [intOf]; omega
          | true =>
            by_cases hT : T = U
            · subst hT
              have HK := Lib.hid (HSTEP.out (fun _ => rfl))
              clear HSTEP HNI
              go_wp2_with fail
              go_quiet (fail)
              go_wp2
              go_roundw
              case rel => exact ⟨i + 1, _, by first | rfl | simp [World.drewN], by go_num, hlt, HK.out⟩
              case measure => simp [intOf]; omega
            · have HK := Lib.hid (HNI.out rfl hT)
              have hne : (T == U) = false := by simpa using hT
              clear HSTEP HNI
              go_wp2_with fail
              go_quiet (fail)
              go_wp2
              go_ret
              rw [HK.out]
              exact ⟨rfl, (HTURN.out.drewN _).drewN _⟩
        · obtain rfl : i = 4 := by omega
          have HK := Lib.hid (HYES.out HE.out)
          have HTURN : Hid (Turn (fun _ => False) w w0) := HAT0.out.turn
          go_wp2
          go_ret
          rw [HK.out]
          exact ⟨rfl, HTURN.out.drewN _⟩
    · have HFIN : Hid (matchB q k = false) := by
        show matchB q k = _
        unfold matchB
        rw [decide_eq_false hB, Bool.and_false, Bool.false_and]
      have hA2 : ¬ (k.h < q.lo) := by omega
      have hB2 : q.hi ≤ k.h := by omega
      clear hA hB
      go_enter Try.func10, Try.ntmps10
      go_wp2_with fail
      rw [← HW.out]
      go_ret
      rw [HFIN.out]
      exact ⟨rfl, HAT0.out.turn⟩
  · have HFIN : Hid (matchB q k = false) := by
      show matchB q k = _
      unfold matchB
      rw [decide_eq_false hA, Bool.false_and, Bool.false_and]
    have hA2 : k.h < q.lo := by omega
    clear hA
    go_enter Try.func10, Try.ntmps10
    go_wp2_with fail
    rw [← HW.out]
    go_ret
    rw [HFIN.out]
    exact ⟨rfl, HAT0.out.turn⟩

abbrev kc13 (v : V4 (List UInt8)) : Array Value := #[.int .i64 0, sv9 v.a, sv9 v.b, sv9 v.c, sv9 v.d]
theorem nth_kc13 (v : V4 (List UInt8)) {i : Nat} (hi : i < 4) : (kc13 v)[1 + i]? = some (sv9 (v.nth i)) := by
  match i, hi with
  | 0, _ => rfl
  | 1, _ => rfl
  | 2, _ => rfl
  | 3, _ => rfl
theorem put_kc13 (v : V4 (List UInt8)) (x : List UInt8) {i : Nat} (hi : i < 4) : (kc13 v).setIfInBounds (1 + i) (sv9 x) = kc13 (v.put i x) := by
  match i, hi with
  | 0, _ => rfl
  | 1, _ => rfl
  | 2, _ => rfl
  | 3, _ => rfl
structure Gr13 (w : World) (b m r o : Nat) (q : Q13) (k : K9) (v : V4 (List UInt8)) (W : World) : Prop where
  q : Box W b 25 (cells13 q)
  k : Box W m 27 #[.int .i64 k.h, sv9 k.a, sv9 k.b, sv9 k.c, sv9 k.d]
  ks : Ks13 w r o 27 (kc13 (V4.fill [])) (kc13 v) W
  bo : b ≠ o
  mo : m ≠ o
theorem Gr13.set {w W : World} {b m r o : Nat} {q : Q13} {k : K9} {v : V4 (List UInt8)} (h : Gr13 w b m r o q k v W) {i : Nat} (hi : i < 4) (x : List UInt8) : Gr13 w b m r o q k (v.put i x) (W.setCell ⟨o, 1 + i, none⟩ (sv9 x)) := by
  have ht : Turn (fun g => g = o) W (W.setCell ⟨o, 1 + i, none⟩ (sv9 x)) := Turn.setCell (S := fun g => g = o) (p := ⟨o, 1 + i, none⟩) (Turn.refl _ W) (fun _ => rfl) _
  have hs := h.ks.set (1 + i) (sv9 x)
  rw [put_kc13 _ _ hi] at hs
  exact ⟨h.q.turn ht h.bo, h.k.turn ht h.mo, hs, h.bo, h.mo⟩
theorem Gr13.new (w : World) (q : Q13) (k : K9) : Gr13 w w.heap.size (w.heap.size + 1) (w.heap.size + 1 + 1) (w.heap.size + 1 + 1 + 1) q k (V4.fill [])
    ((((w.alloc (.cells (cells13 q) 25)).alloc (.cells #[.int .i64 k.h, sv9 k.a, sv9 k.b, sv9 k.c, sv9 k.d] 27)).alloc (.cells (kc13 (V4.fill [])) 27)).alloc (.cells (kc13 (V4.fill [])) 27)) := by
  have h0 := Qk13.new w q k
  generalize hw0 : (w.alloc (.cells (cells13 q) 25)).alloc (.cells #[.int .i64 k.h, sv9 k.a, sv9 k.b, sv9 k.c, sv9 k.d] 27) = w0 at *
  have hs0 : w0.heap.size = w.heap.size + 1 + 1 := by rw [← hw0, World.size_alloc, World.size_alloc]
  have h1 := (Box.new w0 27 (kc13 (V4.fill []))).alloc (.cells (kc13 (V4.fill [])) 27)
  have h2 := Box.new (w0.alloc (.cells (kc13 (V4.fill [])) 27)) 27 (kc13 (V4.fill []))
  rw [World.size_alloc] at h2
  rw [hs0] at h1 h2
  exact ⟨(h0.q.alloc _).alloc _, (h0.k.alloc _).alloc _, ⟨h1, h2, (h0.turn.alloc _).alloc _, by omega, by omega, by omega⟩, by omega, by omega⟩

set_option maxHeartbeats 16000000 in
theorem ref_group13 (q : Q13) (k : K9) (w : World) : Calls Try.prog 12 #[qv13 q, kv9 k] w fun e w' => e = .returned (kv9 (groupK q k)) ∧ Turn (fun _ => False) w w' := by
  unfold qv13 kv9
  have h0 := Gr13.new w q k
  obtain ⟨w4, hw4⟩ : ∃ w4, w4 = ((((w.alloc (.cells (cells13 q) 25)).alloc (.cells #[.int .i64 k.h, sv9 k.a, sv9 k.b, sv9 k.c, sv9 k.d] 27)).alloc (.cells (kc13 (V4.fill [])) 27)).alloc (.cells (kc13 (V4.fill [])) 27)) := ⟨_, rfl⟩
  rw [← hw4] at h0
  unfold kc13 V4.fill at hw4
  have HKP := Lib.hid h0
  have HW := Lib.hid hw4
  clear h0 hw4
  go_enter Try.func12, Try.ntmps12
  go_wp2_with fail
  rw [← HW.out]
  obtain ⟨b, hbb⟩ : ∃ b, b = w.heap.size := ⟨_, rfl⟩
  obtain ⟨m, hmm⟩ : ∃ m, m = w.heap.size + 1 := ⟨_, rfl⟩
  obtain ⟨r, hr⟩ : ∃ r, r = w.heap.size + 1 + 1 := ⟨_, rfl⟩
  obtain ⟨o, ho⟩ : ∃ o, o = w.heap.size + 1 + 1 + 1 := ⟨_, rfl⟩
  rw [← ho, ← hr, ← hmm, ← hbb]
  rw [← ho, ← hr, ← hmm, ← hbb] at HKP
  clear HW hbb hmm hr ho
  go_loopw [6] (fun x6 wr => ∃ i : Nat, x6 = .int .i64 (i : Int) ∧ i ≤ 4 ∧ Gr13 w b m r o q k (onlyN [] (txOf k) q.g i) wr) (fun x6 _ => 4 - (intOf x6).toNat)
  case atStart => exact ⟨0, rfl, Nat.zero_le _, HKP.out⟩
  case round =>
    clear HKP
    obtain ⟨i, rfl, hi, hm⟩ := hrel
    have HM := Lib.hid hm
    clear hm
    by_cases hlt : i < 4
    · have hil : (i : Int) < 4 := by omega
      have e1 := (HM.out.q.cell (2 + i)).trans (q_group13 q hlt)
      have e2 := key_cell13 HM.out.k hlt
      have f1 : wr.frozen? ⟨o, 1 + i, none⟩ = false := HM.out.ks.kept.free (1 + i)
      have e3 : wr.cell? ⟨o, 1 + i, none⟩ = some (sv9 ((onlyN [] (txOf k) q.g i).nth i)) := (HM.out.ks.kept.cell (1 + i)).trans (nth_kc13 _ hlt)
      have HST : Hid (onlyN [] (txOf k) q.g (i + 1) = if q.g.nth i then (onlyN [] (txOf k) q.g i).put i (k.dim i) else onlyN [] (txOf k) q.g i) := by
        rw [← txOf_nth]
        rfl
      have HM2 := Lib.hid (HM.out.set hlt (k.dim i))
      unfold sv9 at e2
      generalize k.dim i = X at *
      generalize (onlyN [] (txOf k) q.g i).nth i = Y at *
      cases hB : q.g.nth i with
      | false =>
        rw [hB] at HST e1
        have HM3 : Hid (Gr13 w b m r o q k (onlyN [] (txOf k) q.g (i + 1)) wr) := by rw [HST.out]; exact HM.out
        clear hB HST HM2 HM
        go_wp2_with fail
        go_roundw
        case rel => exact ⟨i + 1, by go_num, hlt, HM3.out⟩
        case measure => simp [intOf]; omega
      | true =>
        rw [hB] at HST e1
        have HM3 : Hid (Gr13 w b m r o q k (onlyN [] (txOf k) q.g (i + 1)) (wr.setCell ⟨o, 1 + i, none⟩ (sv9 X))) := by rw [HST.out]; exact HM2.out
        clear hB HST HM2 HM
        go_wp2_with fail
        go_roundw
        case rel => exact ⟨i + 1, by go_num, hlt, HM3.out⟩
        case measure => simp [intOf]; omega
    · obtain rfl : i = 4 := by omega
      rw [onlyN_four] at HM
      have HG : Hid (groupK q k = kOf (onlyP [] (txOf k) q.g)) := rfl
      generalize onlyP [] (txOf k) q.g = u at *
      have b0 : wr.cell? ⟨o, 0, none⟩ = some (.int .i64 0) := HM.out.ks.kept.cell 0
      have b1 : wr.cell? ⟨o, 1, none⟩ = some (sv9 u.a) := HM.out.ks.kept.cell 1
      have b2 : wr.cell? ⟨o, 2, none⟩ = some (sv9 u.b) := HM.out.ks.kept.cell 2
      have b3 : wr.cell? ⟨o, 3, none⟩ = some (sv9 u.c) := HM.out.ks.kept.cell 3
      have b4 : wr.cell? ⟨o, 4, none⟩ = some (sv9 u.d) := HM.out.ks.kept.cell 4
      have d0 : wr.cell? ⟨r, 0, none⟩ = some (.int .i64 0) := HM.out.ks.res.cell 0
      have d1 : wr.cell? ⟨r, 1, none⟩ = some (sv9 []) := HM.out.ks.res.cell 1
      have d2 : wr.cell? ⟨r, 2, none⟩ = some (sv9 []) := HM.out.ks.res.cell 2
      have d3 : wr.cell? ⟨r, 3, none⟩ = some (sv9 []) := HM.out.ks.res.cell 3
      have d4 : wr.cell? ⟨r, 4, none⟩ = some (sv9 []) := HM.out.ks.res.cell 4
      have z0 : wr.frozen? ⟨r, 0, none⟩ = false := HM.out.ks.res.free 0
      have z1 : wr.frozen? ⟨r, 1, none⟩ = false := HM.out.ks.res.free 1
      have z2 : wr.frozen? ⟨r, 2, none⟩ = false := HM.out.ks.res.free 2
      have z3 : wr.frozen? ⟨r, 3, none⟩ = false := HM.out.ks.res.free 3
      have z4 : wr.frozen? ⟨r, 4, none⟩ = false := HM.out.ks.res.free 4
      have HT : Hid (Turn (fun _ => False) w (wr.setCells r 0 [.int .i64 0, sv9 u.a, sv9 u.b, sv9 u.c, sv9 u.d])) := HM.out.ks.turn.trans (turn_setCells (S := fun g => g = r) rfl _ 0 wr) (fun g hg e => by have := HM.out.ks.nr; omega)
      clear HM
      go_wp2
      refine bodyPost_ret (v := .agg #[.int .i64 0, sv9 u.a, sv9 u.b, sv9 u.c, sv9 u.d]) ?_ rfl ⟨by rw [HG.out]; rfl, HT.out⟩
      rw [results_one13 rfl]
      go_simp

/-- Queries whose texts are short. -/
def light13 (q : Q13) : Bool := decide (q.f.a.length ≤ 40) && decide (q.f.b.length ≤ 40) && decide (q.f.c.length ≤ 40) && decide (q.f.d.length ≤ 40)
theorem light_iff13 {q : Q13} : light13 q = true ↔ ∀ i, i < 4 → (q.f.nth i).length ≤ 40 := by
  unfold light13
  simp only [Bool.and_eq_true, decide_eq_true_iff]
  refine ⟨fun h i hi => ?_, fun h => ⟨⟨⟨h 0 (by omega), h 1 (by omega)⟩, h 2 (by omega)⟩, h 3 (by omega)⟩⟩
  match i, hi with
  | 0, _ => exact h.1.1.1
  | 1, _ => exact h.1.1.2
  | 2, _ => exact h.1.2
  | 3, _ => exact h.2

set_option maxHeartbeats 8000000 in
theorem light_any13 (q : Q13) (w : World) : Calls Try.prog 6 #[qv13 q] w fun e w' => e = .returned (.bool (light13 q)) ∧ Turn (fun _ => False) w w' := by
  unfold qv13
  obtain ⟨w0, hw0⟩ : ∃ w0, w0 = w.alloc (.cells (cells13 q) 25) := ⟨_, rfl⟩
  have HT0 : Hid (Turn (fun _ => False) w w0) := by rw [hw0]; exact (Turn.refl _ w).alloc _
  have HB0 : Hid (Box w0 w.heap.size 25 (cells13 q)) := by rw [hw0]; exact Box.new w _ _
  have HW := Lib.hid hw0
  have HNO : Hid (∀ i, i < 4 → ¬ (q.f.nth i).length ≤ 40 → light13 q = false) := fun i hi h => by
    cases e : light13 q with
    | false => rfl
    | true => exact absurd (light_iff13.1 e i hi) h
  clear hw0
  go_enter Try.func6, Try.ntmps6
  go_wp2_with fail
  rw [← HW.out]
  go_loopw [3] (fun x3 wr => wr = w0 ∧ ∃ i : Nat, x3 = .int .i64 (i : Int) ∧ i ≤ 4 ∧ ∀ j, j < i → (q.f.nth j).length ≤ 40) (fun x3 _ => 4 - (intOf x3).toNat)
  case atStart => exact ⟨rfl, 0, rfl, Nat.zero_le _, fun k hk => absurd hk (Nat.not_lt_zero k)⟩
  case round =>
    obtain ⟨rfl, i, rfl, hi, he⟩ := hrel
    have HE := Lib.hid he
    clear he
    by_cases hlt : i < 4
    · have e1 := (HB0.out.cell (10 + i)).trans (q_text13 q hlt)
      have hil : (i : Int) < 4 := by omega
      have HN := Lib.hid (HNO.out i hlt)
      have HSTEP : Hid ((q.f.nth i).length ≤ 40 → ∀ j, j < i + 1 → (q.f.nth j).length ≤ 40) := fun h j hj => by
        by_cases ej : j = i
        · rw [ej]; exact h
        · exact HE.out j (by omega)
      unfold sv9 at e1
      generalize q.f.nth i = T at *
      clear HNO HE
      by_cases hlen : T.length ≤ 40
      · have hli : (T.length : Int) ≤ 40 := by omega
        have HK := Lib.hid (HSTEP.out hlen)
        clear HSTEP HN
        go_wp2_with fail
        go_roundw
        case rel => exact ⟨trivial, i + 1, by go_num, hlt, HK.out⟩
        case measure => simp [intOf]; omega
      · have hli : ¬ ((T.length : Int) ≤ 40) := by omega
        have HK := Lib.hid (HN.out hlen)
        clear HSTEP HN
        go_wp2_with fail
        go_ret
        rw [HK.out]
        exact ⟨rfl, HT0.out⟩
    · obtain rfl : i = 4 := by omega
      have HK := Lib.hid (light_iff13.2 HE.out)
      go_wp2
      go_ret
      rw [HK.out]
      exact ⟨rfl, HT0.out⟩

set_option maxHeartbeats 8000000 in
theorem cut_any13 (q : Q13) (x : Int) (w : World) : Calls Try.prog 18 #[qv13 q, .int .i64 x] w fun e w' => e = .returned (qv13 (cutQ q x)) ∧ Turn (fun _ => False) w w' := by
  unfold qv13
  go_enter Try.func18, Try.ntmps18
  go_wp2_with fail
  refine bodyPost_ret (v := .agg (cells13 (cutQ q x))) ?_ rfl ⟨rfl, ((Turn.refl _ w).alloc _).alloc _⟩
  rw [results_one13 rfl]
  go_simp
  exact ⟨rfl, rfl, rfl, rfl, rfl, rfl, rfl, rfl, rfl, rfl, rfl, rfl, rfl, rfl⟩

end Go.Proofs.Ytieffpngknglpaa
