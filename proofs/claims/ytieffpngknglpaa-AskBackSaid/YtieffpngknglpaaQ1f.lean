
/-
  Stage 13: the program's Matches and Group.
-/
import Derived.Test.YtieffpngknglpaaQ1d
namespace Go.Proofs.Ytieffpngknglpaa
open Go.RowKit

set_option maxRecDepth 100000

/-- A query and a key, as a call lays them. -/
structure Qk13 (w : World) (b m : Nat) (q : Q13) (k : K9) (W : World) : Prop where
  q : Box W b 25 (cells13 q)
  k : Box W m 27 #[.int .i64 k.h, sv9 k.a, sv9 k.b, sv9 k.c, sv9 k.d]
  turn : Turn (fun _ => False) w W
theorem Qk13.later {w W W2 : World} {b m : Nat} {q : Q13} {k : K9} (h : Qk13 w b m q k W) (ht : Turn (fun _ => False) W W2) : Qk13 w b m q k W2 :=
  ⟨h.q.turn ht (fun f => f), h.k.turn ht (fun f => f), h.turn.trans ht (fun _ _ f => f)⟩
theorem Qk13.s {w W : World} {b m : Nat} {q : Q13} {k : K9} (h : Qk13 w b m q k W) : CQ13 W b q ∧ CK13 W m k := ⟨cq_box13 h.q, ck_box13 h.k⟩
theorem Qk13.new (w : World) (q : Q13) (k : K9) : Qk13 w w.heap.size (w.heap.size + 1) q k ((w.alloc (.cells (cells13 q) 25)).alloc (.cells #[.int .i64 k.h, sv9 k.a, sv9 k.b, sv9 k.c, sv9 k.d] 27)) := by
  have h := Box.new (w.alloc (.cells (cells13 q) 25)) 27 #[.int .i64 k.h, sv9 k.a, sv9 k.b, sv9 k.c, sv9 k.d]
  rw [World.size_alloc] at h
  exact ⟨(Box.new w _ _).alloc _, h, ((Turn.refl _ w).alloc _).alloc _⟩

set_option maxHeartbeats 16000000 in
theorem matches_any13 (q : Q13) (k : K9) (w : World) : Calls Try.prog 9 #[qv13 q, kv9 k] w fun e w' => e = .returned (.bool (matchB q k)) ∧ Turn (fun _ => False) w w' := by
  unfold qv13 kv9
  obtain ⟨w0, hw0⟩ : ∃ w0, w0 = (w.alloc (.cells (cells13 q) 25)).alloc (.cells #[.int .i64 k.h, sv9 k.a, sv9 k.b, sv9 k.c, sv9 k.d] 27) := ⟨_, rfl⟩
  have h0 := Qk13.new w q k
  rw [← hw0] at h0
  have HW := Lib.hid hw0
  have HAT0 := Lib.hid h0
  clear hw0 h0
  go_enter Try.func9, Try.ntmps9
  go_wp2_with fail
  rw [← HW.out]
  obtain ⟨b, hbb⟩ : ∃ b, b = w.heap.size := ⟨_, rfl⟩
  obtain ⟨m, hmm⟩ : ∃ m, m = w.heap.size + 1 := ⟨_, rfl⟩
  rw [← hmm, ← hbb]
  rw [← hmm, ← hbb] at HAT0
  have HAT := Lib.hid (HAT0.out.later (Turn.refl (fun _ => False) w0).drew)
  clear hbb hmm HW HAT0
  refine drawn_region (fun W => CQ13 W b q ∧ CK13 W m k) [] (by kernel_rfl) ?_
  generalize World.drew w0 = wd at *
  have hS0 : CQ13 wd b q ∧ CK13 wd m k := HAT.out.s
  refine drawn_take 0 5 (.pointer (some ⟨b, 0, none⟩)) rfl rfl (by kernel_rfl) (by kernel_rfl) (by kernel_rfl) (by kernel_rfl) (fun _ _ _ h => h) (by rfl) (by assumption) (by intro w hSw; obtain ⟨⟨b0, b1, b2, b3, b4, b5, b6, b7, b8, b9, b10, b11, b12, b13⟩, ⟨m0, m1, m2, m3, m4⟩⟩ := hSw; go_simp) ?_
  try simp only [List.setIfInBounds_toArray, List.set_cons_zero, List.set_cons_succ]
  refine drawn_take 1 6 (.int .i64 q.lo) rfl rfl (by kernel_rfl) (by kernel_rfl) (by kernel_rfl) (by kernel_rfl) (fun _ _ _ h => h) (by rfl) (by assumption) (by intro w hSw; obtain ⟨⟨b0, b1, b2, b3, b4, b5, b6, b7, b8, b9, b10, b11, b12, b13⟩, ⟨m0, m1, m2, m3, m4⟩⟩ := hSw; go_simp) ?_
  try simp only [List.setIfInBounds_toArray, List.set_cons_zero, List.set_cons_succ]
  refine drawn_take 2 7 (.pointer (some ⟨m, 0, none⟩)) rfl rfl (by kernel_rfl) (by kernel_rfl) (by kernel_rfl) (by kernel_rfl) (fun _ _ _ h => h) (by rfl) (by assumption) (by intro w hSw; obtain ⟨⟨b0, b1, b2, b3, b4, b5, b6, b7, b8, b9, b10, b11, b12, b13⟩, ⟨m0, m1, m2, m3, m4⟩⟩ := hSw; go_simp) ?_
  try simp only [List.setIfInBounds_toArray, List.set_cons_zero, List.set_cons_succ]
  refine drawn_take 3 8 (.int .i64 k.h) rfl rfl (by kernel_rfl) (by kernel_rfl) (by kernel_rfl) (by kernel_rfl) (fun _ _ _ h => h) (by rfl) (by assumption) (by intro w hSw; obtain ⟨⟨b0, b1, b2, b3, b4, b5, b6, b7, b8, b9, b10, b11, b12, b13⟩, ⟨m0, m1, m2, m3, m4⟩⟩ := hSw; go_simp) ?_
  try simp only [List.setIfInBounds_toArray, List.set_cons_zero, List.set_cons_succ]
  by_cases hA : q.lo ≤ k.h
  · have dA : decide (q.lo ≤ k.h) = true := decide_eq_true hA
    refine drawn_take 4 9 (.bool true) rfl rfl (by kernel_rfl) (by kernel_rfl) (by kernel_rfl) (by kernel_rfl) (fun _ _ _ h => h) (by rfl) (by assumption) (by intro w hSw; obtain ⟨⟨b0, b1, b2, b3, b4, b5, b6, b7, b8, b9, b10, b11, b12, b13⟩, ⟨m0, m1, m2, m3, m4⟩⟩ := hSw; go_simp) ?_
    try simp only [List.setIfInBounds_toArray, List.set_cons_zero, List.set_cons_succ]
    refine drawn_take 5 10 (.bool true) rfl rfl (by kernel_rfl) (by kernel_rfl) (by kernel_rfl) (by kernel_rfl) (fun _ _ _ h => h) (by rfl) (by assumption) (by intro w hSw; obtain ⟨⟨b0, b1, b2, b3, b4, b5, b6, b7, b8, b9, b10, b11, b12, b13⟩, ⟨m0, m1, m2, m3, m4⟩⟩ := hSw; go_simp) ?_
    try simp only [List.setIfInBounds_toArray, List.set_cons_zero, List.set_cons_succ]
    refine drawn_take 6 11 (.pointer (some ⟨m, 0, none⟩)) rfl rfl (by kernel_rfl) (by kernel_rfl) (by kernel_rfl) (by kernel_rfl) (fun _ _ _ h => h) (by rfl) (by assumption) (by intro w hSw; obtain ⟨⟨b0, b1, b2, b3, b4, b5, b6, b7, b8, b9, b10, b11, b12, b13⟩, ⟨m0, m1, m2, m3, m4⟩⟩ := hSw; go_simp) ?_
    try simp only [List.setIfInBounds_toArray, List.set_cons_zero, List.set_cons_succ]
    refine drawn_take 7 12 (.int .i64 k.h) rfl rfl (by kernel_rfl) (by kernel_rfl) (by kernel_rfl) (by kernel_rfl) (fun _ _ _ h => h) (by rfl) (by assumption) (by intro w hSw; obtain ⟨⟨b0, b1, b2, b3, b4, b5, b6, b7, b8, b9, b10, b11, b12, b13⟩, ⟨m0, m1, m2, m3, m4⟩⟩ := hSw; go_simp) ?_
    try simp only [List.setIfInBounds_toArray, List.set_cons_zero, List.set_cons_succ]
    refine drawn_take 8 13 (.pointer (some ⟨b, 1, none⟩)) rfl rfl (by kernel_rfl) (by kernel_rfl) (by kernel_rfl) (by kernel_rfl) (fun _ _ _ h => h) (by rfl) (by assumption) (by intro w hSw; obtain ⟨⟨b0, b1, b2, b3, b4, b5, b6, b7, b8, b9, b10, b11, b12, b13⟩, ⟨m0, m1, m2, m3, m4⟩⟩ := hSw; go_simp) ?_
    try simp only [List.setIfInBounds_toArray, List.set_cons_zero, List.set_cons_succ]
    refine drawn_take 9 14 (.int .i64 q.hi) rfl rfl (by kernel_rfl) (by kernel_rfl) (by kernel_rfl) (by kernel_rfl) (fun _ _ _ h => h) (by rfl) (by assumption) (by intro w hSw; obtain ⟨⟨b0, b1, b2, b3, b4, b5, b6, b7, b8, b9, b10, b11, b12, b13⟩, ⟨m0, m1, m2, m3, m4⟩⟩ := hSw; go_simp) ?_
    try simp only [List.setIfInBounds_toArray, List.set_cons_zero, List.set_cons_succ]
    by_cases hB : k.h < q.hi
    · have dB : decide (k.h < q.hi) = true := decide_eq_true hB
      refine drawn_take 10 15 (.bool true) rfl rfl (by kernel_rfl) (by kernel_rfl) (by kernel_rfl) (by kernel_rfl) (fun _ _ _ h => h) (by rfl) (by assumption) (by intro w hSw; obtain ⟨⟨b0, b1, b2, b3, b4, b5, b6, b7, b8, b9, b10, b11, b12, b13⟩, ⟨m0, m1, m2, m3, m4⟩⟩ := hSw; go_simp) ?_
      try simp only [List.setIfInBounds_toArray, List.set_cons_zero, List.set_cons_succ]
      refine drawn_take 11 16 (.bool true) rfl rfl (by kernel_rfl) (by kernel_rfl) (by kernel_rfl) (by kernel_rfl) (fun _ _ _ h => h) (by rfl) (by assumption) (by intro w hSw; obtain ⟨⟨b0, b1, b2, b3, b4, b5, b6, b7, b8, b9, b10, b11, b12, b13⟩, ⟨m0, m1, m2, m3, m4⟩⟩ := hSw; go_simp) ?_
      try simp only [List.setIfInBounds_toArray, List.set_cons_zero, List.set_cons_succ]
      refine drawn_take 12 17 (.bool true) rfl rfl (by kernel_rfl) (by kernel_rfl) (by kernel_rfl) (by kernel_rfl) (fun _ _ _ h => h) (by rfl) (by assumption) (by intro w hSw; obtain ⟨⟨b0, b1, b2, b3, b4, b5, b6, b7, b8, b9, b10, b11, b12, b13⟩, ⟨m0, m1, m2, m3, m4⟩⟩ := hSw; go_simp) ?_
      try simp only [List.setIfInBounds_toArray, List.set_cons_zero, List.set_cons_succ]
      have HFIN : Hid (matchB q k = decide (onlyP [] (txOf k) q.h = onlyP [] q.f q.h)) := by
        show matchB q k = _
        unfold matchB
        rw [dA, dB]
        rfl
      clear dA dB hA hB
      refine drawn_take 13 18 (.pointer (some ⟨m, 1, none⟩)) rfl rfl (by kernel_rfl) (by kernel_rfl) (by kernel_rfl) (by kernel_rfl) (fun _ _ _ h => h) (by rfl) (by assumption) (by intro w hSw; obtain ⟨⟨b0, b1, b2, b3, b4, b5, b6, b7, b8, b9, b10, b11, b12, b13⟩, ⟨m0, m1, m2, m3, m4⟩⟩ := hSw; go_simp) ?_
      try simp only [List.setIfInBounds_toArray, List.set_cons_zero, List.set_cons_succ]
      refine drawn_take 14 19 (.agg #[sv9 k.a, sv9 k.b, sv9 k.c, sv9 k.d]) rfl rfl (by kernel_rfl) (by kernel_rfl) (by kernel_rfl) (by kernel_rfl) (fun _ _ _ h => h) (by rfl) (by assumption) (by intro w hSw; obtain ⟨⟨b0, b1, b2, b3, b4, b5, b6, b7, b8, b9, b10, b11, b12, b13⟩, ⟨m0, m1, m2, m3, m4⟩⟩ := hSw; go_simp) ?_
      try simp only [List.setIfInBounds_toArray, List.set_cons_zero, List.set_cons_succ]
      refine drawn_take 15 20 (.pointer (some ⟨b, 6, none⟩)) rfl rfl (by kernel_rfl) (by kernel_rfl) (by kernel_rfl) (by kernel_rfl) (fun _ _ _ h => h) (by rfl) (by assumption) (by intro w hSw; obtain ⟨⟨b0, b1, b2, b3, b4, b5, b6, b7, b8, b9, b10, b11, b12, b13⟩, ⟨m0, m1, m2, m3, m4⟩⟩ := hSw; go_simp) ?_
      try simp only [List.setIfInBounds_toArray, List.set_cons_zero, List.set_cons_succ]
      refine drawn_take 16 21 (.agg (bs13 q.h)) rfl rfl (by kernel_rfl) (by kernel_rfl) (by kernel_rfl) (by kernel_rfl) (fun _ _ _ h => h) (by rfl) (by assumption) (by intro w hSw; obtain ⟨⟨b0, b1, b2, b3, b4, b5, b6, b7, b8, b9, b10, b11, b12, b13⟩, ⟨m0, m1, m2, m3, m4⟩⟩ := hSw; go_simp) ?_
      try simp only [List.setIfInBounds_toArray, List.set_cons_zero, List.set_cons_succ]
      refine drawn_take 18 23 (.pointer (some ⟨b, 10, none⟩)) rfl rfl (by kernel_rfl) (by kernel_rfl) (by kernel_rfl) (by kernel_rfl) (fun _ _ _ h => h) (by rfl) (by assumption) (by intro w hSw; obtain ⟨⟨b0, b1, b2, b3, b4, b5, b6, b7, b8, b9, b10, b11, b12, b13⟩, ⟨m0, m1, m2, m3, m4⟩⟩ := hSw; go_simp) ?_
      try simp only [List.setIfInBounds_toArray, List.set_cons_zero, List.set_cons_succ]
      refine drawn_take 19 24 (.agg (ts13 q.f)) rfl rfl (by kernel_rfl) (by kernel_rfl) (by kernel_rfl) (by kernel_rfl) (fun _ _ _ h => h) (by rfl) (by assumption) (by intro w hSw; obtain ⟨⟨b0, b1, b2, b3, b4, b5, b6, b7, b8, b9, b10, b11, b12, b13⟩, ⟨m0, m1, m2, m3, m4⟩⟩ := hSw; go_simp) ?_
      try simp only [List.setIfInBounds_toArray, List.set_cons_zero, List.set_cons_succ]
      refine drawn_take 20 25 (.pointer (some ⟨b, 6, none⟩)) rfl rfl (by kernel_rfl) (by kernel_rfl) (by kernel_rfl) (by kernel_rfl) (fun _ _ _ h => h) (by rfl) (by assumption) (by intro w hSw; obtain ⟨⟨b0, b1, b2, b3, b4, b5, b6, b7, b8, b9, b10, b11, b12, b13⟩, ⟨m0, m1, m2, m3, m4⟩⟩ := hSw; go_simp) ?_
      try simp only [List.setIfInBounds_toArray, List.set_cons_zero, List.set_cons_succ]
      refine drawn_take 21 26 (.agg (bs13 q.h)) rfl rfl (by kernel_rfl) (by kernel_rfl) (by kernel_rfl) (by kernel_rfl) (fun _ _ _ h => h) (by rfl) (by assumption) (by intro w hSw; obtain ⟨⟨b0, b1, b2, b3, b4, b5, b6, b7, b8, b9, b10, b11, b12, b13⟩, ⟨m0, m1, m2, m3, m4⟩⟩ := hSw; go_simp) ?_
      try simp only [List.setIfInBounds_toArray, List.set_cons_zero, List.set_cons_succ]
      refine drawn_any [17] (by kernel_rfl) (by simp) ?_
      refine drawn_cons rfl (fun K2 hK => ?_) drawn_nil
      go_simp
      refine (only_text13 (txOf k) q.h wd).mono ?_
      rintro e w4 ⟨rfl, t4⟩
      have HAT4 := Lib.hid (HAT.out.later t4)
      have hS4 : CQ13 w4 b q ∧ CK13 w4 m k := HAT4.out.s
      refine hK.out _ _ _ hS4 ?_
      clear hK K2 HAT hS0 t4
      try simp only [List.setIfInBounds_toArray, List.set_cons_zero, List.set_cons_succ]
      refine drawn_any [22] (by kernel_rfl) (by simp) ?_
      refine drawn_cons rfl (fun K2 hK => ?_) drawn_nil
      go_simp
      refine (only_text13 q.f q.h w4).mono ?_
      rintro e w5 ⟨rfl, t5⟩
      have HAT5 := Lib.hid (HAT4.out.later t5)
      have hS5 : CQ13 w5 b q ∧ CK13 w5 m k := HAT5.out.s
      refine hK.out _ _ _ hS5 ?_
      clear hK K2 HAT4 hS4 t5
      try simp only [List.setIfInBounds_toArray, List.set_cons_zero, List.set_cons_succ]
      have g3 := fun op X Y => guard_four13 op X Y (onlyP [] (txOf k) q.h) (onlyP [] q.f q.h)
      have ne3 := run_eql_four13 (onlyP [] (txOf k) q.h) (onlyP [] q.f q.h)
      rw [← HFIN.out] at ne3
      generalize onlyP [] (txOf k) q.h = o1 at *
      generalize onlyP [] q.f q.h = o2 at *
      obtain ⟨r, hr⟩ : ∃ r, r = matchB q k := ⟨_, rfl⟩
      rw [← hr] at ne3
      have HR := Lib.hid hr
      clear HFIN hr
      refine drawn_take 23 28 (.bool r) rfl rfl (by kernel_rfl) (by kernel_rfl) (by kernel_rfl) (by kernel_rfl) (fun _ _ _ h => h) (by rfl) (by assumption) (by intro w hSw; obtain ⟨⟨b0, b1, b2, b3, b4, b5, b6, b7, b8, b9, b10, b11, b12, b13⟩, ⟨m0, m1, m2, m3, m4⟩⟩ := hSw; go_simp) ?_
      try simp only [List.setIfInBounds_toArray, List.set_cons_zero, List.set_cons_succ]
      refine drawn_take 24 29 (.bool r) rfl rfl (by kernel_rfl) (by kernel_rfl) (by kernel_rfl) (by kernel_rfl) (fun _ _ _ h => h) (by rfl) (by assumption) (by intro w hSw; obtain ⟨⟨b0, b1, b2, b3, b4, b5, b6, b7, b8, b9, b10, b11, b12, b13⟩, ⟨m0, m1, m2, m3, m4⟩⟩ := hSw; go_simp) ?_
      try simp only [List.setIfInBounds_toArray, List.set_cons_zero, List.set_cons_succ]
      refine drawn_last1 25 4 (.bool r) rfl rfl (by kernel_rfl) (by kernel_rfl) (by rfl) (by intro w; go_simp) hS5 ?_
      try simp only [List.setIfInBounds_toArray, List.set_cons_zero, List.set_cons_succ]
      go_wp2
      go_ret
      rw [← HR.out]
      exact ⟨rfl, HAT5.out.turn⟩
    · have dB : decide (k.h < q.hi) = false := decide_eq_false hB
      have HFIN : Hid (matchB q k = false) := by
        show matchB q k = _
        unfold matchB
        rw [dB, Bool.and_false, Bool.false_and]
      refine drawn_take 10 15 (.bool false) rfl rfl (by kernel_rfl) (by kernel_rfl) (by kernel_rfl) (by kernel_rfl) (fun _ _ _ h => h) (by rfl) (by assumption) (by intro w hSw; obtain ⟨⟨b0, b1, b2, b3, b4, b5, b6, b7, b8, b9, b10, b11, b12, b13⟩, ⟨m0, m1, m2, m3, m4⟩⟩ := hSw; go_simp) ?_
      try simp only [List.setIfInBounds_toArray, List.set_cons_zero, List.set_cons_succ]
      refine drawn_take 11 16 (.bool false) rfl rfl (by kernel_rfl) (by kernel_rfl) (by kernel_rfl) (by kernel_rfl) (fun _ _ _ h => h) (by rfl) (by assumption) (by intro w hSw; obtain ⟨⟨b0, b1, b2, b3, b4, b5, b6, b7, b8, b9, b10, b11, b12, b13⟩, ⟨m0, m1, m2, m3, m4⟩⟩ := hSw; go_simp) ?_
      try simp only [List.setIfInBounds_toArray, List.set_cons_zero, List.set_cons_succ]
      refine drawn_take 12 17 (.bool false) rfl rfl (by kernel_rfl) (by kernel_rfl) (by kernel_rfl) (by kernel_rfl) (fun _ _ _ h => h) (by rfl) (by assumption) (by intro w hSw; obtain ⟨⟨b0, b1, b2, b3, b4, b5, b6, b7, b8, b9, b10, b11, b12, b13⟩, ⟨m0, m1, m2, m3, m4⟩⟩ := hSw; go_simp) ?_
      try simp only [List.setIfInBounds_toArray, List.set_cons_zero, List.set_cons_succ]
      refine drawn_skip 13 18 rfl rfl (by kernel_rfl) (by kernel_rfl) (by kernel_rfl) (by kernel_rfl) (fun _ _ _ h => h) (by rfl) (fun _ => by assumption) ?_
      try simp only [List.setIfInBounds_toArray, List.set_cons_zero, List.set_cons_succ]
      refine drawn_skip 14 19 rfl rfl (by kernel_rfl) (by kernel_rfl) (by kernel_rfl) (by kernel_rfl) (fun _ _ _ h => h) (by rfl) (fun _ => by assumption) ?_
      try simp only [List.setIfInBounds_toArray, List.set_cons_zero, List.set_cons_succ]
      refine drawn_skip 15 20 rfl rfl (by kernel_rfl) (by kernel_rfl) (by kernel_rfl) (by kernel_rfl) (fun _ _ _ h => h) (by rfl) (fun _ => by assumption) ?_
      try simp only [List.setIfInBounds_toArray, List.set_cons_zero, List.set_cons_succ]
      refine drawn_skip 16 21 rfl rfl (by kernel_rfl) (by kernel_rfl) (by kernel_rfl) (by kernel_rfl) (fun _ _ _ h => h) (by rfl) (fun _ => by assumption) ?_
      try simp only [List.setIfInBounds_toArray, List.set_cons_zero, List.set_cons_succ]
      refine drawn_skip 17 22 rfl rfl (by kernel_rfl) (by kernel_rfl) (by kernel_rfl) (by kernel_rfl) (fun _ _ _ h => h) (by rfl) (fun _ => by assumption) ?_
      try simp only [List.setIfInBounds_toArray, List.set_cons_zero, List.set_cons_succ]
      refine drawn_skip 18 23 rfl rfl (by kernel_rfl) (by kernel_rfl) (by kernel_rfl) (by kernel_rfl) (fun _ _ _ h => h) (by rfl) (fun _ => by assumption) ?_
      try simp only [List.setIfInBounds_toArray, List.set_cons_zero, List.set_cons_succ]
      refine drawn_skip 19 24 rfl rfl (by kernel_rfl) (by kernel_rfl) (by kernel_rfl) (by kernel_rfl) (fun _ _ _ h => h) (by rfl) (fun _ => by assumption) ?_
      try simp only [List.setIfInBounds_toArray, List.set_cons_zero, List.set_cons_succ]
      refine drawn_skip 20 25 rfl rfl (by kernel_rfl) (by kernel_rfl) (by kernel_rfl) (by kernel_rfl) (fun _ _ _ h => h) (by rfl) (fun _ => by assumption) ?_
      try simp only [List.setIfInBounds_toArray, List.set_cons_zero, List.set_cons_succ]
      refine drawn_skip 21 26 rfl rfl (by kernel_rfl) (by kernel_rfl) (by kernel_rfl) (by kernel_rfl) (fun _ _ _ h => h) (by rfl) (fun _ => by assumption) ?_
      try simp only [List.setIfInBounds_toArray, List.set_cons_zero, List.set_cons_succ]
      refine drawn_skip 22 27 rfl rfl (by kernel_rfl) (by kernel_rfl) (by kernel_rfl) (by kernel_rfl) (fun _ _ _ h => h) (by rfl) (fun _ => by assumption) ?_
      try simp only [List.setIfInBounds_toArray, List.set_cons_zero, List.set_cons_succ]
      refine drawn_skip 23 28 rfl rfl (by kernel_rfl) (by kernel_rfl) (by kernel_rfl) (by kernel_rfl) (fun _ _ _ h => h) (by rfl) (fun _ => by assumption) ?_
      try simp only [List.setIfInBounds_toArray, List.set_cons_zero, List.set_cons_succ]
      refine drawn_take 24 29 (.bool false) rfl rfl (by kernel_rfl) (by kernel_rfl) (by kernel_rfl) (by kernel_rfl) (fun _ _ _ h => h) (by rfl) (by assumption) (by intro w hSw; obtain ⟨⟨b0, b1, b2, b3, b4, b5, b6, b7, b8, b9, b10, b11, b12, b13⟩, ⟨m0, m1, m2, m3, m4⟩⟩ := hSw; go_simp) ?_
      try simp only [List.setIfInBounds_toArray, List.set_cons_zero, List.set_cons_succ]
      refine drawn_last1 25 4 (.bool false) rfl rfl (by kernel_rfl) (by kernel_rfl) (by rfl) (by intro w; go_simp) hS0 ?_
      try simp only [List.setIfInBounds_toArray, List.set_cons_zero, List.set_cons_succ]
      clear dB hB dA hA
      go_wp2
      go_ret
      rw [HFIN.out]
      exact ⟨rfl, HAT.out.turn⟩
  · have dA : decide (q.lo ≤ k.h) = false := decide_eq_false hA
    have HFIN : Hid (matchB q k = false) := by
      show matchB q k = _
      unfold matchB
      rw [dA, Bool.false_and, Bool.false_and]
    refine drawn_take 4 9 (.bool false) rfl rfl (by kernel_rfl) (by kernel_rfl) (by kernel_rfl) (by kernel_rfl) (fun _ _ _ h => h) (by rfl) (by assumption) (by intro w hSw; obtain ⟨⟨b0, b1, b2, b3, b4, b5, b6, b7, b8, b9, b10, b11, b12, b13⟩, ⟨m0, m1, m2, m3, m4⟩⟩ := hSw; go_simp) ?_
    try simp only [List.setIfInBounds_toArray, List.set_cons_zero, List.set_cons_succ]
    refine drawn_take 5 10 (.bool false) rfl rfl (by kernel_rfl) (by kernel_rfl) (by kernel_rfl) (by kernel_rfl) (fun _ _ _ h => h) (by rfl) (by assumption) (by intro w hSw; obtain ⟨⟨b0, b1, b2, b3, b4, b5, b6, b7, b8, b9, b10, b11, b12, b13⟩, ⟨m0, m1, m2, m3, m4⟩⟩ := hSw; go_simp) ?_
    try simp only [List.setIfInBounds_toArray, List.set_cons_zero, List.set_cons_succ]
    refine drawn_skip 6 11 rfl rfl (by kernel_rfl) (by kernel_rfl) (by kernel_rfl) (by kernel_rfl) (fun _ _ _ h => h) (by rfl) (fun _ => by assumption) ?_
    try simp only [List.setIfInBounds_toArray, List.set_cons_zero, List.set_cons_succ]
    refine drawn_skip 7 12 rfl rfl (by kernel_rfl) (by kernel_rfl) (by kernel_rfl) (by kernel_rfl) (fun _ _ _ h => h) (by rfl) (fun _ => by assumption) ?_
    try simp only [List.setIfInBounds_toArray, List.set_cons_zero, List.set_cons_succ]
    refine drawn_skip 8 13 rfl rfl (by kernel_rfl) (by kernel_rfl) (by kernel_rfl) (by kernel_rfl) (fun _ _ _ h => h) (by rfl) (fun _ => by assumption) ?_
    try simp only [List.setIfInBounds_toArray, List.set_cons_zero, List.set_cons_succ]
    refine drawn_skip 9 14 rfl rfl (by kernel_rfl) (by kernel_rfl) (by kernel_rfl) (by kernel_rfl) (fun _ _ _ h => h) (by rfl) (fun _ => by assumption) ?_
    try simp only [List.setIfInBounds_toArray, List.set_cons_zero, List.set_cons_succ]
    refine drawn_skip 10 15 rfl rfl (by kernel_rfl) (by kernel_rfl) (by kernel_rfl) (by kernel_rfl) (fun _ _ _ h => h) (by rfl) (fun _ => by assumption) ?_
    try simp only [List.setIfInBounds_toArray, List.set_cons_zero, List.set_cons_succ]
    refine drawn_take 11 16 (.bool false) rfl rfl (by kernel_rfl) (by kernel_rfl) (by kernel_rfl) (by kernel_rfl) (fun _ _ _ h => h) (by rfl) (by assumption) (by intro w hSw; obtain ⟨⟨b0, b1, b2, b3, b4, b5, b6, b7, b8, b9, b10, b11, b12, b13⟩, ⟨m0, m1, m2, m3, m4⟩⟩ := hSw; go_simp) ?_
    try simp only [List.setIfInBounds_toArray, List.set_cons_zero, List.set_cons_succ]
    refine drawn_take 12 17 (.bool false) rfl rfl (by kernel_rfl) (by kernel_rfl) (by kernel_rfl) (by kernel_rfl) (fun _ _ _ h => h) (by rfl) (by assumption) (by intro w hSw; obtain ⟨⟨b0, b1, b2, b3, b4, b5, b6, b7, b8, b9, b10, b11, b12, b13⟩, ⟨m0, m1, m2, m3, m4⟩⟩ := hSw; go_simp) ?_
    try simp only [List.setIfInBounds_toArray, List.set_cons_zero, List.set_cons_succ]
    refine drawn_skip 13 18 rfl rfl (by kernel_rfl) (by kernel_rfl) (by kernel_rfl) (by kernel_rfl) (fun _ _ _ h => h) (by rfl) (fun _ => by assumption) ?_
    try simp only [List.setIfInBounds_toArray, List.set_cons_zero, List.set_cons_succ]
    refine drawn_skip 14 19 rfl rfl (by kernel_rfl) (by kernel_rfl) (by kernel_rfl) (by kernel_rfl) (fun _ _ _ h => h) (by rfl) (fun _ => by assumption) ?_
    try simp only [List.setIfInBounds_toArray, List.set_cons_zero, List.set_cons_succ]
    refine drawn_skip 15 20 rfl rfl (by kernel_rfl) (by kernel_rfl) (by kernel_rfl) (by kernel_rfl) (fun _ _ _ h => h) (by rfl) (fun _ => by assumption) ?_
    try simp only [List.setIfInBounds_toArray, List.set_cons_zero, List.set_cons_succ]
    refine drawn_skip 16 21 rfl rfl (by kernel_rfl) (by kernel_rfl) (by kernel_rfl) (by kernel_rfl) (fun _ _ _ h => h) (by rfl) (fun _ => by assumption) ?_
    try simp only [List.setIfInBounds_toArray, List.set_cons_zero, List.set_cons_succ]
    refine drawn_skip 17 22 rfl rfl (by kernel_rfl) (by kernel_rfl) (by kernel_rfl) (by kernel_rfl) (fun _ _ _ h => h) (by rfl) (fun _ => by assumption) ?_
    try simp only [List.setIfInBounds_toArray, List.set_cons_zero, List.set_cons_succ]
    refine drawn_skip 18 23 rfl rfl (by kernel_rfl) (by kernel_rfl) (by kernel_rfl) (by kernel_rfl) (fun _ _ _ h => h) (by rfl) (fun _ => by assumption) ?_
    try simp only [List.setIfInBounds_toArray, List.set_cons_zero, List.set_cons_succ]
    refine drawn_skip 19 24 rfl rfl (by kernel_rfl) (by kernel_rfl) (by kernel_rfl) (by kernel_rfl) (fun _ _ _ h => h) (by rfl) (fun _ => by assumption) ?_
    try simp only [List.setIfInBounds_toArray, List.set_cons_zero, List.set_cons_succ]
    refine drawn_skip 20 25 rfl rfl (by kernel_rfl) (by kernel_rfl) (by kernel_rfl) (by kernel_rfl) (fun _ _ _ h => h) (by rfl) (fun _ => by assumption) ?_
    try simp only [List.setIfInBounds_toArray, List.set_cons_zero, List.set_cons_succ]
    refine drawn_skip 21 26 rfl rfl (by kernel_rfl) (by kernel_rfl) (by kernel_rfl) (by kernel_rfl) (fun _ _ _ h => h) (by rfl) (fun _ => by assumption) ?_
    try simp only [List.setIfInBounds_toArray, List.set_cons_zero, List.set_cons_succ]
    refine drawn_skip 22 27 rfl rfl (by kernel_rfl) (by kernel_rfl) (by kernel_rfl) (by kernel_rfl) (fun _ _ _ h => h) (by rfl) (fun _ => by assumption) ?_
    try simp only [List.setIfInBounds_toArray, List.set_cons_zero, List.set_cons_succ]
    refine drawn_skip 23 28 rfl rfl (by kernel_rfl) (by kernel_rfl) (by kernel_rfl) (by kernel_rfl) (fun _ _ _ h => h) (by rfl) (fun _ => by assumption) ?_
    try simp only [List.setIfInBounds_toArray, List.set_cons_zero, List.set_cons_succ]
    refine drawn_take 24 29 (.bool false) rfl rfl (by kernel_rfl) (by kernel_rfl) (by kernel_rfl) (by kernel_rfl) (fun _ _ _ h => h) (by rfl) (by assumption) (by intro w hSw; obtain ⟨⟨b0, b1, b2, b3, b4, b5, b6, b7, b8, b9, b10, b11, b12, b13⟩, ⟨m0, m1, m2, m3, m4⟩⟩ := hSw; go_simp) ?_
    try simp only [List.setIfInBounds_toArray, List.set_cons_zero, List.set_cons_succ]
    refine drawn_last1 25 4 (.bool false) rfl rfl (by kernel_rfl) (by kernel_rfl) (by rfl) (by intro w; go_simp) hS0 ?_
    try simp only [List.setIfInBounds_toArray, List.set_cons_zero, List.set_cons_succ]
    clear dA hA
    go_wp2
    go_ret
    rw [HFIN.out]
    exact ⟨rfl, HAT.out.turn⟩

set_option maxHeartbeats 16000000 in
theorem group_any13 (q : Q13) (k : K9) (w : World) : Calls Try.prog 11 #[qv13 q, kv9 k] w fun e w' => e = .returned (kv9 (groupK q k)) ∧ Turn (fun _ => False) w w' := by
  unfold qv13 kv9
  obtain ⟨w0, hw0⟩ : ∃ w0, w0 = (w.alloc (.cells (cells13 q) 25)).alloc (.cells #[.int .i64 k.h, sv9 k.a, sv9 k.b, sv9 k.c, sv9 k.d] 27) := ⟨_, rfl⟩
  have h0 := Qk13.new w q k
  rw [← hw0] at h0
  have HW := Lib.hid hw0
  have HAT0 := Lib.hid h0
  clear hw0 h0
  obtain ⟨w1, hw1⟩ : ∃ w1, w1 = w0.alloc (.cells #[.int .i64 0, .string ⟨#[]⟩, .string ⟨#[]⟩, .string ⟨#[]⟩, .string ⟨#[]⟩] 27) := ⟨_, rfl⟩
  have hs0 : w0.heap.size = w.heap.size + 1 + 1 := by rw [HW.out, World.size_alloc, World.size_alloc]
  have h1 := HAT0.out.later ((Turn.refl (fun _ => False) w0).alloc (.cells #[.int .i64 0, .string ⟨#[]⟩, .string ⟨#[]⟩, .string ⟨#[]⟩, .string ⟨#[]⟩] 27))
  have hr1 := Box.new w0 27 #[.int .i64 0, .string ⟨#[]⟩, .string ⟨#[]⟩, .string ⟨#[]⟩, .string ⟨#[]⟩]
  rw [hs0] at hr1
  rw [← hw1] at h1 hr1
  rw [HW.out] at hw1
  obtain ⟨⟨b0, b1, b2, b3, b4, b5, b6, b7, b8, b9, b10, b11, b12, b13⟩, ⟨m0, m1, m2, m3, m4⟩⟩ := HAT0.out.s
  rw [HW.out] at b0 b1 b2 b3 b4 b5 b6 b7 b8 b9 b10 b11 b12 b13 m0 m1 m2 m3 m4
  have HH1 := Lib.hid h1
  have HR1 := Lib.hid hr1
  have HW1 := Lib.hid hw1
  have HLT : Hid (w.heap.size ≤ w.heap.size + 1 + 1) := by show _ ≤ _; omega
  clear h1 hr1 hw1 hs0 HAT0
  clear HW w0
  go_enter Try.func11, Try.ntmps11
  go_wp2_with fail
  rw [← HW1.out]
  obtain ⟨r, hr⟩ : ∃ r, r = w.heap.size + 1 + 1 := ⟨_, rfl⟩
  rw [← hr]
  rw [← hr] at HR1 HLT
  clear b0 b1 b2 b3 b4 b5 b6 b7 b8 b9 b10 b11 b12 b13 m0 m1 m2 m3 m4 HW1 hr
  refine (only_text13 (txOf k) q.g w1).mono ?_
  rintro e w2 ⟨rfl, t2⟩
  have hb := HR1.out.turn t2 (fun f => f)
  have HG : Hid (groupK q k = kOf (onlyP [] (txOf k) q.g)) := rfl
  generalize onlyP [] (txOf k) q.g = o at *
  have d0 : w2.cell? ⟨r, 0, none⟩ = some (.int .i64 0) := hb.cell 0
  have d1 : w2.cell? ⟨r, 1, none⟩ = some (.string ⟨#[]⟩) := hb.cell 1
  have d2 : w2.cell? ⟨r, 2, none⟩ = some (.string ⟨#[]⟩) := hb.cell 2
  have d3 : w2.cell? ⟨r, 3, none⟩ = some (.string ⟨#[]⟩) := hb.cell 3
  have d4 : w2.cell? ⟨r, 4, none⟩ = some (.string ⟨#[]⟩) := hb.cell 4
  have z0 : w2.frozen? ⟨r, 0, none⟩ = false := hb.free 0
  have z1 : w2.frozen? ⟨r, 1, none⟩ = false := hb.free 1
  have z2 : w2.frozen? ⟨r, 2, none⟩ = false := hb.free 2
  have z3 : w2.frozen? ⟨r, 3, none⟩ = false := hb.free 3
  have z4 : w2.frozen? ⟨r, 4, none⟩ = false := hb.free 4
  have HT : Hid (Turn (fun _ => False) w (w2.setCells r 0 [.int .i64 0, sv9 o.a, sv9 o.b, sv9 o.c, sv9 o.d])) := (HH1.out.turn.trans t2 (fun _ _ f => f)).trans (turn_setCells (S := fun g => g = r) rfl _ 0 w2) (fun g hg e => by have := HLT.out; omega)
  clear hb t2 HR1 HH1
  go_wp2
  refine bodyPost_ret (v := .agg #[.int .i64 0, sv9 o.a, sv9 o.b, sv9 o.c, sv9 o.d]) ?_ rfl ⟨by rw [HG.out]; rfl, HT.out⟩
  rw [results_one13 rfl]
  go_simp

end Go.Proofs.Ytieffpngknglpaa
