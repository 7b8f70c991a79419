/-
  Texts laid one behind the other: R3a R3b R3g R3k R4a R3c R3d R3e.
-/
import Derived.Test.YtgbphkbbedkepaaJocae
import Derived.Test.YtgbphkbbedkepaaJocaf
import Derived.Laws.StructEq

/-
  Stage 19: partitions, plain; the document's most, Right, Span.
-/
namespace Go.Proofs.Ytgbphkbbedkepaa
open Go.RowKit

set_option maxRecDepth 100000

/-- The month of a day; its first day, and the one behind its last. -/
def mo19 (N : Nat) : Nat := 12 * ((dateOf N).1 - 1970) + ((dateOf N).2.1 - 1)
def ma19 (n : Nat) : Nat := num (1970 + n / 12) (n % 12 + 1) 1
def mb19 (n : Nat) : Nat := num (1970 + n / 12) (n % 12 + 1) 1 + mlen (1970 + n / 12) (n % 12 + 1)
theorem mo_max19 : mo19 699050 = 22967 := by decide +kernel
theorem mb_le19 {n : Nat} (h : n ≤ 35000) : ma19 n ≤ 40000000 ∧ mb19 n ≤ 40000031 := by
  have l1 := num_le (y := 1970 + n / 12) (m := n % 12 + 1) (by omega) (by omega) (by omega) (by omega)
  have l2 := mlen_le (1970 + n / 12) (n % 12 + 1)
  unfold ma19 mb19
  omega
/-- A partition: its tier, its index. -/
structure T19 where
  t : Int
  i : Int
abbrev tcells19 (p : T19) : Array Value := #[.int .i64 p.t, .int .i64 p.i]
abbrev tv19 (p : T19) : Value := .agg (tcells19 p)
def most19 (t : Int) : Int := if t = 1 then 16777216 else if t = 2 then 699050 else if t = 3 then 22967 else -1
def right19 (p : T19) : Bool := decide (0 ≤ p.i) && decide (p.i ≤ most19 p.t)
def span19 (p : T19) : Int × Int :=
  if right19 p = true then
    if p.t = 1 then (p.i, p.i + 1) else if p.t = 2 then (24 * p.i, 24 * (p.i + 1)) else (24 * (ma19 p.i.toNat : Int), 24 * (mb19 p.i.toNat : Int))
  else (0, 0)
def of19 (t h : Int) : T19 × Bool :=
  if h < 0 ∨ 16777216 < h ∨ most19 t < 0 then (⟨0, 0⟩, false)
  else if t = 1 then (⟨t, h⟩, true) else if t = 2 then (⟨t, h / 24⟩, true) else (⟨t, (mo19 (h / 24).toNat : Int)⟩, true)
def has19 (p : T19) (h : Int) : Bool := decide ((span19 p).1 ≤ h) && decide (h < (span19 p).2)
def within19 (a b : T19) : Bool := right19 a && (right19 b && (decide ((span19 b).1 ≤ (span19 a).1) && decide ((span19 a).2 ≤ (span19 b).2)))
def meets19 (a b : T19) : Bool := right19 a && (right19 b && (decide ((span19 a).1 < (span19 b).2) && decide ((span19 b).1 < (span19 a).2)))
def less19 (a b : T19) : Bool := right19 a && (right19 b && (decide ((span19 a).1 < (span19 b).1) || (decide ((span19 a).1 = (span19 b).1) && decide (a.t < b.t))))
def due19 (p : T19) (y : Y18) (h : Int) : Bool := right19 p && (okY y && decide ((span19 p).2 + (lagY y p.t).1 ≤ h))
def best19 (f : Int) (y : Y18) (h : Int) : Nat → Int
  | 0 => 0
  | k + 1 => if (of19 ((k : Int) + 1) f).2 && due19 (of19 ((k : Int) + 1) f).1 y h then (k : Int) + 1 else best19 f y h k
theorem box_t19 {W : World} {g : Nat} {t : TypeId} {p : T19} (h : Box W g t (tcells19 p)) : W.cell? ⟨g, 0, none⟩ = some (.int .i64 p.t) ∧ W.cell? ⟨g, 1, none⟩ = some (.int .i64 p.i) := ⟨h.cell 0, h.cell 1⟩

set_option maxHeartbeats 4000000 in
theorem ref_most19 (t : Int) (w : World) : Calls Try.prog 70 #[.int .i64 t] w fun e w' => e = .returned (.int .i64 (most19 t)) ∧ w = w' := by
  have HMO : Hid (Calls Try.prog 94 #[.int .i64 699050] w fun e w' => e = .returned (.int .i64 22967) ∧ w = w') := by
    have h := ref_month 699050 w (by omega)
    rw [show (12 * ((dateOf 699050).1 - 1970) + ((dateOf 699050).2.1 - 1) : Nat) = 22967 from mo_max19] at h
    exact h
  by_cases h1 : t = 1
  · have HL : Hid (most19 t = 16777216) := if_pos h1
    have e1 : (t == 1) = true := by rw [beq_iff_eq]; exact h1
    clear h1
    go_enter Try.func70, Try.ntmps70
    go_wp2_with (go_at_call 94; refine HMO.out.mono ?_; rintro e w' ⟨rfl, rfl⟩)
    go_ret
    exact ⟨by rw [HL.out]; rfl, rfl⟩
  · have e1 : (t == 1) = false := by rw [beq_eq_false_iff_ne]; exact h1
    by_cases h2 : t = 2
    · have HL : Hid (most19 t = 699050) := (if_neg h1).trans (if_pos h2)
      have e2 : (t == 2) = true := by rw [beq_iff_eq]; exact h2
      clear h1 h2
      go_enter Try.func70, Try.ntmps70
      go_wp2_with (go_at_call 94; refine HMO.out.mono ?_; rintro e w' ⟨rfl, rfl⟩)
      go_ret
      exact ⟨by rw [HL.out]; rfl, rfl⟩
    · have e2 : (t == 2) = false := by rw [beq_eq_false_iff_ne]; exact h2
      by_cases h3 : t = 3
      · have HL : Hid (most19 t = 22967) := (if_neg h1).trans ((if_neg h2).trans (if_pos h3))
        have e3 : (t == 3) = true := by rw [beq_iff_eq]; exact h3
        clear h1 h2 h3
        go_enter Try.func70, Try.ntmps70
        go_wp2_with (go_at_call 94; refine HMO.out.mono ?_; rintro e w' ⟨rfl, rfl⟩)
        go_ret
        exact ⟨by rw [HL.out]; rfl, rfl⟩
      · have HL : Hid (most19 t = -1) := (if_neg h1).trans ((if_neg h2).trans (if_neg h3))
        have e3 : (t == 3) = false := by rw [beq_eq_false_iff_ne]; exact h3
        clear h1 h2 h3
        go_enter Try.func70, Try.ntmps70
        go_wp2_with (go_at_call 94; refine HMO.out.mono ?_; rintro e w' ⟨rfl, rfl⟩)
        go_ret
        exact ⟨by rw [HL.out]; rfl, rfl⟩

set_option maxHeartbeats 4000000 in
theorem ref_right19 (p : T19) (w : World) : Calls Try.prog 49 #[tv19 p] w fun e w' => e = .returned (.bool (right19 p)) ∧ Turn (fun _ => False) w w' := by
  obtain ⟨wb, hwb⟩ : ∃ wb, wb = w.alloc (.cells (tcells19 p) 24) := ⟨_, rfl⟩
  obtain ⟨g, hg⟩ : ∃ g, g = w.heap.size := ⟨_, rfl⟩
  have HT : Hid (Turn (fun _ => False) w wb) := by rw [hwb]; exact (Turn.refl _ w).alloc _
  have HBX : Hid (Box wb g 24 (tcells19 p)) := by rw [hwb, hg]; exact Box.new w _ _
  have HLD : Hid (∀ W, Turn (fun _ => False) wb W → W.cell? ⟨g, 0, none⟩ = some (.int .i64 p.t) ∧ W.cell? ⟨g, 1, none⟩ = some (.int .i64 p.i)) := fun W hW => box_t19 (HBX.out.turn hW (fun f => f))
  have HMS : Hid (∀ W, Calls Try.prog 70 #[.int .i64 p.t] W fun e w' => e = .returned (.int .i64 (most19 p.t)) ∧ Turn (fun _ => False) W w') := fun W => (ref_most19 p.t W).mono (by rintro e w' ⟨rfl, rfl⟩; exact ⟨rfl, Turn.refl _ _⟩)
  have HR : Hid (right19 p = (decide (0 ≤ p.i) && decide (p.i ≤ most19 p.t))) := rfl
  have HWB := Lib.hid hwb; have HG := Lib.hid hg
  generalize right19 p = x at *
  generalize most19 p.t = M at *
  clear hwb hg
  by_cases h0 : 0 ≤ p.i
  · have HDUM : Hid True := trivial
    go_enter Try.func49, Try.ntmps49
    go_wp2_with fail
    rw [← HWB.out, ← HG.out]
    refine drawn_region (fun W => Turn (fun _ => False) wb W) [] (by kernel_rfl) ?_
    have hS0 : Turn (fun _ => False) wb (World.drew wb) := (Turn.refl _ wb).drew
    generalize World.drew wb = wd at *
    refine drawn_take 0 3 (.pointer (some ⟨g, 1, none⟩)) rfl rfl (by kernel_rfl) (by kernel_rfl) (by kernel_rfl) (by kernel_rfl) (fun _ _ _ h => h) (by rfl) (by assumption) (by intro w hSw; obtain hS1 := hSw; go_simp) ?_
    try simp only [List.setIfInBounds_toArray, List.set_cons_zero, List.set_cons_succ]
    refine drawn_take 1 4 (.int .i64 p.i) rfl rfl (by kernel_rfl) (by kernel_rfl) (by kernel_rfl) (by kernel_rfl) (fun _ _ _ h => h) (by rfl) (by assumption) (by intro w hSw; obtain ⟨b0, b1⟩ := HLD.out _ hSw; clear hSw; go_simp) ?_
    try simp only [List.setIfInBounds_toArray, List.set_cons_zero, List.set_cons_succ]
    refine drawn_take 2 5 (.bool true) rfl rfl (by kernel_rfl) (by kernel_rfl) (by kernel_rfl) (by kernel_rfl) (fun _ _ _ h => h) (by rfl) (by assumption) (by intro w hSw; obtain hS1 := hSw; go_simp) ?_
    try simp only [List.setIfInBounds_toArray, List.set_cons_zero, List.set_cons_succ]
    refine drawn_take 3 6 (.bool true) rfl rfl (by kernel_rfl) (by kernel_rfl) (by kernel_rfl) (by kernel_rfl) (fun _ _ _ h => h) (by rfl) (by assumption) (by intro w hSw; obtain hS1 := hSw; go_simp) ?_
    try simp only [List.setIfInBounds_toArray, List.set_cons_zero, List.set_cons_succ]
    refine drawn_take 4 7 (.pointer (some ⟨g, 1, none⟩)) rfl rfl (by kernel_rfl) (by kernel_rfl) (by kernel_rfl) (by kernel_rfl) (fun _ _ _ h => h) (by rfl) (by assumption) (by intro w hSw; obtain hS1 := hSw; go_simp) ?_
    try simp only [List.setIfInBounds_toArray, List.set_cons_zero, List.set_cons_succ]
    refine drawn_take 5 8 (.int .i64 p.i) rfl rfl (by kernel_rfl) (by kernel_rfl) (by kernel_rfl) (by kernel_rfl) (fun _ _ _ h => h) (by rfl) (by assumption) (by intro w hSw; obtain ⟨b0, b1⟩ := HLD.out _ hSw; clear hSw; go_simp) ?_
    try simp only [List.setIfInBounds_toArray, List.set_cons_zero, List.set_cons_succ]
    refine drawn_take 6 9 (.pointer (some ⟨g, 0, none⟩)) rfl rfl (by kernel_rfl) (by kernel_rfl) (by kernel_rfl) (by kernel_rfl) (fun _ _ _ h => h) (by rfl) (by assumption) (by intro w hSw; obtain hS1 := hSw; go_simp) ?_
    try simp only [List.setIfInBounds_toArray, List.set_cons_zero, List.set_cons_succ]
    refine drawn_take 7 10 (.int .i64 p.t) rfl rfl (by kernel_rfl) (by kernel_rfl) (by kernel_rfl) (by kernel_rfl) (fun _ _ _ h => h) (by rfl) (by assumption) (by intro w hSw; obtain ⟨b0, b1⟩ := HLD.out _ hSw; clear hSw; go_simp) ?_
    try simp only [List.setIfInBounds_toArray, List.set_cons_zero, List.set_cons_succ]
    refine drawn_any [8] (by kernel_rfl) (by simp) ?_
    refine drawn_cons rfl (fun K1 hK => ?_) drawn_nil
    go_simp
    refine (HMS.out _).mono ?_
    rintro e wn ⟨rfl, tn⟩
    have hSn := hS0.trans tn (fun _ _ f => f)
    refine hK.out _ _ _ hSn ?_
    clear hK K1 tn hS0
    have hS0 := hSn
    clear hSn
    try simp only [List.setIfInBounds_toArray, List.set_cons_zero, List.set_cons_succ]
    by_cases h1 : p.i ≤ M
    · have HB : Hid (x = true) := by show _ = _; rw [HR.out, decide_eq_true h0, decide_eq_true h1]; rfl
      refine drawn_take 9 12 (.bool true) rfl rfl (by kernel_rfl) (by kernel_rfl) (by kernel_rfl) (by kernel_rfl) (fun _ _ _ h => h) (by rfl) (by assumption) (by intro w hSw; obtain hS1 := hSw; go_simp) ?_
      try simp only [List.setIfInBounds_toArray, List.set_cons_zero, List.set_cons_succ]
      refine drawn_take 10 13 (.bool true) rfl rfl (by kernel_rfl) (by kernel_rfl) (by kernel_rfl) (by kernel_rfl) (fun _ _ _ h => h) (by rfl) (by assumption) (by intro w hSw; obtain hS1 := hSw; go_simp) ?_
      try simp only [List.setIfInBounds_toArray, List.set_cons_zero, List.set_cons_succ]
      refine drawn_last1 11 2 (.bool true) rfl rfl (by kernel_rfl) (by kernel_rfl) (by rfl) (by intro w; go_simp) hS0 ?_
      try simp only [List.setIfInBounds_toArray, List.set_cons_zero, List.set_cons_succ]
      have HTE := Lib.hid hS0
      clear hS0
      go_wp2
      go_ret
      exact ⟨by rw [HB.out]; rfl, HT.out.trans HTE.out (fun _ _ f => f)⟩
    · have HB : Hid (x = false) := by show _ = _; rw [HR.out, decide_eq_true h0, decide_eq_false h1]; rfl
      refine drawn_take 9 12 (.bool false) rfl rfl (by kernel_rfl) (by kernel_rfl) (by kernel_rfl) (by kernel_rfl) (fun _ _ _ h => h) (by rfl) (by assumption) (by intro w hSw; obtain hS1 := hSw; go_simp) ?_
      try simp only [List.setIfInBounds_toArray, List.set_cons_zero, List.set_cons_succ]
      refine drawn_take 10 13 (.bool false) rfl rfl (by kernel_rfl) (by kernel_rfl) (by kernel_rfl) (by kernel_rfl) (fun _ _ _ h => h) (by rfl) (by assumption) (by intro w hSw; obtain hS1 := hSw; go_simp) ?_
      try simp only [List.setIfInBounds_toArray, List.set_cons_zero, List.set_cons_succ]
      refine drawn_last1 11 2 (.bool false) rfl rfl (by kernel_rfl) (by kernel_rfl) (by rfl) (by intro w; go_simp) hS0 ?_
      try simp only [List.setIfInBounds_toArray, List.set_cons_zero, List.set_cons_succ]
      have HTE := Lib.hid hS0
      clear hS0
      go_wp2
      go_ret
      exact ⟨by rw [HB.out]; rfl, HT.out.trans HTE.out (fun _ _ f => f)⟩
  · have HB : Hid (x = false) := by show _ = _; rw [HR.out, decide_eq_false h0]; rfl
    go_enter Try.func49, Try.ntmps49
    go_wp2_with fail
    rw [← HWB.out, ← HG.out]
    refine drawn_region (fun W => Turn (fun _ => False) wb W) [] (by kernel_rfl) ?_
    have hS0 : Turn (fun _ => False) wb (World.drew wb) := (Turn.refl _ wb).drew
    generalize World.drew wb = wd at *
    refine drawn_take 0 3 (.pointer (some ⟨g, 1, none⟩)) rfl rfl (by kernel_rfl) (by kernel_rfl) (by kernel_rfl) (by kernel_rfl) (fun _ _ _ h => h) (by rfl) (by assumption) (by intro w hSw; obtain hS1 := hSw; go_simp) ?_
    try simp only [List.setIfInBounds_toArray, List.set_cons_zero, List.set_cons_succ]
    refine drawn_take 1 4 (.int .i64 p.i) rfl rfl (by kernel_rfl) (by kernel_rfl) (by kernel_rfl) (by kernel_rfl) (fun _ _ _ h => h) (by rfl) (by assumption) (by intro w hSw; obtain ⟨b0, b1⟩ := HLD.out _ hSw; clear hSw; go_simp) ?_
    try simp only [List.setIfInBounds_toArray, List.set_cons_zero, List.set_cons_succ]
    refine drawn_take 2 5 (.bool false) rfl rfl (by kernel_rfl) (by kernel_rfl) (by kernel_rfl) (by kernel_rfl) (fun _ _ _ h => h) (by rfl) (by assumption) (by intro w hSw; obtain hS1 := hSw; go_simp) ?_
    try simp only [List.setIfInBounds_toArray, List.set_cons_zero, List.set_cons_succ]
    refine drawn_take 3 6 (.bool false) rfl rfl (by kernel_rfl) (by kernel_rfl) (by kernel_rfl) (by kernel_rfl) (fun _ _ _ h => h) (by rfl) (by assumption) (by intro w hSw; obtain hS1 := hSw; go_simp) ?_
    try simp only [List.setIfInBounds_toArray, List.set_cons_zero, List.set_cons_succ]
    refine drawn_skip 4 7 rfl rfl (by kernel_rfl) (by kernel_rfl) (by kernel_rfl) (by kernel_rfl) (fun _ _ _ h => h) (by rfl) (fun _ => by assumption) ?_
    try simp only [List.setIfInBounds_toArray, List.set_cons_zero, List.set_cons_succ]
    refine drawn_skip 5 8 rfl rfl (by kernel_rfl) (by kernel_rfl) (by kernel_rfl) (by kernel_rfl) (fun _ _ _ h => h) (by rfl) (fun _ => by assumption) ?_
    try simp only [List.setIfInBounds_toArray, List.set_cons_zero, List.set_cons_succ]
    refine drawn_skip 6 9 rfl rfl (by kernel_rfl) (by kernel_rfl) (by kernel_rfl) (by kernel_rfl) (fun _ _ _ h => h) (by rfl) (fun _ => by assumption) ?_
    try simp only [List.setIfInBounds_toArray, List.set_cons_zero, List.set_cons_succ]
    refine drawn_skip 7 10 rfl rfl (by kernel_rfl) (by kernel_rfl) (by kernel_rfl) (by kernel_rfl) (fun _ _ _ h => h) (by rfl) (fun _ => by assumption) ?_
    try simp only [List.setIfInBounds_toArray, List.set_cons_zero, List.set_cons_succ]
    refine drawn_skip 8 11 rfl rfl (by kernel_rfl) (by kernel_rfl) (by kernel_rfl) (by kernel_rfl) (fun _ _ _ h => h) (by rfl) (fun _ => by assumption) ?_
    try simp only [List.setIfInBounds_toArray, List.set_cons_zero, List.set_cons_succ]
    refine drawn_skip 9 12 rfl rfl (by kernel_rfl) (by kernel_rfl) (by kernel_rfl) (by kernel_rfl) (fun _ _ _ h => h) (by rfl) (fun _ => by assumption) ?_
    try simp only [List.setIfInBounds_toArray, List.set_cons_zero, List.set_cons_succ]
    refine drawn_take 10 13 (.bool false) rfl rfl (by kernel_rfl) (by kernel_rfl) (by kernel_rfl) (by kernel_rfl) (fun _ _ _ h => h) (by rfl) (by assumption) (by intro w hSw; obtain hS1 := hSw; go_simp) ?_
    try simp only [List.setIfInBounds_toArray, List.set_cons_zero, List.set_cons_succ]
    refine drawn_last1 11 2 (.bool false) rfl rfl (by kernel_rfl) (by kernel_rfl) (by rfl) (by intro w; go_simp) hS0 ?_
    try simp only [List.setIfInBounds_toArray, List.set_cons_zero, List.set_cons_succ]
    have HTE := Lib.hid hS0
    clear hS0
    go_wp2
    go_ret
    exact ⟨by rw [HB.out]; rfl, HT.out.trans HTE.out (fun _ _ f => f)⟩

end Go.Proofs.Ytgbphkbbedkepaa

/-
  Stage 19: the document's Span, Has, Of.
-/
namespace Go.Proofs.Ytgbphkbbedkepaa
open Go.RowKit

set_option maxRecDepth 100000

theorem right_iff19 {p : T19} : right19 p = true ↔ 0 ≤ p.i ∧ p.i ≤ most19 p.t := by
  unfold right19
  rw [Bool.and_eq_true, decide_eq_true_iff, decide_eq_true_iff]
theorem most_le19 (t : Int) : most19 t ≤ 16777216 := by
  unfold most19
  split
  · omega
  · split
    · omega
    · split <;> omega
theorem tier_of19 {p : T19} (h : right19 p = true) : (p.t = 1 ∧ p.i ≤ 16777216) ∨ (p.t = 2 ∧ p.i ≤ 699050) ∨ (p.t = 3 ∧ p.i ≤ 22967) := by
  obtain ⟨h0, h1⟩ := right_iff19.1 h
  unfold most19 at h1
  by_cases e1 : p.t = 1
  · rw [if_pos e1] at h1; exact .inl ⟨e1, h1⟩
  · rw [if_neg e1] at h1
    by_cases e2 : p.t = 2
    · rw [if_pos e2] at h1; exact .inr (.inl ⟨e2, h1⟩)
    · rw [if_neg e2] at h1
      by_cases e3 : p.t = 3
      · rw [if_pos e3] at h1; exact .inr (.inr ⟨e3, h1⟩)
      · rw [if_neg e3] at h1; omega
theorem span_no19 {p : T19} (h : right19 p = false) : span19 p = (0, 0) := by unfold span19; rw [h]; rfl
theorem span_bounds19 (p : T19) : 0 ≤ (span19 p).1 ∧ (span19 p).1 ≤ 1000000000 ∧ 0 ≤ (span19 p).2 ∧ (span19 p).2 ≤ 1000000000 := by
  cases h : right19 p with
  | false => rw [span_no19 h]; decide
  | true =>
    obtain ⟨h0, -⟩ := right_iff19.1 h
    unfold span19
    rw [if_pos h]
    rcases tier_of19 h with ⟨e, hb⟩ | ⟨e, hb⟩ | ⟨e, hb⟩
    · rw [if_pos e]; dsimp only; omega
    · rw [if_neg (by omega), if_pos e]; dsimp only; omega
    · rw [if_neg (by omega), if_neg (by omega)]
      have := mb_le19 (n := p.i.toNat) (by omega)
      dsimp only
      omega

set_option maxHeartbeats 8000000 in
theorem ref_span19 (p : T19) (w : World) : Calls Try.prog 33 #[tv19 p] w fun e w' => e = .returned (.tuple #[.int .i64 (span19 p).1, .int .i64 (span19 p).2]) ∧ Turn (fun _ => False) w w' := by
  obtain ⟨wb, hwb⟩ : ∃ wb, wb = w.alloc (.cells (tcells19 p) 24) := ⟨_, rfl⟩
  obtain ⟨g, hg⟩ : ∃ g, g = w.heap.size := ⟨_, rfl⟩
  have HT : Hid (Turn (fun _ => False) w wb) := by rw [hwb]; exact (Turn.refl _ w).alloc _
  have HBX : Hid (Box wb g 24 (tcells19 p)) := by rw [hwb, hg]; exact Box.new w _ _
  obtain ⟨z0, z1⟩ := box_t19 (Box.new w 24 (tcells19 p))
  have HRT := Lib.hid (ref_right19 p wb)
  have HWB := Lib.hid hwb; have HG := Lib.hid hg
  clear hwb hg
  cases hr : right19 p with
  | false =>
    have HS : Hid (True → span19 p = (0, 0)) := fun _ => span_no19 hr
    rw [hr] at HRT
    clear hr
    go_enter Try.func33, Try.ntmps33
    go_wp2_with fail
    rw [← HWB.out, ← HG.out]
    refine HRT.out.mono ?_
    rintro e w1 ⟨rfl, t1⟩
    have HT1 := Lib.hid (HT.out.trans t1 (fun _ _ f => f))
    obtain ⟨y0, y1⟩ := box_t19 (HBX.out.turn t1 (fun f => f))
    clear t1 HRT z0 z1
    go_wp2
    go_ret2
    exact ⟨by rw [HS.out trivial]; rfl, HT1.out⟩
  | true =>
    have hti := tier_of19 hr
    obtain ⟨h0, -⟩ := right_iff19.1 hr
    have hsp : span19 p = if p.t = 1 then (p.i, p.i + 1) else if p.t = 2 then (24 * p.i, 24 * (p.i + 1)) else (24 * (ma19 p.i.toNat : Int), 24 * (mb19 p.i.toNat : Int)) := if_pos hr
    rw [hr] at HRT
    clear hr
    obtain ⟨pt, pi⟩ := p
    dsimp only at hti h0 hsp HBX HRT HWB
    obtain ⟨N, rfl⟩ := Int.eq_ofNat_of_zero_le h0
    rw [Int.toNat_natCast] at hsp
    rcases hti with ⟨rfl, hb⟩ | ⟨rfl, hb⟩ | ⟨rfl, hb⟩
    · have HS : Hid (True → span19 ⟨1, (N : Int)⟩ = ((N : Int), (N : Int) + 1)) := fun _ => hsp.trans (if_pos rfl)
      have hw : IntKind.i64.wrap ((N : Int) + 1) = (N : Int) + 1 := IntWalk.i64_in _ (by omega)
      clear hsp h0
      go_enter Try.func33, Try.ntmps33
      go_wp2_with fail
      rw [← HWB.out, ← HG.out]
      refine HRT.out.mono ?_
      rintro e w1 ⟨rfl, t1⟩
      have HT1 := Lib.hid (HT.out.trans t1 (fun _ _ f => f))
      obtain ⟨y0, y1⟩ := box_t19 (HBX.out.turn t1 (fun f => f))
      clear t1 HRT z0 z1
      go_wp2_with fail
      go_quiet (fail)
      go_wp2
      go_ret2
      exact ⟨by rw [HS.out trivial]; rfl, HT1.out.drewN _⟩
    · have HS : Hid (True → span19 ⟨2, (N : Int)⟩ = (24 * (N : Int), 24 * ((N : Int) + 1))) := fun _ => hsp.trans ((if_neg (by decide)).trans (if_pos rfl))
      have hw : IntKind.i64.wrap ((N : Int) + 1) = (N : Int) + 1 := IntWalk.i64_in _ (by omega)
      have hw2 : IntKind.i64.wrap (24 * (N : Int)) = 24 * (N : Int) := IntWalk.i64_in _ (by omega)
      have hw3 : IntKind.i64.wrap (24 * ((N : Int) + 1)) = 24 * ((N : Int) + 1) := IntWalk.i64_in _ (by omega)
      clear hsp h0
      go_enter Try.func33, Try.ntmps33
      go_wp2_with fail
      rw [← HWB.out, ← HG.out]
      refine HRT.out.mono ?_
      rintro e w1 ⟨rfl, t1⟩
      have HT1 := Lib.hid (HT.out.trans t1 (fun _ _ f => f))
      obtain ⟨y0, y1⟩ := box_t19 (HBX.out.turn t1 (fun f => f))
      clear t1 HRT z0 z1
      go_wp2_with fail
      go_quiet (fail)
      go_wp2
      go_ret2
      exact ⟨by rw [HS.out trivial]; rfl, HT1.out.drewN _⟩
    · have HS : Hid (True → span19 ⟨3, (N : Int)⟩ = (24 * (ma19 N : Int), 24 * (mb19 N : Int))) := fun _ => hsp.trans ((if_neg (by decide)).trans (if_neg (by decide)))
      have HSP : Hid (∀ W, Calls Try.prog 50 #[.int .i64 (N : Int)] W fun e w' => e = .returned (.tuple #[.int .i64 (ma19 N : Int), .int .i64 (mb19 N : Int)]) ∧ W = w') := fun W => ref_span N W (by omega)
      obtain ⟨l1, l2⟩ := mb_le19 (n := N) (by omega)
      generalize ma19 N = A at *
      generalize mb19 N = B at *
      have hw2 : IntKind.i64.wrap (24 * (A : Int)) = 24 * (A : Int) := IntWalk.i64_in _ (by omega)
      have hw3 : IntKind.i64.wrap (24 * (B : Int)) = 24 * (B : Int) := IntWalk.i64_in _ (by omega)
      clear hsp h0
      go_enter Try.func33, Try.ntmps33
      go_wp2_with fail
      rw [← HWB.out, ← HG.out]
      refine HRT.out.mono ?_
      rintro e w1 ⟨rfl, t1⟩
      have HT1 := Lib.hid (HT.out.trans t1 (fun _ _ f => f))
      obtain ⟨y0, y1⟩ := box_t19 (HBX.out.turn t1 (fun f => f))
      clear t1 HRT z0 z1
      go_wp2_with fail
      refine (HSP.out w1).mono ?_
      rintro e w2 ⟨rfl, rfl⟩
      go_wp2
      go_ret2
      exact ⟨by rw [HS.out trivial]; rfl, HT1.out⟩

set_option maxHeartbeats 4000000 in
theorem ref_has19 (p : T19) (h : Int) (w : World) : Calls Try.prog 29 #[tv19 p, .int .i64 h] w fun e w' => e = .returned (.bool (has19 p h)) ∧ Turn (fun _ => False) w w' := by
  obtain ⟨wb, hwb⟩ : ∃ wb, wb = w.alloc (.cells (tcells19 p) 24) := ⟨_, rfl⟩
  have HT : Hid (Turn (fun _ => False) w wb) := by rw [hwb]; exact (Turn.refl _ w).alloc _
  obtain ⟨z0, z1⟩ := box_t19 (Box.new w 24 (tcells19 p))
  have HSP := Lib.hid (ref_span19 p wb)
  have HH : Hid (has19 p h = (decide ((span19 p).1 ≤ h) && decide (h < (span19 p).2))) := rfl
  have HWB := Lib.hid hwb
  generalize has19 p h = x at *
  generalize (span19 p).1 = a at *
  generalize (span19 p).2 = b at *
  clear hwb
  by_cases h1 : a ≤ h
  · by_cases h2 : h < b
    · have HB : Hid (x = true) := by show _ = _; rw [HH.out, decide_eq_true h1, decide_eq_true h2]; rfl
      go_enter Try.func29, Try.ntmps29
      go_wp2_with fail
      rw [← HWB.out]
      refine HSP.out.mono ?_
      rintro e w1 ⟨rfl, t1⟩
      have HT1 := Lib.hid (HT.out.trans t1 (fun _ _ f => f))
      clear t1 HSP z0 z1
      go_wp2
      go_ret
      exact ⟨by rw [HB.out]; first | rfl | exact ret_bool (decide_eq_true (by omega)) | exact ret_bool (decide_eq_false (by omega)), HT1.out⟩
    · have HB : Hid (x = false) := by show _ = _; rw [HH.out, decide_eq_false h2, Bool.and_false]
      go_enter Try.func29, Try.ntmps29
      go_wp2_with fail
      rw [← HWB.out]
      refine HSP.out.mono ?_
      rintro e w1 ⟨rfl, t1⟩
      have HT1 := Lib.hid (HT.out.trans t1 (fun _ _ f => f))
      clear t1 HSP z0 z1
      go_wp2
      go_ret
      exact ⟨by rw [HB.out]; first | rfl | exact ret_bool (decide_eq_true (by omega)) | exact ret_bool (decide_eq_false (by omega)), HT1.out⟩
  · have HB : Hid (x = false) := by show _ = _; rw [HH.out, decide_eq_false h1, Bool.false_and]
    go_enter Try.func29, Try.ntmps29
    go_wp2_with fail
    rw [← HWB.out]
    refine HSP.out.mono ?_
    rintro e w1 ⟨rfl, t1⟩
    have HT1 := Lib.hid (HT.out.trans t1 (fun _ _ f => f))
    clear t1 HSP z0 z1
    go_wp2
    go_ret
    exact ⟨by rw [HB.out]; first | rfl | exact ret_bool (decide_eq_true (by omega)) | exact ret_bool (decide_eq_false (by omega)), HT1.out⟩

end Go.Proofs.Ytgbphkbbedkepaa

/-
  Stage 19, plain: partitions of a tier part the hours; two that meet are one within the other.
-/
namespace Go.Proofs.Ytgbphkbbedkepaa
open Go.RowKit

set_option maxRecDepth 100000

theorem mo_at19 (N : Nat) : ma19 (mo19 N) ≤ N ∧ N < mb19 (mo19 N) := by
  obtain ⟨⟨v1, v2, v3, v4, v5⟩, v6⟩ := dateOf_spec N
  unfold ma19 mb19 mo19
  generalize (dateOf N).1 = y at *
  generalize (dateOf N).2.1 = m at *
  generalize (dateOf N).2.2 = d at *
  have e1 : (12 * (y - 1970) + (m - 1)) / 12 = y - 1970 := by omega
  have e2 : (12 * (y - 1970) + (m - 1)) % 12 = m - 1 := by omega
  rw [e1, e2, show 1970 + (y - 1970) = y by omega, show m - 1 + 1 = m by omega]
  have h := num_day y m d
  omega
theorem mo_is19 {n N : Nat} (h1 : ma19 n ≤ N) (h2 : N < mb19 n) : mo19 N = n := by
  unfold ma19 at h1
  unfold mb19 at h2
  have hn := num_day (1970 + n / 12) (n % 12 + 1) (N - num (1970 + n / 12) (n % 12 + 1) 1 + 1)
  have hv : Valid (1970 + n / 12) (n % 12 + 1) (N - num (1970 + n / 12) (n % 12 + 1) 1 + 1) := ⟨by omega, by omega, by omega, by omega, by omega⟩
  have hd := date_is hv (n := N) (by omega)
  unfold mo19
  rw [hd]
  dsimp only
  omega
theorem mb_next19 (n : Nat) : mb19 n = ma19 (n + 1) := by
  unfold mb19 ma19
  by_cases hm : n % 12 + 1 < 12
  · rw [show (n + 1) / 12 = n / 12 by omega, show (n + 1) % 12 + 1 = n % 12 + 1 + 1 by omega]
    have h := mdays_step (y := 1970 + n / 12) (m := n % 12 + 1) (by omega)
    unfold num
    rw [show n % 12 + 1 + 1 - 1 = n % 12 + 1 by omega]
    omega
  · rw [show (n + 1) / 12 = n / 12 + 1 by omega, show (n + 1) % 12 + 1 = 1 by omega, show n % 12 + 1 = 12 by omega]
    have h := mdays_step (y := 1970 + n / 12) (m := 12) (by omega)
    have h2 := mdays_year (1970 + n / 12)
    have h3 := ylen_step (y := 1970 + n / 12) (by omega)
    have h4 : mdays (1970 + (n / 12 + 1)) 0 = 0 := rfl
    unfold num
    rw [show 1970 + (n / 12 + 1) - 1970 = 1970 + n / 12 + 1 - 1970 by omega, h3, show (1 : Nat) - 1 = 0 from rfl, show (12 : Nat) - 1 = 11 from rfl, h4]
    rw [show (12 : Nat) - 1 = 11 from rfl] at h
    omega
theorem ma_mono19 : ∀ {a b : Nat}, a ≤ b → ma19 a ≤ ma19 b
  | a, 0, h => by rw [show a = 0 by omega]; exact Nat.le_refl _
  | a, b + 1, h => by
    rcases Nat.lt_or_ge b a with h1 | h1
    · rw [show a = b + 1 by omega]; exact Nat.le_refl _
    · have h2 := ma_mono19 h1
      have h3 := mb_next19 b
      unfold mb19 at h3
      unfold ma19 at h2 h3 ⊢
      omega
theorem mo_le19 {N : Nat} (h : N ≤ 699050) : mo19 N ≤ 22967 := by
  rcases Nat.lt_or_ge 22967 (mo19 N) with h1 | h1
  · exfalso
    have h2 := (mo_at19 N).1
    have h3 := (mo_at19 699050).2
    rw [mo_max19, mb_next19] at h3
    have h4 := ma_mono19 (show 22967 + 1 ≤ mo19 N from h1)
    omega
  · exact h1
theorem ma_max19 {n : Nat} (h : n ≤ 22967) : ma19 n ≤ 699050 := by
  have h1 := (mo_at19 699050).1
  rw [mo_max19] at h1
  exact Nat.le_trans (ma_mono19 h) h1
theorem ma_lt19 (n : Nat) : ma19 n < mb19 n := by
  have h := (mlen_pos (y := 1970 + n / 12) (m := n % 12 + 1) (by omega) (by omega)).1
  unfold ma19 mb19
  omega

/-- The three partitions of an hour. -/
def hr19 (h : Nat) : T19 := ⟨1, h⟩
def dy19 (h : Nat) : T19 := ⟨2, ((h / 24 : Nat) : Int)⟩
def mn19 (h : Nat) : T19 := ⟨3, (mo19 (h / 24) : Int)⟩
section
variable {h : Nat} (hh : h ≤ 16777216)
include hh
theorem rights19 : right19 (hr19 h) = true ∧ right19 (dy19 h) = true ∧ right19 (mn19 h) = true := by
  have := mo_le19 (N := h / 24) (by omega)
  refine ⟨right_iff19.2 ⟨?_, ?_⟩, right_iff19.2 ⟨?_, ?_⟩, right_iff19.2 ⟨?_, ?_⟩⟩
  · show (0 : Int) ≤ (h : Int); omega
  · show (h : Int) ≤ 16777216; omega
  · show (0 : Int) ≤ ((h / 24 : Nat) : Int); omega
  · show ((h / 24 : Nat) : Int) ≤ 699050; omega
  · show (0 : Int) ≤ (mo19 (h / 24) : Int); omega
  · show (mo19 (h / 24) : Int) ≤ 22967; omega
theorem spans19 : span19 (hr19 h) = ((h : Int), (h : Int) + 1) ∧ span19 (dy19 h) = (24 * ((h / 24 : Nat) : Int), 24 * (((h / 24 : Nat) : Int) + 1)) ∧ span19 (mn19 h) = (24 * (ma19 (mo19 (h / 24)) : Int), 24 * (mb19 (mo19 (h / 24)) : Int)) := by
  obtain ⟨r1, r2, r3⟩ := rights19 hh
  refine ⟨?_, ?_, ?_⟩
  · unfold span19; rw [if_pos r1]; rfl
  · unfold span19; rw [if_pos r2]; rfl
  · unfold span19
    rw [if_pos r3]
    show (24 * (ma19 (Int.toNat (mo19 (h / 24) : Int)) : Int), 24 * (mb19 (Int.toNat (mo19 (h / 24) : Int)) : Int)) = _
    rw [Int.toNat_natCast]
theorem ofs19 : of19 1 (h : Int) = (hr19 h, true) ∧ of19 2 (h : Int) = (dy19 h, true) ∧ of19 3 (h : Int) = (mn19 h, true) := by
  have e : (h : Int) / 24 = ((h / 24 : Nat) : Int) := by omega
  have m1 : most19 1 = 16777216 := rfl
  have m2 : most19 2 = 699050 := rfl
  have m3 : most19 3 = 22967 := rfl
  refine ⟨?_, ?_, ?_⟩
  · unfold of19; rw [if_neg (by rw [m1]; omega)]; rfl
  · unfold of19; rw [if_neg (by rw [m2]; omega), e]; rfl
  · unfold of19; rw [if_neg (by rw [m3]; omega), e, Int.toNat_natCast]; rfl
theorem has_all19 : has19 (hr19 h) h = true ∧ has19 (dy19 h) h = true ∧ has19 (mn19 h) h = true := by
  obtain ⟨s1, s2, s3⟩ := spans19 hh
  have hm := mo_at19 (h / 24)
  unfold has19
  rw [s1, s2, s3]
  simp only [Bool.and_eq_true, decide_eq_true_iff]
  omega
theorem within_all19 : within19 (hr19 h) (dy19 h) = true ∧ within19 (dy19 h) (mn19 h) = true ∧ within19 (hr19 h) (mn19 h) = true ∧ meets19 (hr19 h) (mn19 h) = true := by
  obtain ⟨s1, s2, s3⟩ := spans19 hh
  obtain ⟨r1, r2, r3⟩ := rights19 hh
  have hm := mo_at19 (h / 24)
  unfold within19 meets19
  rw [s1, s2, s3, r1, r2, r3]
  simp only [Bool.true_and, Bool.and_eq_true, decide_eq_true_iff]
  omega
theorem has_is19 {a : T19} (ha : has19 a h = true) : a = hr19 h ∨ a = dy19 h ∨ a = mn19 h := by
  unfold has19 at ha
  rw [Bool.and_eq_true, decide_eq_true_iff, decide_eq_true_iff] at ha
  cases hr : right19 a with
  | false => rw [span_no19 hr] at ha; dsimp only at ha; omega
  | true =>
    obtain ⟨h0, -⟩ := right_iff19.1 hr
    unfold span19 at ha
    rw [if_pos hr] at ha
    obtain ⟨t, i⟩ := a
    rcases tier_of19 hr with ⟨e, hb⟩ | ⟨e, hb⟩ | ⟨e, hb⟩
    · dsimp only at e hb ha h0
      subst e
      rw [if_pos rfl] at ha
      dsimp only at ha
      have e2 : i = (h : Int) := by omega
      exact .inl (by rw [e2]; rfl)
    · dsimp only at e hb ha h0
      subst e
      rw [if_neg (by decide), if_pos rfl] at ha
      dsimp only at ha
      have e2 : i = ((h / 24 : Nat) : Int) := by omega
      exact .inr (.inl (by rw [e2]; rfl))
    · dsimp only at e hb ha h0
      subst e
      rw [if_neg (by decide), if_neg (by decide)] at ha
      dsimp only at ha
      obtain ⟨N, rfl⟩ := Int.eq_ofNat_of_zero_le h0
      rw [Int.toNat_natCast] at ha
      have e2 := mo_is19 (n := N) (N := h / 24) (by omega) (by omega)
      exact .inr (.inr (by show (⟨3, (N : Int)⟩ : T19) = ⟨3, (mo19 (h / 24) : Int)⟩; rw [e2]))
end
theorem within_refl19 {a : T19} (h : right19 a = true) : within19 a a = true := by
  unfold within19
  rw [h]
  simp
theorem span_start19 {a : T19} (h : right19 a = true) : 0 ≤ (span19 a).1 ∧ (span19 a).1 ≤ 16777216 ∧ (span19 a).1 < (span19 a).2 := by
  obtain ⟨h0, -⟩ := right_iff19.1 h
  unfold span19
  rw [if_pos h]
  rcases tier_of19 h with ⟨e, hb⟩ | ⟨e, hb⟩ | ⟨e, hb⟩
  · rw [if_pos e]; dsimp only; omega
  · rw [if_neg (by omega), if_pos e]; dsimp only; omega
  · rw [if_neg (by omega), if_neg (by omega)]
    have h1 := ma_max19 (n := a.i.toNat) (by omega)
    have h2 := ma_lt19 a.i.toNat
    dsimp only
    omega
theorem meets_comm19 (a b : T19) : meets19 b a = meets19 a b := by
  unfold meets19
  cases right19 a <;> cases right19 b <;> simp [Bool.and_comm]
theorem nests19 {a b : T19} (h : meets19 a b = true) : within19 a b = true ∨ within19 b a = true := by
  unfold meets19 at h
  simp only [Bool.and_eq_true, decide_eq_true_iff] at h
  obtain ⟨ra, rb, h1, h2⟩ := h
  obtain ⟨a1, a2, a3⟩ := span_start19 ra
  obtain ⟨b1, b2, b3⟩ := span_start19 rb
  obtain ⟨N, hN⟩ : ∃ N : Nat, max (span19 a).1 (span19 b).1 = (N : Int) := Int.eq_ofNat_of_zero_le (by omega)
  have hh : N ≤ 16777216 := by omega
  have ha : has19 a N = true := by unfold has19; simp only [Bool.and_eq_true, decide_eq_true_iff]; omega
  have hb : has19 b N = true := by unfold has19; simp only [Bool.and_eq_true, decide_eq_true_iff]; omega
  obtain ⟨w1, w2, w3, -⟩ := within_all19 hh
  rcases has_is19 hh ha with ea | ea | ea <;> rcases has_is19 hh hb with eb | eb | eb
  · exact .inl (by rw [eb, ← ea]; exact within_refl19 ra)
  · exact .inl (by rw [ea, eb]; exact w1)
  · exact .inl (by rw [ea, eb]; exact w3)
  · exact .inr (by rw [ea, eb]; exact w1)
  · exact .inl (by rw [eb, ← ea]; exact within_refl19 ra)
  · exact .inl (by rw [ea, eb]; exact w2)
  · exact .inr (by rw [ea, eb]; exact w3)
  · exact .inr (by rw [ea, eb]; exact w2)
  · exact .inl (by rw [eb, ← ea]; exact within_refl19 ra)

end Go.Proofs.Ytgbphkbbedkepaa

/-
  Stage 19: partitions held against each other by ==.
-/
namespace Go.Proofs.Ytgbphkbbedkepaa
open Go.RowKit

set_option maxRecDepth 100000

def eqT (a b : T19) : Bool := decide (a.t = b.t) && decide (a.i = b.i)
theorem eqT_iff {a b : T19} : eqT a b = true ↔ a = b := by
  unfold eqT
  rw [Bool.and_eq_true, decide_eq_true_iff, decide_eq_true_iff]
  constructor
  · rintro ⟨h1, h2⟩
    cases a; cases b
    simp only at h1 h2
    rw [h1, h2]
  · rintro rfl
    exact ⟨rfl, rfl⟩
theorem eq_part20 (d : Nat) (p q : T19) (w : World) : (Op.equalIn (d + 2) 24 (tv19 p) (tv19 q)).run Try.prog w = .ok (eqT p q) w := by
  have hS : Try.prog.underlying 24 = some (.struct (Try.prog.fieldsOf 24)) := by kernel_rfl
  have hp : Try.prog.stoodInHeld 24 = false := by kernel_rfl
  have u2 := Try.underlying2
  have i2 := Try.isAgg2
  have z2 := Try.sizeOf2
  have u3 := Try.underlying3
  have i3 := Try.isAgg3
  have z3 := Try.sizeOf3
  rw [run_equalIn_agg w (d + 1) 24 _ _ hS hp]
  simp only [Program.fieldsOf, Try.underlying24]
  go_simp
  obtain ⟨t, i⟩ := p
  obtain ⟨t', i'⟩ := q
  unfold eqT
  by_cases h0 : t = t' <;> by_cases h1 : i = i' <;> simp [h0, h1]
theorem run_eql_part20 (p q : T19) (w : World) : (binOp .eql 24 (tv19 p) (tv19 q)).run Try.prog w = .ok (.bool (eqT p q)) w := by
  rw [run_eql_struct, show (10000 : Nat) = 9998 + 2 from rfl, eq_part20]
  rfl
theorem run_neq_part20 (p q : T19) (w : World) : (binOp .neq 24 (tv19 p) (tv19 q)).run Try.prog w = .ok (.bool (!eqT p q)) w := by
  rw [run_neq_struct, show (10000 : Nat) = 9998 + 2 from rfl, eq_part20]
  rfl

end Go.Proofs.Ytgbphkbbedkepaa

/-
  Stage 20, plain: entries, edits, what is there; what holds of a catalog.
-/
namespace Go.Proofs.Ytgbphkbbedkepaa

set_option maxRecDepth 100000

/-- An entry. -/
structure N20 where
  p : T19
  seg : Int
  mark : Int
  rows : Int
  cold : Bool
instance : Inhabited N20 := ⟨⟨⟨0, 0⟩, 0, 0, 0, false⟩⟩
def in20 (n a b : Int) : Bool := decide (a ≤ n) && decide (n ≤ b)
def right20 (e : N20) : Bool := right19 e.p && (in20 e.seg 1 4611686018427387904 && (in20 e.rows 1 4611686018427387904 && (in20 e.mark 0 4611686018427387904 && (!e.cold || decide (e.p.t = 3)))))
def drop20 (l : List N20) (p : T19) : List N20 × Bool := (l.filter fun e => !eqT e.p p, l.any fun e => eqT e.p p)
/-- Where one more stands: behind the last that stands ahead of it. -/
def pos20 (p : T19) : Nat → Nat → List N20 → Nat
  | _, k, [] => k
  | i, k, e :: r => pos20 p (i + 1) (if less19 e.p p then i + 1 else k) r
def ins20 (l : List N20) (e : N20) : List N20 := l.take (pos20 e.p 0 0 l) ++ e :: l.drop (pos20 e.p 0 0 l)
def put20 (l : List N20) (e : N20) : List N20 × Int := if right20 e = false then ([], 4) else if (l.any fun x => meets19 x.p e.p) = true then ([], 12) else (ins20 l e, 0)
def gone20 : List N20 → List T19 → Option (List N20)
  | o, [] => some o
  | o, p :: r => if (drop20 o p).2 = true then gone20 (drop20 o p).1 r else none
def come20 : List N20 → List N20 → List N20 × Int
  | o, [] => (o, 0)
  | o, e :: r => if (put20 o e).2 ≠ 0 then ([], (put20 o e).2) else come20 (put20 o e).1 r
def apply20 (l : List N20) (g : List T19) (c : List N20) : List N20 × Int :=
  match gone20 l g with
  | none => (l, 11)
  | some o => if (come20 o c).2 ≠ 0 then (l, (come20 o c).2) else ((come20 o c).1, 0)
def zero20 : N20 := ⟨⟨0, 0⟩, 0, 0, 0, false⟩
def at20 (l : List N20) (h : Int) : N20 × Bool := match l.find? (fun e => has19 e.p h) with | some e => (e, true) | none => (zero20, false)
def get20 (l : List N20) (p : T19) : N20 × Bool := match l.find? (fun e => eqT e.p p) with | some e => (e, true) | none => (zero20, false)
def over20 (l : List N20) (a b : Int) : List N20 := l.filter fun e => decide (max (span19 e.p).1 a < min (span19 e.p).2 b)
def insS20 (l : List Int) (s : Int) : List Int := (l.takeWhile fun x => decide (x < s)) ++ s :: (l.dropWhile fun x => decide (x < s))
def segs20 (l : List N20) : List Int := l.foldl (fun o e => insS20 o e.seg) []

/-- What holds of a catalog: entries that are right, each one's hours behind those of the one ahead. -/
structure Ok20 (l : List N20) : Prop where
  right : ∀ e ∈ l, right20 e = true
  up : l.Pairwise fun a b => (span19 a.p).2 ≤ (span19 b.p).1
theorem right_part20 {e : N20} (h : right20 e = true) : right19 e.p = true := by
  unfold right20 at h
  rw [Bool.and_eq_true] at h
  exact h.1
theorem Ok20.nil : Ok20 [] := ⟨(fun _ h => nomatch h), List.Pairwise.nil⟩
theorem Ok20.sub {l m : List N20} (h : Ok20 l) (hs : m.Sublist l) : Ok20 m := ⟨fun e he => h.right e (hs.subset he), h.up.sublist hs⟩
theorem Ok20.drop {l : List N20} (h : Ok20 l) (p : T19) : Ok20 (drop20 l p).1 := h.sub List.filter_sublist
theorem ok_span20 {l : List N20} (h : Ok20 l) {e : N20} (he : e ∈ l) : 0 ≤ (span19 e.p).1 ∧ (span19 e.p).1 ≤ 16777216 ∧ (span19 e.p).1 < (span19 e.p).2 ∧ (span19 e.p).2 ≤ 1000000000 := by
  have h1 := span_start19 (right_part20 (h.right e he))
  have h2 := span_bounds19 e.p
  exact ⟨h1.1, h1.2.1, h1.2.2, h2.2.2.2⟩
theorem ok_over20 {l : List N20} (h : Ok20 l) : over20 l (-4611686018427387904) 4611686018427387904 = l := by
  unfold over20
  rw [List.filter_eq_self]
  intro e he
  have h1 := ok_span20 h he
  rw [decide_eq_true_iff]
  omega

/-- Where one that meets none stands: all ahead of it end where it begins, or ahead; all behind it begin where it ends, or behind. -/
theorem pos_le20 (p : T19) : ∀ (l : List N20) (i k : Nat), k ≤ i → pos20 p i k l ≤ i + l.length
  | [], i, k, h => by unfold pos20; simpa using h
  | e :: r, i, k, h => by
    unfold pos20
    have := pos_le20 p r (i + 1) (if less19 e.p p then i + 1 else k) (by split <;> omega)
    rw [List.length_cons]
    omega
theorem pos_none20 (p : T19) : ∀ (l : List N20) (i k : Nat), (∀ e ∈ l, less19 e.p p = false) → pos20 p i k l = k
  | [], _, _, _ => rfl
  | e :: r, i, k, h => by
    unfold pos20
    rw [h e (List.mem_cons_self ..)]
    exact pos_none20 p r (i + 1) k (fun x hx => h x (List.mem_cons_of_mem _ hx))
theorem pos_split20 (p : T19) : ∀ (l : List N20) (i k : Nat) (a b : List N20), l = a ++ b → (∀ e ∈ a, less19 e.p p = true) → (∀ e ∈ b, less19 e.p p = false) → pos20 p i k l = if a = [] then k else i + a.length
  | l, i, k, [], b, hl, _, hb => by
    rw [List.nil_append] at hl
    rw [if_pos rfl, hl]
    exact pos_none20 p b i k hb
  | [], _, _, e :: a, b, hl, _, _ => by cases hl
  | x :: l, i, k, e :: a, b, hl, ha, hb => by
    rw [List.cons_append] at hl
    injection hl with h1 h2
    subst h1
    unfold pos20
    rw [ha x (List.mem_cons_self ..), if_pos rfl, pos_split20 p l (i + 1) (i + 1) a b h2 (fun y hy => ha y (List.mem_cons_of_mem _ hy)) hb, if_neg (List.cons_ne_nil x a), List.length_cons]
    by_cases h : a = []
    · rw [if_pos h, h]; rfl
    · rw [if_neg h]; omega
theorem meets_not20 {a b : T19} (h : meets19 a b = false) (ha : right19 a = true) (hb : right19 b = true) : (span19 b).2 ≤ (span19 a).1 ∨ (span19 a).2 ≤ (span19 b).1 := by
  unfold meets19 at h
  rw [ha, hb, Bool.true_and, Bool.true_and, Bool.and_eq_false_iff, decide_eq_false_iff_not, decide_eq_false_iff_not] at h
  omega
theorem less_is20 {a b : T19} (h : meets19 a b = false) (ha : right19 a = true) (hb : right19 b = true) : less19 a b = decide ((span19 a).2 ≤ (span19 b).1) := by
  have h1 := meets_not20 h ha hb
  have h2 := span_start19 ha
  have h3 := span_start19 hb
  unfold less19
  rw [ha, hb, Bool.true_and, Bool.true_and, Bool.eq_iff_iff]
  simp only [Bool.or_eq_true, Bool.and_eq_true, decide_eq_true_iff]
  omega
/-- A catalog parts at one that meets none. -/
theorem parts20 {l : List N20} (h : Ok20 l) {p : T19} (hp : right19 p = true) (hm : (l.any fun x => meets19 x.p p) = false) :
    ∃ a b, l = a ++ b ∧ (∀ e ∈ a, (span19 e.p).2 ≤ (span19 p).1) ∧ (∀ e ∈ b, (span19 p).2 ≤ (span19 e.p).1) ∧ pos20 p 0 0 l = a.length := by
  have hm2 : ∀ e ∈ l, meets19 e.p p = false := fun e he => by
    have := List.any_eq_false.1 hm e he
    simpa using this
  refine ⟨l.filter (fun e => decide ((span19 e.p).2 ≤ (span19 p).1)), l.filter (fun e => !decide ((span19 e.p).2 ≤ (span19 p).1)), ?_, ?_, ?_, ?_⟩
  · induction l with
    | nil => rfl
    | cons x r ih =>
      have hr := List.pairwise_cons.1 h.up
      have ihr := ih (h.sub (List.sublist_cons_self ..)) (by rw [List.any_cons, Bool.or_eq_false_iff] at hm; exact hm.2) (fun e he => hm2 e (List.mem_cons_of_mem _ he))
      by_cases hx : (span19 x.p).2 ≤ (span19 p).1
      · rw [List.filter_cons_of_pos (by simpa using hx), List.filter_cons_of_neg (by simpa using hx), List.cons_append, ← ihr]
      · have hb : ∀ e ∈ r, ¬ (span19 e.p).2 ≤ (span19 p).1 := fun e he hc => by
          have h1 := hr.1 e he
          have h2 := ok_span20 h (List.mem_cons_of_mem _ he)
          omega
        rw [List.filter_cons_of_neg (by simpa using hx), List.filter_cons_of_pos (by simpa using hx)]
        have e1 : r.filter (fun e => decide ((span19 e.p).2 ≤ (span19 p).1)) = [] := List.filter_eq_nil_iff.2 (fun e he => by simpa using hb e he)
        have e2 : r.filter (fun e => !decide ((span19 e.p).2 ≤ (span19 p).1)) = r := List.filter_eq_self.2 (fun e he => by simpa using hb e he)
        rw [e1, e2, List.nil_append]
  · intro e he
    simpa using (List.mem_filter.1 he).2
  · intro e he
    obtain ⟨h1, h2⟩ := List.mem_filter.1 he
    have h3 := meets_not20 (hm2 e h1) (right_part20 (h.right e h1)) hp
    have h4 : ¬ (span19 e.p).2 ≤ (span19 p).1 := by simpa using h2
    omega
  · have key : ∀ e ∈ l, less19 e.p p = decide ((span19 e.p).2 ≤ (span19 p).1) := fun e he => less_is20 (hm2 e he) (right_part20 (h.right e he)) hp
    have hsplit : l = l.filter (fun e => decide ((span19 e.p).2 ≤ (span19 p).1)) ++ l.filter (fun e => !decide ((span19 e.p).2 ≤ (span19 p).1)) := by
      clear key
      induction l with
      | nil => rfl
      | cons x r ih =>
        have hr := List.pairwise_cons.1 h.up
        have ihr := ih (h.sub (List.sublist_cons_self ..)) (by rw [List.any_cons, Bool.or_eq_false_iff] at hm; exact hm.2) (fun e he => hm2 e (List.mem_cons_of_mem _ he))
        by_cases hx : (span19 x.p).2 ≤ (span19 p).1
        · rw [List.filter_cons_of_pos (by simpa using hx), List.filter_cons_of_neg (by simpa using hx), List.cons_append, ← ihr]
        · have hb : ∀ e ∈ r, ¬ (span19 e.p).2 ≤ (span19 p).1 := fun e he hc => by
            have h1 := hr.1 e he
            have h2 := ok_span20 h (List.mem_cons_of_mem _ he)
            omega
          rw [List.filter_cons_of_neg (by simpa using hx), List.filter_cons_of_pos (by simpa using hx)]
          have e1 : r.filter (fun e => decide ((span19 e.p).2 ≤ (span19 p).1)) = [] := List.filter_eq_nil_iff.2 (fun e he => by simpa using hb e he)
          have e2 : r.filter (fun e => !decide ((span19 e.p).2 ≤ (span19 p).1)) = r := List.filter_eq_self.2 (fun e he => by simpa using hb e he)
          rw [e1, e2, List.nil_append]
    have hpos := pos_split20 p l 0 0 _ _ hsplit (fun e he => by
      obtain ⟨h1, h2⟩ := List.mem_filter.1 he
      rw [key e h1]; exact h2) (fun e he => by
      obtain ⟨h1, h2⟩ := List.mem_filter.1 he
      rw [key e h1]
      simpa using h2)
    rw [hpos]
    split
    · rename_i h0; rw [h0]; rfl
    · omega
theorem ins_ok20 {l : List N20} (h : Ok20 l) {e : N20} (he : right20 e = true) (hm : (l.any fun x => meets19 x.p e.p) = false) : Ok20 (ins20 l e) := by
  obtain ⟨a, b, hl, ha, hb, hk⟩ := parts20 h (right_part20 he) hm
  unfold ins20
  have e1 : l.take (pos20 e.p 0 0 l) = a := by rw [hk, hl]; exact List.take_left
  have e2 : l.drop (pos20 e.p 0 0 l) = b := by rw [hk, hl]; exact List.drop_left
  rw [e1, e2]
  have hsp := span_start19 (right_part20 he)
  rw [hl] at h
  refine ⟨fun x hx => ?_, ?_⟩
  · rcases List.mem_append.1 hx with hx | hx
    · exact h.right x (List.mem_append_left _ hx)
    · rcases List.mem_cons.1 hx with rfl | hx
      · exact he
      · exact h.right x (List.mem_append_right _ hx)
  · obtain ⟨h1, h2, h3⟩ := List.pairwise_append.1 h.up
    refine List.pairwise_append.2 ⟨h1, List.pairwise_cons.2 ⟨fun x hx => hb x hx, h2⟩, fun x hx y hy => ?_⟩
    rcases List.mem_cons.1 hy with rfl | hy
    · exact ha x hx
    · exact h3 x hx y hy
theorem put_ok20 {l : List N20} (h : Ok20 l) {e : N20} (h0 : (put20 l e).2 = 0) : Ok20 (put20 l e).1 ∧ right20 e = true ∧ (l.any fun x => meets19 x.p e.p) = false ∧ put20 l e = (ins20 l e, 0) := by
  unfold put20 at h0 ⊢
  by_cases h1 : right20 e = false
  · rw [if_pos h1] at h0
    exact absurd h0 (by decide)
  · rw [if_neg h1] at h0 ⊢
    by_cases h2 : (l.any fun x => meets19 x.p e.p) = true
    · rw [if_pos h2] at h0
      exact absurd h0 (by decide)
    · rw [if_neg h2]
      have h3 : right20 e = true := by simpa using h1
      have h4 : (l.any fun x => meets19 x.p e.p) = false := by simpa using h2
      exact ⟨ins_ok20 h h3 h4, h3, h4, rfl⟩
theorem gone_ok20 : ∀ {g : List T19} {l o : List N20}, Ok20 l → gone20 l g = some o → Ok20 o ∧ o.length ≤ l.length
  | [], l, o, h, e => by
    unfold gone20 at e
    cases e
    exact ⟨h, Nat.le_refl _⟩
  | p :: r, l, o, h, e => by
    unfold gone20 at e
    split at e
    · obtain ⟨h1, h2⟩ := gone_ok20 (h.drop p) e
      exact ⟨h1, Nat.le_trans h2 (List.length_filter_le _ _)⟩
    · cases e
theorem ins_len20 (l : List N20) (e : N20) : (ins20 l e).length = l.length + 1 := by
  unfold ins20
  rw [List.length_append, List.length_cons, List.length_take, List.length_drop]
  have := pos_le20 e.p l 0 0 (Nat.le_refl _)
  omega
theorem come_ok20 : ∀ {c o : List N20}, Ok20 o → (come20 o c).2 = 0 → Ok20 (come20 o c).1 ∧ (come20 o c).1.length ≤ o.length + c.length
  | [], o, h, _ => ⟨h, Nat.le_refl _⟩
  | e :: r, o, h, h0 => by
    unfold come20 at h0 ⊢
    by_cases h1 : (put20 o e).2 ≠ 0
    · rw [if_pos h1] at h0
      exact absurd h0 h1
    · rw [if_neg h1] at h0 ⊢
      have h2 : (put20 o e).2 = 0 := by simpa using h1
      obtain ⟨g1, -, -, g4⟩ := put_ok20 h h2
      obtain ⟨k1, k2⟩ := come_ok20 g1 h0
      refine ⟨k1, ?_⟩
      have : (put20 o e).1.length = o.length + 1 := by rw [g4]; exact ins_len20 o e
      rw [List.length_cons]
      omega
theorem apply_ok20 {l : List N20} (h : Ok20 l) (g : List T19) (c : List N20) : Ok20 (apply20 l g c).1 ∧ (apply20 l g c).1.length ≤ l.length + c.length := by
  unfold apply20
  cases hg : gone20 l g with
  | none => exact ⟨h, Nat.le_add_right _ _⟩
  | some o =>
    obtain ⟨h1, h2⟩ := gone_ok20 h hg
    dsimp only
    split
    · exact ⟨h, Nat.le_add_right _ _⟩
    · rename_i h3
      obtain ⟨h4, h5⟩ := come_ok20 h1 (c := c) (by simpa using h3)
      exact ⟨h4, by dsimp only; omega⟩
theorem apply_bad20 {l : List N20} {g : List T19} {c : List N20} (h : (apply20 l g c).2 ≠ 0) : (apply20 l g c).1 = l := by
  unfold apply20 at h ⊢
  cases hg : gone20 l g with
  | none => rfl
  | some o =>
    rw [hg] at h
    dsimp only at h ⊢
    split
    · rfl
    · rename_i h3
      rw [if_neg h3] at h
      exact absurd rfl h
/-- Each hour is in one entry at most. -/
theorem once20 {l : List N20} (h : Ok20 l) (x : Int) : (l.filter fun e => has19 e.p x).length ≤ 1 ∧ ((at20 l x).2 = true ↔ (l.filter fun e => has19 e.p x).length = 1) := by
  have key : (l.filter fun e => has19 e.p x).length ≤ 1 := by
    induction l with
    | nil => exact Nat.zero_le _
    | cons y r ih =>
      have hr := List.pairwise_cons.1 h.up
      have ihr := ih (h.sub (List.sublist_cons_self ..))
      by_cases hy : has19 y.p x = true
      · rw [List.filter_cons_of_pos (by simpa using hy)]
        have : r.filter (fun e => has19 e.p x) = [] := List.filter_eq_nil_iff.2 (fun e he => by
          have h1 := hr.1 e he
          unfold has19 at hy ⊢
          simp only [Bool.and_eq_true, decide_eq_true_iff] at hy ⊢
          omega)
        rw [this]
        exact Nat.le_refl _
      · rw [List.filter_cons_of_neg (by simpa using hy)]
        exact ihr
  refine ⟨key, ?_⟩
  unfold at20
  cases hf : l.find? (fun e => has19 e.p x) with
  | none =>
    have h1 := List.find?_eq_none.1 hf
    have h2 : l.filter (fun e => has19 e.p x) = [] := List.filter_eq_nil_iff.2 (fun e he => by simpa using h1 e he)
    rw [h2]
    simp
  | some e =>
    have h1 := List.find?_some hf
    have h2 := List.mem_of_find?_eq_some hf
    have h3 : e ∈ l.filter (fun e => has19 e.p x) := List.mem_filter.2 ⟨h2, h1⟩
    have h4 := List.length_pos_of_mem h3
    simp
    omega
theorem over_has20 (e : N20) (x : Int) : over20 [e] x (x + 1) = if has19 e.p x then [e] else [] := by
  unfold over20 has19
  by_cases h : (span19 e.p).1 ≤ x ∧ x < (span19 e.p).2
  · rw [decide_eq_true h.1, decide_eq_true h.2, List.filter_cons_of_pos (by rw [decide_eq_true_iff]; omega)]
    rfl
  · rw [List.filter_cons_of_neg (by rw [decide_eq_true_iff]; omega), if_neg (by rw [Bool.and_eq_true, decide_eq_true_iff, decide_eq_true_iff]; exact h)]
    rfl

end Go.Proofs.Ytgbphkbbedkepaa

/-
  Stage 19: the document's Of, Within, Meets, Less.
-/
namespace Go.Proofs.Ytgbphkbbedkepaa
open Go.RowKit

set_option maxRecDepth 100000

def OfP19 (t h : Int) (w : World) (e : Ending) (w' : World) : Prop := e = .returned (.tuple #[tv19 (of19 t h).1, .bool (of19 t h).2]) ∧ Turn (fun _ => False) w w'
theorem ofp19 {t h : Int} {w w' : World} {p : T19} {b : Bool} (e : of19 t h = (p, b)) (ht : Turn (fun _ => False) w w') : OfP19 t h w (.returned (.tuple #[tv19 p, .bool b])) w' := ⟨by rw [e], ht⟩
set_option maxHeartbeats 8000000 in
theorem ref_meets19 (a b : T19) (w : World) : Calls Try.prog 61 #[tv19 a, tv19 b] w fun e w' => e = .returned (.bool (meets19 a b)) ∧ Turn (fun _ => False) w w' := by
  obtain ⟨g, hg⟩ : ∃ g, g = w.heap.size := ⟨_, rfl⟩
  obtain ⟨k, hk⟩ : ∃ k, k = w.heap.size + 1 := ⟨_, rfl⟩
  obtain ⟨wb, hwb⟩ : ∃ wb, wb = (w.alloc (.cells (tcells19 a) 24)).alloc (.cells (tcells19 b) 24) := ⟨_, rfl⟩
  have HT : Hid (Turn (fun _ => False) w wb) := by rw [hwb]; exact ((Turn.refl _ w).alloc _).alloc _
  have HA : Hid (Box wb g 24 (tcells19 a)) := by rw [hwb, hg]; exact (Box.new w _ _).alloc _
  have HB : Hid (Box wb k 24 (tcells19 b)) := by
    have h := Box.new (w.alloc (.cells (tcells19 a) 24)) 24 (tcells19 b)
    rw [World.size_alloc] at h
    rw [hwb, hk]
    exact h
  obtain ⟨z0, z1⟩ := box_t19 HA.out
  rw [hwb, hg] at z0 z1
  have HSA := Lib.hid (ref_span19 a wb)
  have HSB : Hid (∀ W, Calls Try.prog 33 #[tv19 b] W fun e w' => e = .returned (.tuple #[.int .i64 (span19 b).1, .int .i64 (span19 b).2]) ∧ Turn (fun _ => False) W w') := fun W => ref_span19 b W
  have HRA : Hid (∀ W, Calls Try.prog 49 #[tv19 a] W fun e w' => e = .returned (.bool (right19 a)) ∧ Turn (fun _ => False) W w') := fun W => ref_right19 a W
  have HRB : Hid (∀ W, Calls Try.prog 49 #[tv19 b] W fun e w' => e = .returned (.bool (right19 b)) ∧ Turn (fun _ => False) W w') := fun W => ref_right19 b W
  have HX : Hid (True → meets19 a b = (right19 a && (right19 b && (decide ((span19 a).1 < (span19 b).2) && decide ((span19 b).1 < (span19 a).2))))) := fun _ => rfl
  have HWB := Lib.hid hwb; have HG := Lib.hid hg; have HK := Lib.hid hk
  generalize meets19 a b = z at *
  generalize right19 a = ra at *
  generalize right19 b = rb at *
  generalize (span19 a).1 = x at *
  generalize (span19 a).2 = y at *
  generalize (span19 b).1 = u at *
  generalize (span19 b).2 = v at *
  clear hwb hg hk
  go_enter Try.func61, Try.ntmps61
  go_wp2_with fail
  rw [← HWB.out, ← HK.out, ← HG.out]
  refine HSA.out.mono ?_
  rintro e w1 ⟨rfl, t1⟩
  have HT1 := Lib.hid t1
  clear t1 z0 z1 HSA
  obtain ⟨y0, y1⟩ := box_t19 (HB.out.turn HT1.out (fun f => f))
  go_wp2_with fail
  refine (HSB.out w1).mono ?_
  rintro e w2 ⟨rfl, t2⟩
  have HT2 := Lib.hid (HT1.out.trans t2 (fun _ _ f => f))
  clear t2 y0 y1 HSB
  obtain ⟨x0, x1⟩ := box_t19 (HA.out.turn HT2.out (fun f => f))
  go_wp2_with fail
  refine (HRA.out w2).mono ?_
  rintro e w3 ⟨rfl, t3⟩
  have HT3 := Lib.hid (HT2.out.trans t3 (fun _ _ f => f))
  clear t3 x0 x1 HRA
  cases ra with
  | false =>
    have HE : Hid (True → z = false) := HX.out
    clear HX
    go_wp2
    go_ret
    exact ⟨by rw [HE.out trivial]; rfl, HT.out.trans HT3.out (fun _ _ f => f)⟩
  | true =>
    obtain ⟨y0, y1⟩ := box_t19 (HB.out.turn HT3.out (fun f => f))
    go_wp2_with fail
    refine (HRB.out w3).mono ?_
    rintro e w4 ⟨rfl, t4⟩
    have HT4 := Lib.hid (HT3.out.trans t4 (fun _ _ f => f))
    clear t4 y0 y1 HRB
    obtain ⟨x0, x1⟩ := box_t19 (HA.out.turn HT4.out (fun f => f))
    obtain ⟨y0, y1⟩ := box_t19 (HB.out.turn HT4.out (fun f => f))
    cases rb with
    | false =>
      have HE : Hid (True → z = false) := HX.out
      clear HX
      go_wp2
      go_ret
      exact ⟨by rw [HE.out trivial]; rfl, HT.out.trans HT4.out (fun _ _ f => f)⟩
    | true =>
      have HX2 : Hid (True → z = (decide (x < v) && decide (u < y))) := HX.out
      clear HX
      by_cases h1 : x < v
      · by_cases h2 : u < y
        · have HE : Hid (True → z = true) := fun _ => by rw [HX2.out trivial, decide_eq_true h1, decide_eq_true h2]; rfl
          go_wp2
          go_ret
          exact ⟨by rw [HE.out trivial]; first | rfl | exact ret_bool (decide_eq_true (by omega)) | exact ret_bool (decide_eq_false (by omega)) | exact ret_bool (by simp; omega), HT.out.trans HT4.out (fun _ _ f => f)⟩
        · have HE : Hid (True → z = false) := fun _ => by rw [HX2.out trivial, decide_eq_false h2, Bool.and_false]
          go_wp2
          go_ret
          exact ⟨by rw [HE.out trivial]; first | rfl | exact ret_bool (decide_eq_true (by omega)) | exact ret_bool (decide_eq_false (by omega)) | exact ret_bool (by simp; omega), HT.out.trans HT4.out (fun _ _ f => f)⟩
      · have HE : Hid (True → z = false) := fun _ => by rw [HX2.out trivial, decide_eq_false h1, Bool.false_and]
        go_wp2
        go_ret
        exact ⟨by rw [HE.out trivial]; first | rfl | exact ret_bool (decide_eq_true (by omega)) | exact ret_bool (decide_eq_false (by omega)) | exact ret_bool (by simp; omega), HT.out.trans HT4.out (fun _ _ f => f)⟩

set_option maxHeartbeats 8000000 in
theorem ref_less19 (a b : T19) (w : World) : Calls Try.prog 62 #[tv19 a, tv19 b] w fun e w' => e = .returned (.bool (less19 a b)) ∧ Turn (fun _ => False) w w' := by
  obtain ⟨g, hg⟩ : ∃ g, g = w.heap.size := ⟨_, rfl⟩
  obtain ⟨k, hk⟩ : ∃ k, k = w.heap.size + 1 := ⟨_, rfl⟩
  obtain ⟨wb, hwb⟩ : ∃ wb, wb = (w.alloc (.cells (tcells19 a) 24)).alloc (.cells (tcells19 b) 24) := ⟨_, rfl⟩
  have HT : Hid (Turn (fun _ => False) w wb) := by rw [hwb]; exact ((Turn.refl _ w).alloc _).alloc _
  have HA : Hid (Box wb g 24 (tcells19 a)) := by rw [hwb, hg]; exact (Box.new w _ _).alloc _
  have HB : Hid (Box wb k 24 (tcells19 b)) := by
    have h := Box.new (w.alloc (.cells (tcells19 a) 24)) 24 (tcells19 b)
    rw [World.size_alloc] at h
    rw [hwb, hk]
    exact h
  obtain ⟨z0, z1⟩ := box_t19 HA.out
  rw [hwb, hg] at z0 z1
  have HSA := Lib.hid (ref_span19 a wb)
  have HSB : Hid (∀ W, Calls Try.prog 33 #[tv19 b] W fun e w' => e = .returned (.tuple #[.int .i64 (span19 b).1, .int .i64 (span19 b).2]) ∧ Turn (fun _ => False) W w') := fun W => ref_span19 b W
  have HRA : Hid (∀ W, Calls Try.prog 49 #[tv19 a] W fun e w' => e = .returned (.bool (right19 a)) ∧ Turn (fun _ => False) W w') := fun W => ref_right19 a W
  have HRB : Hid (∀ W, Calls Try.prog 49 #[tv19 b] W fun e w' => e = .returned (.bool (right19 b)) ∧ Turn (fun _ => False) W w') := fun W => ref_right19 b W
  have HX : Hid (True → less19 a b = (right19 a && (right19 b && (decide ((span19 a).1 < (span19 b).1) || (decide ((span19 a).1 = (span19 b).1) && decide (a.t < b.t)))))) := fun _ => rfl
  have HWB := Lib.hid hwb; have HG := Lib.hid hg; have HK := Lib.hid hk
  generalize less19 a b = z at *
  generalize right19 a = ra at *
  generalize right19 b = rb at *
  generalize (span19 a).1 = x at *
  generalize (span19 a).2 = y at *
  generalize (span19 b).1 = u at *
  generalize (span19 b).2 = v at *
  clear hwb hg hk
  go_enter Try.func62, Try.ntmps62
  go_wp2_with fail
  rw [← HWB.out, ← HK.out, ← HG.out]
  refine HSA.out.mono ?_
  rintro e w1 ⟨rfl, t1⟩
  have HT1 := Lib.hid t1
  clear t1 z0 z1 HSA
  obtain ⟨y0, y1⟩ := box_t19 (HB.out.turn HT1.out (fun f => f))
  go_wp2_with fail
  refine (HSB.out w1).mono ?_
  rintro e w2 ⟨rfl, t2⟩
  have HT2 := Lib.hid (HT1.out.trans t2 (fun _ _ f => f))
  clear t2 y0 y1 HSB
  obtain ⟨x0, x1⟩ := box_t19 (HA.out.turn HT2.out (fun f => f))
  go_wp2_with fail
  refine (HRA.out w2).mono ?_
  rintro e w3 ⟨rfl, t3⟩
  have HT3 := Lib.hid (HT2.out.trans t3 (fun _ _ f => f))
  clear t3 x0 x1 HRA
  cases ra with
  | false =>
    have HE : Hid (True → z = false) := HX.out
    clear HX
    go_wp2
    go_ret
    exact ⟨by rw [HE.out trivial]; rfl, HT.out.trans HT3.out (fun _ _ f => f)⟩
  | true =>
    obtain ⟨y0, y1⟩ := box_t19 (HB.out.turn HT3.out (fun f => f))
    go_wp2_with fail
    refine (HRB.out w3).mono ?_
    rintro e w4 ⟨rfl, t4⟩
    have HT4 := Lib.hid (HT3.out.trans t4 (fun _ _ f => f))
    clear t4 y0 y1 HRB
    obtain ⟨x0, x1⟩ := box_t19 (HA.out.turn HT4.out (fun f => f))
    obtain ⟨y0, y1⟩ := box_t19 (HB.out.turn HT4.out (fun f => f))
    cases rb with
    | false =>
      have HE : Hid (True → z = false) := HX.out
      clear HX
      go_wp2
      go_ret
      exact ⟨by rw [HE.out trivial]; rfl, HT.out.trans HT4.out (fun _ _ f => f)⟩
    | true =>
      have HX2 : Hid (True → z = (decide (x < u) || (decide (x = u) && decide (a.t < b.t)))) := HX.out
      clear HX
      by_cases h1 : x < u
      · have HE : Hid (True → z = true) := fun _ => by rw [HX2.out trivial, decide_eq_true h1]; rfl
        go_wp2
        go_ret
        exact ⟨by rw [HE.out trivial]; first | rfl | exact ret_bool (decide_eq_true (by omega)) | exact ret_bool (decide_eq_false (by omega)) | exact ret_bool (by simp; omega), HT.out.trans HT4.out (fun _ _ f => f)⟩
      · by_cases h2 : x = u
        · have e2 : (x == u) = true := by rw [beq_iff_eq]; exact h2
          by_cases h3 : a.t < b.t
          · have HE : Hid (True → z = true) := fun _ => by rw [HX2.out trivial, decide_eq_true h2, decide_eq_true h3, Bool.and_true, Bool.or_true]
            clear h2
            go_wp2
            go_ret
            exact ⟨by rw [HE.out trivial]; first | rfl | exact ret_bool (decide_eq_true (by omega)) | exact ret_bool (decide_eq_false (by omega)) | exact ret_bool (by simp; omega), HT.out.trans HT4.out (fun _ _ f => f)⟩
          · have HE : Hid (True → z = false) := fun _ => by rw [HX2.out trivial, decide_eq_false h1, decide_eq_false h3, Bool.and_false]; rfl
            clear h2
            go_wp2
            go_ret
            exact ⟨by rw [HE.out trivial]; first | rfl | exact ret_bool (decide_eq_true (by omega)) | exact ret_bool (decide_eq_false (by omega)) | exact ret_bool (by simp; omega), HT.out.trans HT4.out (fun _ _ f => f)⟩
        · have e2 : (x == u) = false := by rw [beq_eq_false_iff_ne]; exact h2
          have HE : Hid (True → z = false) := fun _ => by rw [HX2.out trivial, decide_eq_false h1, decide_eq_false h2]; rfl
          clear h2
          go_wp2
          go_ret
          exact ⟨by rw [HE.out trivial]; first | rfl | exact ret_bool (decide_eq_true (by omega)) | exact ret_bool (decide_eq_false (by omega)) | exact ret_bool (by simp; omega), HT.out.trans HT4.out (fun _ _ f => f)⟩

end Go.Proofs.Ytgbphkbbedkepaa

/-
  Stage 19: the document's Due, Best.
-/
namespace Go.Proofs.Ytgbphkbbedkepaa
open Go.RowKit

set_option maxRecDepth 100000

theorem lag_le19 {y : Y18} (h : OkY y) (t : Int) : 0 ≤ (lagY y t).1 ∧ (lagY y t).1 ≤ 1048576 := by
  have h1 := h.sl; have h2 := h.dl; have h3 := h.ml
  unfold lagY
  split
  · exact h1
  · split
    · exact h2
    · split
      · exact h3
      · decide

end Go.Proofs.Ytgbphkbbedkepaa

/-
  Stage 19: what is asked of the program's part; alive; PartSpans, PartPairs, PartDues over any program.
-/
namespace Go.Proofs.Ytgbphkbbedkepaa
open Go.RowKit

set_option maxRecDepth 100000

theorem alive_is19 : span19 ⟨2, 1⟩ = (24, 48) ∧ right19 ⟨3, 0⟩ = true := by decide
end Go.Proofs.Ytgbphkbbedkepaa
