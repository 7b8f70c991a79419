/-
  Texts laid one behind the other: R3a R3b R3g R3k R3r R3c R3s R3t.
-/
import Derived.Test.YtmpgfipfijbbkaaJocae
import Derived.Test.YtmpgfipfijbbkaaJocaf
import Derived.Laws.StructEq

/-
  Stage 19: partitions, plain; the document's most, Right, Span.
-/
namespace Go.Proofs.Ytmpgfipfijbbkaa
open Go.RowKit

set_option maxRecDepth 100000

/-- The month of a day; its first day, and the one behind its last. -/
def mo19 (N : Nat) : Nat := 12 * ((dateOf N).1 - 1970) + ((dateOf N).2.1 - 1)
def ma19 (n : Nat) : Nat := num (1970 + n / 12) (n % 12 + 1) 1
def mb19 (n : Nat) : Nat := num (1970 + n / 12) (n % 12 + 1) 1 + mlen (1970 + n / 12) (n % 12 + 1)
theorem mo_max19 : mo19 699050 = 22967 := by decide +kernel
theorem mb_le19 {n : Nat} (h : n ≤ 35000) : ma19 n ≤ 40000000 ∧ mb19 n ≤ 40000031 := by
  have l1 := num_le (y := 1970 + n / 12) (m := n % 12 + 1) (by omega) (by omega) (by omega) (by omega)
  have l2 := mlen_le (1970 + n / 12) (n % 12 + 1)
  unfold ma19 mb19
  omega
/-- A partition: its tier, its index. -/
structure T19 where
  t : Int
  i : Int
abbrev tcells19 (p : T19) : Array Value := #[.int .i64 p.t, .int .i64 p.i]
abbrev tv19 (p : T19) : Value := .agg (tcells19 p)
def most19 (t : Int) : Int := if t = 1 then 16777216 else if t = 2 then 699050 else if t = 3 then 22967 else -1
def right19 (p : T19) : Bool := decide (0 ≤ p.i) && decide (p.i ≤ most19 p.t)
def span19 (p : T19) : Int × Int :=
  if right19 p = true then
    if p.t = 1 then (p.i, p.i + 1) else if p.t = 2 then (24 * p.i, 24 * (p.i + 1)) else (24 * (ma19 p.i.toNat : Int), 24 * (mb19 p.i.toNat : Int))
  else (0, 0)
def of19 (t h : Int) : T19 × Bool :=
  if h < 0 ∨ 16777216 < h ∨ most19 t < 0 then (⟨0, 0⟩, false)
  else if t = 1 then (⟨t, h⟩, true) else if t = 2 then (⟨t, h / 24⟩, true) else (⟨t, (mo19 (h / 24).toNat : Int)⟩, true)
def has19 (p : T19) (h : Int) : Bool := decide ((span19 p).1 ≤ h) && decide (h < (span19 p).2)
def within19 (a b : T19) : Bool := right19 a && (right19 b && (decide ((span19 b).1 ≤ (span19 a).1) && decide ((span19 a).2 ≤ (span19 b).2)))
def meets19 (a b : T19) : Bool := right19 a && (right19 b && (decide ((span19 a).1 < (span19 b).2) && decide ((span19 b).1 < (span19 a).2)))
def less19 (a b : T19) : Bool := right19 a && (right19 b && (decide ((span19 a).1 < (span19 b).1) || (decide ((span19 a).1 = (span19 b).1) && decide (a.t < b.t))))
def due19 (p : T19) (y : Y18) (h : Int) : Bool := right19 p && (okY y && decide ((span19 p).2 + (lagY y p.t).1 ≤ h))
def best19 (f : Int) (y : Y18) (h : Int) : Nat → Int
  | 0 => 0
  | k + 1 => if (of19 ((k : Int) + 1) f).2 && due19 (of19 ((k : Int) + 1) f).1 y h then (k : Int) + 1 else best19 f y h k
theorem box_t19 {W : World} {g : Nat} {t : TypeId} {p : T19} (h : Box W g t (tcells19 p)) : W.cell? ⟨g, 0, none⟩ = some (.int .i64 p.t) ∧ W.cell? ⟨g, 1, none⟩ = some (.int .i64 p.i) := ⟨h.cell 0, h.cell 1⟩

set_option maxHeartbeats 4000000 in
theorem ref_most19 (t : Int) (w : World) : Calls Try.prog 29 #[.int .i64 t] w fun e w' => e = .returned (.int .i64 (most19 t)) ∧ w = w' := by
  have HMO : Hid (Calls Try.prog 30 #[.int .i64 699050] w fun e w' => e = .returned (.int .i64 22967) ∧ w = w') := by
    have h := ref_month 699050 w (by omega)
    rw [show (12 * ((dateOf 699050).1 - 1970) + ((dateOf 699050).2.1 - 1) : Nat) = 22967 from mo_max19] at h
    exact h
  by_cases h1 : t = 1
  · have HL : Hid (most19 t = 16777216) := if_pos h1
    have e1 : (t == 1) = true := by rw [beq_iff_eq]; exact h1
    clear h1
    go_enter Try.func29, Try.ntmps29
    go_wp2_with (go_at_call 30; refine HMO.out.mono ?_; rintro e w' ⟨rfl, rfl⟩)
    go_ret
    exact ⟨by rw [HL.out]; rfl, rfl⟩
  · have e1 : (t == 1) = false := by rw [beq_eq_false_iff_ne]; exact h1
    by_cases h2 : t = 2
    · have HL : Hid (most19 t = 699050) := (if_neg h1).trans (if_pos h2)
      have e2 : (t == 2) = true := by rw [beq_iff_eq]; exact h2
      clear h1 h2
      go_enter Try.func29, Try.ntmps29
      go_wp2_with (go_at_call 30; refine HMO.out.mono ?_; rintro e w' ⟨rfl, rfl⟩)
      go_ret
      exact ⟨by rw [HL.out]; rfl, rfl⟩
    · have e2 : (t == 2) = false := by rw [beq_eq_false_iff_ne]; exact h2
      by_cases h3 : t = 3
      · have HL : Hid (most19 t = 22967) := (if_neg h1).trans ((if_neg h2).trans (if_pos h3))
        have e3 : (t == 3) = true := by rw [beq_iff_eq]; exact h3
        clear h1 h2 h3
        go_enter Try.func29, Try.ntmps29
        go_wp2_with (go_at_call 30; refine HMO.out.mono ?_; rintro e w' ⟨rfl, rfl⟩)
        go_ret
        exact ⟨by rw [HL.out]; rfl, rfl⟩
      · have HL : Hid (most19 t = -1) := (if_neg h1).trans ((if_neg h2).trans (if_neg h3))
        have e3 : (t == 3) = false := by rw [beq_eq_false_iff_ne]; exact h3
        clear h1 h2 h3
        go_enter Try.func29, Try.ntmps29
        go_wp2_with (go_at_call 30; refine HMO.out.mono ?_; rintro e w' ⟨rfl, rfl⟩)
        go_ret
        exact ⟨by rw [HL.out]; rfl, rfl⟩

set_option maxHeartbeats 4000000 in
theorem ref_right19 (p : T19) (w : World) : Calls Try.prog 12 #[tv19 p] w fun e w' => e = .returned (.bool (right19 p)) ∧ Turn (fun _ => False) w w' := by
  obtain ⟨wb, hwb⟩ : ∃ wb, wb = w.alloc (.cells (tcells19 p) 23) := ⟨_, rfl⟩
  obtain ⟨g, hg⟩ : ∃ g, g = w.heap.size := ⟨_, rfl⟩
  have HT : Hid (Turn (fun _ => False) w wb) := by rw [hwb]; exact (Turn.refl _ w).alloc _
  have HBX : Hid (Box wb g 23 (tcells19 p)) := by rw [hwb, hg]; exact Box.new w _ _
  have HLD : Hid (∀ W, Turn (fun _ => False) wb W → W.cell? ⟨g, 0, none⟩ = some (.int .i64 p.t) ∧ W.cell? ⟨g, 1, none⟩ = some (.int .i64 p.i)) := fun W hW => box_t19 (HBX.out.turn hW (fun f => f))
  have HMS : Hid (∀ W, Calls Try.prog 29 #[.int .i64 p.t] W fun e w' => e = .returned (.int .i64 (most19 p.t)) ∧ Turn (fun _ => False) W w') := fun W => (ref_most19 p.t W).mono (by rintro e w' ⟨rfl, rfl⟩; exact ⟨rfl, Turn.refl _ _⟩)
  have HR : Hid (right19 p = (decide (0 ≤ p.i) && decide (p.i ≤ most19 p.t))) := rfl
  have HWB := Lib.hid hwb; have HG := Lib.hid hg
  generalize right19 p = x at *
  generalize most19 p.t = M at *
  clear hwb hg
  by_cases h0 : 0 ≤ p.i
  · have HDUM : Hid True := trivial
    go_enter Try.func12, Try.ntmps12
    go_wp2_with fail
    rw [← HWB.out, ← HG.out]
    refine drawn_region (fun W => Turn (fun _ => False) wb W) [] (by kernel_rfl) ?_
    have hS0 : Turn (fun _ => False) wb (World.drew wb) := (Turn.refl _ wb).drew
    generalize World.drew wb = wd at *
    refine drawn_take 0 3 (.pointer (some ⟨g, 1, none⟩)) rfl rfl (by kernel_rfl) (by kernel_rfl) (by kernel_rfl) (by kernel_rfl) (fun _ _ _ h => h) (by rfl) (by assumption) (by intro w hSw; obtain hS1 := hSw; go_simp) ?_
    try simp only [List.setIfInBounds_toArray, List.set_cons_zero, List.set_cons_succ]
    refine drawn_take 1 4 (.int .i64 p.i) rfl rfl (by kernel_rfl) (by kernel_rfl) (by kernel_rfl) (by kernel_rfl) (fun _ _ _ h => h) (by rfl) (by assumption) (by intro w hSw; obtain ⟨b0, b1⟩ := HLD.out _ hSw; clear hSw; go_simp) ?_
    try simp only [List.setIfInBounds_toArray, List.set_cons_zero, List.set_cons_succ]
    refine drawn_take 2 5 (.bool true) rfl rfl (by kernel_rfl) (by kernel_rfl) (by kernel_rfl) (by kernel_rfl) (fun _ _ _ h => h) (by rfl) (by assumption) (by intro w hSw; obtain hS1 := hSw; go_simp) ?_
    try simp only [List.setIfInBounds_toArray, List.set_cons_zero, List.set_cons_succ]
    refine drawn_take 3 6 (.bool true) rfl rfl (by kernel_rfl) (by kernel_rfl) (by kernel_rfl) (by kernel_rfl) (fun _ _ _ h => h) (by rfl) (by assumption) (by intro w hSw; obtain hS1 := hSw; go_simp) ?_
    try simp only [List.setIfInBounds_toArray, List.set_cons_zero, List.set_cons_succ]
    refine drawn_take 4 7 (.pointer (some ⟨g, 1, none⟩)) rfl rfl (by kernel_rfl) (by kernel_rfl) (by kernel_rfl) (by kernel_rfl) (fun _ _ _ h => h) (by rfl) (by assumption) (by intro w hSw; obtain hS1 := hSw; go_simp) ?_
    try simp only [List.setIfInBounds_toArray, List.set_cons_zero, List.set_cons_succ]
    refine drawn_take 5 8 (.int .i64 p.i) rfl rfl (by kernel_rfl) (by kernel_rfl) (by kernel_rfl) (by kernel_rfl) (fun _ _ _ h => h) (by rfl) (by assumption) (by intro w hSw; obtain ⟨b0, b1⟩ := HLD.out _ hSw; clear hSw; go_simp) ?_
    try simp only [List.setIfInBounds_toArray, List.set_cons_zero, List.set_cons_succ]
    refine drawn_take 6 9 (.pointer (some ⟨g, 0, none⟩)) rfl rfl (by kernel_rfl) (by kernel_rfl) (by kernel_rfl) (by kernel_rfl) (fun _ _ _ h => h) (by rfl) (by assumption) (by intro w hSw; obtain hS1 := hSw; go_simp) ?_
    try simp only [List.setIfInBounds_toArray, List.set_cons_zero, List.set_cons_succ]
    refine drawn_take 7 10 (.int .i64 p.t) rfl rfl (by kernel_rfl) (by kernel_rfl) (by kernel_rfl) (by kernel_rfl) (fun _ _ _ h => h) (by rfl) (by assumption) (by intro w hSw; obtain ⟨b0, b1⟩ := HLD.out _ hSw; clear hSw; go_simp) ?_
    try simp only [List.setIfInBounds_toArray, List.set_cons_zero, List.set_cons_succ]
    refine drawn_any [8] (by kernel_rfl) (by simp) ?_
    refine drawn_cons rfl (fun K1 hK => ?_) drawn_nil
    go_simp
    refine (HMS.out _).mono ?_
    rintro e wn ⟨rfl, tn⟩
    have hSn := hS0.trans tn (fun _ _ f => f)
    refine hK.out _ _ _ hSn ?_
    clear hK K1 tn hS0
    have hS0 := hSn
    clear hSn
    try simp only [List.setIfInBounds_toArray, List.set_cons_zero, List.set_cons_succ]
    by_cases h1 : p.i ≤ M
    · have HB : Hid (x = true) := by show _ = _; rw [HR.out, decide_eq_true h0, decide_eq_true h1]; rfl
      refine drawn_take 9 12 (.bool true) rfl rfl (by kernel_rfl) (by kernel_rfl) (by kernel_rfl) (by kernel_rfl) (fun _ _ _ h => h) (by rfl) (by assumption) (by intro w hSw; obtain hS1 := hSw; go_simp) ?_
      try simp only [List.setIfInBounds_toArray, List.set_cons_zero, List.set_cons_succ]
      refine drawn_take 10 13 (.bool true) rfl rfl (by kernel_rfl) (by kernel_rfl) (by kernel_rfl) (by kernel_rfl) (fun _ _ _ h => h) (by rfl) (by assumption) (by intro w hSw; obtain hS1 := hSw; go_simp) ?_
      try simp only [List.setIfInBounds_toArray, List.set_cons_zero, List.set_cons_succ]
      refine drawn_last1 11 2 (.bool true) rfl rfl (by kernel_rfl) (by kernel_rfl) (by rfl) (by intro w; go_simp) hS0 ?_
      try simp only [List.setIfInBounds_toArray, List.set_cons_zero, List.set_cons_succ]
      have HTE := Lib.hid hS0
      clear hS0
      go_wp2
      go_ret
      exact ⟨by rw [HB.out]; rfl, HT.out.trans HTE.out (fun _ _ f => f)⟩
    · have HB : Hid (x = false) := by show _ = _; rw [HR.out, decide_eq_true h0, decide_eq_false h1]; rfl
      refine drawn_take 9 12 (.bool false) rfl rfl (by kernel_rfl) (by kernel_rfl) (by kernel_rfl) (by kernel_rfl) (fun _ _ _ h => h) (by rfl) (by assumption) (by intro w hSw; obtain hS1 := hSw; go_simp) ?_
      try simp only [List.setIfInBounds_toArray, List.set_cons_zero, List.set_cons_succ]
      refine drawn_take 10 13 (.bool false) rfl rfl (by kernel_rfl) (by kernel_rfl) (by kernel_rfl) (by kernel_rfl) (fun _ _ _ h => h) (by rfl) (by assumption) (by intro w hSw; obtain hS1 := hSw; go_simp) ?_
      try simp only [List.setIfInBounds_toArray, List.set_cons_zero, List.set_cons_succ]
      refine drawn_last1 11 2 (.bool false) rfl rfl (by kernel_rfl) (by kernel_rfl) (by rfl) (by intro w; go_simp) hS0 ?_
      try simp only [List.setIfInBounds_toArray, List.set_cons_zero, List.set_cons_succ]
      have HTE := Lib.hid hS0
      clear hS0
      go_wp2
      go_ret
      exact ⟨by rw [HB.out]; rfl, HT.out.trans HTE.out (fun _ _ f => f)⟩
  · have HB : Hid (x = false) := by show _ = _; rw [HR.out, decide_eq_false h0]; rfl
    go_enter Try.func12, Try.ntmps12
    go_wp2_with fail
    rw [← HWB.out, ← HG.out]
    refine drawn_region (fun W => Turn (fun _ => False) wb W) [] (by kernel_rfl) ?_
    have hS0 : Turn (fun _ => False) wb (World.drew wb) := (Turn.refl _ wb).drew
    generalize World.drew wb = wd at *
    refine drawn_take 0 3 (.pointer (some ⟨g, 1, none⟩)) rfl rfl (by kernel_rfl) (by kernel_rfl) (by kernel_rfl) (by kernel_rfl) (fun _ _ _ h => h) (by rfl) (by assumption) (by intro w hSw; obtain hS1 := hSw; go_simp) ?_
    try simp only [List.setIfInBounds_toArray, List.set_cons_zero, List.set_cons_succ]
    refine drawn_take 1 4 (.int .i64 p.i) rfl rfl (by kernel_rfl) (by kernel_rfl) (by kernel_rfl) (by kernel_rfl) (fun _ _ _ h => h) (by rfl) (by assumption) (by intro w hSw; obtain ⟨b0, b1⟩ := HLD.out _ hSw; clear hSw; go_simp) ?_
    try simp only [List.setIfInBounds_toArray, List.set_cons_zero, List.set_cons_succ]
    refine drawn_take 2 5 (.bool false) rfl rfl (by kernel_rfl) (by kernel_rfl) (by kernel_rfl) (by kernel_rfl) (fun _ _ _ h => h) (by rfl) (by assumption) (by intro w hSw; obtain hS1 := hSw; go_simp) ?_
    try simp only [List.setIfInBounds_toArray, List.set_cons_zero, List.set_cons_succ]
    refine drawn_take 3 6 (.bool false) rfl rfl (by kernel_rfl) (by kernel_rfl) (by kernel_rfl) (by kernel_rfl) (fun _ _ _ h => h) (by rfl) (by assumption) (by intro w hSw; obtain hS1 := hSw; go_simp) ?_
    try simp only [List.setIfInBounds_toArray, List.set_cons_zero, List.set_cons_succ]
    refine drawn_skip 4 7 rfl rfl (by kernel_rfl) (by kernel_rfl) (by kernel_rfl) (by kernel_rfl) (fun _ _ _ h => h) (by rfl) (fun _ => by assumption) ?_
    try simp only [List.setIfInBounds_toArray, List.set_cons_zero, List.set_cons_succ]
    refine drawn_skip 5 8 rfl rfl (by kernel_rfl) (by kernel_rfl) (by kernel_rfl) (by kernel_rfl) (fun _ _ _ h => h) (by rfl) (fun _ => by assumption) ?_
    try simp only [List.setIfInBounds_toArray, List.set_cons_zero, List.set_cons_succ]
    refine drawn_skip 6 9 rfl rfl (by kernel_rfl) (by kernel_rfl) (by kernel_rfl) (by kernel_rfl) (fun _ _ _ h => h) (by rfl) (fun _ => by assumption) ?_
    try simp only [List.setIfInBounds_toArray, List.set_cons_zero, List.set_cons_succ]
    refine drawn_skip 7 10 rfl rfl (by kernel_rfl) (by kernel_rfl) (by kernel_rfl) (by kernel_rfl) (fun _ _ _ h => h) (by rfl) (fun _ => by assumption) ?_
    try simp only [List.setIfInBounds_toArray, List.set_cons_zero, List.set_cons_succ]
    refine drawn_skip 8 11 rfl rfl (by kernel_rfl) (by kernel_rfl) (by kernel_rfl) (by kernel_rfl) (fun _ _ _ h => h) (by rfl) (fun _ => by assumption) ?_
    try simp only [List.setIfInBounds_toArray, List.set_cons_zero, List.set_cons_succ]
    refine drawn_skip 9 12 rfl rfl (by kernel_rfl) (by kernel_rfl) (by kernel_rfl) (by kernel_rfl) (fun _ _ _ h => h) (by rfl) (fun _ => by assumption) ?_
    try simp only [List.setIfInBounds_toArray, List.set_cons_zero, List.set_cons_succ]
    refine drawn_take 10 13 (.bool false) rfl rfl (by kernel_rfl) (by kernel_rfl) (by kernel_rfl) (by kernel_rfl) (fun _ _ _ h => h) (by rfl) (by assumption) (by intro w hSw; obtain hS1 := hSw; go_simp) ?_
    try simp only [List.setIfInBounds_toArray, List.set_cons_zero, List.set_cons_succ]
    refine drawn_last1 11 2 (.bool false) rfl rfl (by kernel_rfl) (by kernel_rfl) (by rfl) (by intro w; go_simp) hS0 ?_
    try simp only [List.setIfInBounds_toArray, List.set_cons_zero, List.set_cons_succ]
    have HTE := Lib.hid hS0
    clear hS0
    go_wp2
    go_ret
    exact ⟨by rw [HB.out]; rfl, HT.out.trans HTE.out (fun _ _ f => f)⟩

end Go.Proofs.Ytmpgfipfijbbkaa

/-
  Stage 19: the document's Span, Has, Of.
-/
namespace Go.Proofs.Ytmpgfipfijbbkaa
open Go.RowKit

set_option maxRecDepth 100000

theorem right_iff19 {p : T19} : right19 p = true ↔ 0 ≤ p.i ∧ p.i ≤ most19 p.t := by
  unfold right19
  rw [Bool.and_eq_true, decide_eq_true_iff, decide_eq_true_iff]
theorem most_le19 (t : Int) : most19 t ≤ 16777216 := by
  unfold most19
  split
  · omega
  · split
    · omega
    · split <;> omega
theorem tier_of19 {p : T19} (h : right19 p = true) : (p.t = 1 ∧ p.i ≤ 16777216) ∨ (p.t = 2 ∧ p.i ≤ 699050) ∨ (p.t = 3 ∧ p.i ≤ 22967) := by
  obtain ⟨h0, h1⟩ := right_iff19.1 h
  unfold most19 at h1
  by_cases e1 : p.t = 1
  · rw [if_pos e1] at h1; exact .inl ⟨e1, h1⟩
  · rw [if_neg e1] at h1
    by_cases e2 : p.t = 2
    · rw [if_pos e2] at h1; exact .inr (.inl ⟨e2, h1⟩)
    · rw [if_neg e2] at h1
      by_cases e3 : p.t = 3
      · rw [if_pos e3] at h1; exact .inr (.inr ⟨e3, h1⟩)
      · rw [if_neg e3] at h1; omega
theorem span_no19 {p : T19} (h : right19 p = false) : span19 p = (0, 0) := by unfold span19; rw [h]; rfl
theorem span_bounds19 (p : T19) : 0 ≤ (span19 p).1 ∧ (span19 p).1 ≤ 1000000000 ∧ 0 ≤ (span19 p).2 ∧ (span19 p).2 ≤ 1000000000 := by
  cases h : right19 p with
  | false => rw [span_no19 h]; decide
  | true =>
    obtain ⟨h0, -⟩ := right_iff19.1 h
    unfold span19
    rw [if_pos h]
    rcases tier_of19 h with ⟨e, hb⟩ | ⟨e, hb⟩ | ⟨e, hb⟩
    · rw [if_pos e]; dsimp only; omega
    · rw [if_neg (by omega), if_pos e]; dsimp only; omega
    · rw [if_neg (by omega), if_neg (by omega)]
      have := mb_le19 (n := p.i.toNat) (by omega)
      dsimp only
      omega

set_option maxHeartbeats 8000000 in
theorem ref_span19 (p : T19) (w : World) : Calls Try.prog 8 #[tv19 p] w fun e w' => e = .returned (.tuple #[.int .i64 (span19 p).1, .int .i64 (span19 p).2]) ∧ Turn (fun _ => False) w w' := by
  obtain ⟨wb, hwb⟩ : ∃ wb, wb = w.alloc (.cells (tcells19 p) 23) := ⟨_, rfl⟩
  obtain ⟨g, hg⟩ : ∃ g, g = w.heap.size := ⟨_, rfl⟩
  have HT : Hid (Turn (fun _ => False) w wb) := by rw [hwb]; exact (Turn.refl _ w).alloc _
  have HBX : Hid (Box wb g 23 (tcells19 p)) := by rw [hwb, hg]; exact Box.new w _ _
  obtain ⟨z0, z1⟩ := box_t19 (Box.new w 23 (tcells19 p))
  have HRT := Lib.hid (ref_right19 p wb)
  have HWB := Lib.hid hwb; have HG := Lib.hid hg
  clear hwb hg
  cases hr : right19 p with
  | false =>
    have HS : Hid (True → span19 p = (0, 0)) := fun _ => span_no19 hr
    rw [hr] at HRT
    clear hr
    go_enter Try.func8, Try.ntmps8
    go_wp2_with fail
    rw [← HWB.out, ← HG.out]
    refine HRT.out.mono ?_
    rintro e w1 ⟨rfl, t1⟩
    have HT1 := Lib.hid (HT.out.trans t1 (fun _ _ f => f))
    obtain ⟨y0, y1⟩ := box_t19 (HBX.out.turn t1 (fun f => f))
    clear t1 HRT z0 z1
    go_wp2
    go_ret2
    exact ⟨by rw [HS.out trivial]; rfl, HT1.out⟩
  | true =>
    have hti := tier_of19 hr
    obtain ⟨h0, -⟩ := right_iff19.1 hr
    have hsp : span19 p = if p.t = 1 then (p.i, p.i + 1) else if p.t = 2 then (24 * p.i, 24 * (p.i + 1)) else (24 * (ma19 p.i.toNat : Int), 24 * (mb19 p.i.toNat : Int)) := if_pos hr
    rw [hr] at HRT
    clear hr
    obtain ⟨pt, pi⟩ := p
    dsimp only at hti h0 hsp HBX HRT HWB
    obtain ⟨N, rfl⟩ := Int.eq_ofNat_of_zero_le h0
    rw [Int.toNat_natCast] at hsp
    rcases hti with ⟨rfl, hb⟩ | ⟨rfl, hb⟩ | ⟨rfl, hb⟩
    · have HS : Hid (True → span19 ⟨1, (N : Int)⟩ = ((N : Int), (N : Int) + 1)) := fun _ => hsp.trans (if_pos rfl)
      have hw : IntKind.i64.wrap ((N : Int) + 1) = (N : Int) + 1 := IntWalk.i64_in _ (by omega)
      clear hsp h0
      go_enter Try.func8, Try.ntmps8
      go_wp2_with fail
      rw [← HWB.out, ← HG.out]
      refine HRT.out.mono ?_
      rintro e w1 ⟨rfl, t1⟩
      have HT1 := Lib.hid (HT.out.trans t1 (fun _ _ f => f))
      obtain ⟨y0, y1⟩ := box_t19 (HBX.out.turn t1 (fun f => f))
      clear t1 HRT z0 z1
      go_wp2_with fail
      go_quiet (fail)
      go_wp2
      go_ret2
      exact ⟨by rw [HS.out trivial]; rfl, HT1.out.drewN _⟩
    · have HS : Hid (True → span19 ⟨2, (N : Int)⟩ = (24 * (N : Int), 24 * ((N : Int) + 1))) := fun _ => hsp.trans ((if_neg (by decide)).trans (if_pos rfl))
      have hw : IntKind.i64.wrap ((N : Int) + 1) = (N : Int) + 1 := IntWalk.i64_in _ (by omega)
      have hw2 : IntKind.i64.wrap (24 * (N : Int)) = 24 * (N : Int) := IntWalk.i64_in _ (by omega)
      have hw3 : IntKind.i64.wrap (24 * ((N : Int) + 1)) = 24 * ((N : Int) + 1) := IntWalk.i64_in _ (by omega)
      clear hsp h0
      go_enter Try.func8, Try.ntmps8
      go_wp2_with fail
      rw [← HWB.out, ← HG.out]
      refine HRT.out.mono ?_
      rintro e w1 ⟨rfl, t1⟩
      have HT1 := Lib.hid (HT.out.trans t1 (fun _ _ f => f))
      obtain ⟨y0, y1⟩ := box_t19 (HBX.out.turn t1 (fun f => f))
      clear t1 HRT z0 z1
      go_wp2_with fail
      go_quiet (fail)
      go_wp2
      go_ret2
      exact ⟨by rw [HS.out trivial]; rfl, HT1.out.drewN _⟩
    · have HS : Hid (True → span19 ⟨3, (N : Int)⟩ = (24 * (ma19 N : Int), 24 * (mb19 N : Int))) := fun _ => hsp.trans ((if_neg (by decide)).trans (if_neg (by decide)))
      have HSP : Hid (∀ W, Calls Try.prog 27 #[.int .i64 (N : Int)] W fun e w' => e = .returned (.tuple #[.int .i64 (ma19 N : Int), .int .i64 (mb19 N : Int)]) ∧ W = w') := fun W => ref_span N W (by omega)
      obtain ⟨l1, l2⟩ := mb_le19 (n := N) (by omega)
      generalize ma19 N = A at *
      generalize mb19 N = B at *
      have hw2 : IntKind.i64.wrap (24 * (A : Int)) = 24 * (A : Int) := IntWalk.i64_in _ (by omega)
      have hw3 : IntKind.i64.wrap (24 * (B : Int)) = 24 * (B : Int) := IntWalk.i64_in _ (by omega)
      clear hsp h0
      go_enter Try.func8, Try.ntmps8
      go_wp2_with fail
      rw [← HWB.out, ← HG.out]
      refine HRT.out.mono ?_
      rintro e w1 ⟨rfl, t1⟩
      have HT1 := Lib.hid (HT.out.trans t1 (fun _ _ f => f))
      obtain ⟨y0, y1⟩ := box_t19 (HBX.out.turn t1 (fun f => f))
      clear t1 HRT z0 z1
      go_wp2_with fail
      refine (HSP.out w1).mono ?_
      rintro e w2 ⟨rfl, rfl⟩
      go_wp2
      go_ret2
      exact ⟨by rw [HS.out trivial]; rfl, HT1.out⟩

set_option maxHeartbeats 4000000 in
theorem ref_has19 (p : T19) (h : Int) (w : World) : Calls Try.prog 14 #[tv19 p, .int .i64 h] w fun e w' => e = .returned (.bool (has19 p h)) ∧ Turn (fun _ => False) w w' := by
  obtain ⟨wb, hwb⟩ : ∃ wb, wb = w.alloc (.cells (tcells19 p) 23) := ⟨_, rfl⟩
  have HT : Hid (Turn (fun _ => False) w wb) := by rw [hwb]; exact (Turn.refl _ w).alloc _
  obtain ⟨z0, z1⟩ := box_t19 (Box.new w 23 (tcells19 p))
  have HSP := Lib.hid (ref_span19 p wb)
  have HH : Hid (has19 p h = (decide ((span19 p).1 ≤ h) && decide (h < (span19 p).2))) := rfl
  have HWB := Lib.hid hwb
  generalize has19 p h = x at *
  generalize (span19 p).1 = a at *
  generalize (span19 p).2 = b at *
  clear hwb
  by_cases h1 : a ≤ h
  · by_cases h2 : h < b
    · have HB : Hid (x = true) := by show _ = _; rw [HH.out, decide_eq_true h1, decide_eq_true h2]; rfl
      go_enter Try.func14, Try.ntmps14
      go_wp2_with fail
      rw [← HWB.out]
      refine HSP.out.mono ?_
      rintro e w1 ⟨rfl, t1⟩
      have HT1 := Lib.hid (HT.out.trans t1 (fun _ _ f => f))
      clear t1 HSP z0 z1
      go_wp2
      go_ret
      exact ⟨by rw [HB.out]; first | rfl | exact ret_bool (decide_eq_true (by omega)) | exact ret_bool (decide_eq_false (by omega)), HT1.out⟩
    · have HB : Hid (x = false) := by show _ = _; rw [HH.out, decide_eq_false h2, Bool.and_false]
      go_enter Try.func14, Try.ntmps14
      go_wp2_with fail
      rw [← HWB.out]
      refine HSP.out.mono ?_
      rintro e w1 ⟨rfl, t1⟩
      have HT1 := Lib.hid (HT.out.trans t1 (fun _ _ f => f))
      clear t1 HSP z0 z1
      go_wp2
      go_ret
      exact ⟨by rw [HB.out]; first | rfl | exact ret_bool (decide_eq_true (by omega)) | exact ret_bool (decide_eq_false (by omega)), HT1.out⟩
  · have HB : Hid (x = false) := by show _ = _; rw [HH.out, decide_eq_false h1, Bool.false_and]
    go_enter Try.func14, Try.ntmps14
    go_wp2_with fail
    rw [← HWB.out]
    refine HSP.out.mono ?_
    rintro e w1 ⟨rfl, t1⟩
    have HT1 := Lib.hid (HT.out.trans t1 (fun _ _ f => f))
    clear t1 HSP z0 z1
    go_wp2
    go_ret
    exact ⟨by rw [HB.out]; first | rfl | exact ret_bool (decide_eq_true (by omega)) | exact ret_bool (decide_eq_false (by omega)), HT1.out⟩

end Go.Proofs.Ytmpgfipfijbbkaa

/-
  Stage 19, plain: partitions of a tier part the hours; two that meet are one within the other.
-/
namespace Go.Proofs.Ytmpgfipfijbbkaa
open Go.RowKit

set_option maxRecDepth 100000

theorem mo_at19 (N : Nat) : ma19 (mo19 N) ≤ N ∧ N < mb19 (mo19 N) := by
  obtain ⟨⟨v1, v2, v3, v4, v5⟩, v6⟩ := dateOf_spec N
  unfold ma19 mb19 mo19
  generalize (dateOf N).1 = y at *
  generalize (dateOf N).2.1 = m at *
  generalize (dateOf N).2.2 = d at *
  have e1 : (12 * (y - 1970) + (m - 1)) / 12 = y - 1970 := by omega
  have e2 : (12 * (y - 1970) + (m - 1)) % 12 = m - 1 := by omega
  rw [e1, e2, show 1970 + (y - 1970) = y by omega, show m - 1 + 1 = m by omega]
  have h := num_day y m d
  omega
theorem mo_is19 {n N : Nat} (h1 : ma19 n ≤ N) (h2 : N < mb19 n) : mo19 N = n := by
  unfold ma19 at h1
  unfold mb19 at h2
  have hn := num_day (1970 + n / 12) (n % 12 + 1) (N - num (1970 + n / 12) (n % 12 + 1) 1 + 1)
  have hv : Valid (1970 + n / 12) (n % 12 + 1) (N - num (1970 + n / 12) (n % 12 + 1) 1 + 1) := ⟨by omega, by omega, by omega, by omega, by omega⟩
  have hd := date_is hv (n := N) (by omega)
  unfold mo19
  rw [hd]
  dsimp only
  omega
theorem mb_next19 (n : Nat) : mb19 n = ma19 (n + 1) := by
  unfold mb19 ma19
  by_cases hm : n % 12 + 1 < 12
  · rw [show (n + 1) / 12 = n / 12 by omega, show (n + 1) % 12 + 1 = n % 12 + 1 + 1 by omega]
    have h := mdays_step (y := 1970 + n / 12) (m := n % 12 + 1) (by omega)
    unfold num
    rw [show n % 12 + 1 + 1 - 1 = n % 12 + 1 by omega]
    omega
  · rw [show (n + 1) / 12 = n / 12 + 1 by omega, show (n + 1) % 12 + 1 = 1 by omega, show n % 12 + 1 = 12 by omega]
    have h := mdays_step (y := 1970 + n / 12) (m := 12) (by omega)
    have h2 := mdays_year (1970 + n / 12)
    have h3 := ylen_step (y := 1970 + n / 12) (by omega)
    have h4 : mdays (1970 + (n / 12 + 1)) 0 = 0 := rfl
    unfold num
    rw [show 1970 + (n / 12 + 1) - 1970 = 1970 + n / 12 + 1 - 1970 by omega, h3, show (1 : Nat) - 1 = 0 from rfl, show (12 : Nat) - 1 = 11 from rfl, h4]
    rw [show (12 : Nat) - 1 = 11 from rfl] at h
    omega
theorem ma_mono19 : ∀ {a b : Nat}, a ≤ b → ma19 a ≤ ma19 b
  | a, 0, h => by rw [show a = 0 by omega]; exact Nat.le_refl _
  | a, b + 1, h => by
    rcases Nat.lt_or_ge b a with h1 | h1
    · rw [show a = b + 1 by omega]; exact Nat.le_refl _
    · have h2 := ma_mono19 h1
      have h3 := mb_next19 b
      unfold mb19 at h3
      unfold ma19 at h2 h3 ⊢
      omega
theorem mo_le19 {N : Nat} (h : N ≤ 699050) : mo19 N ≤ 22967 := by
  rcases Nat.lt_or_ge 22967 (mo19 N) with h1 | h1
  · exfalso
    have h2 := (mo_at19 N).1
    have h3 := (mo_at19 699050).2
    rw [mo_max19, mb_next19] at h3
    have h4 := ma_mono19 (show 22967 + 1 ≤ mo19 N from h1)
    omega
  · exact h1
theorem ma_max19 {n : Nat} (h : n ≤ 22967) : ma19 n ≤ 699050 := by
  have h1 := (mo_at19 699050).1
  rw [mo_max19] at h1
  exact Nat.le_trans (ma_mono19 h) h1
theorem ma_lt19 (n : Nat) : ma19 n < mb19 n := by
  have h := (mlen_pos (y := 1970 + n / 12) (m := n % 12 + 1) (by omega) (by omega)).1
  unfold ma19 mb19
  omega

/-- The three partitions of an hour. -/
def hr19 (h : Nat) : T19 := ⟨1, h⟩
def dy19 (h : Nat) : T19 := ⟨2, ((h / 24 : Nat) : Int)⟩
def mn19 (h : Nat) : T19 := ⟨3, (mo19 (h / 24) : Int)⟩
section
variable {h : Nat} (hh : h ≤ 16777216)
include hh
theorem rights19 : right19 (hr19 h) = true ∧ right19 (dy19 h) = true ∧ right19 (mn19 h) = true := by
  have := mo_le19 (N := h / 24) (by omega)
  refine ⟨right_iff19.2 ⟨?_, ?_⟩, right_iff19.2 ⟨?_, ?_⟩, right_iff19.2 ⟨?_, ?_⟩⟩
  · show (0 : Int) ≤ (h : Int); omega
  · show (h : Int) ≤ 16777216; omega
  · show (0 : Int) ≤ ((h / 24 : Nat) : Int); omega
  · show ((h / 24 : Nat) : Int) ≤ 699050; omega
  · show (0 : Int) ≤ (mo19 (h / 24) : Int); omega
  · show (mo19 (h / 24) : Int) ≤ 22967; omega
theorem spans19 : span19 (hr19 h) = ((h : Int), (h : Int) + 1) ∧ span19 (dy19 h) = (24 * ((h / 24 : Nat) : Int), 24 * (((h / 24 : Nat) : Int) + 1)) ∧ span19 (mn19 h) = (24 * (ma19 (mo19 (h / 24)) : Int), 24 * (mb19 (mo19 (h / 24)) : Int)) := by
  obtain ⟨r1, r2, r3⟩ := rights19 hh
  refine ⟨?_, ?_, ?_⟩
  · unfold span19; rw [if_pos r1]; rfl
  · unfold span19; rw [if_pos r2]; rfl
  · unfold span19
    rw [if_pos r3]
    show (24 * (ma19 (Int.toNat (mo19 (h / 24) : Int)) : Int), 24 * (mb19 (Int.toNat (mo19 (h / 24) : Int)) : Int)) = _
    rw [Int.toNat_natCast]
theorem ofs19 : of19 1 (h : Int) = (hr19 h, true) ∧ of19 2 (h : Int) = (dy19 h, true) ∧ of19 3 (h : Int) = (mn19 h, true) := by
  have e : (h : Int) / 24 = ((h / 24 : Nat) : Int) := by omega
  have m1 : most19 1 = 16777216 := rfl
  have m2 : most19 2 = 699050 := rfl
  have m3 : most19 3 = 22967 := rfl
  refine ⟨?_, ?_, ?_⟩
  · unfold of19; rw [if_neg (by rw [m1]; omega)]; rfl
  · unfold of19; rw [if_neg (by rw [m2]; omega), e]; rfl
  · unfold of19; rw [if_neg (by rw [m3]; omega), e, Int.toNat_natCast]; rfl
theorem has_all19 : has19 (hr19 h) h = true ∧ has19 (dy19 h) h = true ∧ has19 (mn19 h) h = true := by
  obtain ⟨s1, s2, s3⟩ := spans19 hh
  have hm := mo_at19 (h / 24)
  unfold has19
  rw [s1, s2, s3]
  simp only [Bool.and_eq_true, decide_eq_true_iff]
  omega
theorem within_all19 : within19 (hr19 h) (dy19 h) = true ∧ within19 (dy19 h) (mn19 h) = true ∧ within19 (hr19 h) (mn19 h) = true ∧ meets19 (hr19 h) (mn19 h) = true := by
  obtain ⟨s1, s2, s3⟩ := spans19 hh
  obtain ⟨r1, r2, r3⟩ := rights19 hh
  have hm := mo_at19 (h / 24)
  unfold within19 meets19
  rw [s1, s2, s3, r1, r2, r3]
  simp only [Bool.true_and, Bool.and_eq_true, decide_eq_true_iff]
  omega
theorem has_is19 {a : T19} (ha : has19 a h = true) : a = hr19 h ∨ a = dy19 h ∨ a = mn19 h := by
  unfold has19 at ha
  rw [Bool.and_eq_true, decide_eq_true_iff, decide_eq_true_iff] at ha
  cases hr : right19 a with
  | false => rw [span_no19 hr] at ha; dsimp only at ha; omega
  | true =>
    obtain ⟨h0, -⟩ := right_iff19.1 hr
    unfold span19 at ha
    rw [if_pos hr] at ha
    obtain ⟨t, i⟩ := a
    rcases tier_of19 hr with ⟨e, hb⟩ | ⟨e, hb⟩ | ⟨e, hb⟩
    · dsimp only at e hb ha h0
      subst e
      rw [if_pos rfl] at ha
      dsimp only at ha
      have e2 : i = (h : Int) := by omega
      exact .inl (by rw [e2]; rfl)
    · dsimp only at e hb ha h0
      subst e
      rw [if_neg (by decide), if_pos rfl] at ha
      dsimp only at ha
      have e2 : i = ((h / 24 : Nat) : Int) := by omega
      exact .inr (.inl (by rw [e2]; rfl))
    · dsimp only at e hb ha h0
      subst e
      rw [if_neg (by decide), if_neg (by decide)] at ha
      dsimp only at ha
      obtain ⟨N, rfl⟩ := Int.eq_ofNat_of_zero_le h0
      rw [Int.toNat_natCast] at ha
      have e2 := mo_is19 (n := N) (N := h / 24) (by omega) (by omega)
      exact .inr (.inr (by show (⟨3, (N : Int)⟩ : T19) = ⟨3, (mo19 (h / 24) : Int)⟩; rw [e2]))
end
theorem within_refl19 {a : T19} (h : right19 a = true) : within19 a a = true := by
  unfold within19
  rw [h]
  simp
theorem span_start19 {a : T19} (h : right19 a = true) : 0 ≤ (span19 a).1 ∧ (span19 a).1 ≤ 16777216 ∧ (span19 a).1 < (span19 a).2 := by
  obtain ⟨h0, -⟩ := right_iff19.1 h
  unfold span19
  rw [if_pos h]
  rcases tier_of19 h with ⟨e, hb⟩ | ⟨e, hb⟩ | ⟨e, hb⟩
  · rw [if_pos e]; dsimp only; omega
  · rw [if_neg (by omega), if_pos e]; dsimp only; omega
  · rw [if_neg (by omega), if_neg (by omega)]
    have h1 := ma_max19 (n := a.i.toNat) (by omega)
    have h2 := ma_lt19 a.i.toNat
    dsimp only
    omega
theorem meets_comm19 (a b : T19) : meets19 b a = meets19 a b := by
  unfold meets19
  cases right19 a <;> cases right19 b <;> simp [Bool.and_comm]
theorem nests19 {a b : T19} (h : meets19 a b = true) : within19 a b = true ∨ within19 b a = true := by
  unfold meets19 at h
  simp only [Bool.and_eq_true, decide_eq_true_iff] at h
  obtain ⟨ra, rb, h1, h2⟩ := h
  obtain ⟨a1, a2, a3⟩ := span_start19 ra
  obtain ⟨b1, b2, b3⟩ := span_start19 rb
  obtain ⟨N, hN⟩ : ∃ N : Nat, max (span19 a).1 (span19 b).1 = (N : Int) := Int.eq_ofNat_of_zero_le (by omega)
  have hh : N ≤ 16777216 := by omega
  have ha : has19 a N = true := by unfold has19; simp only [Bool.and_eq_true, decide_eq_true_iff]; omega
  have hb : has19 b N = true := by unfold has19; simp only [Bool.and_eq_true, decide_eq_true_iff]; omega
  obtain ⟨w1, w2, w3, -⟩ := within_all19 hh
  rcases has_is19 hh ha with ea | ea | ea <;> rcases has_is19 hh hb with eb | eb | eb
  · exact .inl (by rw [eb, ← ea]; exact within_refl19 ra)
  · exact .inl (by rw [ea, eb]; exact w1)
  · exact .inl (by rw [ea, eb]; exact w3)
  · exact .inr (by rw [ea, eb]; exact w1)
  · exact .inl (by rw [eb, ← ea]; exact within_refl19 ra)
  · exact .inl (by rw [ea, eb]; exact w2)
  · exact .inr (by rw [ea, eb]; exact w3)
  · exact .inr (by rw [ea, eb]; exact w2)
  · exact .inl (by rw [eb, ← ea]; exact within_refl19 ra)

end Go.Proofs.Ytmpgfipfijbbkaa

/-
  Stage 19: partitions held against each other by ==.
-/
namespace Go.Proofs.Ytmpgfipfijbbkaa
open Go.RowKit

set_option maxRecDepth 100000

def eqT (a b : T19) : Bool := decide (a.t = b.t) && decide (a.i = b.i)
theorem eqT_iff {a b : T19} : eqT a b = true ↔ a = b := by
  unfold eqT
  rw [Bool.and_eq_true, decide_eq_true_iff, decide_eq_true_iff]
  constructor
  · rintro ⟨h1, h2⟩
    cases a; cases b
    simp only at h1 h2
    rw [h1, h2]
  · rintro rfl
    exact ⟨rfl, rfl⟩
theorem eq_part20 (d : Nat) (p q : T19) (w : World) : (Op.equalIn (d + 2) 23 (tv19 p) (tv19 q)).run Try.prog w = .ok (eqT p q) w := by
  have hS : Try.prog.underlying 23 = some (.struct (Try.prog.fieldsOf 23)) := by kernel_rfl
  have hp : Try.prog.stoodInHeld 23 = false := by kernel_rfl
  have u2 := Try.underlying2
  have i2 := Try.isAgg2
  have z2 := Try.sizeOf2
  have u3 := Try.underlying3
  have i3 := Try.isAgg3
  have z3 := Try.sizeOf3
  rw [run_equalIn_agg w (d + 1) 23 _ _ hS hp]
  simp only [Program.fieldsOf, Try.underlying23]
  go_simp
  obtain ⟨t, i⟩ := p
  obtain ⟨t', i'⟩ := q
  unfold eqT
  by_cases h0 : t = t' <;> by_cases h1 : i = i' <;> simp [h0, h1]
theorem run_eql_part20 (p q : T19) (w : World) : (binOp .eql 23 (tv19 p) (tv19 q)).run Try.prog w = .ok (.bool (eqT p q)) w := by
  rw [run_eql_struct, show (10000 : Nat) = 9998 + 2 from rfl, eq_part20]
  rfl
theorem run_neq_part20 (p q : T19) (w : World) : (binOp .neq 23 (tv19 p) (tv19 q)).run Try.prog w = .ok (.bool (!eqT p q)) w := by
  rw [run_neq_struct, show (10000 : Nat) = 9998 + 2 from rfl, eq_part20]
  rfl

end Go.Proofs.Ytmpgfipfijbbkaa

/-
  Stage 19, plain: the program's ways: a partition's number by its tier; within by the first hour alone; meets by within.
-/
namespace Go.Proofs.Ytmpgfipfijbbkaa
open Go.RowKit

set_option maxRecDepth 100000

/-- The number of the partition of a tier that has an hour. -/
def idx19 (t h : Int) : Int × Bool := if t = 1 then (h, true) else if t = 2 then (h / 24, true) else if t = 3 then ((mo19 (h / 24).toNat : Int), true) else (0, false)
theorem right_new19 (p : T19) : right19 p = ((idx19 p.t 16777216).2 && (decide (0 ≤ p.i) && decide (p.i ≤ (idx19 p.t 16777216).1))) := by
  unfold right19 most19 idx19
  by_cases h1 : p.t = 1
  · rw [if_pos h1, if_pos h1, Bool.true_and]
  · rw [if_neg h1, if_neg h1]
    by_cases h2 : p.t = 2
    · rw [if_pos h2, if_pos h2, Bool.true_and]
      rfl
    · rw [if_neg h2, if_neg h2]
      by_cases h3 : p.t = 3
      · rw [if_pos h3, if_pos h3, Bool.true_and]
        have e : ((16777216 : Int) / 24).toNat = 699050 := rfl
        rw [e, mo_max19]
        rfl
      · rw [if_neg h3, if_neg h3, Bool.false_and]
        by_cases h0 : 0 ≤ p.i
        · rw [decide_eq_false (show ¬ p.i ≤ -1 by omega), Bool.and_false]
        · rw [decide_eq_false h0, Bool.false_and]
theorem of_none19 {t h : Int} (h1 : h < 0 ∨ 16777216 < h) : of19 t h = (⟨0, 0⟩, false) := if_pos (by rcases h1 with h1 | h1; exact .inl h1; exact .inr (.inl h1))
theorem of_some19 {t h : Int} (h1 : ¬ h < 0) (h2 : ¬ 16777216 < h) : ((idx19 t h).2 = true → of19 t h = (⟨t, (idx19 t h).1⟩, true)) ∧ ((idx19 t h).2 = false → of19 t h = (⟨0, 0⟩, false)) := by
  unfold of19 most19 idx19
  by_cases e1 : t = 1
  · refine ⟨fun _ => ?_, fun e => ?_⟩
    · simp only [if_pos e1]
      rw [if_neg (by omega)]
    · rw [if_pos e1] at e; cases e
  · by_cases e2 : t = 2
    · refine ⟨fun _ => ?_, fun e => ?_⟩
      · simp only [if_neg e1, if_pos e2]
        rw [if_neg (by omega)]
      · rw [if_neg e1, if_pos e2] at e; cases e
    · by_cases e3 : t = 3
      · refine ⟨fun _ => ?_, fun e => ?_⟩
        · simp only [if_neg e1, if_neg e2, if_pos e3]
          rw [if_neg (by omega)]
        · rw [if_neg e1, if_neg e2, if_pos e3] at e; cases e
      · refine ⟨fun e => ?_, fun _ => ?_⟩
        · rw [if_neg e1, if_neg e2, if_neg e3] at e; cases e
        · simp only [if_neg e1, if_neg e2, if_neg e3]
          rw [if_pos (by omega)]
theorem of_tier19 {t h : Int} (e : (of19 t h).2 = true) : t = 1 ∨ t = 2 ∨ t = 3 := by
  by_cases e1 : t = 1
  · exact .inl e1
  · by_cases e2 : t = 2
    · exact .inr (.inl e2)
    · by_cases e3 : t = 3
      · exact .inr (.inr e3)
      · exfalso
        unfold of19 most19 at e
        rw [if_neg e1, if_neg e2, if_neg e3, if_pos (.inr (.inr (by omega)))] at e
        cases e
/-- Within, by the first hour alone. -/
theorem within_new19 (a b : T19) : within19 a b = (right19 a && (decide (a.t ≤ b.t) && ((of19 b.t (span19 a).1).2 && eqT (of19 b.t (span19 a).1).1 b))) := by
  cases ra : right19 a with
  | false => unfold within19; rw [ra]; rfl
  | true =>
    rw [Bool.true_and]
    obtain ⟨a1, a2, a3⟩ := span_start19 ra
    obtain ⟨N, hN⟩ : ∃ N : Nat, (span19 a).1 = (N : Int) := Int.eq_ofNat_of_zero_le a1
    have hh : N ≤ 16777216 := by omega
    have ha : has19 a N = true := by unfold has19; simp only [Bool.and_eq_true, decide_eq_true_iff]; omega
    obtain ⟨w1, w2, w3, -⟩ := within_all19 hh
    obtain ⟨o1, o2, o3⟩ := ofs19 hh
    obtain ⟨s1, s2, s3⟩ := spans19 hh
    obtain ⟨r1, r2, r3⟩ := rights19 hh
    rw [hN]
    apply Bool.eq_iff_iff.2
    rw [Bool.and_eq_true, Bool.and_eq_true, decide_eq_true_iff]
    constructor
    · intro h
      have h' := h
      unfold within19 at h'
      simp only [Bool.and_eq_true, decide_eq_true_iff] at h'
      obtain ⟨-, rb, h1, h2⟩ := h'
      have hb : has19 b N = true := by unfold has19; simp only [Bool.and_eq_true, decide_eq_true_iff]; omega
      have hmo := mo_at19 (N / 24)
      have hml := mb_next19 (mo19 (N / 24))
      have hlen : ma19 (mo19 (N / 24)) + 28 ≤ mb19 (mo19 (N / 24)) := by
        have h := (mlen_pos (y := 1970 + mo19 (N / 24) / 12) (m := mo19 (N / 24) % 12 + 1) (by omega) (by omega)).1
        unfold ma19 mb19
        omega
      rcases has_is19 hh hb with eb | eb | eb
      · subst eb
        refine ⟨?_, by show (of19 1 (N : Int)).2 = true; rw [o1], by show eqT (of19 1 (N : Int)).1 _ = true; rw [o1]; exact eqT_iff.2 rfl⟩
        rw [s1] at h1 h2
        rcases has_is19 hh ha with ea | ea | ea
        · rw [ea]; exact Int.le_refl _
        · exfalso; rw [ea, s2] at h1 h2; dsimp only at h1 h2; omega
        · exfalso; rw [ea, s3] at h1 h2; dsimp only at h1 h2; omega
      · subst eb
        refine ⟨?_, by show (of19 2 (N : Int)).2 = true; rw [o2], by show eqT (of19 2 (N : Int)).1 _ = true; rw [o2]; exact eqT_iff.2 rfl⟩
        rw [s2] at h1 h2
        rcases has_is19 hh ha with ea | ea | ea
        · rw [ea]; show (1 : Int) ≤ 2; omega
        · rw [ea]; exact Int.le_refl _
        · exfalso; rw [ea, s3] at h1 h2; dsimp only at h1 h2; omega
      · subst eb
        refine ⟨?_, by show (of19 3 (N : Int)).2 = true; rw [o3], by show eqT (of19 3 (N : Int)).1 _ = true; rw [o3]; exact eqT_iff.2 rfl⟩
        rcases has_is19 hh ha with ea | ea | ea
        · rw [ea]; show (1 : Int) ≤ 3; omega
        · rw [ea]; show (2 : Int) ≤ 3; omega
        · rw [ea]; exact Int.le_refl _
    · rintro ⟨ht, ho, he⟩
      have e := eqT_iff.1 he
      rcases of_tier19 ho with tb | tb | tb
      · rw [tb, o1] at e
        rw [tb] at ht
        dsimp only at e
        rcases has_is19 hh ha with ea | ea | ea
        · rw [← e, ← ea]; exact within_refl19 ra
        · exfalso; rw [ea] at ht; exact absurd (show (2 : Int) ≤ 1 from ht) (by decide)
        · exfalso; rw [ea] at ht; exact absurd (show (3 : Int) ≤ 1 from ht) (by decide)
      · rw [tb, o2] at e
        rw [tb] at ht
        dsimp only at e
        rcases has_is19 hh ha with ea | ea | ea
        · rw [← e, ea]; exact w1
        · rw [← e, ← ea]; exact within_refl19 ra
        · exfalso; rw [ea] at ht; exact absurd (show (3 : Int) ≤ 2 from ht) (by decide)
      · rw [tb, o3] at e
        dsimp only at e
        rcases has_is19 hh ha with ea | ea | ea
        · rw [← e, ea]; exact w3
        · rw [← e, ea]; exact w2
        · rw [← e, ← ea]; exact within_refl19 ra
theorem within_meets19 {a b : T19} (h : within19 a b = true) : meets19 a b = true := by
  unfold within19 at h
  simp only [Bool.and_eq_true, decide_eq_true_iff] at h
  obtain ⟨ra, rb, h1, h2⟩ := h
  obtain ⟨a1, a2, a3⟩ := span_start19 ra
  obtain ⟨b1, b2, b3⟩ := span_start19 rb
  unfold meets19
  rw [ra, rb]
  simp only [Bool.true_and, Bool.and_eq_true, decide_eq_true_iff]
  omega
theorem meets_new19 (a b : T19) : meets19 a b = (within19 a b || within19 b a) := by
  apply Bool.eq_iff_iff.2
  rw [Bool.or_eq_true]
  constructor
  · exact nests19
  · rintro (h | h)
    · exact within_meets19 h
    · rw [meets_comm19 b a]; exact within_meets19 h

end Go.Proofs.Ytmpgfipfijbbkaa

/-
  Stage 19: the document's Of, Within, Meets, Less.
-/
namespace Go.Proofs.Ytmpgfipfijbbkaa
open Go.RowKit

set_option maxRecDepth 100000

def OfP19 (t h : Int) (w : World) (e : Ending) (w' : World) : Prop := e = .returned (.tuple #[tv19 (of19 t h).1, .bool (of19 t h).2]) ∧ Turn (fun _ => False) w w'
theorem ofp19 {t h : Int} {w w' : World} {p : T19} {b : Bool} (e : of19 t h = (p, b)) (ht : Turn (fun _ => False) w w') : OfP19 t h w (.returned (.tuple #[tv19 p, .bool b])) w' := ⟨by rw [e], ht⟩
set_option maxHeartbeats 8000000 in
theorem ref_of19 (t h : Int) (w : World) : Calls Try.prog 10 #[.int .i64 t, .int .i64 h] w fun e w' => OfP19 t h w e w' := by
  have HM : Hid (∀ W, Calls Try.prog 29 #[.int .i64 t] W fun e w' => e = .returned (.int .i64 (most19 t)) ∧ W = w') := fun W => ref_most19 t W
  have HZ : Hid (Turn (fun _ => False) w (w.alloc (.cells (tcells19 ⟨0, 0⟩) 23))) := (Turn.refl _ w).alloc _
  by_cases h0 : h < 0
  · have HO : Hid (True → of19 t h = (⟨0, 0⟩, false)) := fun _ => if_pos (.inl h0)
    go_enter Try.func10, Try.ntmps10
    go_wp2_with (go_at_call 29; refine (HM.out _).mono ?_; rintro e w' ⟨rfl, rfl⟩)
    refine bodyPost_ret (v := .tuple #[.agg #[.int .i64 0, .int .i64 0], .bool false]) ?_ rfl (ofp19 (HO.out trivial) ((Turn.refl _ w).alloc _))
    rw [results_cell_tmp rfl]
    go_simp
  · by_cases h1 : 16777216 < h
    · have HO : Hid (True → of19 t h = (⟨0, 0⟩, false)) := fun _ => if_pos (.inr (.inl h1))
      go_enter Try.func10, Try.ntmps10
      go_wp2_with (go_at_call 29; refine (HM.out _).mono ?_; rintro e w' ⟨rfl, rfl⟩)
      refine bodyPost_ret (v := .tuple #[.agg #[.int .i64 0, .int .i64 0], .bool false]) ?_ rfl (ofp19 (HO.out trivial) ((Turn.refl _ w).alloc _))
      rw [results_cell_tmp rfl]
      go_simp
    · by_cases h2 : most19 t < 0
      · have HO : Hid (True → of19 t h = (⟨0, 0⟩, false)) := fun _ => if_pos (.inr (.inr h2))
        generalize most19 t = M at *
        go_enter Try.func10, Try.ntmps10
        go_wp2_with (go_at_call 29; refine (HM.out _).mono ?_; rintro e w' ⟨rfl, rfl⟩)
        refine bodyPost_ret (v := .tuple #[.agg #[.int .i64 0, .int .i64 0], .bool false]) ?_ rfl (ofp19 (HO.out trivial) ((Turn.refl _ w).alloc _))
        rw [results_cell_tmp rfl]
        go_simp
      · have hsp : of19 t h = if t = 1 then (⟨t, h⟩, true) else if t = 2 then (⟨t, h / 24⟩, true) else (⟨t, (mo19 (h / 24).toNat : Int)⟩, true) := if_neg (by rintro (h | h | h) <;> omega)
        have ht3 : t = 1 ∨ t = 2 ∨ t = 3 := by
          by_cases e1 : t = 1
          · exact .inl e1
          · by_cases e2 : t = 2
            · exact .inr (.inl e2)
            · by_cases e3 : t = 3
              · exact .inr (.inr e3)
              · exfalso
                unfold most19 at h2
                rw [if_neg e1, if_neg e2, if_neg e3] at h2
                omega
        obtain ⟨N, rfl⟩ := Int.eq_ofNat_of_zero_le (show 0 ≤ h by omega)
        have hq : (N : Int) / 24 = ((N / 24 : Nat) : Int) := by omega
        rw [hq, Int.toNat_natCast] at hsp
        have HMO : Hid (∀ W, Calls Try.prog 30 #[.int .i64 ((N / 24 : Nat) : Int)] W fun e w' => e = .returned (.int .i64 (mo19 (N / 24) : Int)) ∧ W = w') := fun W => ref_month (N / 24) W (by omega)
        generalize most19 t = M at *
        generalize N / 24 = D at *
        generalize mo19 D = X at *
        rcases ht3 with rfl | rfl | rfl
        · have HO : Hid (True → of19 1 (N : Int) = (⟨1, (N : Int)⟩, true)) := fun _ => hsp.trans (if_pos rfl)
          clear hsp
          go_enter Try.func10, Try.ntmps10
          go_wp2_with (first | (go_at_call 29; refine (HM.out _).mono ?_; rintro e w' ⟨rfl, rfl⟩) | (go_at_call 30; refine (HMO.out _).mono ?_; rintro e w' ⟨rfl, rfl⟩) | fail)
          refine bodyPost_ret (v := .tuple #[.agg #[.int .i64 1, .int .i64 (N : Int)], .bool true]) ?_ rfl (ofp19 (HO.out trivial) ((Turn.refl _ w).alloc _))
          rw [results_cell_tmp rfl]
          go_simp
        · have HO : Hid (True → of19 2 (N : Int) = (⟨2, (D : Int)⟩, true)) := fun _ => hsp.trans ((if_neg (by decide)).trans (if_pos rfl))
          clear hsp
          go_enter Try.func10, Try.ntmps10
          go_wp2_with (first | (go_at_call 29; refine (HM.out _).mono ?_; rintro e w' ⟨rfl, rfl⟩) | (go_at_call 30; refine (HMO.out _).mono ?_; rintro e w' ⟨rfl, rfl⟩) | fail)
          refine bodyPost_ret (v := .tuple #[.agg #[.int .i64 2, .int .i64 (D : Int)], .bool true]) ?_ rfl (ofp19 (HO.out trivial) ((Turn.refl _ w).alloc _))
          rw [results_cell_tmp rfl]
          go_simp
        · have HO : Hid (True → of19 3 (N : Int) = (⟨3, (X : Int)⟩, true)) := fun _ => hsp.trans ((if_neg (by decide)).trans (if_neg (by decide)))
          clear hsp
          go_enter Try.func10, Try.ntmps10
          go_wp2_with (first | (go_at_call 29; refine (HM.out _).mono ?_; rintro e w' ⟨rfl, rfl⟩) | (go_at_call 30; refine (HMO.out _).mono ?_; rintro e w' ⟨rfl, rfl⟩) | fail)
          refine bodyPost_ret (v := .tuple #[.agg #[.int .i64 3, .int .i64 (X : Int)], .bool true]) ?_ rfl (ofp19 (HO.out trivial) ((Turn.refl _ w).alloc _))
          rw [results_cell_tmp rfl]
          go_simp

set_option maxHeartbeats 8000000 in
theorem ref_within19 (a b : T19) (w : World) : Calls Try.prog 17 #[tv19 a, tv19 b] w fun e w' => e = .returned (.bool (within19 a b)) ∧ Turn (fun _ => False) w w' := by
  obtain ⟨g, hg⟩ : ∃ g, g = w.heap.size := ⟨_, rfl⟩
  obtain ⟨k, hk⟩ : ∃ k, k = w.heap.size + 1 := ⟨_, rfl⟩
  obtain ⟨wb, hwb⟩ : ∃ wb, wb = (w.alloc (.cells (tcells19 a) 23)).alloc (.cells (tcells19 b) 23) := ⟨_, rfl⟩
  have HT : Hid (Turn (fun _ => False) w wb) := by rw [hwb]; exact ((Turn.refl _ w).alloc _).alloc _
  have HA : Hid (Box wb g 23 (tcells19 a)) := by rw [hwb, hg]; exact (Box.new w _ _).alloc _
  have HB : Hid (Box wb k 23 (tcells19 b)) := by
    have h := Box.new (w.alloc (.cells (tcells19 a) 23)) 23 (tcells19 b)
    rw [World.size_alloc] at h
    rw [hwb, hk]
    exact h
  obtain ⟨z0, z1⟩ := box_t19 HA.out
  rw [hwb, hg] at z0 z1
  have HSA := Lib.hid (ref_span19 a wb)
  have HSB : Hid (∀ W, Calls Try.prog 8 #[tv19 b] W fun e w' => e = .returned (.tuple #[.int .i64 (span19 b).1, .int .i64 (span19 b).2]) ∧ Turn (fun _ => False) W w') := fun W => ref_span19 b W
  have HRA : Hid (∀ W, Calls Try.prog 12 #[tv19 a] W fun e w' => e = .returned (.bool (right19 a)) ∧ Turn (fun _ => False) W w') := fun W => ref_right19 a W
  have HRB : Hid (∀ W, Calls Try.prog 12 #[tv19 b] W fun e w' => e = .returned (.bool (right19 b)) ∧ Turn (fun _ => False) W w') := fun W => ref_right19 b W
  have HX : Hid (True → within19 a b = (right19 a && (right19 b && (decide ((span19 b).1 ≤ (span19 a).1) && decide ((span19 a).2 ≤ (span19 b).2))))) := fun _ => rfl
  have HWB := Lib.hid hwb; have HG := Lib.hid hg; have HK := Lib.hid hk
  generalize within19 a b = z at *
  generalize right19 a = ra at *
  generalize right19 b = rb at *
  generalize (span19 a).1 = x at *
  generalize (span19 a).2 = y at *
  generalize (span19 b).1 = u at *
  generalize (span19 b).2 = v at *
  clear hwb hg hk
  go_enter Try.func17, Try.ntmps17
  go_wp2_with fail
  rw [← HWB.out, ← HK.out, ← HG.out]
  refine HSA.out.mono ?_
  rintro e w1 ⟨rfl, t1⟩
  have HT1 := Lib.hid t1
  clear t1 z0 z1 HSA
  obtain ⟨y0, y1⟩ := box_t19 (HB.out.turn HT1.out (fun f => f))
  go_wp2_with fail
  refine (HSB.out w1).mono ?_
  rintro e w2 ⟨rfl, t2⟩
  have HT2 := Lib.hid (HT1.out.trans t2 (fun _ _ f => f))
  clear t2 y0 y1 HSB
  obtain ⟨x0, x1⟩ := box_t19 (HA.out.turn HT2.out (fun f => f))
  go_wp2_with fail
  refine (HRA.out w2).mono ?_
  rintro e w3 ⟨rfl, t3⟩
  have HT3 := Lib.hid (HT2.out.trans t3 (fun _ _ f => f))
  clear t3 x0 x1 HRA
  cases ra with
  | false =>
    have HE : Hid (True → z = false) := HX.out
    clear HX
    go_wp2
    go_ret
    exact ⟨by rw [HE.out trivial]; rfl, HT.out.trans HT3.out (fun _ _ f => f)⟩
  | true =>
    obtain ⟨y0, y1⟩ := box_t19 (HB.out.turn HT3.out (fun f => f))
    go_wp2_with fail
    refine (HRB.out w3).mono ?_
    rintro e w4 ⟨rfl, t4⟩
    have HT4 := Lib.hid (HT3.out.trans t4 (fun _ _ f => f))
    clear t4 y0 y1 HRB
    obtain ⟨x0, x1⟩ := box_t19 (HA.out.turn HT4.out (fun f => f))
    obtain ⟨y0, y1⟩ := box_t19 (HB.out.turn HT4.out (fun f => f))
    cases rb with
    | false =>
      have HE : Hid (True → z = false) := HX.out
      clear HX
      go_wp2
      go_ret
      exact ⟨by rw [HE.out trivial]; rfl, HT.out.trans HT4.out (fun _ _ f => f)⟩
    | true =>
      have HX2 : Hid (True → z = (decide (u ≤ x) && decide (y ≤ v))) := HX.out
      clear HX
      by_cases h1 : u ≤ x
      · by_cases h2 : y ≤ v
        · have HE : Hid (True → z = true) := fun _ => by rw [HX2.out trivial, decide_eq_true h1, decide_eq_true h2]; rfl
          go_wp2
          go_ret
          exact ⟨by rw [HE.out trivial]; first | rfl | exact ret_bool (decide_eq_true (by omega)) | exact ret_bool (decide_eq_false (by omega)) | exact ret_bool (by simp; omega), HT.out.trans HT4.out (fun _ _ f => f)⟩
        · have HE : Hid (True → z = false) := fun _ => by rw [HX2.out trivial, decide_eq_false h2, Bool.and_false]
          go_wp2
          go_ret
          exact ⟨by rw [HE.out trivial]; first | rfl | exact ret_bool (decide_eq_true (by omega)) | exact ret_bool (decide_eq_false (by omega)) | exact ret_bool (by simp; omega), HT.out.trans HT4.out (fun _ _ f => f)⟩
      · have HE : Hid (True → z = false) := fun _ => by rw [HX2.out trivial, decide_eq_false h1, Bool.false_and]
        go_wp2
        go_ret
        exact ⟨by rw [HE.out trivial]; first | rfl | exact ret_bool (decide_eq_true (by omega)) | exact ret_bool (decide_eq_false (by omega)) | exact ret_bool (by simp; omega), HT.out.trans HT4.out (fun _ _ f => f)⟩

set_option maxHeartbeats 8000000 in
theorem ref_meets19 (a b : T19) (w : World) : Calls Try.prog 19 #[tv19 a, tv19 b] w fun e w' => e = .returned (.bool (meets19 a b)) ∧ Turn (fun _ => False) w w' := by
  obtain ⟨g, hg⟩ : ∃ g, g = w.heap.size := ⟨_, rfl⟩
  obtain ⟨k, hk⟩ : ∃ k, k = w.heap.size + 1 := ⟨_, rfl⟩
  obtain ⟨wb, hwb⟩ : ∃ wb, wb = (w.alloc (.cells (tcells19 a) 23)).alloc (.cells (tcells19 b) 23) := ⟨_, rfl⟩
  have HT : Hid (Turn (fun _ => False) w wb) := by rw [hwb]; exact ((Turn.refl _ w).alloc _).alloc _
  have HA : Hid (Box wb g 23 (tcells19 a)) := by rw [hwb, hg]; exact (Box.new w _ _).alloc _
  have HB : Hid (Box wb k 23 (tcells19 b)) := by
    have h := Box.new (w.alloc (.cells (tcells19 a) 23)) 23 (tcells19 b)
    rw [World.size_alloc] at h
    rw [hwb, hk]
    exact h
  obtain ⟨z0, z1⟩ := box_t19 HA.out
  rw [hwb, hg] at z0 z1
  have HSA := Lib.hid (ref_span19 a wb)
  have HSB : Hid (∀ W, Calls Try.prog 8 #[tv19 b] W fun e w' => e = .returned (.tuple #[.int .i64 (span19 b).1, .int .i64 (span19 b).2]) ∧ Turn (fun _ => False) W w') := fun W => ref_span19 b W
  have HRA : Hid (∀ W, Calls Try.prog 12 #[tv19 a] W fun e w' => e = .returned (.bool (right19 a)) ∧ Turn (fun _ => False) W w') := fun W => ref_right19 a W
  have HRB : Hid (∀ W, Calls Try.prog 12 #[tv19 b] W fun e w' => e = .returned (.bool (right19 b)) ∧ Turn (fun _ => False) W w') := fun W => ref_right19 b W
  have HX : Hid (True → meets19 a b = (right19 a && (right19 b && (decide ((span19 a).1 < (span19 b).2) && decide ((span19 b).1 < (span19 a).2))))) := fun _ => rfl
  have HWB := Lib.hid hwb; have HG := Lib.hid hg; have HK := Lib.hid hk
  generalize meets19 a b = z at *
  generalize right19 a = ra at *
  generalize right19 b = rb at *
  generalize (span19 a).1 = x at *
  generalize (span19 a).2 = y at *
  generalize (span19 b).1 = u at *
  generalize (span19 b).2 = v at *
  clear hwb hg hk
  go_enter Try.func19, Try.ntmps19
  go_wp2_with fail
  rw [← HWB.out, ← HK.out, ← HG.out]
  refine HSA.out.mono ?_
  rintro e w1 ⟨rfl, t1⟩
  have HT1 := Lib.hid t1
  clear t1 z0 z1 HSA
  obtain ⟨y0, y1⟩ := box_t19 (HB.out.turn HT1.out (fun f => f))
  go_wp2_with fail
  refine (HSB.out w1).mono ?_
  rintro e w2 ⟨rfl, t2⟩
  have HT2 := Lib.hid (HT1.out.trans t2 (fun _ _ f => f))
  clear t2 y0 y1 HSB
  obtain ⟨x0, x1⟩ := box_t19 (HA.out.turn HT2.out (fun f => f))
  go_wp2_with fail
  refine (HRA.out w2).mono ?_
  rintro e w3 ⟨rfl, t3⟩
  have HT3 := Lib.hid (HT2.out.trans t3 (fun _ _ f => f))
  clear t3 x0 x1 HRA
  cases ra with
  | false =>
    have HE : Hid (True → z = false) := HX.out
    clear HX
    go_wp2
    go_ret
    exact ⟨by rw [HE.out trivial]; rfl, HT.out.trans HT3.out (fun _ _ f => f)⟩
  | true =>
    obtain ⟨y0, y1⟩ := box_t19 (HB.out.turn HT3.out (fun f => f))
    go_wp2_with fail
    refine (HRB.out w3).mono ?_
    rintro e w4 ⟨rfl, t4⟩
    have HT4 := Lib.hid (HT3.out.trans t4 (fun _ _ f => f))
    clear t4 y0 y1 HRB
    obtain ⟨x0, x1⟩ := box_t19 (HA.out.turn HT4.out (fun f => f))
    obtain ⟨y0, y1⟩ := box_t19 (HB.out.turn HT4.out (fun f => f))
    cases rb with
    | false =>
      have HE : Hid (True → z = false) := HX.out
      clear HX
      go_wp2
      go_ret
      exact ⟨by rw [HE.out trivial]; rfl, HT.out.trans HT4.out (fun _ _ f => f)⟩
    | true =>
      have HX2 : Hid (True → z = (decide (x < v) && decide (u < y))) := HX.out
      clear HX
      by_cases h1 : x < v
      · by_cases h2 : u < y
        · have HE : Hid (True → z = true) := fun _ => by rw [HX2.out trivial, decide_eq_true h1, decide_eq_true h2]; rfl
          go_wp2
          go_ret
          exact ⟨by rw [HE.out trivial]; first | rfl | exact ret_bool (decide_eq_true (by omega)) | exact ret_bool (decide_eq_false (by omega)) | exact ret_bool (by simp; omega), HT.out.trans HT4.out (fun _ _ f => f)⟩
        · have HE : Hid (True → z = false) := fun _ => by rw [HX2.out trivial, decide_eq_false h2, Bool.and_false]
          go_wp2
          go_ret
          exact ⟨by rw [HE.out trivial]; first | rfl | exact ret_bool (decide_eq_true (by omega)) | exact ret_bool (decide_eq_false (by omega)) | exact ret_bool (by simp; omega), HT.out.trans HT4.out (fun _ _ f => f)⟩
      · have HE : Hid (True → z = false) := fun _ => by rw [HX2.out trivial, decide_eq_false h1, Bool.false_and]
        go_wp2
        go_ret
        exact ⟨by rw [HE.out trivial]; first | rfl | exact ret_bool (decide_eq_true (by omega)) | exact ret_bool (decide_eq_false (by omega)) | exact ret_bool (by simp; omega), HT.out.trans HT4.out (fun _ _ f => f)⟩

set_option maxHeartbeats 8000000 in
theorem ref_less19 (a b : T19) (w : World) : Calls Try.prog 21 #[tv19 a, tv19 b] w fun e w' => e = .returned (.bool (less19 a b)) ∧ Turn (fun _ => False) w w' := by
  obtain ⟨g, hg⟩ : ∃ g, g = w.heap.size := ⟨_, rfl⟩
  obtain ⟨k, hk⟩ : ∃ k, k = w.heap.size + 1 := ⟨_, rfl⟩
  obtain ⟨wb, hwb⟩ : ∃ wb, wb = (w.alloc (.cells (tcells19 a) 23)).alloc (.cells (tcells19 b) 23) := ⟨_, rfl⟩
  have HT : Hid (Turn (fun _ => False) w wb) := by rw [hwb]; exact ((Turn.refl _ w).alloc _).alloc _
  have HA : Hid (Box wb g 23 (tcells19 a)) := by rw [hwb, hg]; exact (Box.new w _ _).alloc _
  have HB : Hid (Box wb k 23 (tcells19 b)) := by
    have h := Box.new (w.alloc (.cells (tcells19 a) 23)) 23 (tcells19 b)
    rw [World.size_alloc] at h
    rw [hwb, hk]
    exact h
  obtain ⟨z0, z1⟩ := box_t19 HA.out
  rw [hwb, hg] at z0 z1
  have HSA := Lib.hid (ref_span19 a wb)
  have HSB : Hid (∀ W, Calls Try.prog 8 #[tv19 b] W fun e w' => e = .returned (.tuple #[.int .i64 (span19 b).1, .int .i64 (span19 b).2]) ∧ Turn (fun _ => False) W w') := fun W => ref_span19 b W
  have HRA : Hid (∀ W, Calls Try.prog 12 #[tv19 a] W fun e w' => e = .returned (.bool (right19 a)) ∧ Turn (fun _ => False) W w') := fun W => ref_right19 a W
  have HRB : Hid (∀ W, Calls Try.prog 12 #[tv19 b] W fun e w' => e = .returned (.bool (right19 b)) ∧ Turn (fun _ => False) W w') := fun W => ref_right19 b W
  have HX : Hid (True → less19 a b = (right19 a && (right19 b && (decide ((span19 a).1 < (span19 b).1) || (decide ((span19 a).1 = (span19 b).1) && decide (a.t < b.t)))))) := fun _ => rfl
  have HWB := Lib.hid hwb; have HG := Lib.hid hg; have HK := Lib.hid hk
  generalize less19 a b = z at *
  generalize right19 a = ra at *
  generalize right19 b = rb at *
  generalize (span19 a).1 = x at *
  generalize (span19 a).2 = y at *
  generalize (span19 b).1 = u at *
  generalize (span19 b).2 = v at *
  clear hwb hg hk
  go_enter Try.func21, Try.ntmps21
  go_wp2_with fail
  rw [← HWB.out, ← HK.out, ← HG.out]
  refine HSA.out.mono ?_
  rintro e w1 ⟨rfl, t1⟩
  have HT1 := Lib.hid t1
  clear t1 z0 z1 HSA
  obtain ⟨y0, y1⟩ := box_t19 (HB.out.turn HT1.out (fun f => f))
  go_wp2_with fail
  refine (HSB.out w1).mono ?_
  rintro e w2 ⟨rfl, t2⟩
  have HT2 := Lib.hid (HT1.out.trans t2 (fun _ _ f => f))
  clear t2 y0 y1 HSB
  obtain ⟨x0, x1⟩ := box_t19 (HA.out.turn HT2.out (fun f => f))
  go_wp2_with fail
  refine (HRA.out w2).mono ?_
  rintro e w3 ⟨rfl, t3⟩
  have HT3 := Lib.hid (HT2.out.trans t3 (fun _ _ f => f))
  clear t3 x0 x1 HRA
  cases ra with
  | false =>
    have HE : Hid (True → z = false) := HX.out
    clear HX
    go_wp2
    go_ret
    exact ⟨by rw [HE.out trivial]; rfl, HT.out.trans HT3.out (fun _ _ f => f)⟩
  | true =>
    obtain ⟨y0, y1⟩ := box_t19 (HB.out.turn HT3.out (fun f => f))
    go_wp2_with fail
    refine (HRB.out w3).mono ?_
    rintro e w4 ⟨rfl, t4⟩
    have HT4 := Lib.hid (HT3.out.trans t4 (fun _ _ f => f))
    clear t4 y0 y1 HRB
    obtain ⟨x0, x1⟩ := box_t19 (HA.out.turn HT4.out (fun f => f))
    obtain ⟨y0, y1⟩ := box_t19 (HB.out.turn HT4.out (fun f => f))
    cases rb with
    | false =>
      have HE : Hid (True → z = false) := HX.out
      clear HX
      go_wp2
      go_ret
      exact ⟨by rw [HE.out trivial]; rfl, HT.out.trans HT4.out (fun _ _ f => f)⟩
    | true =>
      have HX2 : Hid (True → z = (decide (x < u) || (decide (x = u) && decide (a.t < b.t)))) := HX.out
      clear HX
      by_cases h1 : x < u
      · have HE : Hid (True → z = true) := fun _ => by rw [HX2.out trivial, decide_eq_true h1]; rfl
        go_wp2
        go_ret
        exact ⟨by rw [HE.out trivial]; first | rfl | exact ret_bool (decide_eq_true (by omega)) | exact ret_bool (decide_eq_false (by omega)) | exact ret_bool (by simp; omega), HT.out.trans HT4.out (fun _ _ f => f)⟩
      · by_cases h2 : x = u
        · have e2 : (x == u) = true := by rw [beq_iff_eq]; exact h2
          by_cases h3 : a.t < b.t
          · have HE : Hid (True → z = true) := fun _ => by rw [HX2.out trivial, decide_eq_true h2, decide_eq_true h3, Bool.and_true, Bool.or_true]
            clear h2
            go_wp2
            go_ret
            exact ⟨by rw [HE.out trivial]; first | rfl | exact ret_bool (decide_eq_true (by omega)) | exact ret_bool (decide_eq_false (by omega)) | exact ret_bool (by simp; omega), HT.out.trans HT4.out (fun _ _ f => f)⟩
          · have HE : Hid (True → z = false) := fun _ => by rw [HX2.out trivial, decide_eq_false h1, decide_eq_false h3, Bool.and_false]; rfl
            clear h2
            go_wp2
            go_ret
            exact ⟨by rw [HE.out trivial]; first | rfl | exact ret_bool (decide_eq_true (by omega)) | exact ret_bool (decide_eq_false (by omega)) | exact ret_bool (by simp; omega), HT.out.trans HT4.out (fun _ _ f => f)⟩
        · have e2 : (x == u) = false := by rw [beq_eq_false_iff_ne]; exact h2
          have HE : Hid (True → z = false) := fun _ => by rw [HX2.out trivial, decide_eq_false h1, decide_eq_false h2]; rfl
          clear h2
          go_wp2
          go_ret
          exact ⟨by rw [HE.out trivial]; first | rfl | exact ret_bool (decide_eq_true (by omega)) | exact ret_bool (decide_eq_false (by omega)) | exact ret_bool (by simp; omega), HT.out.trans HT4.out (fun _ _ f => f)⟩

end Go.Proofs.Ytmpgfipfijbbkaa

/-
  Stage 19: the program's index, Right, Of, Span, Has.
-/
namespace Go.Proofs.Ytmpgfipfijbbkaa
open Go.RowKit

set_option maxRecDepth 100000

theorem draw_none19 (w : World) : w = w.drewN 0 := by first | rfl | simp [World.drewN]
set_option maxHeartbeats 4000000 in
theorem index_any19 (t : Int) (N : Nat) (w : World) (hN : N ≤ 16777216) : Calls Try.prog 28 #[.int .i64 t, .int .i64 (N : Int)] w fun e w' => e = .returned (.tuple #[.int .i64 (idx19 t (N : Int)).1, .bool (idx19 t (N : Int)).2]) ∧ ∃ k, w' = w.drewN k := by
  have hq : (N : Int) / 24 = ((N / 24 : Nat) : Int) := by omega
  have hI : idx19 t (N : Int) = if t = 1 then ((N : Int), true) else if t = 2 then (((N / 24 : Nat) : Int), true) else if t = 3 then ((mo19 (N / 24) : Int), true) else (0, false) := by
    unfold idx19
    rw [hq, Int.toNat_natCast]
  have HDA : Hid (∀ W, Calls Try.prog 40 #[.int .i64 (N : Int)] W fun e w' => e = .returned (.int .i64 ((N / 24 : Nat) : Int)) ∧ ∃ k, w' = W.drewN k) := fun W => dayof_any N W (by omega)
  have HMO : Hid (∀ W, Calls Try.prog 41 #[.int .i64 ((N / 24 : Nat) : Int)] W fun e w' => e = .returned (.int .i64 (mo19 (N / 24) : Int)) ∧ ∃ k, w' = W.drewN k) := fun W => month_any (N / 24) W (by omega)
  clear hq
  generalize idx19 t (N : Int) = I at *
  generalize N / 24 = D at *
  generalize mo19 D = X at *
  by_cases h1 : t = 1
  · have HL : Hid (I = ((N : Int), true)) := hI.trans (if_pos h1)
    have e1 : (t == 1) = true := by rw [beq_iff_eq]; exact h1
    clear h1 hI
    go_enter Try.func28, Try.ntmps28
    go_wp2_with (first | (go_at_call 40; refine (HDA.out _).mono ?_; rintro e w' ⟨rfl, k, rfl⟩) | (go_at_call 41; refine (HMO.out _).mono ?_; rintro e w' ⟨rfl, k, rfl⟩) | fail)
    go_ret2
    first | exact ⟨by rw [HL.out]; rfl, _, draw_none19 w⟩ | exact ⟨by rw [HL.out]; rfl, _, rfl⟩
  · have e1 : (t == 1) = false := by rw [beq_eq_false_iff_ne]; exact h1
    by_cases h2 : t = 2
    · have HL : Hid (I = ((D : Int), true)) := hI.trans ((if_neg h1).trans (if_pos h2))
      have e2 : (t == 2) = true := by rw [beq_iff_eq]; exact h2
      clear h1 h2 hI
      go_enter Try.func28, Try.ntmps28
      go_wp2_with (first | (go_at_call 40; refine (HDA.out _).mono ?_; rintro e w' ⟨rfl, k, rfl⟩) | (go_at_call 41; refine (HMO.out _).mono ?_; rintro e w' ⟨rfl, k, rfl⟩) | fail)
      go_ret2
      first | exact ⟨by rw [HL.out]; rfl, _, draw_none19 w⟩ | exact ⟨by rw [HL.out]; rfl, _, rfl⟩
    · have e2 : (t == 2) = false := by rw [beq_eq_false_iff_ne]; exact h2
      by_cases h3 : t = 3
      · have HL : Hid (I = ((X : Int), true)) := hI.trans ((if_neg h1).trans ((if_neg h2).trans (if_pos h3)))
        have e3 : (t == 3) = true := by rw [beq_iff_eq]; exact h3
        clear h1 h2 h3 hI
        go_enter Try.func28, Try.ntmps28
        go_wp2_with (first | (go_at_call 40; refine (HDA.out _).mono ?_; rintro e w' ⟨rfl, k, rfl⟩) | (go_at_call 41; refine (HMO.out _).mono ?_; rintro e w' ⟨rfl, k, rfl⟩) | fail)
        go_ret2
        first | exact ⟨by rw [HL.out]; rfl, _, draw_none19 w⟩ | exact ⟨by rw [HL.out]; rfl, _, rfl⟩
      · have HL : Hid (I = (0, false)) := hI.trans ((if_neg h1).trans ((if_neg h2).trans (if_neg h3)))
        have e3 : (t == 3) = false := by rw [beq_eq_false_iff_ne]; exact h3
        clear h1 h2 h3 hI
        go_enter Try.func28, Try.ntmps28
        go_wp2_with (first | (go_at_call 40; refine (HDA.out _).mono ?_; rintro e w' ⟨rfl, k, rfl⟩) | (go_at_call 41; refine (HMO.out _).mono ?_; rintro e w' ⟨rfl, k, rfl⟩) | fail)
        go_ret2
        first | exact ⟨by rw [HL.out]; rfl, _, draw_none19 w⟩ | exact ⟨by rw [HL.out]; rfl, _, rfl⟩

set_option maxHeartbeats 4000000 in
theorem right_any19 (p : T19) (w : World) : Calls Try.prog 11 #[tv19 p] w fun e w' => e = .returned (.bool (right19 p)) ∧ Turn (fun _ => False) w w' := by
  obtain ⟨g, hg⟩ : ∃ g, g = w.heap.size := ⟨_, rfl⟩
  obtain ⟨wb, hwb⟩ : ∃ wb, wb = w.alloc (.cells (tcells19 p) 23) := ⟨_, rfl⟩
  have HT : Hid (Turn (fun _ => False) w wb) := by rw [hwb]; exact (Turn.refl _ w).alloc _
  have HBX : Hid (Box wb g 23 (tcells19 p)) := by rw [hwb, hg]; exact Box.new w _ _
  obtain ⟨z0, z1⟩ := box_t19 (Box.new w 23 (tcells19 p))
  have HIX : Hid (∀ W, Calls Try.prog 28 #[.int .i64 p.t, .int .i64 16777216] W fun e w' => e = .returned (.tuple #[.int .i64 (idx19 p.t 16777216).1, .bool (idx19 p.t 16777216).2]) ∧ ∃ k, w' = W.drewN k) := fun W => index_any19 p.t 16777216 W (Nat.le_refl _)
  have HR := Lib.hid (right_new19 p)
  have HWB := Lib.hid hwb; have HG := Lib.hid hg
  generalize right19 p = x at *
  generalize idx19 p.t 16777216 = I at *
  obtain ⟨l, ok⟩ := I
  dsimp only at HIX HR
  clear hwb hg
  go_enter Try.func11, Try.ntmps11
  go_wp2_with fail
  rw [← HWB.out, ← HG.out]
  refine (HIX.out _).mono ?_
  rintro e w1 ⟨rfl, k, rfl⟩
  have HT1 := Lib.hid (HT.out.drewN k)
  obtain ⟨y0, y1⟩ := box_t19 (HBX.out.turn (show Turn (fun _ => False) wb (wb.drewN k) from (Turn.refl _ wb).drewN k) (fun f => f))
  clear z0 z1 HIX
  cases ok with
  | false =>
    have HB : Hid (x = false) := HR.out
    clear HR
    go_wp2
    go_ret
    exact ⟨by rw [HB.out]; rfl, HT1.out⟩
  | true =>
    have HX2 : Hid (x = (decide (0 ≤ p.i) && decide (p.i ≤ l))) := HR.out.trans (Bool.true_and _)
    clear HR
    by_cases h0 : 0 ≤ p.i
    · by_cases h1 : p.i ≤ l
      · have HB : Hid (x = true) := by show _ = _; rw [HX2.out, decide_eq_true h0, decide_eq_true h1]; rfl
        go_wp2
        go_ret
        exact ⟨by rw [HB.out]; first | rfl | exact ret_bool (decide_eq_true (by omega)) | exact ret_bool (decide_eq_false (by omega)) | exact ret_bool (by simp; omega), HT1.out⟩
      · have HB : Hid (x = false) := by show _ = _; rw [HX2.out, decide_eq_false h1, Bool.and_false]
        go_wp2
        go_ret
        exact ⟨by rw [HB.out]; first | rfl | exact ret_bool (decide_eq_true (by omega)) | exact ret_bool (decide_eq_false (by omega)) | exact ret_bool (by simp; omega), HT1.out⟩
    · have HB : Hid (x = false) := by show _ = _; rw [HX2.out, decide_eq_false h0, Bool.false_and]
      go_wp2
      go_ret
      exact ⟨by rw [HB.out]; first | rfl | exact ret_bool (decide_eq_true (by omega)) | exact ret_bool (decide_eq_false (by omega)) | exact ret_bool (by simp; omega), HT1.out⟩

set_option maxHeartbeats 8000000 in
theorem of_any19 (t h : Int) (w : World) : Calls Try.prog 9 #[.int .i64 t, .int .i64 h] w fun e w' => OfP19 t h w e w' := by
  by_cases h0 : h < 0
  · have HO : Hid (True → of19 t h = (⟨0, 0⟩, false)) := fun _ => of_none19 (.inl h0)
    go_enter Try.func9, Try.ntmps9
    go_wp2_with fail
    refine bodyPost_ret (v := .tuple #[.agg #[.int .i64 0, .int .i64 0], .bool false]) ?_ rfl (ofp19 (HO.out trivial) ((Turn.refl _ w).alloc _))
    rw [results_cell_tmp rfl]
    go_simp
  · by_cases h1 : 16777216 < h
    · have HO : Hid (True → of19 t h = (⟨0, 0⟩, false)) := fun _ => of_none19 (.inr h1)
      go_enter Try.func9, Try.ntmps9
      go_wp2_with fail
      refine bodyPost_ret (v := .tuple #[.agg #[.int .i64 0, .int .i64 0], .bool false]) ?_ rfl (ofp19 (HO.out trivial) ((Turn.refl _ w).alloc _))
      rw [results_cell_tmp rfl]
      go_simp
    · obtain ⟨ho1, ho2⟩ := of_some19 (t := t) h0 h1
      obtain ⟨N, rfl⟩ := Int.eq_ofNat_of_zero_le (show 0 ≤ h by omega)
      have HIX : Hid (∀ W, Calls Try.prog 28 #[.int .i64 t, .int .i64 (N : Int)] W fun e w' => e = .returned (.tuple #[.int .i64 (idx19 t (N : Int)).1, .bool (idx19 t (N : Int)).2]) ∧ ∃ k, w' = W.drewN k) := fun W => index_any19 t N W (by omega)
      generalize idx19 t (N : Int) = I at *
      obtain ⟨l, ok⟩ := I
      dsimp only at HIX ho1 ho2
      cases ok with
      | false =>
        have HO : Hid (True → of19 t (N : Int) = (⟨0, 0⟩, false)) := fun _ => ho2 rfl
        clear ho1 ho2
        go_enter Try.func9, Try.ntmps9
        go_wp2_with (go_at_call 28; refine (HIX.out _).mono ?_; rintro e w' ⟨rfl, k, rfl⟩)
        refine bodyPost_ret (v := .tuple #[.agg #[.int .i64 0, .int .i64 0], .bool false]) ?_ rfl (ofp19 (HO.out trivial) (((((Turn.refl _ w).alloc _).drewN _).setCell (fun h => absurd h (Nat.lt_irrefl _)) _).setCell (fun h => absurd h (Nat.lt_irrefl _)) _))
        rw [results_cell_tmp rfl]
        go_simp
      | true =>
        have HO : Hid (True → of19 t (N : Int) = (⟨t, l⟩, true)) := fun _ => ho1 rfl
        clear ho1 ho2
        go_enter Try.func9, Try.ntmps9
        go_wp2_with (go_at_call 28; refine (HIX.out _).mono ?_; rintro e w' ⟨rfl, k, rfl⟩)
        refine bodyPost_ret (v := .tuple #[.agg #[.int .i64 t, .int .i64 l], .bool true]) ?_ rfl (ofp19 (HO.out trivial) (((((Turn.refl _ w).alloc _).drewN _).setCell (fun h => absurd h (Nat.lt_irrefl _)) _).setCell (fun h => absurd h (Nat.lt_irrefl _)) _))
        rw [results_cell_tmp rfl]
        go_simp

set_option maxHeartbeats 8000000 in
theorem span_any19 (p : T19) (w : World) : Calls Try.prog 7 #[tv19 p] w fun e w' => e = .returned (.tuple #[.int .i64 (span19 p).1, .int .i64 (span19 p).2]) ∧ Turn (fun _ => False) w w' := by
  obtain ⟨wb, hwb⟩ : ∃ wb, wb = w.alloc (.cells (tcells19 p) 23) := ⟨_, rfl⟩
  obtain ⟨g, hg⟩ : ∃ g, g = w.heap.size := ⟨_, rfl⟩
  have HT : Hid (Turn (fun _ => False) w wb) := by rw [hwb]; exact (Turn.refl _ w).alloc _
  have HBX : Hid (Box wb g 23 (tcells19 p)) := by rw [hwb, hg]; exact Box.new w _ _
  obtain ⟨z0, z1⟩ := box_t19 (Box.new w 23 (tcells19 p))
  have HRT := Lib.hid (right_any19 p wb)
  have HWB := Lib.hid hwb; have HG := Lib.hid hg
  clear hwb hg
  cases hr : right19 p with
  | false =>
    have HS : Hid (True → span19 p = (0, 0)) := fun _ => span_no19 hr
    rw [hr] at HRT
    clear hr
    go_enter Try.func7, Try.ntmps7
    go_wp2_with fail
    rw [← HWB.out, ← HG.out]
    refine HRT.out.mono ?_
    rintro e w1 ⟨rfl, t1⟩
    have HT1 := Lib.hid (HT.out.trans t1 (fun _ _ f => f))
    have HBW := Lib.hid (HBX.out.turn t1 (fun f => f))
    obtain ⟨y0, y1⟩ := box_t19 HBW.out
    clear t1 HRT z0 z1
    go_wp2
    go_ret2
    exact ⟨by rw [HS.out trivial]; rfl, HT1.out⟩
  | true =>
    have hti := tier_of19 hr
    obtain ⟨h0, -⟩ := right_iff19.1 hr
    have hsp : span19 p = if p.t = 1 then (p.i, p.i + 1) else if p.t = 2 then (24 * p.i, 24 * (p.i + 1)) else (24 * (ma19 p.i.toNat : Int), 24 * (mb19 p.i.toNat : Int)) := if_pos hr
    rw [hr] at HRT
    clear hr
    obtain ⟨pt, pi⟩ := p
    dsimp only at hti h0 hsp HBX HRT HWB
    obtain ⟨N, rfl⟩ := Int.eq_ofNat_of_zero_le h0
    rw [Int.toNat_natCast] at hsp
    rcases hti with ⟨rfl, hb⟩ | ⟨rfl, hb⟩ | ⟨rfl, hb⟩
    · have HS : Hid (True → span19 ⟨1, (N : Int)⟩ = ((N : Int), (N : Int) + 1)) := fun _ => hsp.trans (if_pos rfl)
      have hw : IntKind.i64.wrap ((N : Int) + 1) = (N : Int) + 1 := IntWalk.i64_in _ (by omega)
      clear hsp h0
      go_enter Try.func7, Try.ntmps7
      go_wp2_with fail
      rw [← HWB.out, ← HG.out]
      refine HRT.out.mono ?_
      rintro e w1 ⟨rfl, t1⟩
      have HT1 := Lib.hid (HT.out.trans t1 (fun _ _ f => f))
      have HBW := Lib.hid (HBX.out.turn t1 (fun f => f))
      obtain ⟨y0, y1⟩ := box_t19 HBW.out
      clear t1 HRT z0 z1
      go_wp2_with fail
      go_quiet (fail)
      go_wp2
      go_ret2
      exact ⟨by rw [HS.out trivial]; rfl, HT1.out.drewN _⟩
    · have HS : Hid (True → span19 ⟨2, (N : Int)⟩ = (24 * (N : Int), 24 * ((N : Int) + 1))) := fun _ => hsp.trans ((if_neg (by decide)).trans (if_pos rfl))
      have hw : IntKind.i64.wrap ((N : Int) + 1) = (N : Int) + 1 := IntWalk.i64_in _ (by omega)
      have hw2 : IntKind.i64.wrap (24 * (N : Int)) = 24 * (N : Int) := IntWalk.i64_in _ (by omega)
      have hw3 : IntKind.i64.wrap (24 * ((N : Int) + 1)) = 24 * ((N : Int) + 1) := IntWalk.i64_in _ (by omega)
      clear hsp h0
      go_enter Try.func7, Try.ntmps7
      go_wp2_with fail
      rw [← HWB.out, ← HG.out]
      refine HRT.out.mono ?_
      rintro e w1 ⟨rfl, t1⟩
      have HT1 := Lib.hid (HT.out.trans t1 (fun _ _ f => f))
      have HBW := Lib.hid (HBX.out.turn t1 (fun f => f))
      obtain ⟨y0, y1⟩ := box_t19 HBW.out
      clear t1 HRT z0 z1
      go_wp2_with fail
      go_quiet (fail)
      go_wp2
      go_ret2
      exact ⟨by rw [HS.out trivial]; rfl, HT1.out.drewN _⟩
    · have HS : Hid (True → span19 ⟨3, (N : Int)⟩ = (24 * (ma19 N : Int), 24 * (mb19 N : Int))) := fun _ => hsp.trans ((if_neg (by decide)).trans (if_neg (by decide)))
      have HSP : Hid (∀ W, Calls Try.prog 26 #[.int .i64 (N : Int)] W fun e w' => e = .returned (.tuple #[.int .i64 (ma19 N : Int), .int .i64 (mb19 N : Int)]) ∧ ∃ k, w' = W.drewN k) := fun W => span_any N W (by omega)
      obtain ⟨l1, l2⟩ := mb_le19 (n := N) (by omega)
      generalize ma19 N = A at *
      generalize mb19 N = B at *
      have hw : IntKind.i64.wrap ((N : Int) + 1) = (N : Int) + 1 := IntWalk.i64_in _ (by omega)
      have hw2 : IntKind.i64.wrap (24 * (A : Int)) = 24 * (A : Int) := IntWalk.i64_in _ (by omega)
      have hw3 : IntKind.i64.wrap (24 * (B : Int)) = 24 * (B : Int) := IntWalk.i64_in _ (by omega)
      clear hsp h0
      go_enter Try.func7, Try.ntmps7
      go_wp2_with fail
      rw [← HWB.out, ← HG.out]
      refine HRT.out.mono ?_
      rintro e w1 ⟨rfl, t1⟩
      have HT1 := Lib.hid (HT.out.trans t1 (fun _ _ f => f))
      have HBW := Lib.hid (HBX.out.turn t1 (fun f => f))
      obtain ⟨y0, y1⟩ := box_t19 HBW.out
      clear t1 HRT z0 z1
      go_wp2_with fail
      go_quiet (fail)
      go_wp2_with (go_at_call 26; refine (HSP.out _).mono ?_; rintro e w' ⟨rfl, k, rfl⟩)
      go_ret2
      first | exact ⟨by rw [HS.out trivial]; rfl, HT1.out.drewN _⟩ | exact ⟨by rw [HS.out trivial]; rfl, (HT1.out.drewN _).drewN _⟩

set_option maxHeartbeats 4000000 in
theorem has_any19 (p : T19) (h : Int) (w : World) : Calls Try.prog 13 #[tv19 p, .int .i64 h] w fun e w' => e = .returned (.bool (has19 p h)) ∧ Turn (fun _ => False) w w' := by
  obtain ⟨wb, hwb⟩ : ∃ wb, wb = w.alloc (.cells (tcells19 p) 23) := ⟨_, rfl⟩
  have HT : Hid (Turn (fun _ => False) w wb) := by rw [hwb]; exact (Turn.refl _ w).alloc _
  obtain ⟨z0, z1⟩ := box_t19 (Box.new w 23 (tcells19 p))
  have HSP := Lib.hid (span_any19 p wb)
  have HH : Hid (has19 p h = (decide ((span19 p).1 ≤ h) && decide (h < (span19 p).2))) := rfl
  have HWB := Lib.hid hwb
  generalize has19 p h = x at *
  generalize (span19 p).1 = a at *
  generalize (span19 p).2 = b at *
  clear hwb
  by_cases h1 : a ≤ h
  · by_cases h2 : h < b
    · have HB : Hid (x = true) := by show _ = _; rw [HH.out, decide_eq_true h1, decide_eq_true h2]; rfl
      go_enter Try.func13, Try.ntmps13
      go_wp2_with fail
      rw [← HWB.out]
      refine HSP.out.mono ?_
      rintro e w1 ⟨rfl, t1⟩
      have HT1 := Lib.hid (HT.out.trans t1 (fun _ _ f => f))
      clear t1 HSP z0 z1
      go_wp2
      go_ret
      exact ⟨by rw [HB.out]; first | rfl | exact ret_bool (decide_eq_true (by omega)) | exact ret_bool (decide_eq_false (by omega)), HT1.out⟩
    · have HB : Hid (x = false) := by show _ = _; rw [HH.out, decide_eq_false h2, Bool.and_false]
      go_enter Try.func13, Try.ntmps13
      go_wp2_with fail
      rw [← HWB.out]
      refine HSP.out.mono ?_
      rintro e w1 ⟨rfl, t1⟩
      have HT1 := Lib.hid (HT.out.trans t1 (fun _ _ f => f))
      clear t1 HSP z0 z1
      go_wp2
      go_ret
      exact ⟨by rw [HB.out]; first | rfl | exact ret_bool (decide_eq_true (by omega)) | exact ret_bool (decide_eq_false (by omega)), HT1.out⟩
  · have HB : Hid (x = false) := by show _ = _; rw [HH.out, decide_eq_false h1, Bool.false_and]
    go_enter Try.func13, Try.ntmps13
    go_wp2_with fail
    rw [← HWB.out]
    refine HSP.out.mono ?_
    rintro e w1 ⟨rfl, t1⟩
    have HT1 := Lib.hid (HT.out.trans t1 (fun _ _ f => f))
    clear t1 HSP z0 z1
    go_wp2
    go_ret
    exact ⟨by rw [HB.out]; first | rfl | exact ret_bool (decide_eq_true (by omega)) | exact ret_bool (decide_eq_false (by omega)), HT1.out⟩

end Go.Proofs.Ytmpgfipfijbbkaa

/-
  Stage 19: the program's Within, Meets, Less.
-/
namespace Go.Proofs.Ytmpgfipfijbbkaa
open Go.RowKit

set_option maxRecDepth 100000

theorem box_two19 (w : World) (a b : T19) : ∃ (g k : Nat) (wb : World), g = w.heap.size ∧ k = w.heap.size + 1 ∧ wb = (w.alloc (.cells (tcells19 a) 23)).alloc (.cells (tcells19 b) 23) ∧ Turn (fun _ => False) w wb ∧ Box wb g 23 (tcells19 a) ∧ Box wb k 23 (tcells19 b) := by
  refine ⟨_, _, _, rfl, rfl, rfl, ((Turn.refl _ w).alloc _).alloc _, (Box.new w _ _).alloc _, ?_⟩
  have h := Box.new (w.alloc (.cells (tcells19 a) 23)) 23 (tcells19 b)
  rw [World.size_alloc] at h
  exact h

set_option maxHeartbeats 8000000 in
theorem within_any19 (a b : T19) (w : World) : Calls Try.prog 16 #[tv19 a, tv19 b] w fun e w' => e = .returned (.bool (within19 a b)) ∧ Turn (fun _ => False) w w' := by
  obtain ⟨g, k, wb, hg, hk, hwb, hT, hA, hB⟩ := box_two19 w a b
  have HT := Lib.hid hT; have HA := Lib.hid hA; have HB := Lib.hid hB
  obtain ⟨z0, z1⟩ := box_t19 hA
  rw [hwb, hg] at z0 z1
  have HRA := Lib.hid (right_any19 a wb)
  have HSA : Hid (∀ W, Calls Try.prog 7 #[tv19 a] W fun e w' => e = .returned (.tuple #[.int .i64 (span19 a).1, .int .i64 (span19 a).2]) ∧ Turn (fun _ => False) W w') := fun W => span_any19 a W
  have HOF : Hid (∀ W, Calls Try.prog 9 #[.int .i64 b.t, .int .i64 (span19 a).1] W fun e w' => OfP19 b.t (span19 a).1 W e w') := fun W => of_any19 b.t (span19 a).1 W
  have HX : Hid (True → within19 a b = (right19 a && (decide (a.t ≤ b.t) && ((of19 b.t (span19 a).1).2 && eqT (of19 b.t (span19 a).1).1 b)))) := fun _ => within_new19 a b
  have HWB := Lib.hid hwb; have HG := Lib.hid hg; have HK := Lib.hid hk
  unfold OfP19 at HOF
  generalize within19 a b = z at *
  generalize right19 a = ra at *
  generalize of19 b.t (span19 a).1 = o at *
  obtain ⟨q, is⟩ := o
  dsimp only at HX HOF
  generalize (span19 a).1 = x at *
  generalize (span19 a).2 = y at *
  have HQ : Hid (∀ W, Sem.run Try.prog (binOp .eql 23 (tv19 q) (tv19 b)) W = .ok (.bool (eqT q b)) W) := fun W => run_eql_part20 q b W
  generalize eqT q b = eq at *
  clear hwb hg hk hT hA hB
  go_enter Try.func16, Try.ntmps16
  go_wp2_with fail
  rw [← HWB.out, ← HK.out, ← HG.out]
  refine HRA.out.mono ?_
  rintro e w1 ⟨rfl, t1⟩
  have HT1 := Lib.hid t1
  clear t1 z0 z1 HRA
  cases ra with
  | false =>
    have HE : Hid (True → z = false) := HX.out
    clear HX
    go_wp2
    go_ret
    exact ⟨by rw [HE.out trivial]; rfl, HT.out.trans HT1.out (fun _ _ f => f)⟩
  | true =>
    have HX1 : Hid (True → z = (decide (a.t ≤ b.t) && (is && eq))) := HX.out
    clear HX
    obtain ⟨x0, x1⟩ := box_t19 (HA.out.turn HT1.out (fun f => f))
    obtain ⟨y0, y1⟩ := box_t19 (HB.out.turn HT1.out (fun f => f))
    by_cases hle : a.t ≤ b.t
    · have HX2 : Hid (True → z = (is && eq)) := fun _ => by rw [HX1.out trivial, decide_eq_true hle]; rfl
      clear HX1
      go_wp2_with fail
      refine (HSA.out w1).mono ?_
      rintro e w2 ⟨rfl, t2⟩
      have HT2 := Lib.hid (HT1.out.trans t2 (fun _ _ f => f))
      clear t2 x0 x1 y0 y1 HSA
      obtain ⟨y0, y1⟩ := box_t19 (HB.out.turn HT2.out (fun f => f))
      go_wp2_with fail
      refine (HOF.out w2).mono ?_
      rintro e w3 ⟨rfl, t3⟩
      obtain ⟨m, hm⟩ : ∃ m, m = w3.heap.size := ⟨_, rfl⟩
      obtain ⟨w4, hw4⟩ : ∃ w4, w4 = w3.alloc (.cells (tcells19 q) 23) := ⟨_, rfl⟩
      have HT4 : Hid (Turn (fun _ => False) wb w4) := by rw [hw4]; exact (HT2.out.trans t3 (fun _ _ f => f)).alloc _
      have HM4 : Hid (Box w4 m 23 (tcells19 q)) := by rw [hw4, hm]; exact Box.new w3 _ _
      clear y0 y1 t3
      obtain ⟨y0, y1⟩ := box_t19 (HB.out.turn HT4.out (fun f => f))
      obtain ⟨x0, x1⟩ := box_t19 HM4.out
      rw [hw4] at y0 y1 x0 x1
      rw [hm] at x0 x1
      have HW4 := Lib.hid hw4; have HMM := Lib.hid hm
      clear hw4 hm HOF
      have hq := HQ.out
      cases is with
      | false =>
        have HE : Hid (True → z = false) := HX2.out
        clear HX2
        go_wp2
        go_ret
        exact ⟨by rw [HE.out trivial]; rfl, by rw [← HW4.out]; exact HT.out.trans HT4.out (fun _ _ f => f)⟩
      | true =>
        have HE : Hid (True → z = eq) := HX2.out
        clear HX2
        go_wp2
        go_ret
        exact ⟨by rw [HE.out trivial]; first | rfl | simp, by rw [← HW4.out]; exact HT.out.trans HT4.out (fun _ _ f => f)⟩
    · have HE : Hid (True → z = false) := fun _ => by rw [HX1.out trivial, decide_eq_false hle]; rfl
      have hgt : b.t < a.t := by omega
      clear HX1
      go_wp2
      go_ret
      exact ⟨by rw [HE.out trivial]; rfl, HT.out.trans HT1.out (fun _ _ f => f)⟩

set_option maxHeartbeats 8000000 in
theorem meets_any19 (a b : T19) (w : World) : Calls Try.prog 18 #[tv19 a, tv19 b] w fun e w' => e = .returned (.bool (meets19 a b)) ∧ Turn (fun _ => False) w w' := by
  obtain ⟨g, k, wb, hg, hk, hwb, hT, hA, hB⟩ := box_two19 w a b
  have HT := Lib.hid hT; have HA := Lib.hid hA; have HB := Lib.hid hB
  obtain ⟨z0, z1⟩ := box_t19 hA
  obtain ⟨y0, y1⟩ := box_t19 hB
  rw [hwb, hg] at z0 z1
  rw [hwb, hk] at y0 y1
  have HWA := Lib.hid (within_any19 a b wb)
  have HWC : Hid (∀ W, Calls Try.prog 16 #[tv19 b, tv19 a] W fun e w' => e = .returned (.bool (within19 b a)) ∧ Turn (fun _ => False) W w') := fun W => within_any19 b a W
  have HX : Hid (True → meets19 a b = (within19 a b || within19 b a)) := fun _ => meets_new19 a b
  have HWB := Lib.hid hwb; have HG := Lib.hid hg; have HK := Lib.hid hk
  generalize meets19 a b = z at *
  generalize within19 a b = u at *
  generalize within19 b a = v at *
  clear hwb hg hk hT hA hB
  go_enter Try.func18, Try.ntmps18
  go_wp2_with fail
  rw [← HWB.out, ← HK.out, ← HG.out]
  refine HWA.out.mono ?_
  rintro e w1 ⟨rfl, t1⟩
  have HT1 := Lib.hid t1
  clear t1 z0 z1 y0 y1 HWA
  cases u with
  | true =>
    have HE : Hid (True → z = true) := HX.out
    clear HX
    go_wp2
    go_ret
    exact ⟨by rw [HE.out trivial]; rfl, HT.out.trans HT1.out (fun _ _ f => f)⟩
  | false =>
    have HE : Hid (True → z = v) := HX.out
    clear HX
    obtain ⟨x0, x1⟩ := box_t19 (HA.out.turn HT1.out (fun f => f))
    obtain ⟨y0, y1⟩ := box_t19 (HB.out.turn HT1.out (fun f => f))
    go_wp2_with fail
    refine (HWC.out w1).mono ?_
    rintro e w2 ⟨rfl, t2⟩
    have HT2 := Lib.hid (HT1.out.trans t2 (fun _ _ f => f))
    clear t2 x0 x1 y0 y1 HWC
    go_wp2
    go_ret
    exact ⟨by rw [HE.out trivial]; first | rfl | simp, HT.out.trans HT2.out (fun _ _ f => f)⟩

set_option maxHeartbeats 8000000 in
theorem less_any19 (a b : T19) (w : World) : Calls Try.prog 20 #[tv19 a, tv19 b] w fun e w' => e = .returned (.bool (less19 a b)) ∧ Turn (fun _ => False) w w' := by
  obtain ⟨g, k, wb, hg, hk, hwb, hT, hA, hB⟩ := box_two19 w a b
  have HT := Lib.hid hT; have HA := Lib.hid hA; have HB := Lib.hid hB
  obtain ⟨z0, z1⟩ := box_t19 hA
  rw [hwb, hg] at z0 z1
  have HRA := Lib.hid (right_any19 a wb)
  have HRB : Hid (∀ W, Calls Try.prog 11 #[tv19 b] W fun e w' => e = .returned (.bool (right19 b)) ∧ Turn (fun _ => False) W w') := fun W => right_any19 b W
  have HSA : Hid (∀ W, Calls Try.prog 7 #[tv19 a] W fun e w' => e = .returned (.tuple #[.int .i64 (span19 a).1, .int .i64 (span19 a).2]) ∧ Turn (fun _ => False) W w') := fun W => span_any19 a W
  have HSB : Hid (∀ W, Calls Try.prog 7 #[tv19 b] W fun e w' => e = .returned (.tuple #[.int .i64 (span19 b).1, .int .i64 (span19 b).2]) ∧ Turn (fun _ => False) W w') := fun W => span_any19 b W
  have HX : Hid (True → less19 a b = (right19 a && (right19 b && (decide ((span19 a).1 < (span19 b).1) || (decide ((span19 a).1 = (span19 b).1) && decide (a.t < b.t)))))) := fun _ => rfl
  have HWB := Lib.hid hwb; have HG := Lib.hid hg; have HK := Lib.hid hk
  generalize less19 a b = z at *
  generalize right19 a = ra at *
  generalize right19 b = rb at *
  generalize (span19 a).1 = x at *
  generalize (span19 a).2 = y at *
  generalize (span19 b).1 = u at *
  generalize (span19 b).2 = v at *
  clear hwb hg hk hT hA hB
  go_enter Try.func20, Try.ntmps20
  go_wp2_with fail
  rw [← HWB.out, ← HK.out, ← HG.out]
  refine HRA.out.mono ?_
  rintro e w1 ⟨rfl, t1⟩
  have HT1 := Lib.hid t1
  clear t1 z0 z1 HRA
  cases ra with
  | false =>
    have HE : Hid (True → z = false) := HX.out
    clear HX
    go_wp2
    go_ret
    exact ⟨by rw [HE.out trivial]; rfl, HT.out.trans HT1.out (fun _ _ f => f)⟩
  | true =>
    obtain ⟨y0, y1⟩ := box_t19 (HB.out.turn HT1.out (fun f => f))
    go_wp2_with fail
    refine (HRB.out w1).mono ?_
    rintro e w2 ⟨rfl, t2⟩
    have HT2 := Lib.hid (HT1.out.trans t2 (fun _ _ f => f))
    clear t2 y0 y1 HRB
    cases rb with
    | false =>
      have HE : Hid (True → z = false) := HX.out
      clear HX
      go_wp2
      go_ret
      exact ⟨by rw [HE.out trivial]; rfl, HT.out.trans HT2.out (fun _ _ f => f)⟩
    | true =>
      have HX2 : Hid (True → z = (decide (x < u) || (decide (x = u) && decide (a.t < b.t)))) := HX.out
      clear HX
      obtain ⟨x0, x1⟩ := box_t19 (HA.out.turn HT2.out (fun f => f))
      go_wp2_with fail
      refine (HSA.out w2).mono ?_
      rintro e w3 ⟨rfl, t3⟩
      have HT3 := Lib.hid (HT2.out.trans t3 (fun _ _ f => f))
      clear t3 x0 x1 HSA
      obtain ⟨y0, y1⟩ := box_t19 (HB.out.turn HT3.out (fun f => f))
      go_wp2_with fail
      refine (HSB.out w3).mono ?_
      rintro e w4 ⟨rfl, t4⟩
      have HT4 := Lib.hid (HT3.out.trans t4 (fun _ _ f => f))
      clear t4 y0 y1 HSB
      obtain ⟨x0, x1⟩ := box_t19 (HA.out.turn HT4.out (fun f => f))
      obtain ⟨y0, y1⟩ := box_t19 (HB.out.turn HT4.out (fun f => f))
      by_cases h1 : x < u
      · have HE : Hid (True → z = true) := fun _ => by rw [HX2.out trivial, decide_eq_true h1]; rfl
        go_wp2
        go_ret
        exact ⟨by rw [HE.out trivial]; first | rfl | exact ret_bool (decide_eq_true (by omega)) | exact ret_bool (decide_eq_false (by omega)) | exact ret_bool (by simp; omega), HT.out.trans HT4.out (fun _ _ f => f)⟩
      · by_cases h2 : x = u
        · have e2 : (x == u) = true := by rw [beq_iff_eq]; exact h2
          by_cases h3 : a.t < b.t
          · have HE : Hid (True → z = true) := fun _ => by rw [HX2.out trivial, decide_eq_true h2, decide_eq_true h3, Bool.and_true, Bool.or_true]
            clear h2
            go_wp2
            go_ret
            exact ⟨by rw [HE.out trivial]; first | rfl | exact ret_bool (decide_eq_true (by omega)) | exact ret_bool (decide_eq_false (by omega)) | exact ret_bool (by simp; omega), HT.out.trans HT4.out (fun _ _ f => f)⟩
          · have HE : Hid (True → z = false) := fun _ => by rw [HX2.out trivial, decide_eq_false h1, decide_eq_false h3, Bool.and_false]; rfl
            clear h2
            go_wp2
            go_ret
            exact ⟨by rw [HE.out trivial]; first | rfl | exact ret_bool (decide_eq_true (by omega)) | exact ret_bool (decide_eq_false (by omega)) | exact ret_bool (by simp; omega), HT.out.trans HT4.out (fun _ _ f => f)⟩
        · have e2 : (x == u) = false := by rw [beq_eq_false_iff_ne]; exact h2
          have HE : Hid (True → z = false) := fun _ => by rw [HX2.out trivial, decide_eq_false h1, decide_eq_false h2]; rfl
          clear h2
          go_wp2
          go_ret
          exact ⟨by rw [HE.out trivial]; first | rfl | exact ret_bool (decide_eq_true (by omega)) | exact ret_bool (decide_eq_false (by omega)) | exact ret_bool (by simp; omega), HT.out.trans HT4.out (fun _ _ f => f)⟩

end Go.Proofs.Ytmpgfipfijbbkaa
