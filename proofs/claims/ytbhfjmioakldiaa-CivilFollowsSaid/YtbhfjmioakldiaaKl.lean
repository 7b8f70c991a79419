
/-
  Of two days that follow, the dates; of a day, its month's days. Plain.
-/
import Derived.Test.YtbhfjmioakldiaaKg
namespace Go.Proofs.Ytbhfjmioakldiaa
open Go.RowKit

/-- Of two days that follow, the dates. -/
theorem follows {P y m d : Nat} (h : dateOf P = (y, m, d)) (v : Valid y m d) (hn : num y m d = P) :
    (d < mlen y m ∧ dateOf (P + 1) = (y, m, d + 1)) ∨ (d = mlen y m ∧ m < 12 ∧ dateOf (P + 1) = (y, m + 1, 1)) ∨ (d = 31 ∧ m = 12 ∧ dateOf (P + 1) = (y + 1, 1, 1)) := by
  obtain ⟨v1, v2, v3, v4, v5⟩ := v
  have e := mdays_step (y := y) v2
  rcases Nat.lt_or_ge d (mlen y m) with c | c
  · exact .inl ⟨c, date_is ⟨v1, v2, v3, by omega, by omega⟩ (by unfold num at hn ⊢; omega)⟩
  · have c' : d = mlen y m := by omega
    rcases Nat.lt_or_ge m 12 with g | g
    · refine .inr (.inl ⟨c', g, date_is ⟨v1, by omega, by omega, Nat.le_refl _, ?_⟩ ?_⟩)
      · have := mlen_pos (y := y) (m := m + 1) (by omega) (by omega)
        omega
      · unfold num at hn ⊢
        rw [Nat.add_sub_cancel]
        omega
    · obtain rfl : m = 12 := by omega
      have hd : d = 31 := c'.trans rfl
      refine .inr (.inr ⟨hd, rfl, date_is ⟨by omega, Nat.le_refl _, by omega, Nat.le_refl _, ?_⟩ ?_⟩)
      · have := mlen_pos (y := y + 1) (m := 1) (by omega) (by omega)
        omega
      · have a := ylen_step v1
        have b := mdays_year y
        unfold num at hn ⊢
        have e0 : mdays (y + 1) (1 - 1) = 0 := rfl
        rw [a, e0]
        omega

/-- Of a day whose date is told: what is asked of it. -/
theorem year_le {N y m d : Nat} (h : N ≤ 1048576) (v : Valid y m d) (n : num y m d = N) : y ≤ 4900 := by
  have l1 := num_lt v
  have l2 := ydays_ge (y - 1970)
  omega
theorem asks_of {N y m d : Nat} (h : N ≤ 1048576) (v : Valid y m d) (n : num y m d = N) : 1970 ≤ y ∧ y ≤ 4900 ∧ 1 ≤ m ∧ m ≤ 12 ∧ 1 ≤ d ∧ d ≤ mlen y m ∧ num y m d = N ∧ (12 * (y - 1970) + (m - 1)) / 12 = y - 1970 ∧ (12 * (y - 1970) + (m - 1)) % 12 = m - 1 ∧ num y m 1 ≤ N ∧ N < num y m 1 + mlen y m := by
  have l0 := year_le h v n
  obtain ⟨v1, v2, v3, v4, v5⟩ := v
  have l3 := num_day y m d
  exact ⟨v1, l0, v2, v3, v4, v5, n, by omega, by omega, by omega, by omega⟩
theorem asks {N y m d : Nat} (h : N ≤ 1048576) (e : dateOf N = (y, m, d)) : 1970 ≤ y ∧ y ≤ 4900 ∧ 1 ≤ m ∧ m ≤ 12 ∧ 1 ≤ d ∧ d ≤ mlen y m ∧ num y m d = N ∧ (12 * (y - 1970) + (m - 1)) / 12 = y - 1970 ∧ (12 * (y - 1970) + (m - 1)) % 12 = m - 1 ∧ num y m 1 ≤ N ∧ N < num y m 1 + mlen y m :=
  asks_of h (by have := (dateOf_spec N).1; rw [e] at this; exact this) (by have := (dateOf_spec N).2; rw [e] at this; exact this)

end Go.Proofs.Ytbhfjmioakldiaa
