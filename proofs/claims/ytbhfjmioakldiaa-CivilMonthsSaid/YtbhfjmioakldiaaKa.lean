
/-
  The calendar, plain: leap years, months' lengths, the number of a date, and that a number has one date.
-/
import Derived.Test.YtbhfjmioakldiaaOa
namespace Go.Proofs.Ytbhfjmioakldiaa

def leap (y : Nat) : Bool := y % 4 == 0 && (y % 100 != 0 || y % 400 == 0)
theorem leap_iff (y : Nat) : leap y = true ↔ y % 4 = 0 ∧ (y % 100 ≠ 0 ∨ y % 400 = 0) := by
  simp [leap]
def ylen (y : Nat) : Nat := if leap y then 366 else 365
def mlen (y m : Nat) : Nat :=
  if m = 2 then (if leap y then 29 else 28) else if m = 4 ∨ m = 6 ∨ m = 9 ∨ m = 11 then 30 else if 1 ≤ m ∧ m ≤ 12 then 31 else 0

/-- The days of k years from 1970 on; of a year's first k months. -/
def ydays : Nat → Nat
  | 0 => 0
  | k + 1 => ydays k + ylen (1970 + k)
def mdays (y : Nat) : Nat → Nat
  | 0 => 0
  | k + 1 => mdays y k + mlen y (k + 1)
def num (y m d : Nat) : Nat := ydays (y - 1970) + mdays y (m - 1) + (d - 1)
def Valid (y m d : Nat) : Prop := 1970 ≤ y ∧ 1 ≤ m ∧ m ≤ 12 ∧ 1 ≤ d ∧ d ≤ mlen y m

theorem ylen_two (y : Nat) : ylen y = 365 ∨ ylen y = 366 := by
  unfold ylen
  split
  · exact .inr rfl
  · exact .inl rfl
/-- The years' days, by division. -/
theorem ydays_eq : ∀ k, ydays k + 477 + (1969 + k) / 100 = 365 * k + (1969 + k) / 4 + (1969 + k) / 400
  | 0 => rfl
  | k + 1 => by
    have h := ydays_eq k
    show ydays k + ylen (1970 + k) + 477 + _ = _
    unfold ylen
    by_cases hl : leap (1970 + k) = true
    · rw [if_pos hl]
      rw [leap_iff] at hl
      omega
    · rw [if_neg hl]
      rw [leap_iff] at hl
      omega

/-- The months' days, one by one. -/
theorem mdays_at (y : Nat) : mdays y 0 = 0 ∧ mdays y 1 = 31 ∧ mdays y 2 = (if leap y then 60 else 59) ∧ mdays y 3 = (if leap y then 91 else 90) ∧ mdays y 4 = (if leap y then 121 else 120) ∧ mdays y 5 = (if leap y then 152 else 151) ∧
    mdays y 6 = (if leap y then 182 else 181) ∧ mdays y 7 = (if leap y then 213 else 212) ∧ mdays y 8 = (if leap y then 244 else 243) ∧ mdays y 9 = (if leap y then 274 else 273) ∧ mdays y 10 = (if leap y then 305 else 304) ∧
    mdays y 11 = (if leap y then 335 else 334) ∧ mdays y 12 = ylen y := by
  cases h : leap y <;> simp [mdays, mlen, ylen, h]

theorem mlen_pos {y m : Nat} (h1 : 1 ≤ m) (h2 : m ≤ 12) : 28 ≤ mlen y m ∧ mlen y m ≤ 31 := by
  unfold mlen
  repeat' split
  all_goals omega
theorem mdays_mono (y : Nat) : ∀ (k j : Nat), k ≤ j → mdays y k ≤ mdays y j
  | k, 0, h => by
    obtain rfl : k = 0 := by omega
    exact Nat.le_refl _
  | k, j + 1, h => by
    rcases Nat.lt_or_ge k (j + 1) with h1 | h1
    · have := mdays_mono y k j (by omega)
      show _ ≤ mdays y j + mlen y (j + 1)
      omega
    · obtain rfl : k = j + 1 := by omega
      exact Nat.le_refl _
theorem ydays_mono : ∀ (k j : Nat), k ≤ j → ydays k ≤ ydays j
  | k, 0, h => by
    obtain rfl : k = 0 := by omega
    exact Nat.le_refl _
  | k, j + 1, h => by
    rcases Nat.lt_or_ge k (j + 1) with h1 | h1
    · have := ydays_mono k j (by omega)
      show _ ≤ ydays j + ylen (1970 + j)
      omega
    · obtain rfl : k = j + 1 := by omega
      exact Nat.le_refl _
theorem mdays_year (y : Nat) : mdays y 12 = ylen y := (mdays_at y).2.2.2.2.2.2.2.2.2.2.2.2

/-- A date lies in its month, and that in its year. -/
theorem in_month {y m d : Nat} (h : Valid y m d) : mdays y (m - 1) + (d - 1) < mdays y m := by
  obtain ⟨_, h1, h2, h3, h4⟩ := h
  obtain ⟨k, rfl⟩ : ∃ k, m = k + 1 := ⟨m - 1, by omega⟩
  show mdays y (k + 1 - 1) + (d - 1) < mdays y k + mlen y (k + 1)
  rw [Nat.add_sub_cancel]
  omega
theorem in_year {y m d : Nat} (h : Valid y m d) : mdays y (m - 1) + (d - 1) < ylen y := by
  have h1 := in_month h
  have h2 := mdays_mono y m 12 h.2.2.1
  rw [mdays_year] at h2
  omega
theorem num_lt {y m d : Nat} (h : Valid y m d) : ydays (y - 1970) ≤ num y m d ∧ num y m d < ydays (y - 1970 + 1) := by
  have h1 := in_year h
  have h2 := h.1
  have e : ydays (y - 1970 + 1) = ydays (y - 1970) + ylen y := by
    show ydays (y - 1970) + ylen (1970 + (y - 1970)) = _
    rw [show 1970 + (y - 1970) = y by omega]
  unfold num
  rw [e]
  omega

/-- A number has one date. -/
theorem num_inj {y m d y' m' d' : Nat} (h : Valid y m d) (h' : Valid y' m' d') (e : num y m d = num y' m' d') : y = y' ∧ m = m' ∧ d = d' := by
  have a := num_lt h
  have b := num_lt h'
  have hy : y = y' := by
    rcases Nat.lt_trichotomy y y' with c | c | c
    · have := ydays_mono (y - 1970 + 1) (y' - 1970) (by have := h.1; have := h'.1; omega)
      omega
    · exact c
    · have := ydays_mono (y' - 1970 + 1) (y - 1970) (by have := h.1; have := h'.1; omega)
      omega
  subst hy
  have e1 : mdays y (m - 1) + (d - 1) = mdays y (m' - 1) + (d' - 1) := by unfold num at e; omega
  have a1 := in_month h
  have b1 := in_month h'
  have hm : m = m' := by
    rcases Nat.lt_trichotomy m m' with c | c | c
    · have := mdays_mono y m (m' - 1) (by omega)
      omega
    · exact c
    · have := mdays_mono y m' (m - 1) (by omega)
      omega
  subst hm
  refine ⟨rfl, rfl, ?_⟩
  have := h.2.2.2.1
  have := h'.2.2.2.1
  omega

/-- The date of a number: year and month by what is left. -/
def yearOf : Nat → Nat → Nat → Nat × Nat
  | 0, y, n => (y, n)
  | f + 1, y, n => if ylen y ≤ n then yearOf f (y + 1) (n - ylen y) else (y, n)
def monthOf : Nat → Nat → Nat → Nat → Nat × Nat
  | 0, _, m, n => (m, n)
  | f + 1, y, m, n => if mlen y m ≤ n then monthOf f y (m + 1) (n - mlen y m) else (m, n)
def dateOf (n : Nat) : Nat × Nat × Nat :=
  ((yearOf n 1970 n).1, (monthOf 11 (yearOf n 1970 n).1 1 (yearOf n 1970 n).2).1, (monthOf 11 (yearOf n 1970 n).1 1 (yearOf n 1970 n).2).2 + 1)

theorem yearOf_spec : ∀ (f y n : Nat), n ≤ f → 1970 ≤ y → y ≤ (yearOf f y n).1 ∧ (yearOf f y n).2 < ylen (yearOf f y n).1 ∧ ydays ((yearOf f y n).1 - 1970) + (yearOf f y n).2 = ydays (y - 1970) + n
  | 0, y, n, h, _ => by
    have h1 := ylen_two y
    exact ⟨Nat.le_refl _, by show n < ylen y; omega, rfl⟩
  | f + 1, y, n, h, hy => by
    have h1 := ylen_two y
    show y ≤ (if ylen y ≤ n then yearOf f (y + 1) (n - ylen y) else (y, n)).1 ∧ _
    by_cases c : ylen y ≤ n
    · have ih := yearOf_spec f (y + 1) (n - ylen y) (by omega) (by omega)
      have e : yearOf (f + 1) y n = yearOf f (y + 1) (n - ylen y) := by show (if _ then _ else _) = _; rw [if_pos c]
      have e2 : ydays (y + 1 - 1970) = ydays (y - 1970) + ylen y := by
        rw [show y + 1 - 1970 = (y - 1970) + 1 by omega]
        show ydays (y - 1970) + ylen (1970 + (y - 1970)) = _
        rw [show 1970 + (y - 1970) = y by omega]
      rw [if_pos c, e]
      rw [e2] at ih
      exact ⟨by omega, ih.2.1, by omega⟩
    · have e : yearOf (f + 1) y n = (y, n) := by show (if _ then _ else _) = _; rw [if_neg c]
      rw [if_neg c, e]
      exact ⟨Nat.le_refl _, by show n < ylen y; omega, rfl⟩

theorem monthOf_spec : ∀ (f y m n : Nat), f + m = 12 → 1 ≤ m → n < mdays y 12 - mdays y (m - 1) →
    m ≤ (monthOf f y m n).1 ∧ (monthOf f y m n).1 ≤ 12 ∧ (monthOf f y m n).2 < mlen y (monthOf f y m n).1 ∧ mdays y ((monthOf f y m n).1 - 1) + (monthOf f y m n).2 = mdays y (m - 1) + n
  | 0, y, m, n, h, h1, h2 => by
    obtain rfl : m = 12 := by omega
    have e : mdays y 12 = mdays y 11 + mlen y 12 := rfl
    exact ⟨Nat.le_refl _, Nat.le_refl _, by show n < mlen y 12; rw [e] at h2; show n < _; have : (12 : Nat) - 1 = 11 := rfl; rw [this] at h2; omega, rfl⟩
  | f + 1, y, m, n, h, h1, h2 => by
    have e0 : mdays y m = mdays y (m - 1) + mlen y m := by
      obtain ⟨k, rfl⟩ : ∃ k, m = k + 1 := ⟨m - 1, by omega⟩
      rfl
    by_cases c : mlen y m ≤ n
    · have e : monthOf (f + 1) y m n = monthOf f y (m + 1) (n - mlen y m) := by show (if _ then _ else _) = _; rw [if_pos c]
      have ih := monthOf_spec f y (m + 1) (n - mlen y m) (by omega) (by omega) (by rw [Nat.add_sub_cancel, e0]; omega)
      rw [Nat.add_sub_cancel, e0] at ih
      rw [e]
      exact ⟨by omega, ih.2.1, ih.2.2.1, by omega⟩
    · have e : monthOf (f + 1) y m n = (m, n) := by show (if _ then _ else _) = _; rw [if_neg c]
      rw [e]
      exact ⟨Nat.le_refl _, by show m ≤ 12; omega, by show n < mlen y m; omega, rfl⟩

theorem dateOf_spec (n : Nat) : Valid (dateOf n).1 (dateOf n).2.1 (dateOf n).2.2 ∧ num (dateOf n).1 (dateOf n).2.1 (dateOf n).2.2 = n := by
  obtain ⟨h1, h2, h3⟩ := yearOf_spec n 1970 n (Nat.le_refl _) (Nat.le_refl _)
  obtain ⟨a1, a2, a3, a4⟩ := monthOf_spec 11 (yearOf n 1970 n).1 1 (yearOf n 1970 n).2 rfl (Nat.le_refl _) (by rw [mdays_year]; exact h2)
  refine ⟨⟨h1, a1, a2, Nat.le_add_left _ _, a3⟩, ?_⟩
  unfold num
  show ydays ((yearOf n 1970 n).1 - 1970) + mdays (yearOf n 1970 n).1 ((monthOf 11 (yearOf n 1970 n).1 1 (yearOf n 1970 n).2).1 - 1) + ((monthOf 11 (yearOf n 1970 n).1 1 (yearOf n 1970 n).2).2 + 1 - 1) = n
  have e1 : mdays (yearOf n 1970 n).1 (1 - 1) = 0 := rfl
  have e2 : ydays (1970 - 1970) = 0 := rfl
  rw [e1] at a4
  rw [e2] at h3
  omega
/-- Whatever date has that number is that date. -/
theorem date_is {y m d n : Nat} (h : Valid y m d) (e : num y m d = n) : dateOf n = (y, m, d) := by
  obtain ⟨h1, h2⟩ := dateOf_spec n
  obtain ⟨a, b, c⟩ := num_inj h1 h (h2.trans e.symm)
  exact Prod.ext a (Prod.ext b c)

/-- A step function between its steps: where f does not fall, and each step begins and ends where s says. For a year, or a month, that is reckoned by a division. -/
theorem bracket (f s : Nat → Nat) (K N : Nat) (hmono : ∀ a b, a ≤ b → b < N → f a ≤ f b) (h0 : s 0 = 0) (hK : s K = N) (hs : ∀ y, y < K → f (s y) = y ∧ f (s (y + 1) - 1) = y ∧ s y < s (y + 1)) :
    ∀ n, n < N → s (f n) ≤ n ∧ n < s (f n + 1) ∧ f n < K := by
  have rise : ∀ k j, j ≤ K → k ≤ j → s k ≤ s j := by
    intro k j
    induction j with
    | zero =>
      intro _ h
      obtain rfl : k = 0 := by omega
      exact Nat.le_refl _
    | succ j ih =>
      intro h1 h2
      rcases Nat.lt_or_ge k (j + 1) with h | h
      · have := ih (by omega) (by omega)
        have := (hs j (by omega)).2.2
        omega
      · obtain rfl : k = j + 1 := by omega
        exact Nat.le_refl _
  intro n hn
  have hK0 : 0 < K := by
    rcases Nat.eq_zero_or_pos K with h | h
    · subst h
      omega
    · exact h
  have hlt : f n < K := by
    obtain ⟨k, rfl⟩ : ∃ k, K = k + 1 := ⟨K - 1, by omega⟩
    have h1 := hs k (by omega)
    have h2 := hmono n (s (k + 1) - 1) (by omega) (by omega)
    omega
  refine ⟨?_, ?_, hlt⟩
  · rcases Nat.lt_or_ge n (s (f n)) with h | h
    · obtain ⟨y, hy⟩ : ∃ y, f n = y + 1 := by
        refine ⟨f n - 1, ?_⟩
        rcases Nat.eq_zero_or_pos (f n) with c | c
        · rw [c] at h
          omega
        · omega
      rw [hy] at h
      have h1 := hs y (by omega)
      have h2 := rise (y + 1) K (Nat.le_refl _) (by omega)
      have h3 := hmono n (s (y + 1) - 1) (by omega) (by omega)
      omega
    · exact h
  · rcases Nat.lt_or_ge n (s (f n + 1)) with h | h
    · exact h
    · rcases Nat.lt_or_ge (f n + 1) K with c | c
      · have h1 := hs (f n + 1) c
        have h3 := hmono (s (f n + 1)) n h hn
        omega
      · have : f n + 1 = K := by omega
        rw [this, hK] at h
        omega

end Go.Proofs.Ytbhfjmioakldiaa
