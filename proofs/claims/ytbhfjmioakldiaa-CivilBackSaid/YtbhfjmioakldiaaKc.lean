
/-
  Dates, by the program: plain facts on eras, a month's first day, a day's date.
-/
import Derived.Test.YtbhfjmioakldiaaKb
namespace Go.Proofs.Ytbhfjmioakldiaa
open Go.RowKit

/-- Years by eras, behind 1600. -/
theorem ahd_lt {n : Nat} (h : n ≤ 400) : ahd n ≤ 146097 := by unfold ahd; omega
theorem ahd_start {r : Nat} : ahd (r / 366) ≤ r := by unfold ahd; omega
theorem ydays_ahd {y : Nat} (h : 1970 ≤ y) : ydays (y - 1970) + 134774 = ahd (y - 1601) := by
  have := ydays_eq (y - 1970)
  obtain ⟨k, rfl⟩ : ∃ k, y = k + 1970 := ⟨y - 1970, by omega⟩
  rw [Nat.add_sub_cancel] at this ⊢
  rw [show k + 1970 - 1601 = k + 369 by omega]
  unfold ahd
  omega
theorem ahd_era (E n : Nat) : ahd (400 * E + n) = 146097 * E + ahd n := by unfold ahd; omega
theorem ahd_of {n r : Nat} (h : ahd n ≤ r) (hr : r < 146097) : n < 400 := by
  rcases Nat.lt_or_ge n 400 with c | c
  · exact c
  · obtain ⟨j, rfl⟩ : ∃ j, n = 400 * 1 + j := ⟨n - 400, by omega⟩
    have := ahd_era 1 j
    omega
theorem i64_eq {a b : Int} (h : a = b) : Value.int .i64 a = Value.int .i64 b := by rw [h]
theorem ylen_step {y : Nat} (h : 1970 ≤ y) : ydays (y + 1 - 1970) = ydays (y - 1970) + ylen y := by
  rw [show y + 1 - 1970 = (y - 1970) + 1 by omega]
  show ydays (y - 1970) + ylen (1970 + (y - 1970)) = _
  rw [show 1970 + (y - 1970) = y by omega]
theorem year_at {N E r n y : Nat} (h : N + 134774 = 146097 * E + r) (h1 : ahd n ≤ r) (h2 : r < ahd (n + 1)) (hy : y = 1601 + 400 * E + n) :
    1970 ≤ y ∧ ydays (y - 1970) + (r - ahd n) = N ∧ r - ahd n < ylen y := by
  have e1 := ahd_era E n
  have e2 := ahd_era E (n + 1)
  have h3 : 1970 ≤ y := by
    rcases Nat.lt_or_ge y 1970 with c | c
    · have : ahd (400 * E + (n + 1)) ≤ 134774 := by unfold ahd; omega
      omega
    · exact c
  have a := ydays_ahd h3
  have b := ydays_ahd (y := y + 1) (by omega)
  rw [ylen_step h3] at b
  rw [show y - 1601 = 400 * E + n by omega] at a
  rw [show y + 1 - 1601 = 400 * E + (n + 1) by omega] at b
  omega
theorem first_at {y m : Nat} (h : 1970 ≤ y) : (146097 : Int) * ((y - 1601) / 400 : Nat) + (((ahd ((y - 1601) % 400) : Nat) : Int) - 134774 + (mdays y (m - 1) : Nat)) = (num y m 1 : Nat) := by
  have a := ydays_ahd h
  have e := ahd_era ((y - 1601) / 400) ((y - 1601) % 400)
  rw [Nat.div_add_mod] at e
  unfold num
  omega
theorem mdays_step {y m : Nat} (h : 1 ≤ m) : mdays y m = mdays y (m - 1) + mlen y m := by
  obtain ⟨k, rfl⟩ : ∃ k, m = k + 1 := ⟨m - 1, by omega⟩
  rfl
theorem ylen_le (y : Nat) : ylen y ≤ 366 := by have := ylen_two y; omega
theorem mdays_le {y m : Nat} (h : m ≤ 12) : mdays y m ≤ 366 := by
  have h1 := mdays_mono y m 12 h
  rw [mdays_year] at h1
  have := ylen_le y
  omega
theorem mlen_le (y m : Nat) : mlen y m ≤ 31 := by
  unfold mlen
  repeat' split
  all_goals omega
theorem not_last {y m l D : Nat} (h1 : 1 ≤ m) (h2 : m ≤ 12) (h : mdays y (m - 1) + l = D) (hD : D < ylen y) (hl : mlen y m ≤ l) : m < 12 := by
  rcases Nat.lt_or_ge m 12 with c | c
  · exact c
  · obtain rfl : m = 12 := by omega
    have a := mdays_year y
    rw [mdays_step (by omega)] at a
    omega
theorem date_at {y m l D N : Nat} (hy : 1970 ≤ y) (h1 : 1 ≤ m) (h2 : m ≤ 12) (h : mdays y (m - 1) + l = D) (hl : l < mlen y m) (hN : ydays (y - 1970) + D = N) : dateOf N = (y, m, l + 1) :=
  date_is ⟨hy, h1, h2, by omega, by omega⟩ (by unfold num; omega)

/-- At numbers as the walk shows them. -/
theorem split_at (n B : Int) (k b : Nat) (hn : n = k) (hB : B = b) (h : k ≤ 1000000000) (h1 : 1 ≤ b) (h2 : b ≤ 1000000) (w : World) :
    Calls Try.prog 27 #[.int .i64 n, .int .i64 B] w fun e w' => e = .returned (.tuple #[.int .i64 (k / b : Nat), .int .i64 (k % b : Nat)]) ∧ ∃ j, w' = w.drewN j := by
  subst hn hB
  exact split_any k b w h h1 h2
theorem ahead_at (n : Int) (k : Nat) (hn : n = k) (h : k ≤ 1000000) (w : World) :
    Calls Try.prog 28 #[.int .i64 n] w fun e w' => e = .returned (.int .i64 (ahd k)) ∧ w = w' := by
  subst hn
  exact ahead_any k w h
theorem length_at (n m : Int) (y k : Nat) (hn : n = y) (hm : m = k) (h : y ≤ 1000000) (w : World) :
    Calls Try.prog 12 #[.int .i64 n, .int .i64 m] w fun e w' => e = .returned (.int .i64 (mlen y k)) ∧ w = w' := by
  subst hn hm
  have := length_any y k w h
  rw [mlenZ_nat] at this
  exact this
theorem ahead_369 (w : World) : Calls Try.prog 28 #[.int .i64 369] w fun e w' => e = .returned (.int .i64 134774) ∧ w = w' := ahead_any 369 w (by omega)

set_option maxRecDepth 100000 in
set_option maxHeartbeats 1000000 in
theorem first_any (y m : Nat) (w : World) (hy : 1970 ≤ y) (hy2 : y ≤ 100000) (h1 : 1 ≤ m) (h2 : m ≤ 12) :
    Calls Try.prog 30 #[.int .i64 y, .int .i64 m] w fun e w' => e = .returned (.int .i64 (num y m 1)) ∧ ∃ k, w' = w.drewN k := by
  have HF := Lib.hid (first_at (m := m) hy)
  have HS := Lib.hid (split_at ((y : Int) - 1601) 400 (y - 1601) 400 (by omega) rfl (by omega) (by omega) (by omega))
  have l1 : ahd ((y - 1601) % 400) ≤ 146097 := ahd_lt (by omega)
  have l2 : (y - 1601) / 400 ≤ 1000 := by omega
  have l3 : (y - 1601) % 400 ≤ 400 := by omega
  generalize (y - 1601) / 400 = E at *
  generalize (y - 1601) % 400 = n at *
  go_enter Try.func30, Try.ntmps30
  go_wp2_with (first
    | (go_at_call 27; refine (HS.out w).mono ?_; rintro e w' ⟨rfl, k, rfl⟩)
    | (go_at_call 28; (with_reducible refine (ahead_369 _).mono ?_); rintro e w' ⟨rfl, rfl⟩)
    | (go_at_call 28; refine (ahead_at _ n rfl (by omega) _).mono ?_; rintro e w' ⟨rfl, rfl⟩))
  go_loop [7, 8] (fun x7 x8 => ∃ j : Nat, x8 = .int .i64 j ∧ 1 ≤ j ∧ j ≤ m ∧ x7 = .int .i64 (((ahd n : Nat) : Int) - 134774 + (mdays y (j - 1) : Nat))) (fun _ x8 => m - (intOf x8).toNat)
  case atStart => exact ⟨1, rfl, Nat.le_refl _, h1, by simp [mdays]⟩
  case round =>
    obtain ⟨j, rfl, hj, hj2, rfl⟩ := hrel
    have l4 : mdays y (j - 1) ≤ 366 := mdays_le (by omega)
    have l5 : mlen y j ≤ 31 := mlen_le y j
    by_cases hlt : j < m
    · go_wp2_with (go_at_call 12; refine (length_at _ _ y j rfl rfl (by omega) _).mono ?_; rintro e w' ⟨rfl, rfl⟩)
      go_round
      case rel => exact ⟨j + 1, by go_num, by omega, by omega, i64_eq (by rw [Nat.add_sub_cancel, mdays_step hj]; omega)⟩
      case measure => simp [intOf]; omega
    · obtain rfl : j = m := by omega
      go_wp2
      go_ret
      exact ⟨ret_int HF.out, _, rfl⟩

end Go.Proofs.Ytbhfjmioakldiaa
