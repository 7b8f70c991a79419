
/-
  Years and months, by the program and by the document.
-/
import Derived.Test.YtbhfjmioakldiaaBb
import Derived.Test.YtbhfjmioakldiaaKa
import Derived.BigQuiet
namespace Go.Proofs.Ytbhfjmioakldiaa
open Go.RowKit

theorem leap_a {y : Nat} (h4 : (y : Int) % 4 = 0) (h : (y : Int) % 100 = 0) : ((y : Int) % 400 == 0) = leap y := by
  rw [Bool.eq_iff_iff, leap_iff, beq_iff_eq]
  omega
theorem leap_b {y : Nat} (h4 : (y : Int) % 4 = 0) (h : ¬ (y : Int) % 100 = 0) : true = leap y := by
  rw [Bool.eq_iff_iff, leap_iff]
  simp
  omega
theorem leap_c {y : Nat} (h4 : ¬ (y : Int) % 4 = 0) : false = leap y := by
  rw [Bool.eq_iff_iff, leap_iff]
  simp
  omega

set_option maxRecDepth 100000 in
set_option maxHeartbeats 400000 in
theorem leap_any (y : Nat) (w : World) (h : y ≤ 1000000) :
    Calls Try.prog 10 #[.int .i64 y] w fun e w' => e = .returned (.bool (leap y)) ∧ w = w' := by
  go_enter Try.func10, Try.ntmps10
  go_wp2
  · go_ret
    exact ⟨ret_bool (leap_a (by assumption) (by assumption)), rfl⟩
  · go_ret
    exact ⟨ret_bool (leap_b (by assumption) (by assumption)), rfl⟩
  · go_ret
    exact ⟨ret_bool (leap_c (by assumption)), rfl⟩
set_option maxRecDepth 100000 in
set_option maxHeartbeats 400000 in
theorem ref_leap (y : Nat) (w : World) (h : y ≤ 1000000) :
    Calls Try.prog 11 #[.int .i64 y] w fun e w' => e = .returned (.bool (leap y)) ∧ w = w' := by
  go_enter Try.func11, Try.ntmps11
  go_wp2
  · go_ret
    exact ⟨ret_bool (leap_a (by assumption) (by assumption)), rfl⟩
  · go_ret
    exact ⟨ret_bool (leap_b (by assumption) (by assumption)), rfl⟩
  · go_ret
    exact ⟨ret_bool (leap_c (by assumption)), rfl⟩

/-- How long a month is, of any number. -/
def mlenZ (y : Nat) (m : Int) : Nat := if 0 ≤ m then mlen y m.toNat else 0
theorem mlenZ_nat (y m : Nat) : mlenZ y (m : Int) = mlen y m := by unfold mlenZ; rw [if_pos (by omega), Int.toNat_natCast]

set_option maxRecDepth 100000 in
set_option maxHeartbeats 1000000 in
theorem length_any (y : Nat) (m : Int) (w : World) (h : y ≤ 1000000) :
    Calls Try.prog 12 #[.int .i64 y, .int .i64 m] w fun e w' => e = .returned (.int .i64 (mlenZ y m)) ∧ w = w' := by
  cases hl : leap y <;> go_enter Try.func12, Try.ntmps12
  all_goals go_wp2_with (go_at_call 10; refine (leap_any y w h).mono ?_; rintro e w' ⟨rfl, rfl⟩; rw [hl])
  all_goals go_ret
  all_goals exact ⟨ret_int (by simp only [beq_iff_eq, beq_eq_false_iff_ne, ne_eq] at *; unfold mlenZ mlen; rw [hl]; (repeat' split) <;> first | omega | contradiction), rfl⟩

set_option maxRecDepth 100000 in
set_option maxHeartbeats 1000000 in
theorem ref_length (y : Nat) (m : Int) (w : World) (h : y ≤ 1000000) :
    Calls Try.prog 13 #[.int .i64 y, .int .i64 m] w fun e w' => e = .returned (.int .i64 (mlenZ y m)) ∧ w = w' := by
  cases hl : leap y <;> go_enter Try.func13, Try.ntmps13
  all_goals go_wp2_with (go_at_call 11; refine (ref_leap y w h).mono ?_; rintro e w' ⟨rfl, rfl⟩; rw [hl])
  all_goals go_ret
  all_goals exact ⟨ret_int (by simp only [beq_iff_eq, beq_eq_false_iff_ne, ne_eq] at *; unfold mlenZ mlen; rw [hl]; (repeat' split) <;> first | omega | contradiction), rfl⟩

set_option maxRecDepth 100000 in
set_option maxHeartbeats 400000 in
theorem ref_days (y : Nat) (w : World) (h : y ≤ 1000000) :
    Calls Try.prog 29 #[.int .i64 y] w fun e w' => e = .returned (.int .i64 (ylen y)) ∧ w = w' := by
  cases hl : leap y <;> go_enter Try.func29, Try.ntmps29
  all_goals go_wp2_with (go_at_call 11; refine (ref_leap y w h).mono ?_; rintro e w' ⟨rfl, rfl⟩; rw [hl])
  all_goals go_ret
  all_goals exact ⟨ret_int (by unfold ylen; rw [hl]; rfl), rfl⟩

/-- How many days the first n years behind one that 400 divides have. -/
def ahd (n : Nat) : Nat := 365 * n + n / 4 - n / 100 + n / 400

set_option maxRecDepth 100000 in
set_option maxHeartbeats 400000 in
theorem ahead_any (n : Nat) (w : World) (h : n ≤ 1000000) :
    Calls Try.prog 28 #[.int .i64 n] w fun e w' => e = .returned (.int .i64 (ahd n)) ∧ w = w' := by
  go_enter Try.func28, Try.ntmps28
  go_wp2
  go_ret
  exact ⟨ret_int (by unfold ahd; omega), rfl⟩

set_option maxRecDepth 100000 in
set_option maxHeartbeats 400000 in
theorem split_any (n b : Nat) (w : World) (h : n ≤ 1000000000) (h1 : 1 ≤ b) (h2 : b ≤ 1000000) :
    Calls Try.prog 27 #[.int .i64 n, .int .i64 b] w fun e w' => e = .returned (.tuple #[.int .i64 (n / b : Nat), .int .i64 (n % b : Nat)]) ∧ ∃ k, w' = w.drewN k := by
  have e1 : (n : Int) / (b : Int) = ((n / b : Nat) : Int) := (Int.natCast_ediv n b).symm
  have e2 : (n : Int) % (b : Int) = ((n % b : Nat) : Int) := (Int.natCast_emod n b).symm
  have l1 : n / b ≤ n := Nat.div_le_self n b
  generalize n / b = q at *
  generalize n % b = r at *
  go_enter Try.func27, Try.ntmps27
  go_wp2
  go_quiet (fail)
  go_wp2
  all_goals go_ret2
  all_goals exact ⟨by rw [← e2]; rfl, _, rfl⟩

end Go.Proofs.Ytbhfjmioakldiaa
