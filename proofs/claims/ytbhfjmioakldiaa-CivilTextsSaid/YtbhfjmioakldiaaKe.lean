
/-
  The program's numbers, months, spans and days of hours.
-/
import Derived.Test.YtbhfjmioakldiaaKd
namespace Go.Proofs.Ytbhfjmioakldiaa
open Go.RowKit

/-- A date from 1970 to 4900, by any numbers. -/
def IsDate (y m d : Int) : Prop := 1970 ≤ y ∧ y ≤ 4900 ∧ 1 ≤ d ∧ d ≤ mlenZ y.toNat m
instance (y m d : Int) : Decidable (IsDate y m d) := by unfold IsDate; exact inferInstance
/-- What Number answers. -/
def numV (y m d : Int) : Value := if IsDate y m d then .tuple #[.int .i64 (num y.toNat m.toNat d.toNat : Nat), .bool true] else .tuple #[.int .i64 0, .bool false]
theorem numV_no {y m d : Int} (h : ¬ IsDate y m d) : numV y m d = .tuple #[.int .i64 0, .bool false] := by unfold numV; rw [if_neg h]
theorem numV_yes {Y M D : Nat} (h1 : 1970 ≤ Y) (h2 : Y ≤ 4900) (h3 : 1 ≤ D) (h4 : D ≤ mlen Y M) (a : Int) (ha : a = (num Y M D : Nat)) : Value.tuple #[.int .i64 a, .bool true] = numV Y M D := by
  subst ha
  unfold numV
  rw [if_pos ⟨by omega, by omega, by omega, by rw [Int.toNat_natCast, mlenZ_nat]; omega⟩, Int.toNat_natCast, Int.toNat_natCast, Int.toNat_natCast]
theorem mlenZ_month {y : Nat} {m : Int} (h : 0 < mlenZ y m) : ∃ k : Nat, m = k ∧ 1 ≤ k ∧ k ≤ 12 := by
  unfold mlenZ mlen at h
  refine ⟨m.toNat, ?_⟩
  revert h
  repeat' split
  all_goals omega
theorem mlenZ_le (y : Nat) (m : Int) : mlenZ y m ≤ 31 := by
  unfold mlenZ
  split
  · exact mlen_le _ _
  · omega
theorem num_day (y m d : Nat) : num y m d = num y m 1 + (d - 1) := by unfold num; omega
theorem num_le {y m : Nat} (hy : 1970 ≤ y) (hy2 : y ≤ 100000) (h1 : 1 ≤ m) (h2 : m ≤ 12) : num y m 1 ≤ 40000000 := by
  have h := ydays_ahd hy
  have h3 := mdays_le (y := y) (m := m - 1) (by omega)
  unfold num
  unfold ahd at h
  omega

set_option maxRecDepth 100000 in
set_option maxHeartbeats 2000000 in
theorem number_any (y m d : Int) (w : World) :
    Calls Try.prog 16 #[.int .i64 y, .int .i64 m, .int .i64 d] w fun e w' => e = .returned (numV y m d) ∧ ∃ k, w' = w.drewN k := by
  by_cases h1 : y < 1970
  · go_enter Try.func16, Try.ntmps16
    go_wp2
    go_ret2
    exact ⟨ret_eq (numV_no (fun h => by have := h.1; omega)).symm, 0, rfl⟩
  by_cases h2 : y > 4900
  · go_enter Try.func16, Try.ntmps16
    go_wp2
    go_ret2
    exact ⟨ret_eq (numV_no (fun h => by have := h.2.1; omega)).symm, 0, rfl⟩
  by_cases h3 : d < 1
  · go_enter Try.func16, Try.ntmps16
    go_wp2
    go_ret2
    exact ⟨ret_eq (numV_no (fun h => by have := h.2.2.1; omega)).symm, 0, rfl⟩
  obtain ⟨Y, rfl⟩ := Int.eq_ofNat_of_zero_le (a := y) (by omega)
  obtain ⟨D, rfl⟩ := Int.eq_ofNat_of_zero_le (a := d) (by omega)
  have HL := Lib.hid (length_any Y m · (by omega))
  have hle := mlenZ_le Y m
  by_cases h4 : (D : Int) > mlenZ Y m
  · go_enter Try.func16, Try.ntmps16
    go_wp2_with (go_at_call 12; refine (HL.out _).mono ?_; rintro e w' ⟨rfl, rfl⟩)
    go_ret2
    exact ⟨ret_eq (numV_no (fun h => by have := h.2.2.2; rw [Int.toNat_natCast] at this; omega)).symm, 0, rfl⟩
  · obtain ⟨M, rfl, m1, m2⟩ := mlenZ_month (y := Y) (m := m) (by omega)
    have HF := Lib.hid (first_any Y M · (by omega) (by omega) m1 m2)
    have l1 := num_le (y := Y) (m := M) (by omega) (by omega) m1 m2
    go_enter Try.func16, Try.ntmps16
    go_wp2_with (first
      | (go_at_call 12; refine (HL.out _).mono ?_; rintro e w' ⟨rfl, rfl⟩)
      | (go_at_call 30; refine (HF.out _).mono ?_; rintro e w' ⟨rfl, k, rfl⟩))
    go_ret2
    exact ⟨ret_eq (numV_yes (by omega) (by omega) (by omega) (by rw [mlenZ_nat] at h4; omega) _ (by have := num_day Y M D; omega)), _, rfl⟩

set_option maxRecDepth 100000 in
set_option maxHeartbeats 1000000 in
theorem month_any (N : Nat) (w : World) (h : N ≤ 2000000) :
    Calls Try.prog 20 #[.int .i64 N] w fun e w' => e = .returned (.int .i64 (12 * ((dateOf N).1 - 1970) + ((dateOf N).2.1 - 1) : Nat)) ∧ ∃ k, w' = w.drewN k := by
  have HD := Lib.hid (date_any N · h)
  obtain ⟨⟨v1, v2, v3, v4, v5⟩, v6⟩ := dateOf_spec N
  have l1 := num_lt ⟨v1, v2, v3, v4, v5⟩
  have l2 := ydays_ahd v1
  have l0 : (dateOf N).1 ≤ 100000 := by unfold ahd at l2; omega
  clear l1 l2 v6 v5
  unfold dateV at HD
  generalize (dateOf N).1 = y at *
  generalize (dateOf N).2.1 = m at *
  generalize (dateOf N).2.2 = d at *
  go_enter Try.func20, Try.ntmps20
  go_wp2_with (go_at_call 14; refine (HD.out _).mono ?_; rintro e w' ⟨rfl, k, rfl⟩)
  go_ret
  exact ⟨ret_int (by omega), _, rfl⟩

theorem wide : Hid ((288230376151711744 : Int) = 288230376151711744) := rfl

set_option maxRecDepth 100000 in
set_option maxHeartbeats 1000000 in
theorem span_any (n : Nat) (w : World) (h : n ≤ 50000) :
    Calls Try.prog 18 #[.int .i64 n] w fun e w' => e = .returned (.tuple #[.int .i64 (num (1970 + n / 12) (n % 12 + 1) 1), .int .i64 (num (1970 + n / 12) (n % 12 + 1) 1 + mlen (1970 + n / 12) (n % 12 + 1) : Nat)]) ∧ ∃ k, w' = w.drewN k := by
  have HS := Lib.hid (split_at (n : Int) 12 n 12 rfl rfl (by omega) (by omega) (by omega))
  have b1 : n / 12 ≤ 5000 := by omega
  have b2 : n % 12 ≤ 11 := by omega
  generalize n / 12 = q at *
  generalize n % 12 = r at *
  have l1 := num_le (y := 1970 + q) (m := r + 1) (by omega) (by omega) (by omega) (by omega)
  have l2 := mlen_le (1970 + q) (r + 1)
  have HF : Hid (∀ w, Calls Try.prog 30 #[.int .i64 (1970 + (q : Int)), .int .i64 ((r : Int) + 1)] w fun e w' => e = .returned (.int .i64 (num (1970 + q) (r + 1) 1)) ∧ ∃ k, w' = w.drewN k) :=
    fun w => first_any (1970 + q) (r + 1) w (by omega) (by omega) (by omega) (by omega)
  have HL := Lib.hid (length_at (1970 + (q : Int)) ((r : Int) + 1) (1970 + q) (r + 1) (by omega) (by omega) (by omega))
  go_enter Try.func18, Try.ntmps18
  go_wp2_with (first
    | (go_at_call 27; refine (HS.out _).mono ?_; rintro e w' ⟨rfl, k, rfl⟩)
    | (go_at_call 30; refine (HF.out _).mono ?_; rintro e w' ⟨rfl, k, rfl⟩)
    | (go_at_call 12; refine (HL.out _).mono ?_; rintro e w' ⟨rfl, rfl⟩))
  go_ret2
  exact ⟨rfl, _, rfl⟩

set_option maxRecDepth 100000 in
set_option maxHeartbeats 1000000 in
theorem dayof_any (n : Nat) (w : World) (h : n ≤ 1000000000) :
    Calls Try.prog 22 #[.int .i64 n] w fun e w' => e = .returned (.int .i64 (n / 24 : Nat)) ∧ ∃ k, w' = w.drewN k := by
  have HS := Lib.hid (split_at (n : Int) 24 n 24 rfl rfl (by omega) (by omega) (by omega))
  generalize n / 24 = q at *
  go_enter Try.func22, Try.ntmps22
  go_wp2_with (go_at_call 27; refine (HS.out _).mono ?_; rintro e w' ⟨rfl, k, rfl⟩)
  go_ret
  exact ⟨rfl, _, rfl⟩

end Go.Proofs.Ytbhfjmioakldiaa
