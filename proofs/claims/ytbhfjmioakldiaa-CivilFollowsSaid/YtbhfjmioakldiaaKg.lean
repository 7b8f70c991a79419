
/-
  Months and spans by the document.
-/
import Derived.Test.YtbhfjmioakldiaaKf
namespace Go.Proofs.Ytbhfjmioakldiaa
open Go.RowKit

set_option maxRecDepth 100000 in
set_option maxHeartbeats 1000000 in
theorem ref_month (N : Nat) (w : World) (h : N ≤ 1048576) :
    Calls Try.prog 21 #[.int .i64 N] w fun e w' => e = .returned (.int .i64 (12 * ((dateOf N).1 - 1970) + ((dateOf N).2.1 - 1) : Nat)) ∧ w = w' := by
  have HD := Lib.hid (ref_date N · h)
  obtain ⟨⟨v1, v2, v3, v4, v5⟩, v6⟩ := dateOf_spec N
  have l1 := num_lt ⟨v1, v2, v3, v4, v5⟩
  have l2 := ydays_ahd v1
  have l0 : (dateOf N).1 ≤ 100000 := by unfold ahd at l2; omega
  clear l1 l2 v6 v5
  unfold dateV at HD
  generalize (dateOf N).1 = y at *
  generalize (dateOf N).2.1 = m at *
  generalize (dateOf N).2.2 = d at *
  go_enter Try.func21, Try.ntmps21
  go_wp2_with (go_at_call 15; refine (HD.out _).mono ?_; rintro e w' ⟨rfl, rfl⟩)
  go_ret
  exact ⟨ret_int (by omega), rfl⟩

theorem numV_first {Y M : Nat} (h1 : 1970 ≤ Y) (h2 : Y ≤ 4900) (m1 : 1 ≤ M) (m2 : M ≤ 12) : numV Y M 1 = .tuple #[.int .i64 (num Y M 1), .bool true] :=
  (numV_yes (D := 1) h1 h2 (Nat.le_refl _) (by have := mlen_pos (y := Y) m1 m2; omega) _ rfl).symm

set_option maxRecDepth 100000 in
set_option maxHeartbeats 1000000 in
theorem ref_span (n : Nat) (w : World) (h : n ≤ 35000) :
    Calls Try.prog 19 #[.int .i64 n] w fun e w' => e = .returned (.tuple #[.int .i64 (num (1970 + n / 12) (n % 12 + 1) 1), .int .i64 (num (1970 + n / 12) (n % 12 + 1) 1 + mlen (1970 + n / 12) (n % 12 + 1) : Nat)]) ∧ w = w' := by
  have e1 : (n : Int) / 12 = (n / 12 : Nat) := by omega
  have e2 : (n : Int) % 12 = (n % 12 : Nat) := by omega
  have b1 : n / 12 ≤ 2916 := by omega
  have b2 : n % 12 ≤ 11 := by omega
  generalize n / 12 = q at *
  generalize n % 12 = r at *
  have l1 := num_le (y := 1970 + q) (m := r + 1) (by omega) (by omega) (by omega) (by omega)
  have l2 := mlen_le (1970 + q) (r + 1)
  have HN : Hid (∀ w, Calls Try.prog 17 #[.int .i64 (1970 + (n : Int) / 12), .int .i64 ((n : Int) % 12 + 1), .int .i64 1] w fun e w' => e = .returned (.tuple #[.int .i64 (num (1970 + q) (r + 1) 1), .bool true]) ∧ w = w') := by
    intro w
    have := ref_number ((1970 + q : Nat) : Int) ((r + 1 : Nat) : Int) 1 w
    rw [numV_first (by omega) (by omega) (by omega) (by omega)] at this
    rw [e1, e2]
    exact this
  have HL := Lib.hid (rlength_at (1970 + (n : Int) / 12) ((n : Int) % 12 + 1) (1970 + q) (r + 1) (by omega) (by omega) (by omega))
  have E1 := Lib.hid e1
  have E2 := Lib.hid e2
  clear e1 e2
  go_enter Try.func19, Try.ntmps19
  go_wp2_with (first
    | (go_at_call 17; refine (HN.out _).mono ?_; rintro e w' ⟨rfl, rfl⟩)
    | (go_at_call 13; refine (HL.out _).mono ?_; rintro e w' ⟨rfl, rfl⟩))
  go_ret2
  exact ⟨rfl, rfl⟩

end Go.Proofs.Ytbhfjmioakldiaa
