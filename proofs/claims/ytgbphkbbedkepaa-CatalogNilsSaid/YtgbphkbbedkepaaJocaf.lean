/-
  Texts laid one behind the other: Kc Kd Ke Kf Kg Eh Ey Es.
-/
import Derived.Test.YtgbphkbbedkepaaJocae
import Derived.Test.YtgbphkbbedkepaaJocab
import Derived.Laws.Slices
import Derived.Laws.OwnMore

/-
  Dates, by the program: plain facts on eras, a month's first day, a day's date.
-/
namespace Go.Proofs.Ytgbphkbbedkepaa
open Go.RowKit

/-- Years by eras, behind 1600. -/
theorem ahd_lt {n : Nat} (h : n ≤ 400) : ahd n ≤ 146097 := by unfold ahd; omega
theorem ahd_start {r : Nat} : ahd (r / 366) ≤ r := by unfold ahd; omega
theorem ydays_ahd {y : Nat} (h : 1970 ≤ y) : ydays (y - 1970) + 134774 = ahd (y - 1601) := by
  have := ydays_eq (y - 1970)
  obtain ⟨k, rfl⟩ : ∃ k, y = k + 1970 := ⟨y - 1970, by omega⟩
  rw [Nat.add_sub_cancel] at this ⊢
  rw [show k + 1970 - 1601 = k + 369 by omega]
  unfold ahd
  omega
theorem ahd_era (E n : Nat) : ahd (400 * E + n) = 146097 * E + ahd n := by unfold ahd; omega
theorem ahd_of {n r : Nat} (h : ahd n ≤ r) (hr : r < 146097) : n < 400 := by
  rcases Nat.lt_or_ge n 400 with c | c
  · exact c
  · obtain ⟨j, rfl⟩ : ∃ j, n = 400 * 1 + j := ⟨n - 400, by omega⟩
    have := ahd_era 1 j
    omega
theorem i64_eq {a b : Int} (h : a = b) : Value.int .i64 a = Value.int .i64 b := by rw [h]
theorem ylen_step {y : Nat} (h : 1970 ≤ y) : ydays (y + 1 - 1970) = ydays (y - 1970) + ylen y := by
  rw [show y + 1 - 1970 = (y - 1970) + 1 by omega]
  show ydays (y - 1970) + ylen (1970 + (y - 1970)) = _
  rw [show 1970 + (y - 1970) = y by omega]
theorem year_at {N E r n y : Nat} (h : N + 134774 = 146097 * E + r) (h1 : ahd n ≤ r) (h2 : r < ahd (n + 1)) (hy : y = 1601 + 400 * E + n) :
    1970 ≤ y ∧ ydays (y - 1970) + (r - ahd n) = N ∧ r - ahd n < ylen y := by
  have e1 := ahd_era E n
  have e2 := ahd_era E (n + 1)
  have h3 : 1970 ≤ y := by
    rcases Nat.lt_or_ge y 1970 with c | c
    · have : ahd (400 * E + (n + 1)) ≤ 134774 := by unfold ahd; omega
      omega
    · exact c
  have a := ydays_ahd h3
  have b := ydays_ahd (y := y + 1) (by omega)
  rw [ylen_step h3] at b
  rw [show y - 1601 = 400 * E + n by omega] at a
  rw [show y + 1 - 1601 = 400 * E + (n + 1) by omega] at b
  omega
theorem first_at {y m : Nat} (h : 1970 ≤ y) : (146097 : Int) * ((y - 1601) / 400 : Nat) + (((ahd ((y - 1601) % 400) : Nat) : Int) - 134774 + (mdays y (m - 1) : Nat)) = (num y m 1 : Nat) := by
  have a := ydays_ahd h
  have e := ahd_era ((y - 1601) / 400) ((y - 1601) % 400)
  rw [Nat.div_add_mod] at e
  unfold num
  omega
theorem mdays_step {y m : Nat} (h : 1 ≤ m) : mdays y m = mdays y (m - 1) + mlen y m := by
  obtain ⟨k, rfl⟩ : ∃ k, m = k + 1 := ⟨m - 1, by omega⟩
  rfl
theorem ylen_le (y : Nat) : ylen y ≤ 366 := by have := ylen_two y; omega
theorem mdays_le {y m : Nat} (h : m ≤ 12) : mdays y m ≤ 366 := by
  have h1 := mdays_mono y m 12 h
  rw [mdays_year] at h1
  have := ylen_le y
  omega
theorem mlen_le (y m : Nat) : mlen y m ≤ 31 := by
  unfold mlen
  repeat' split
  all_goals omega
theorem not_last {y m l D : Nat} (h1 : 1 ≤ m) (h2 : m ≤ 12) (h : mdays y (m - 1) + l = D) (hD : D < ylen y) (hl : mlen y m ≤ l) : m < 12 := by
  rcases Nat.lt_or_ge m 12 with c | c
  · exact c
  · obtain rfl : m = 12 := by omega
    have a := mdays_year y
    rw [mdays_step (by omega)] at a
    omega
theorem date_at {y m l D N : Nat} (hy : 1970 ≤ y) (h1 : 1 ≤ m) (h2 : m ≤ 12) (h : mdays y (m - 1) + l = D) (hl : l < mlen y m) (hN : ydays (y - 1970) + D = N) : dateOf N = (y, m, l + 1) :=
  date_is ⟨hy, h1, h2, by omega, by omega⟩ (by unfold num; omega)

/-- At numbers as the walk shows them. -/
theorem split_at (n B : Int) (k b : Nat) (hn : n = k) (hB : B = b) (h : k ≤ 1000000000) (h1 : 1 ≤ b) (h2 : b ≤ 1000000) (w : World) :
    Calls Try.prog 65 #[.int .i64 n, .int .i64 B] w fun e w' => e = .returned (.tuple #[.int .i64 (k / b : Nat), .int .i64 (k % b : Nat)]) ∧ ∃ j, w' = w.drewN j := by
  subst hn hB
  exact split_any k b w h h1 h2
theorem ahead_at (n : Int) (k : Nat) (hn : n = k) (h : k ≤ 1000000) (w : World) :
    Calls Try.prog 92 #[.int .i64 n] w fun e w' => e = .returned (.int .i64 (ahd k)) ∧ w = w' := by
  subst hn
  exact ahead_any k w h
theorem length_at (n m : Int) (y k : Nat) (hn : n = y) (hm : m = k) (h : y ≤ 1000000) (w : World) :
    Calls Try.prog 67 #[.int .i64 n, .int .i64 m] w fun e w' => e = .returned (.int .i64 (mlen y k)) ∧ w = w' := by
  subst hn hm
  have := length_any y k w h
  rw [mlenZ_nat] at this
  exact this
theorem ahead_369 (w : World) : Calls Try.prog 92 #[.int .i64 369] w fun e w' => e = .returned (.int .i64 134774) ∧ w = w' := ahead_any 369 w (by omega)

set_option maxRecDepth 100000 in
set_option maxHeartbeats 1000000 in
theorem first_any (y m : Nat) (w : World) (hy : 1970 ≤ y) (hy2 : y ≤ 100000) (h1 : 1 ≤ m) (h2 : m ≤ 12) :
    Calls Try.prog 66 #[.int .i64 y, .int .i64 m] w fun e w' => e = .returned (.int .i64 (num y m 1)) ∧ ∃ k, w' = w.drewN k := by
  have HF := Lib.hid (first_at (m := m) hy)
  have HS := Lib.hid (split_at ((y : Int) - 1601) 400 (y - 1601) 400 (by omega) rfl (by omega) (by omega) (by omega))
  have l1 : ahd ((y - 1601) % 400) ≤ 146097 := ahd_lt (by omega)
  have l2 : (y - 1601) / 400 ≤ 1000 := by omega
  have l3 : (y - 1601) % 400 ≤ 400 := by omega
  generalize (y - 1601) / 400 = E at *
  generalize (y - 1601) % 400 = n at *
  go_enter Try.func66, Try.ntmps66
  go_wp2_with (first
    | (go_at_call 65; refine (HS.out w).mono ?_; rintro e w' ⟨rfl, k, rfl⟩)
    | (go_at_call 92; (with_reducible refine (ahead_369 _).mono ?_); rintro e w' ⟨rfl, rfl⟩)
    | (go_at_call 92; refine (ahead_at _ n rfl (by omega) _).mono ?_; rintro e w' ⟨rfl, rfl⟩))
  go_loop [7, 8] (fun x7 x8 => ∃ j : Nat, x8 = .int .i64 j ∧ 1 ≤ j ∧ j ≤ m ∧ x7 = .int .i64 (((ahd n : Nat) : Int) - 134774 + (mdays y (j - 1) : Nat))) (fun _ x8 => m - (intOf x8).toNat)
  case atStart => exact ⟨1, rfl, Nat.le_refl _, h1, by simp [mdays]⟩
  case round =>
    obtain ⟨j, rfl, hj, hj2, rfl⟩ := hrel
    have l4 : mdays y (j - 1) ≤ 366 := mdays_le (by omega)
    have l5 : mlen y j ≤ 31 := mlen_le y j
    by_cases hlt : j < m
    · go_wp2_with (go_at_call 67; refine (length_at _ _ y j rfl rfl (by omega) _).mono ?_; rintro e w' ⟨rfl, rfl⟩)
      go_round
      case rel => exact ⟨j + 1, by go_num, by omega, by omega, i64_eq (by rw [Nat.add_sub_cancel, mdays_step hj]; omega)⟩
      case measure => simp [intOf]; omega
    · obtain rfl : j = m := by omega
      go_wp2
      go_ret
      exact ⟨ret_int HF.out, _, rfl⟩

end Go.Proofs.Ytgbphkbbedkepaa

/-
  The program's dates, numbers, months and spans.
-/
namespace Go.Proofs.Ytgbphkbbedkepaa
open Go.RowKit

/-- What Date answers. -/
def dateV (n : Nat) : Value := .tuple #[.int .i64 (dateOf n).1, .int .i64 (dateOf n).2.1, .int .i64 (dateOf n).2.2]
theorem dateV_eq {n y m d : Nat} (h : dateOf n = (y, m, d)) (a b c : Int) (ha : a = y) (hb : b = m) (hc : c = d) : Value.tuple #[.int .i64 a, .int .i64 b, .int .i64 c] = dateV n := by
  subst ha hb hc
  unfold dateV
  rw [h]
theorem ret_eq {u v : Value} (h : u = v) : Ending.returned u = .returned v := by rw [h]

set_option maxRecDepth 100000 in
set_option maxHeartbeats 2000000 in
theorem date_any (N : Nat) (w : World) (h : N ≤ 2000000) :
    Calls Try.prog 107 #[.int .i64 N] w fun e w' => e = .returned (dateV N) ∧ ∃ k, w' = w.drewN k := by
  have HS := Lib.hid (split_at (N : Int) 146097 N 146097 rfl rfl (by omega) (by omega) (by omega))
  have HN1 := Lib.hid (Nat.div_add_mod N 146097)
  have b1 : N / 146097 ≤ 100 := by omega
  have b2 : N % 146097 ≤ 146096 := by omega
  generalize N / 146097 = E1 at *
  generalize N % 146097 = r1 at *
  have HT := Lib.hid (split_at ((r1 : Int) + 134774) 146097 (r1 + 134774) 146097 (by omega) rfl (by omega) (by omega) (by omega))
  have HN2 := Lib.hid (Nat.div_add_mod (r1 + 134774) 146097)
  have b3 : (r1 + 134774) / 146097 ≤ 100 := by omega
  have b4 : (r1 + 134774) % 146097 ≤ 146096 := by omega
  generalize (r1 + 134774) / 146097 = E2 at *
  generalize (r1 + 134774) % 146097 = r at *
  have HN : Hid (N + 134774 = 146097 * (E1 + E2) + r) := by have := HN1.out; have := HN2.out; show N + 134774 = _; omega
  go_enter Try.func107, Try.ntmps107
  go_wp2_with (first
    | (go_at_call 65; (with_reducible refine (HS.out _).mono ?_); rintro e w' ⟨rfl, k, rfl⟩)
    | (go_at_call 65; (with_reducible refine (HT.out _).mono ?_); rintro e w' ⟨rfl, k2, rfl⟩)
    | (go_at_call 92; (with_reducible refine (ahead_369 _).mono ?_); rintro e w' ⟨rfl, rfl⟩))
  go_loop [8] (fun x8 => ∃ n : Nat, x8 = .int .i64 n ∧ ahd n ≤ r ∧ n < 400) (fun x8 => 400 - (intOf x8).toNat)
  case atStart => exact ⟨r / 366, i64_eq (by omega), ahd_start, by omega⟩
  case round =>
    obtain ⟨n, rfl, hn, hn2⟩ := hrel
    have HA := Lib.hid (ahead_at ((n : Int) + 1) (n + 1) (by omega) (by omega))
    have l1 : ahd (n + 1) ≤ 146097 := ahd_lt (by omega)
    by_cases hlt : ahd (n + 1) ≤ r
    · go_wp2_with (go_at_call 92; (with_reducible refine (HA.out _).mono ?_); rintro e w' ⟨rfl, rfl⟩)
      go_round
      case rel => exact ⟨n + 1, by go_num, hlt, ahd_of hlt (by omega)⟩
      case measure => simp [intOf]; omega
    · obtain ⟨y, hy⟩ : ∃ y, y = 1601 + 400 * (E1 + E2) + n := ⟨_, rfl⟩
      obtain ⟨g1, g2, g3⟩ := year_at HN.out hn (by omega) hy
      have HB := Lib.hid (ahead_at (n : Int) n rfl (by omega))
      have l2 : ahd n ≤ 146097 := ahd_lt (by omega)
      obtain ⟨D, hD⟩ : ∃ D, D = r - ahd n := ⟨_, rfl⟩
      rw [← hD] at g2 g3
      have HY := Lib.hid hy; clear hy
      have HD := Lib.hid hD; clear hD
      have HG := Lib.hid g2; clear g2
      have l3 : y ≤ 100000 := by have := HY.out; omega
      have l4 : D ≤ 366 := by have := ylen_le y; omega
      go_wp2_with (first
        | (go_at_call 92; (with_reducible refine (HA.out _).mono ?_); rintro e w' ⟨rfl, rfl⟩)
        | (go_at_call 92; (with_reducible refine (HB.out _).mono ?_); rintro e w' ⟨rfl, rfl⟩))
      go_loop [10, 11] (fun x10 x11 => ∃ m l : Nat, x10 = .int .i64 m ∧ x11 = .int .i64 l ∧ 1 ≤ m ∧ m ≤ 12 ∧ mdays y (m - 1) + l = D) (fun x10 _ => 12 - (intOf x10).toNat)
      case atStart => exact ⟨1, D, rfl, i64_eq (by have := HD.out; omega), Nat.le_refl _, by omega, by show 0 + D = D; omega⟩
      case round =>
        obtain ⟨m, l, rfl, rfl, h1, h2, h3⟩ := hrel
        have l5 : mlen y m ≤ 31 := mlen_le y m
        have H3 := Lib.hid h3
        have l6 : l ≤ 366 := by omega
        have HL := Lib.hid (length_at ((1601 : Int) + 400 * ((E1 : Int) + E2) + n) m y m (by have := HY.out; omega) rfl (by omega))
        clear h3
        by_cases hl : mlen y m ≤ l
        · go_wp2_with (go_at_call 67; refine (HL.out _).mono ?_; rintro e w' ⟨rfl, rfl⟩)
          go_round
          case rel => exact ⟨m + 1, l - mlen y m, by go_num, i64_eq (by omega), by omega, not_last h1 h2 H3.out g3 hl, by rw [Nat.add_sub_cancel, mdays_step h1]; have := H3.out; omega⟩
          case measure => have := not_last h1 h2 H3.out g3 hl; simp [intOf]; omega
        · go_wp2_with (go_at_call 67; refine (HL.out _).mono ?_; rintro e w' ⟨rfl, rfl⟩)
          go_ret3
          exact ⟨ret_eq (dateV_eq (date_at g1 h1 h2 H3.out (by omega) HG.out) _ _ _ (by have := HY.out; omega) rfl (by omega)), _, rfl⟩

end Go.Proofs.Ytgbphkbbedkepaa

/-
  The program's numbers, months, spans and days of hours.
-/
namespace Go.Proofs.Ytgbphkbbedkepaa
open Go.RowKit

/-- A date from 1970 to 4900, by any numbers. -/
def IsDate (y m d : Int) : Prop := 1970 ≤ y ∧ y ≤ 4900 ∧ 1 ≤ d ∧ d ≤ mlenZ y.toNat m
instance (y m d : Int) : Decidable (IsDate y m d) := by unfold IsDate; exact inferInstance
/-- What Number answers. -/
def numV (y m d : Int) : Value := if IsDate y m d then .tuple #[.int .i64 (num y.toNat m.toNat d.toNat : Nat), .bool true] else .tuple #[.int .i64 0, .bool false]
theorem numV_no {y m d : Int} (h : ¬ IsDate y m d) : numV y m d = .tuple #[.int .i64 0, .bool false] := by unfold numV; rw [if_neg h]
theorem numV_yes {Y M D : Nat} (h1 : 1970 ≤ Y) (h2 : Y ≤ 4900) (h3 : 1 ≤ D) (h4 : D ≤ mlen Y M) (a : Int) (ha : a = (num Y M D : Nat)) : Value.tuple #[.int .i64 a, .bool true] = numV Y M D := by
  subst ha
  unfold numV
  rw [if_pos ⟨by omega, by omega, by omega, by rw [Int.toNat_natCast, mlenZ_nat]; omega⟩, Int.toNat_natCast, Int.toNat_natCast, Int.toNat_natCast]
theorem mlenZ_month {y : Nat} {m : Int} (h : 0 < mlenZ y m) : ∃ k : Nat, m = k ∧ 1 ≤ k ∧ k ≤ 12 := by
  unfold mlenZ mlen at h
  refine ⟨m.toNat, ?_⟩
  revert h
  repeat' split
  all_goals omega
theorem mlenZ_le (y : Nat) (m : Int) : mlenZ y m ≤ 31 := by
  unfold mlenZ
  split
  · exact mlen_le _ _
  · omega
theorem num_day (y m d : Nat) : num y m d = num y m 1 + (d - 1) := by unfold num; omega
theorem num_le {y m : Nat} (hy : 1970 ≤ y) (hy2 : y ≤ 100000) (h1 : 1 ≤ m) (h2 : m ≤ 12) : num y m 1 ≤ 40000000 := by
  have h := ydays_ahd hy
  have h3 := mdays_le (y := y) (m := m - 1) (by omega)
  unfold num
  unfold ahd at h
  omega

set_option maxRecDepth 100000 in
set_option maxHeartbeats 1000000 in
theorem month_any (N : Nat) (w : World) (h : N ≤ 2000000) :
    Calls Try.prog 91 #[.int .i64 N] w fun e w' => e = .returned (.int .i64 (12 * ((dateOf N).1 - 1970) + ((dateOf N).2.1 - 1) : Nat)) ∧ ∃ k, w' = w.drewN k := by
  have HD := Lib.hid (date_any N · h)
  obtain ⟨⟨v1, v2, v3, v4, v5⟩, v6⟩ := dateOf_spec N
  have l1 := num_lt ⟨v1, v2, v3, v4, v5⟩
  have l2 := ydays_ahd v1
  have l0 : (dateOf N).1 ≤ 100000 := by unfold ahd at l2; omega
  clear l1 l2 v6 v5
  unfold dateV at HD
  generalize (dateOf N).1 = y at *
  generalize (dateOf N).2.1 = m at *
  generalize (dateOf N).2.2 = d at *
  go_enter Try.func91, Try.ntmps91
  go_wp2_with (go_at_call 107; refine (HD.out _).mono ?_; rintro e w' ⟨rfl, k, rfl⟩)
  go_ret
  exact ⟨ret_int (by omega), _, rfl⟩

theorem wide : Hid ((288230376151711744 : Int) = 288230376151711744) := rfl

set_option maxRecDepth 100000 in
set_option maxHeartbeats 1000000 in
theorem span_any (n : Nat) (w : World) (h : n ≤ 50000) :
    Calls Try.prog 47 #[.int .i64 n] w fun e w' => e = .returned (.tuple #[.int .i64 (num (1970 + n / 12) (n % 12 + 1) 1), .int .i64 (num (1970 + n / 12) (n % 12 + 1) 1 + mlen (1970 + n / 12) (n % 12 + 1) : Nat)]) ∧ ∃ k, w' = w.drewN k := by
  have HS := Lib.hid (split_at (n : Int) 12 n 12 rfl rfl (by omega) (by omega) (by omega))
  have b1 : n / 12 ≤ 5000 := by omega
  have b2 : n % 12 ≤ 11 := by omega
  generalize n / 12 = q at *
  generalize n % 12 = r at *
  have l1 := num_le (y := 1970 + q) (m := r + 1) (by omega) (by omega) (by omega) (by omega)
  have l2 := mlen_le (1970 + q) (r + 1)
  have HF : Hid (∀ w, Calls Try.prog 66 #[.int .i64 (1970 + (q : Int)), .int .i64 ((r : Int) + 1)] w fun e w' => e = .returned (.int .i64 (num (1970 + q) (r + 1) 1)) ∧ ∃ k, w' = w.drewN k) :=
    fun w => first_any (1970 + q) (r + 1) w (by omega) (by omega) (by omega) (by omega)
  have HL := Lib.hid (length_at (1970 + (q : Int)) ((r : Int) + 1) (1970 + q) (r + 1) (by omega) (by omega) (by omega))
  go_enter Try.func47, Try.ntmps47
  go_wp2_with (first
    | (go_at_call 65; refine (HS.out _).mono ?_; rintro e w' ⟨rfl, k, rfl⟩)
    | (go_at_call 66; refine (HF.out _).mono ?_; rintro e w' ⟨rfl, k, rfl⟩)
    | (go_at_call 67; refine (HL.out _).mono ?_; rintro e w' ⟨rfl, rfl⟩))
  go_ret2
  exact ⟨rfl, _, rfl⟩

set_option maxRecDepth 100000 in
set_option maxHeartbeats 1000000 in
theorem dayof_any (n : Nat) (w : World) (h : n ≤ 1000000000) :
    Calls Try.prog 90 #[.int .i64 n] w fun e w' => e = .returned (.int .i64 (n / 24 : Nat)) ∧ ∃ k, w' = w.drewN k := by
  have HS := Lib.hid (split_at (n : Int) 24 n 24 rfl rfl (by omega) (by omega) (by omega))
  generalize n / 24 = q at *
  go_enter Try.func90, Try.ntmps90
  go_wp2_with (go_at_call 65; refine (HS.out _).mono ?_; rintro e w' ⟨rfl, k, rfl⟩)
  go_ret
  exact ⟨rfl, _, rfl⟩

end Go.Proofs.Ytgbphkbbedkepaa

/-
  Dates, numbers, months and spans by the document.
-/
namespace Go.Proofs.Ytgbphkbbedkepaa
open Go.RowKit

theorem rlength_at (n m : Int) (y k : Nat) (hn : n = y) (hm : m = k) (h : y ≤ 1000000) (w : World) :
    Calls Try.prog 72 #[.int .i64 n, .int .i64 m] w fun e w' => e = .returned (.int .i64 (mlen y k)) ∧ w = w' := by
  subst hn hm
  have := ref_length y k w h
  rw [mlenZ_nat] at this
  exact this
theorem ydays_ge : ∀ k, 365 * k ≤ ydays k
  | 0 => Nat.le_refl _
  | k + 1 => by
    have h := ydays_ge k
    have h1 := ylen_two (1970 + k)
    show 365 * (k + 1) ≤ ydays k + ylen (1970 + k)
    omega
theorem ydays_succ (k : Nat) : ydays (k + 1) = ydays k + ylen (1970 + k) := rfl

set_option maxRecDepth 100000 in
set_option maxHeartbeats 2000000 in
theorem ref_date (N : Nat) (w : World) (h : N ≤ 1048576) :
    Calls Try.prog 108 #[.int .i64 N] w fun e w' => e = .returned (dateV N) ∧ w = w' := by
  go_enter Try.func108, Try.ntmps108
  go_wp2
  go_loop [0, 5] (fun x0 x5 => ∃ k l : Nat, x0 = .int .i64 l ∧ x5 = .int .i64 (1970 + k : Nat) ∧ ydays k + l = N) (fun x0 _ => (intOf x0).toNat)
  case atStart => exact ⟨0, N, rfl, rfl, by show 0 + N = N; omega⟩
  case round =>
    obtain ⟨k, l, rfl, rfl, h3⟩ := hrel
    have g1 := ydays_ge k
    have g2 := ylen_two (1970 + k)
    have g3 := ydays_succ k
    have l1 : l ≤ 1048576 := by omega
    have l2 : k ≤ 2900 := by omega
    have l3 : ylen (1970 + k) ≤ 366 := by omega
    have l4 : 365 ≤ ylen (1970 + k) := by omega
    have H3 := Lib.hid h3
    have G3 := Lib.hid g3
    clear h3 g3 g1 g2
    by_cases hl : ylen (1970 + k) ≤ l
    · go_wp2_with (go_at_call 95; refine (ref_days (1970 + k) _ (by omega)).mono ?_; rintro e w' ⟨rfl, rfl⟩)
      go_round
      case rel => exact ⟨k + 1, l - ylen (1970 + k), i64_eq (by omega), i64_eq (by omega), by have := H3.out; have := G3.out; omega⟩
      case measure => simp [intOf]; omega
    · go_wp2_with (go_at_call 95; refine (ref_days (1970 + k) _ (by omega)).mono ?_; rintro e w' ⟨rfl, rfl⟩)
      go_loop [0, 6] (fun x0 x6 => ∃ m j : Nat, x6 = .int .i64 m ∧ x0 = .int .i64 j ∧ 1 ≤ m ∧ m ≤ 12 ∧ mdays (1970 + k) (m - 1) + j = l) (fun _ x6 => 12 - (intOf x6).toNat)
      case atStart => exact ⟨1, l, rfl, rfl, Nat.le_refl _, by omega, by show 0 + l = l; omega⟩
      case round =>
        obtain ⟨m, j, rfl, rfl, h1, h2, h4⟩ := hrel
        have l5 := mlen_le (1970 + k) m
        have H4 := Lib.hid h4
        have l6 : j ≤ 366 := by omega
        have HL := Lib.hid (rlength_at ((1970 + k : Nat) : Int) m (1970 + k) m rfl rfl (by omega))
        clear h4
        by_cases hm : mlen (1970 + k) m ≤ j
        · have hm12 := not_last h1 h2 H4.out (by omega) hm
          go_wp2_with (go_at_call 72; refine (HL.out _).mono ?_; rintro e w' ⟨rfl, rfl⟩)
          go_round
          case rel => exact ⟨m + 1, j - mlen (1970 + k) m, by go_num, i64_eq (by omega), by omega, hm12, by rw [Nat.add_sub_cancel, mdays_step h1]; have := H4.out; omega⟩
          case measure => simp [intOf]; omega
        · by_cases h12 : m < 12
          · go_wp2_with (go_at_call 72; refine (HL.out _).mono ?_; rintro e w' ⟨rfl, rfl⟩)
            go_ret3
            exact ⟨ret_eq (dateV_eq (date_at (y := 1970 + k) (by omega) h1 h2 H4.out (by omega) (by rw [Nat.add_sub_cancel_left]; exact H3.out)) _ _ _ rfl rfl (by omega)), rfl⟩
          · go_wp2
            go_ret3
            exact ⟨ret_eq (dateV_eq (date_at (y := 1970 + k) (by omega) h1 h2 H4.out (by omega) (by rw [Nat.add_sub_cancel_left]; exact H3.out)) _ _ _ rfl rfl (by omega)), rfl⟩

set_option maxRecDepth 100000 in
set_option maxHeartbeats 2000000 in
theorem ref_number (y m d : Int) (w : World) :
    Calls Try.prog 71 #[.int .i64 y, .int .i64 m, .int .i64 d] w fun e w' => e = .returned (numV y m d) ∧ w = w' := by
  by_cases h1 : y < 1970
  · go_enter Try.func71, Try.ntmps71
    go_wp2
    go_ret2
    exact ⟨ret_eq (numV_no (fun h => by have := h.1; omega)).symm, rfl⟩
  by_cases h2 : y > 4900
  · go_enter Try.func71, Try.ntmps71
    go_wp2
    go_ret2
    exact ⟨ret_eq (numV_no (fun h => by have := h.2.1; omega)).symm, rfl⟩
  by_cases h3 : d < 1
  · go_enter Try.func71, Try.ntmps71
    go_wp2
    go_ret2
    exact ⟨ret_eq (numV_no (fun h => by have := h.2.2.1; omega)).symm, rfl⟩
  obtain ⟨Y, rfl⟩ := Int.eq_ofNat_of_zero_le (a := y) (by omega)
  obtain ⟨D, rfl⟩ := Int.eq_ofNat_of_zero_le (a := d) (by omega)
  have HL := Lib.hid (ref_length Y m · (by omega))
  have hle := mlenZ_le Y m
  by_cases h4 : mlenZ Y m < D
  · go_enter Try.func71, Try.ntmps71
    go_wp2_with (go_at_call 72; refine (HL.out _).mono ?_; rintro e w' ⟨rfl, rfl⟩)
    go_ret2
    exact ⟨ret_eq (numV_no (fun h => by have := h.2.2.2; rw [Int.toNat_natCast] at this; omega)).symm, rfl⟩
  · obtain ⟨M, rfl, m1, m2⟩ := mlenZ_month (y := Y) (m := m) (by omega)
    have l1 := num_le (y := Y) (m := M) (by omega) (by omega) m1 m2
    have e1 : num Y M 1 = ydays (Y - 1970) + mdays Y (M - 1) := rfl
    have g0 := ydays_ge (Y - 1970)
    go_enter Try.func71, Try.ntmps71
    go_wp2_with (go_at_call 72; refine (HL.out _).mono ?_; rintro e w' ⟨rfl, rfl⟩)
    go_loop [8, 9] (fun x8 x9 => ∃ k : Nat, x9 = .int .i64 (1970 + k : Nat) ∧ x8 = .int .i64 (ydays k) ∧ 1970 + k ≤ Y) (fun _ x9 => Y - (intOf x9).toNat)
    case atStart => exact ⟨0, rfl, rfl, by omega⟩
    case round =>
      obtain ⟨k, rfl, rfl, hk⟩ := hrel
      have l5 : ydays k ≤ 40000000 := by have := ydays_mono k (Y - 1970) (by omega); omega
      have l6 := ylen_le (1970 + k)
      by_cases hlt : 1970 + k < Y
      · go_wp2_with (go_at_call 95; refine (ref_days (1970 + k) _ (by omega)).mono ?_; rintro e w' ⟨rfl, rfl⟩)
        go_round
        case rel => exact ⟨k + 1, i64_eq (by omega), i64_eq (by rw [ydays_succ]; omega), by omega⟩
        case measure => simp [intOf]; omega
      · have ek : k = Y - 1970 := by omega
        have EK := Lib.hid ek; clear ek
        go_wp2
        go_loop [8, 10] (fun x8 x10 => ∃ j : Nat, x10 = .int .i64 j ∧ 1 ≤ j ∧ j ≤ M ∧ x8 = .int .i64 (ydays k + mdays Y (j - 1) : Nat)) (fun _ x10 => M - (intOf x10).toNat)
        case atStart => exact ⟨1, rfl, Nat.le_refl _, m1, rfl⟩
        case round =>
          obtain ⟨j, rfl, hj, hj2, rfl⟩ := hrel
          have l7 := mdays_le (y := Y) (m := j - 1) (by omega)
          have l8 := mlen_le Y j
          have HJ := Lib.hid (rlength_at (Y : Int) j Y j rfl rfl (by omega))
          by_cases hm : j < M
          · go_wp2_with (go_at_call 72; refine (HJ.out _).mono ?_; rintro e w' ⟨rfl, rfl⟩)
            go_round
            case rel => exact ⟨j + 1, by go_num, by omega, by omega, i64_eq (by rw [Nat.add_sub_cancel, mdays_step hj]; omega)⟩
            case measure => simp [intOf]; omega
          · obtain rfl : j = M := by omega
            go_wp2
            go_ret2
            exact ⟨ret_eq (numV_yes (by omega) (by omega) (by omega) (by rw [mlenZ_nat] at h4; omega) _ (by have := num_day Y j D; have := EK.out; subst this; omega)), rfl⟩

end Go.Proofs.Ytgbphkbbedkepaa

/-
  Months and spans by the document.
-/
namespace Go.Proofs.Ytgbphkbbedkepaa
open Go.RowKit

set_option maxRecDepth 100000 in
set_option maxHeartbeats 1000000 in
theorem ref_month (N : Nat) (w : World) (h : N ≤ 1048576) :
    Calls Try.prog 94 #[.int .i64 N] w fun e w' => e = .returned (.int .i64 (12 * ((dateOf N).1 - 1970) + ((dateOf N).2.1 - 1) : Nat)) ∧ w = w' := by
  have HD := Lib.hid (ref_date N · h)
  obtain ⟨⟨v1, v2, v3, v4, v5⟩, v6⟩ := dateOf_spec N
  have l1 := num_lt ⟨v1, v2, v3, v4, v5⟩
  have l2 := ydays_ahd v1
  have l0 : (dateOf N).1 ≤ 100000 := by unfold ahd at l2; omega
  clear l1 l2 v6 v5
  unfold dateV at HD
  generalize (dateOf N).1 = y at *
  generalize (dateOf N).2.1 = m at *
  generalize (dateOf N).2.2 = d at *
  go_enter Try.func94, Try.ntmps94
  go_wp2_with (go_at_call 108; refine (HD.out _).mono ?_; rintro e w' ⟨rfl, rfl⟩)
  go_ret
  exact ⟨ret_int (by omega), rfl⟩

theorem numV_first {Y M : Nat} (h1 : 1970 ≤ Y) (h2 : Y ≤ 4900) (m1 : 1 ≤ M) (m2 : M ≤ 12) : numV Y M 1 = .tuple #[.int .i64 (num Y M 1), .bool true] :=
  (numV_yes (D := 1) h1 h2 (Nat.le_refl _) (by have := mlen_pos (y := Y) m1 m2; omega) _ rfl).symm

set_option maxRecDepth 100000 in
set_option maxHeartbeats 1000000 in
theorem ref_span (n : Nat) (w : World) (h : n ≤ 35000) :
    Calls Try.prog 50 #[.int .i64 n] w fun e w' => e = .returned (.tuple #[.int .i64 (num (1970 + n / 12) (n % 12 + 1) 1), .int .i64 (num (1970 + n / 12) (n % 12 + 1) 1 + mlen (1970 + n / 12) (n % 12 + 1) : Nat)]) ∧ w = w' := by
  have e1 : (n : Int) / 12 = (n / 12 : Nat) := by omega
  have e2 : (n : Int) % 12 = (n % 12 : Nat) := by omega
  have b1 : n / 12 ≤ 2916 := by omega
  have b2 : n % 12 ≤ 11 := by omega
  generalize n / 12 = q at *
  generalize n % 12 = r at *
  have l1 := num_le (y := 1970 + q) (m := r + 1) (by omega) (by omega) (by omega) (by omega)
  have l2 := mlen_le (1970 + q) (r + 1)
  have HN : Hid (∀ w, Calls Try.prog 71 #[.int .i64 (1970 + (n : Int) / 12), .int .i64 ((n : Int) % 12 + 1), .int .i64 1] w fun e w' => e = .returned (.tuple #[.int .i64 (num (1970 + q) (r + 1) 1), .bool true]) ∧ w = w') := by
    intro w
    have := ref_number ((1970 + q : Nat) : Int) ((r + 1 : Nat) : Int) 1 w
    rw [numV_first (by omega) (by omega) (by omega) (by omega)] at this
    rw [e1, e2]
    exact this
  have HL := Lib.hid (rlength_at (1970 + (n : Int) / 12) ((n : Int) % 12 + 1) (1970 + q) (r + 1) (by omega) (by omega) (by omega))
  have E1 := Lib.hid e1
  have E2 := Lib.hid e2
  clear e1 e2
  go_enter Try.func50, Try.ntmps50
  go_wp2_with (first
    | (go_at_call 71; refine (HN.out _).mono ?_; rintro e w' ⟨rfl, rfl⟩)
    | (go_at_call 72; refine (HL.out _).mono ?_; rintro e w' ⟨rfl, rfl⟩))
  go_ret2
  exact ⟨rfl, rfl⟩

end Go.Proofs.Ytgbphkbbedkepaa

/-
  In a region that draws its order: 'append(append(append([]T{}, a...), x), b...)', whatever order its parts come in; slices cut at their front and tail. No type is named here.
-/
namespace Go.Proofs.Ytgbphkbbedkepaa
open Go.RowKit

section
variable {P : Program} {T : Type} {E : El T} {tS e : TypeId}
/-- A slice's tail, as it is cut. -/
def tailV (E : El T) (A : Option Addr) (n c i : Nat) : Value := .slice (if c = i then A else A.map (fun a => a.add (i * E.sz))) (n - i) (c - i)
theorem rd_tailV {w : World} {A : Option Addr} {n c i : Nat} {L : List T} (h : RdE E w (.slice A n c) L) (hi : i ≤ n) : RdE E w (tailV E A n c i) (L.drop i) := by
  have hf := h.fits
  unfold tailV
  by_cases hc : c = i
  · rw [if_pos hc]
    have e : L.drop i = [] := List.eq_nil_of_length_eq_zero (by rw [List.length_drop]; omega)
    rw [e, show n - i = 0 by omega, show c - i = 0 by omega]
    cases A with
    | none => exact RdE.nil w
    | some ad => exact RdE.none_left _ (by simp) w 0 (Nat.zero_le _)
  · rw [if_neg hc]
    cases A with
    | none => have := (hf.2.2.2 rfl); omega
    | some ad => exact h.back i hi
theorem run_tailV (ht : P.underlying tS = some (.slice e)) (hz : (P.info? e).map (·.size) = some E.sz) (A : Option Addr) (n c i : Nat) (hi : i ≤ n) (w : World) :
    (Instr.slice tS (.slice A n c) (some (.int .i64 (i : Int))) none none).run P w = .ok (tailV E A n c i) w := by
  obtain ⟨j, hj, hz⟩ := Option.map_eq_some_iff.1 hz
  unfold tailV
  rw [← hz]
  simp [Instr.slice, Instr.sliceBounds, Instr.sliceBound, asIntOf, run_underlying ht, sizeOf, typeInfo, hj]
  intro h
  omega
theorem run_frontV (ht : P.underlying tS = some (.slice e)) (hz : (P.info? e).map (·.size) = some E.sz) (A : Option Addr) (n c i : Nat) (hi : i ≤ c) (w : World) :
    (Instr.slice tS (.slice A n c) none (some (.int .i64 (i : Int))) none).run P w = .ok (.slice A i c) w := by
  obtain ⟨j, hj, hz⟩ := Option.map_eq_some_iff.1 hz
  cases A
  all_goals
    simp [Instr.slice, Instr.sliceBounds, Instr.sliceBound, asIntOf, run_underlying ht, sizeOf, typeInfo, hj, Addr.add]
    intro h
    omega
theorem exec_tail {o : Oper} {a : Act} {xo ko : Operand} {A : Option Addr} {n c i : Nat} (ho : o.op = .slice tS xo (some ko) none none) (hx : a.eval xo = .slice A n c) (hk : a.eval ko = .int .i64 (i : Int)) (ht : P.underlying tS = some (.slice e)) (hz : (P.info? e).map (·.size) = some E.sz) (hi : i ≤ n) (w : World) :
    (execOp a.eval o).run P w = .ok (.value (tailV E A n c i)) w := by
  unfold execOp
  simp [ho, hx, hk, Instr.sliceAt, run_underlying ht, run_tailV (E := E) ht hz A n c i hi w]
theorem exec_front {o : Oper} {a : Act} {xo ko : Operand} {A : Option Addr} {n c i : Nat} (ho : o.op = .slice tS xo none (some ko) none) (hx : a.eval xo = .slice A n c) (hk : a.eval ko = .int .i64 (i : Int)) (ht : P.underlying tS = some (.slice e)) (hz : (P.info? e).map (·.size) = some E.sz) (hi : i ≤ c) (w : World) :
    (execOp a.eval o).run P w = .ok (.value (.slice A i c)) w := by
  unfold execOp
  simp [ho, hx, hk, Instr.sliceAt, run_underlying ht, run_frontV (E := E) ht hz A n c i hi w]
/-- append onto a row of one's own. -/
theorem run_appE {z : Value} {by' : Nat} (ht : P.underlying tS = some (.slice e)) (hi0 : (P.info? e).map (fun i => (i.zero, i.size, i.bytes)) = some (some z, E.sz, by')) (hz : z.cells.size = E.sz) (hby : by' ≤ 1000) (w : World) (ty : TypeId) (v : Value) (l : List T) (hown : OwE E e w v l)
    (y : Value) (m : List T) (hy : RdE E w y m) (hl : l.length + m.length ≤ 3000000) :
    ∃ A n c w', (Builtin.append_ #[tS, tS] ty #[v, y]).run P w = .ok (.slice A n c) w' ∧ OwE E e w' (.slice A n c) (l ++ m) ∧ Turn (fun k => v.ownBlock = some k) w w' ∧ ((Value.slice A n c).ownBlock = v.ownBlock ∨ (Value.slice A n c).ownBlock = some w.heap.size) := by
  obtain ⟨i, hi, hz0, h1, h2⟩ := info_parts hi0
  have hsrc := hy.src (P := P) ht
  unfold OwE at hown
  rw [← h1] at hown hsrc
  obtain ⟨A, n, c, w', hr, g1, g2, g3⟩ := run_app (P := P) w tS tS ty e i z ht hi hz0 (by rw [h1]; exact hz) v l.length _ hown y m.length _ hsrc (by simp only [maxLen]; omega) (by rw [h2]; exact Nat.le_trans (Nat.mul_le_mul hl hby) (by omega))
  refine ⟨A, n, c, w', hr, ?_, (Turn.refl _ w).grown g2 (fun k _ e => e), g3⟩
  unfold OwE
  rw [List.length_append, E.flat_append, ← h1]
  exact g1
end

section
variable {P : Program} {ops : Array Oper} {Q : Exit → Act → World → Prop} {S : World → Prop} {zs : List Nat}
theorem slot_ne {ts : Array Value} {d k : Nat} {v : Value} (h : d ≠ k) : (ts.setIfInBounds d v).getD k undef = ts.getD k undef := by
  simp [Array.getD_eq_getD_getElem?, Array.getElem?_setIfInBounds_ne h]
theorem slot_eq {ts : Array Value} {d : Nat} {v : Value} (h : d < ts.size) : (ts.setIfInBounds d v).getD d undef = v := by
  simp [Array.getD_eq_getD_getElem?, h]
/-- One that yields a value, in some world. -/
theorem drawn_does {fuel : Nat} {listed : Array Bool} {ts : Array Value} {ds : List Deferred} {w : World} {i d : Nat} {o : Oper} {rs : List Nat} (R : Value → World → Prop) (ho : nthL ops.toList i = some o) (hg : o.guard = none) (hd : o.dst = some d)
    (hr : ∃ v w', (execOp ({ tmps := ts, defers := ds } : Act).eval o).run P w = .ok (.value v) w' ∧ R v w')
    (h : ∀ v w', R v w' → S w' ∧ Drawn P ops Q S zs fuel (listed.setIfInBounds i true) (ts.setIfInBounds d v) ds w')
    (hs : DrawnAll P ops Q S zs fuel listed ts ds w rs) : DrawnAll P ops Q S zs fuel listed ts ds w (i :: rs) :=
  drawn_cons ho (fun K hK => by
    rw [if_pos (by simp [Region.wanted, hg])]
    obtain ⟨v, w', hrun, hR⟩ := hr
    unfold Oper.wp
    rw [hrun]
    show K (({ tmps := ts, defers := ds } : Act).put o.dst v) w'
    rw [hd]
    obtain ⟨h1, h2⟩ := h v w' hR
    exact hK.out _ _ _ h1 h2) hs
variable {T : Type} {E : El T} {tS e : TypeId}
theorem app_does {z : Value} {by' : Nat} (ht : P.underlying tS = some (.slice e)) (hi0 : (P.info? e).map (fun i => (i.zero, i.size, i.bytes)) = some (some z, E.sz, by')) (hz : z.cells.size = E.sz) (hby : by' ≤ 1000)
    {w0 w : World} {a : Act} {o : Oper} {s x : Operand} (ho : o.op = .call { callee := .builtin .append, args := #[s, x], argTypes := #[tS, tS] }) {v y : Value} {l m : List T} (hs : a.eval s = v) (hx : a.eval x = y) (hn : NewE E e w0 w v l) (hy : RdE E w y m) (hl : l.length + m.length ≤ 3000000) :
    ∃ u w', (execOp a.eval o).run P w = .ok (.value u) w' ∧ NewE E e w0 w' u (l ++ m) ∧ Turn (fun k => v.ownBlock = some k) w w' := by
  obtain ⟨A, n, c, w', hr, g1, g2, g3⟩ := run_appE (P := P) ht hi0 hz hby w o.type v l hn.own y m hy hl
  refine ⟨_, w', ?_, hn.step g1 g2 g3, g2⟩
  unfold execOp
  simp only [ho, resolve, invoke, builtin, Sem.run_bind, Sem.run_pure, Result.andThen_ok, List.map_toArray, List.map_cons, List.map_nil, hs, hx, hr]

/-- append(append(append([]T{}, a...), x), b...): all that is read lies in slots; whatever order the rest comes in. -/
theorem drawn_ins {z : Value} {by' : Nat} (ht : P.underlying tS = some (.slice e)) (hi0 : (P.info? e).map (fun i => (i.zero, i.size, i.bytes)) = some (some z, E.sz, by')) (hz : z.cells.size = E.sz) (hby : by' ≤ 1000)
    {w0 : World} (HS : ∀ W, Turn (fun _ => False) w0 W → S W) (ie i1 ix i2 i3 de d1 dx d2 d3 kf kx kt : Nat) {oe o1 ox o2 o3 : Oper}
    (he : nthL ops.toList ie = some oe) (ge : oe.guard = none) (te : oe.dst = some de) (pe : oe.op = .buildSlice tS 0 #[])
    (h1 : nthL ops.toList i1 = some o1) (g1 : o1.guard = none) (t1 : o1.dst = some d1) (p1 : o1.op = .call { callee := .builtin .append, args := #[.tmp de, .tmp kf], argTypes := #[tS, tS] })
    (hx : nthL ops.toList ix = some ox) (gx : ox.guard = none) (tx : ox.dst = some dx) (px : ox.op = .buildSlice tS 1 #[(0, .tmp kx)])
    (h2 : nthL ops.toList i2 = some o2) (g2 : o2.guard = none) (t2 : o2.dst = some d2) (p2 : o2.op = .call { callee := .builtin .append, args := #[.tmp d1, .tmp dx], argTypes := #[tS, tS] })
    (h3 : nthL ops.toList i3 = some o3) (g3 : o3.guard = none) (t3 : o3.dst = some d3) (p3 : o3.op = .call { callee := .builtin .append, args := #[.tmp d2, .tmp kt], argTypes := #[tS, tS] })
    {fuel : Nat} {listed : Array Bool} {ts : Array Value} {ds : List Deferred} {w : World}
    (r0 : Region.ready .any ops listed = [ie, ix]) (re : Region.ready .any ops (listed.setIfInBounds ie true) = [i1, ix]) (re1 : Region.ready .any ops ((listed.setIfInBounds ie true).setIfInBounds i1 true) = [ix])
    (rex : Region.ready .any ops ((listed.setIfInBounds ie true).setIfInBounds ix true) = [i1]) (rx : Region.ready .any ops (listed.setIfInBounds ix true) = [ie])
    (r3 : Region.ready .any ops (((listed.setIfInBounds ie true).setIfInBounds i1 true).setIfInBounds ix true) = [i2]) (r4 : Region.ready .any ops ((((listed.setIfInBounds ie true).setIfInBounds i1 true).setIfInBounds ix true).setIfInBounds i2 true) = [i3])
    (hd : (ie ≠ i1 ∧ ie ≠ ix ∧ i1 ≠ ix) ∧ (de ≠ d1 ∧ de ≠ dx ∧ d1 ≠ dx ∧ de ≠ kf ∧ de ≠ kx ∧ dx ≠ kf ∧ d1 ≠ kx) ∧ (de ≠ kt ∧ d1 ≠ kt ∧ dx ≠ kt ∧ d2 ≠ kt) ∧ de < ts.size ∧ d1 < ts.size ∧ dx < ts.size ∧ d2 < ts.size)
    {vf vt xv : Value} {l1 l3 : List T} {x : T} (kf' : ts.getD kf undef = vf) (kt' : ts.getD kt undef = vt) (kx' : ts.getD kx undef = xv)
    (HF : ∀ W, Turn (fun _ => False) w0 W → RdE E W vf l1) (HT : ∀ W, Turn (fun _ => False) w0 W → RdE E W vt l3) (hl : l1.length + l3.length ≤ 2000000)
    (hE : ∀ W, (Instr.buildSlice tS 0 #[]).run P W = .ok (.slice (some ⟨W.heap.size, 0, none⟩) 0 0) (W.alloc (.cells #[] e)))
    (hX : ∀ W, (Instr.buildSlice tS 1 #[(0, xv)]).run P W = .ok (.slice (some ⟨W.heap.size, 0, none⟩) 1 1) (W.alloc (.cells (E.enc x).toArray e)))
    (hw : Turn (fun _ => False) w0 w)
    (h : ∀ W v a b c d, NewE E e w0 W v (l1 ++ x :: l3) → Drawn P ops Q S zs fuel (((((listed.setIfInBounds ie true).setIfInBounds i1 true).setIfInBounds ix true).setIfInBounds i2 true).setIfInBounds i3 true) (((((ts.setIfInBounds de a).setIfInBounds d1 b).setIfInBounds dx c).setIfInBounds d2 d).setIfInBounds d3 v) ds W) :
    Drawn P ops Q S zs (fuel + 5) listed ts ds w := by
  obtain ⟨⟨n1, n2, n3⟩, ⟨m1, m2, m3, m4, m5, m6, m7⟩, ⟨q1, q2, q3, q4⟩, s1, s2, s3, s4⟩ := hd
  have EE : ∀ (ts : Array Value) W, ∃ v w', (execOp ({ tmps := ts, defers := ds } : Act).eval oe).run P W = .ok (.value v) w' ∧ (v = .slice (some ⟨W.heap.size, 0, none⟩) 0 0 ∧ w' = W.alloc (.cells #[] e)) := fun ts W =>
    ⟨_, _, by unfold execOp; simp [pe, hE], rfl, rfl⟩
  have EX : ∀ (ts : Array Value) W, ts.getD kx undef = xv → ∃ v w', (execOp ({ tmps := ts, defers := ds } : Act).eval ox).run P W = .ok (.value v) w' ∧ (v = .slice (some ⟨W.heap.size, 0, none⟩) 1 1 ∧ w' = W.alloc (.cells (E.enc x).toArray e)) := fun ts W hk =>
    ⟨_, _, by rw [Array.getD_eq_getD_getElem?] at hk; unfold execOp; simp [px, Act.eval, hk, hX], rfl, rfl⟩
  have tail : ∀ (W : World) (a b c : Value), NewE E e w0 W b l1 → RdE E W c [x] →
      Drawn P ops Q S zs (fuel + 2) (((listed.setIfInBounds ie true).setIfInBounds i1 true).setIfInBounds ix true) (((ts.setIfInBounds de a).setIfInBounds d1 b).setIfInBounds dx c) ds W := fun W a b c hn hc => by
    refine drawn_any [i2] r3 (by simp) (drawn_does (fun u w' => NewE E e w0 w' u (l1 ++ [x])) h2 g2 t2 ?_ (fun u w' hu => ⟨HS _ hu.turn, ?_⟩) drawn_nil)
    · obtain ⟨u, w', e1, e2, -⟩ := app_does (P := P) ht hi0 hz hby (a := ({ tmps := ((ts.setIfInBounds de a).setIfInBounds d1 b).setIfInBounds dx c, defers := ds } : Act)) p2 (v := b) (y := c) (by simp only [Act.eval]; rw [slot_ne (Ne.symm m3), slot_eq (by simpa using s2)]) (by simp only [Act.eval]; rw [slot_eq (by simpa using s3)]) hn hc (by simp; omega)
      exact ⟨u, w', e1, e2⟩
    · refine drawn_any [i3] r4 (by simp) (drawn_does (fun v w' => NewE E e w0 w' v (l1 ++ x :: l3)) h3 g3 t3 ?_ (fun v w' hv => ⟨HS _ hv.turn, h w' v a b c u hv⟩) drawn_nil)
      obtain ⟨v, w'', e1, e2, -⟩ := app_does (P := P) ht hi0 hz hby (a := ({ tmps := (((ts.setIfInBounds de a).setIfInBounds d1 b).setIfInBounds dx c).setIfInBounds d2 u, defers := ds } : Act)) p3 (v := u) (y := vt) (by simp only [Act.eval]; rw [slot_eq (by simpa using s4)]) (by simp only [Act.eval]; rw [slot_ne q4, slot_ne q3, slot_ne q2, slot_ne q1, kt']) hu (HT _ hu.turn) (by simp; omega)
      exact ⟨v, w'', e1, by simpa using e2⟩
  refine drawn_any [ie, ix] r0 (by simp) (drawn_does (fun v w' => v = .slice (some ⟨w.heap.size, 0, none⟩) 0 0 ∧ w' = w.alloc (.cells #[] e)) he ge te (EE ts w) ?_ (drawn_does (fun v w' => v = .slice (some ⟨w.heap.size, 0, none⟩) 1 1 ∧ w' = w.alloc (.cells (E.enc x).toArray e)) hx gx tx (EX ts w kx') ?_ drawn_nil))
  · rintro v w' ⟨rfl, rfl⟩
    have hn := NewE.empty (E := E) (e := e) w0 w hw
    refine ⟨HS _ hn.turn, drawn_any [i1, ix] re (by simp) (drawn_does (fun u w' => NewE E e w0 w' u l1) h1 g1 t1 ?_ (fun u w' hu => ⟨HS _ hu.turn, ?_⟩) (drawn_does (fun v w' => v = .slice (some ⟨(w.alloc (.cells #[] e)).heap.size, 0, none⟩) 1 1 ∧ w' = (w.alloc (.cells #[] e)).alloc (.cells (E.enc x).toArray e)) hx gx tx (EX _ _ (by rw [slot_ne m5, kx'])) ?_ drawn_nil))⟩
    · obtain ⟨u, w', e1, e2, -⟩ := app_does (P := P) ht hi0 hz hby (a := ({ tmps := ts.setIfInBounds de (.slice (some ⟨w.heap.size, 0, none⟩) 0 0), defers := ds } : Act)) p1 (y := vf) (by simp only [Act.eval]; rw [slot_eq s1]) (by simp only [Act.eval]; rw [slot_ne m4, kf']) hn (HF _ hn.turn) (by simp; omega)
      exact ⟨u, w', e1, by simpa using e2⟩
    · refine drawn_any [ix] re1 (by simp) (drawn_does (fun v w2 => v = .slice (some ⟨w'.heap.size, 0, none⟩) 1 1 ∧ w2 = w'.alloc (.cells (E.enc x).toArray e)) hx gx tx (EX _ _ (by rw [slot_ne m7, slot_ne m5, kx'])) ?_ drawn_nil)
      rintro v w2 ⟨rfl, rfl⟩
      exact ⟨HS _ (hu.alloc _).turn, tail _ _ _ _ (hu.alloc _) (one_row E e w' x)⟩
    · rintro v w2 ⟨rfl, rfl⟩
      have hn2 := hn.alloc (.cells (E.enc x).toArray e)
      have hr := one_row E e (w.alloc (.cells #[] e)) x
      refine ⟨HS _ hn2.turn, drawn_any [i1] rex (by simp) (drawn_does (fun u w3 => NewE E e w0 w3 u l1 ∧ RdE E w3 (.slice (some ⟨(w.alloc (.cells #[] e)).heap.size, 0, none⟩) 1 1) [x]) h1 g1 t1 ?_ (fun u w3 hu => ⟨HS _ hu.1.turn, ?_⟩) drawn_nil)⟩
      · obtain ⟨u, w3, e1, e2, e3⟩ := app_does (P := P) ht hi0 hz hby (a := ({ tmps := (ts.setIfInBounds de (.slice (some ⟨w.heap.size, 0, none⟩) 0 0)).setIfInBounds dx (.slice (some ⟨(w.alloc (.cells #[] e)).heap.size, 0, none⟩) 1 1), defers := ds } : Act)) p1 (v := .slice (some ⟨w.heap.size, 0, none⟩) 0 0) (y := vf) (by simp only [Act.eval]; rw [slot_ne (Ne.symm m2), slot_eq s1]) (by simp only [Act.eval]; rw [slot_ne m6, slot_ne m4, kf']) hn2 (HF _ hn2.turn) (by simp; omega)
        refine ⟨u, w3, e1, by simpa using e2, hr.turn e3 (fun k h1 h2 => ?_)⟩
        rw [World.size_alloc] at h1
        simp [Value.ownBlock] at h1 h2
        omega
      · rw [Array.setIfInBounds_comm _ _ (Ne.symm n3), Array.setIfInBounds_comm _ _ (Ne.symm m3)]
        exact tail _ _ _ _ hu.1 hu.2
  · rintro v w' ⟨rfl, rfl⟩
    have hr := one_row E e w x
    have hw1 : Turn (fun _ => False) w0 (w.alloc (.cells (E.enc x).toArray e)) := hw.alloc _
    refine ⟨HS _ hw1, drawn_any [ie] rx (by simp) (drawn_does (fun v w' => v = .slice (some ⟨(w.alloc (.cells (E.enc x).toArray e)).heap.size, 0, none⟩) 0 0 ∧ w' = (w.alloc (.cells (E.enc x).toArray e)).alloc (.cells #[] e)) he ge te (EE _ _) ?_ drawn_nil)⟩
    rintro v w2 ⟨rfl, rfl⟩
    have hn := NewE.empty (E := E) (e := e) w0 _ hw1
    have hr2 := hr.later ((Turn.refl _ (w.alloc (.cells (E.enc x).toArray e))).alloc (.cells #[] e))
    rw [Array.setIfInBounds_comm _ _ (Ne.symm n2), Array.setIfInBounds_comm _ _ (Ne.symm m2)]
    refine ⟨HS _ hn.turn, drawn_any [i1] rex (by simp) (drawn_does (fun u w3 => NewE E e w0 w3 u l1 ∧ RdE E w3 (.slice (some ⟨w.heap.size, 0, none⟩) 1 1) [x]) h1 g1 t1 ?_ (fun u w3 hu => ⟨HS _ hu.1.turn, ?_⟩) drawn_nil)⟩
    · obtain ⟨u, w3, e1, e2, e3⟩ := app_does (P := P) ht hi0 hz hby (a := ({ tmps := (ts.setIfInBounds de (.slice (some ⟨(w.alloc (.cells (E.enc x).toArray e)).heap.size, 0, none⟩) 0 0)).setIfInBounds dx (.slice (some ⟨w.heap.size, 0, none⟩) 1 1), defers := ds } : Act)) p1 (v := .slice (some ⟨(w.alloc (.cells (E.enc x).toArray e)).heap.size, 0, none⟩) 0 0) (y := vf) (by simp only [Act.eval]; rw [slot_ne (Ne.symm m2), slot_eq s1]) (by simp only [Act.eval]; rw [slot_ne m6, slot_ne m4, kf']) hn (HF _ hn.turn) (by simp; omega)
      refine ⟨u, w3, e1, by simpa using e2, hr2.turn e3 (fun k h1 h2 => ?_)⟩
      rw [World.size_alloc] at h2
      simp [Value.ownBlock] at h1 h2
      omega
    · rw [Array.setIfInBounds_comm _ _ (Ne.symm n3), Array.setIfInBounds_comm _ _ (Ne.symm m3)]
      exact tail _ _ _ _ hu.1 hu.2
end

end Go.Proofs.Ytgbphkbbedkepaa

/-
  A guarded operation that is not wanted, in a region that draws. No type is named here.
-/
namespace Go.Proofs.Ytgbphkbbedkepaa
open Go.RowKit

/-- The walk stands still here. -/
def Halt11 (p : Prop) : Prop := p
theorem halt11 {p : Prop} (h : Halt11 p) : p := h

section
variable {P : Program} {ops : Array Oper} {Q : Exit → Act → World → Prop} {S : World → Prop} {zs : List Nat}
theorem drawn_skip (i d : Nat) {oi : Oper} {fuel : Nat} {listed : Array Bool} {ts : Array Value} {ds : List Deferred} {w : World} (hi0 : nthL ops.toList i = some oi) (hd : oi.dst = some d)
    (hs : Region.noSelect ops = true) (hf : Region.free .any ops listed i = true) (hr : (Region.ready .any ops listed).contains i = true) (hz : (!zs.contains i) = true)
    (hQ : ∀ c (a : Act) w, Q (.panic c) (a.put oi.dst undef) w → Q (.panic c) a w) (hw : Region.wanted oi (yielded ops ts) = false) (hS : freshB zs listed = true → S w)
    (h : Drawn P ops Q S zs fuel (listed.setIfInBounds i true) (ts.setIfInBounds d undef) ds w) : Drawn P ops Q S zs (fuel + 1) listed ts ds w := fun hc => by
  have hi := nth_at hi0
  have hm : i ∈ Region.ready .any ops listed := by simpa using hr
  refine wpAnyG_first hi (Region.noSelect_spec hs) hQ (by simpa using hz) (fun _ => True) (fun _ _ _ _ _ => trivial) fuel listed _ w hc (Region.free_spec hi hf) hm (.inr ⟨hw, rfl⟩) hS ?_
  have h2 := h (hc.step hm)
  rw [hd]
  exact h2
end

section
variable {P : Program} {T : Type} {E : El T} {tS e : TypeId} {ops : Array Oper} {rest : List Oper} {Q : Exit → Act → World → Prop} {op : Oper} {a : Act} {w : World} {A : Option Addr} {n c i : Nat} {L : List T}
/-- A slice's tail, in a region that draws nothing. -/
theorem wpList_cut (ht : P.underlying tS = some (.slice e)) (hz : (P.info? e).map (·.size) = some E.sz) (hgd : op.guard = none) (xo ko : Operand) (ho : op.op = .slice tS xo (some ko) none none) (hrd : RdE E w (.slice A n c) L) (hx : a.eval xo = .slice A n c) (hk : a.eval ko = .int .i64 (i : Int)) (hi : i ≤ n)
    (h : ∀ B, RdE E w (.slice B (n - i) (c - i)) (L.drop i) → (∀ g, (Value.slice B (n - i) (c - i)).ownBlock = some g → (Value.slice A n c).ownBlock = some g) → wpList P ops Q rest (a.put op.dst (.slice B (n - i) (c - i))) w) : wpList P ops Q (op :: rest) a w :=
  wpList_plain hgd fun K hK => by
    unfold Oper.wp
    rw [exec_tail (E := E) ho hx hk ht hz hi w]
    refine hK _ _ (h _ (rd_tailV hrd hi) (fun g hg => ?_))
    by_cases e : c = i
    · rw [if_pos e] at hg
      cases A with
      | none => simp [Value.ownBlock] at hg
      | some ad => simpa [Value.ownBlock] using hg
    · rw [if_neg e] at hg
      cases A with
      | none => simp [Value.ownBlock] at hg
      | some ad => simpa [Value.ownBlock, eadd_block] using hg
/-- No elements: whatever the world. -/
theorem rd_empty {w' : World} {v : Value} (h : RdE E w v []) : RdE E w' v [] := by
  obtain ⟨A, c, e, h1, h2, _⟩ := h
  exact ⟨A, c, e, h1, h2, fun _ _ i u hi => by simp [El.flat] at hi⟩
/-- A slice's front, in a region that draws nothing. -/
theorem wpList_front (ht : P.underlying tS = some (.slice e)) (hz : (P.info? e).map (·.size) = some E.sz) (hgd : op.guard = none) (xo ko : Operand) (ho : op.op = .slice tS xo none (some ko) none) (hrd : RdE E w (.slice A n c) L) (hx : a.eval xo = .slice A n c) (hk : a.eval ko = .int .i64 (i : Int)) (hi : i ≤ n)
    (h : RdE E w (.slice A i c) (L.take i) → wpList P ops Q rest (a.put op.dst (.slice A i c)) w) : wpList P ops Q (op :: rest) a w :=
  wpList_plain hgd fun K hK => by
    unfold Oper.wp
    rw [exec_front (E := E) ho hx hk ht hz (Nat.le_trans hi (by have := hrd.fits; omega)) w]
    exact hK _ _ (h (hrd.front i hi))
end

end Go.Proofs.Ytgbphkbbedkepaa

/-
  A struct stored whole into a box, in a region that draws. No type is named here.
-/
namespace Go.Proofs.Ytgbphkbbedkepaa
open Go.RowKit

theorem put_box {P : Program} {ops : Array Oper} {ty rt : TypeId} {pos : String} {af : Array Edge} {px vx : Operand} {a : Act} {w : World} {K : Act → World → Prop} {Q : Exit → Act → World → Prop} {F : Prop}
    (b o : Nat) (cs : Array Value) (ht : w.there b o cs.size) (hp : a.eval px = .pointer (some ⟨b, o, none⟩)) (hv : a.eval vx = .agg cs) (hi : (P.info? ty).map (·.size) = some cs.size) (h1 : cs.all (·.oneCell') = true)
    (h : K a (w.setCells b o cs.toList)) :
    if Region.wanted { dst := none, op := .store ty px vx, type := rt, pos := pos, after := af, guard := none } (yielded ops a.tmps) = true then Oper.wp P { dst := none, op := .store ty px vx, type := rt, pos := pos, after := af, guard := none } a w K Q else F := by
  rw [if_pos (by rfl)]
  exact wp_store_mid ty px vx rfl b o cs hp hv ht hi h1 h
/-- A box, whole: there to be stored into. -/
theorem Box.there {w : World} {g : Nat} {t : TypeId} {cs : Array Value} (h : Box w g t cs) {n : Nat} (hn : n ≤ cs.size) : w.there g 0 n := fun i hi => by
  refine ⟨?_, h.free _⟩
  rw [h.cell, Nat.zero_add, Array.getElem?_eq_getElem (by omega)]
  rfl
/-- A box stored whole. -/
theorem Box.all {w : World} {g : Nat} {t : TypeId} {cs : Array Value} (h : Box w g t cs) (ds : Array Value) (hd : ds.size = cs.size) : Box (w.setCells g 0 ds.toList) g t ds := by
  have h1 := h.setCells ds.toList 0 cs w (by rw [Array.length_toList]; omega)
  have e : (cs.toList.take 0 ++ ds.toList ++ cs.toList.drop (0 + ds.toList.length)).toArray = ds := by
    rw [List.take_zero, List.nil_append, Nat.zero_add, List.drop_of_length_le (by rw [Array.length_toList, Array.length_toList]; omega), List.append_nil, Array.toArray_toList]
  rwa [e] at h1

section
variable {T : Type} {E : El T} {e : TypeId} {w : World} {ad : Addr} {n c : Nat} {L : List T}
/-- One element stored into a row, in a region that draws nothing. -/
theorem wpList_put {P : Program} {ops : Array Oper} {rest : List Oper} {op : Oper} {a : Act} {Q : Exit → Act → World → Prop} (hgd : op.guard = none) (ty : TypeId) (x y : Operand) (ho : op.op = .store ty x y)
    (hown : OwE E e w (.slice (some ad) n c) L) (j : Nat) (t : T) (hj : j < L.length) (hx : a.eval x = .pointer (some (ad.add (j * E.sz)))) (hy : a.eval y = .agg (E.enc t).toArray) (hi : (P.info? ty).map (·.size) = some E.sz)
    (h : ∀ w', OwE E e w' (.slice (some ad) n c) (L.set j t) → Turn (fun k => k = ad.block) w w' → wpList P ops Q rest (a.put op.dst undef) w') : wpList P ops Q (op :: rest) a w := by
  obtain ⟨cur, ha, -⟩ := hown.home
  have hadd : ad.add (j * E.sz) = ⟨ad.block, ad.off + j * E.sz, none⟩ := by
    obtain ⟨b, o, s⟩ := ad
    simp only [Addr.mk.injEq, true_and] at ha
    obtain ⟨rfl, rfl⟩ := ha
    rw [own_add, Nat.zero_add]
  refine wpList_store_mid hgd ty x y ho ad.block (ad.off + j * E.sz) (E.enc t).toArray (by rw [hx, hadd]) hy (by rw [List.size_toArray, E.len]; exact hown.there hj) (by rw [List.size_toArray, E.len]; exact hi) (all_oneCell_toArray (E.one t)) ?_
  exact h _ (hown.put hj t) (turn_setCells (S := fun k => k = ad.block) rfl _ _ _)
/-- The cells that make lays: so many zeros. -/
theorem made_flat (t : T) (h0 : 0 < E.sz) (N : Nat) : (madeCells (E.enc t).toArray (N * E.sz)).toList = E.flat (List.replicate N t) := by
  refine List.ext_getElem? fun j => ?_
  have hfl : (E.flat (List.replicate N t)).length = N * E.sz := by rw [E.flat_len, List.length_replicate]
  by_cases hj : j < N * E.sz
  · have hm : j % E.sz < E.sz := Nat.mod_lt _ h0
    have hd : j / E.sz < N := Nat.div_lt_of_lt_mul (by rw [Nat.mul_comm]; exact hj)
    have e := E.flat_at (l := List.replicate N t) (j := j / E.sz) (t := t) (by rw [List.getElem?_replicate, if_pos hd]) hm
    rw [Nat.mul_comm, Nat.div_add_mod] at e
    rw [e]
    have hmz : j % E.sz < (E.enc t).length := by rw [E.len]; exact hm
    simp [madeCells, hj, E.len]
    rw [List.getElem?_eq_getElem hmz]
    rfl
  · rw [List.getElem?_eq_none (by rw [Array.length_toList, size_madeCells]; omega), List.getElem?_eq_none (by omega)]
end

end Go.Proofs.Ytgbphkbbedkepaa
