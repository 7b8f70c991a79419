
/-
  Dates, numbers, months and spans by the document.
-/
import Derived.Test.YtbhfjmioakldiaaKe
namespace Go.Proofs.Ytbhfjmioakldiaa
open Go.RowKit

theorem rlength_at (n m : Int) (y k : Nat) (hn : n = y) (hm : m = k) (h : y ≤ 1000000) (w : World) :
    Calls Try.prog 13 #[.int .i64 n, .int .i64 m] w fun e w' => e = .returned (.int .i64 (mlen y k)) ∧ w = w' := by
  subst hn hm
  have := ref_length y k w h
  rw [mlenZ_nat] at this
  exact this
theorem ydays_ge : ∀ k, 365 * k ≤ ydays k
  | 0 => Nat.le_refl _
  | k + 1 => by
    have h := ydays_ge k
    have h1 := ylen_two (1970 + k)
    show 365 * (k + 1) ≤ ydays k + ylen (1970 + k)
    omega
theorem ydays_succ (k : Nat) : ydays (k + 1) = ydays k + ylen (1970 + k) := rfl

set_option maxRecDepth 100000 in
set_option maxHeartbeats 2000000 in
theorem ref_date (N : Nat) (w : World) (h : N ≤ 1048576) :
    Calls Try.prog 15 #[.int .i64 N] w fun e w' => e = .returned (dateV N) ∧ w = w' := by
  go_enter Try.func15, Try.ntmps15
  go_wp2
  go_loop [0, 5] (fun x0 x5 => ∃ k l : Nat, x0 = .int .i64 l ∧ x5 = .int .i64 (1970 + k : Nat) ∧ ydays k + l = N) (fun x0 _ => (intOf x0).toNat)
  case atStart => exact ⟨0, N, rfl, rfl, by show 0 + N = N; omega⟩
  case round =>
    obtain ⟨k, l, rfl, rfl, h3⟩ := hrel
    have g1 := ydays_ge k
    have g2 := ylen_two (1970 + k)
    have g3 := ydays_succ k
    have l1 : l ≤ 1048576 := by omega
    have l2 : k ≤ 2900 := by omega
    have l3 : ylen (1970 + k) ≤ 366 := by omega
    have l4 : 365 ≤ ylen (1970 + k) := by omega
    have H3 := Lib.hid h3
    have G3 := Lib.hid g3
    clear h3 g3 g1 g2
    by_cases hl : ylen (1970 + k) ≤ l
    · go_wp2_with (go_at_call 29; refine (ref_days (1970 + k) _ (by omega)).mono ?_; rintro e w' ⟨rfl, rfl⟩)
      go_round
      case rel => exact ⟨k + 1, l - ylen (1970 + k), i64_eq (by omega), i64_eq (by omega), by have := H3.out; have := G3.out; omega⟩
      case measure => simp [intOf]; omega
    · go_wp2_with (go_at_call 29; refine (ref_days (1970 + k) _ (by omega)).mono ?_; rintro e w' ⟨rfl, rfl⟩)
      go_loop [0, 6] (fun x0 x6 => ∃ m j : Nat, x6 = .int .i64 m ∧ x0 = .int .i64 j ∧ 1 ≤ m ∧ m ≤ 12 ∧ mdays (1970 + k) (m - 1) + j = l) (fun _ x6 => 12 - (intOf x6).toNat)
      case atStart => exact ⟨1, l, rfl, rfl, Nat.le_refl _, by omega, by show 0 + l = l; omega⟩
      case round =>
        obtain ⟨m, j, rfl, rfl, h1, h2, h4⟩ := hrel
        have l5 := mlen_le (1970 + k) m
        have H4 := Lib.hid h4
        have l6 : j ≤ 366 := by omega
        have HL := Lib.hid (rlength_at ((1970 + k : Nat) : Int) m (1970 + k) m rfl rfl (by omega))
        clear h4
        by_cases hm : mlen (1970 + k) m ≤ j
        · have hm12 := not_last h1 h2 H4.out (by omega) hm
          go_wp2_with (go_at_call 13; refine (HL.out _).mono ?_; rintro e w' ⟨rfl, rfl⟩)
          go_round
          case rel => exact ⟨m + 1, j - mlen (1970 + k) m, by go_num, i64_eq (by omega), by omega, hm12, by rw [Nat.add_sub_cancel, mdays_step h1]; have := H4.out; omega⟩
          case measure => simp [intOf]; omega
        · by_cases h12 : m < 12
          · go_wp2_with (go_at_call 13; refine (HL.out _).mono ?_; rintro e w' ⟨rfl, rfl⟩)
            go_ret3
            exact ⟨ret_eq (dateV_eq (date_at (y := 1970 + k) (by omega) h1 h2 H4.out (by omega) (by rw [Nat.add_sub_cancel_left]; exact H3.out)) _ _ _ rfl rfl (by omega)), rfl⟩
          · go_wp2
            go_ret3
            exact ⟨ret_eq (dateV_eq (date_at (y := 1970 + k) (by omega) h1 h2 H4.out (by omega) (by rw [Nat.add_sub_cancel_left]; exact H3.out)) _ _ _ rfl rfl (by omega)), rfl⟩

set_option maxRecDepth 100000 in
set_option maxHeartbeats 2000000 in
theorem ref_number (y m d : Int) (w : World) :
    Calls Try.prog 17 #[.int .i64 y, .int .i64 m, .int .i64 d] w fun e w' => e = .returned (numV y m d) ∧ w = w' := by
  by_cases h1 : y < 1970
  · go_enter Try.func17, Try.ntmps17
    go_wp2
    go_ret2
    exact ⟨ret_eq (numV_no (fun h => by have := h.1; omega)).symm, rfl⟩
  by_cases h2 : y > 4900
  · go_enter Try.func17, Try.ntmps17
    go_wp2
    go_ret2
    exact ⟨ret_eq (numV_no (fun h => by have := h.2.1; omega)).symm, rfl⟩
  by_cases h3 : d < 1
  · go_enter Try.func17, Try.ntmps17
    go_wp2
    go_ret2
    exact ⟨ret_eq (numV_no (fun h => by have := h.2.2.1; omega)).symm, rfl⟩
  obtain ⟨Y, rfl⟩ := Int.eq_ofNat_of_zero_le (a := y) (by omega)
  obtain ⟨D, rfl⟩ := Int.eq_ofNat_of_zero_le (a := d) (by omega)
  have HL := Lib.hid (ref_length Y m · (by omega))
  have hle := mlenZ_le Y m
  by_cases h4 : mlenZ Y m < D
  · go_enter Try.func17, Try.ntmps17
    go_wp2_with (go_at_call 13; refine (HL.out _).mono ?_; rintro e w' ⟨rfl, rfl⟩)
    go_ret2
    exact ⟨ret_eq (numV_no (fun h => by have := h.2.2.2; rw [Int.toNat_natCast] at this; omega)).symm, rfl⟩
  · obtain ⟨M, rfl, m1, m2⟩ := mlenZ_month (y := Y) (m := m) (by omega)
    have l1 := num_le (y := Y) (m := M) (by omega) (by omega) m1 m2
    have e1 : num Y M 1 = ydays (Y - 1970) + mdays Y (M - 1) := rfl
    have g0 := ydays_ge (Y - 1970)
    go_enter Try.func17, Try.ntmps17
    go_wp2_with (go_at_call 13; refine (HL.out _).mono ?_; rintro e w' ⟨rfl, rfl⟩)
    go_loop [8, 9] (fun x8 x9 => ∃ k : Nat, x9 = .int .i64 (1970 + k : Nat) ∧ x8 = .int .i64 (ydays k) ∧ 1970 + k ≤ Y) (fun _ x9 => Y - (intOf x9).toNat)
    case atStart => exact ⟨0, rfl, rfl, by omega⟩
    case round =>
      obtain ⟨k, rfl, rfl, hk⟩ := hrel
      have l5 : ydays k ≤ 40000000 := by have := ydays_mono k (Y - 1970) (by omega); omega
      have l6 := ylen_le (1970 + k)
      by_cases hlt : 1970 + k < Y
      · go_wp2_with (go_at_call 29; refine (ref_days (1970 + k) _ (by omega)).mono ?_; rintro e w' ⟨rfl, rfl⟩)
        go_round
        case rel => exact ⟨k + 1, i64_eq (by omega), i64_eq (by rw [ydays_succ]; omega), by omega⟩
        case measure => simp [intOf]; omega
      · have ek : k = Y - 1970 := by omega
        have EK := Lib.hid ek; clear ek
        go_wp2
        go_loop [8, 10] (fun x8 x10 => ∃ j : Nat, x10 = .int .i64 j ∧ 1 ≤ j ∧ j ≤ M ∧ x8 = .int .i64 (ydays k + mdays Y (j - 1) : Nat)) (fun _ x10 => M - (intOf x10).toNat)
        case atStart => exact ⟨1, rfl, Nat.le_refl _, m1, rfl⟩
        case round =>
          obtain ⟨j, rfl, hj, hj2, rfl⟩ := hrel
          have l7 := mdays_le (y := Y) (m := j - 1) (by omega)
          have l8 := mlen_le Y j
          have HJ := Lib.hid (rlength_at (Y : Int) j Y j rfl rfl (by omega))
          by_cases hm : j < M
          · go_wp2_with (go_at_call 13; refine (HJ.out _).mono ?_; rintro e w' ⟨rfl, rfl⟩)
            go_round
            case rel => exact ⟨j + 1, by go_num, by omega, by omega, i64_eq (by rw [Nat.add_sub_cancel, mdays_step hj]; omega)⟩
            case measure => simp [intOf]; omega
          · obtain rfl : j = M := by omega
            go_wp2
            go_ret2
            exact ⟨ret_eq (numV_yes (by omega) (by omega) (by omega) (by rw [mlenZ_nat] at h4; omega) _ (by have := num_day Y j D; have := EK.out; subst this; omega)), rfl⟩

end Go.Proofs.Ytbhfjmioakldiaa
