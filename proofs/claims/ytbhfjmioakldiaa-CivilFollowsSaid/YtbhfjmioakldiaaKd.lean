
/-
  The program's dates, numbers, months and spans.
-/
import Derived.Test.YtbhfjmioakldiaaKc
namespace Go.Proofs.Ytbhfjmioakldiaa
open Go.RowKit

/-- What Date answers. -/
def dateV (n : Nat) : Value := .tuple #[.int .i64 (dateOf n).1, .int .i64 (dateOf n).2.1, .int .i64 (dateOf n).2.2]
theorem dateV_eq {n y m d : Nat} (h : dateOf n = (y, m, d)) (a b c : Int) (ha : a = y) (hb : b = m) (hc : c = d) : Value.tuple #[.int .i64 a, .int .i64 b, .int .i64 c] = dateV n := by
  subst ha hb hc
  unfold dateV
  rw [h]
theorem ret_eq {u v : Value} (h : u = v) : Ending.returned u = .returned v := by rw [h]

set_option maxRecDepth 100000 in
set_option maxHeartbeats 2000000 in
theorem date_any (N : Nat) (w : World) (h : N ≤ 2000000) :
    Calls Try.prog 14 #[.int .i64 N] w fun e w' => e = .returned (dateV N) ∧ ∃ k, w' = w.drewN k := by
  have HS := Lib.hid (split_at (N : Int) 146097 N 146097 rfl rfl (by omega) (by omega) (by omega))
  have HN1 := Lib.hid (Nat.div_add_mod N 146097)
  have b1 : N / 146097 ≤ 100 := by omega
  have b2 : N % 146097 ≤ 146096 := by omega
  generalize N / 146097 = E1 at *
  generalize N % 146097 = r1 at *
  have HT := Lib.hid (split_at ((r1 : Int) + 134774) 146097 (r1 + 134774) 146097 (by omega) rfl (by omega) (by omega) (by omega))
  have HN2 := Lib.hid (Nat.div_add_mod (r1 + 134774) 146097)
  have b3 : (r1 + 134774) / 146097 ≤ 100 := by omega
  have b4 : (r1 + 134774) % 146097 ≤ 146096 := by omega
  generalize (r1 + 134774) / 146097 = E2 at *
  generalize (r1 + 134774) % 146097 = r at *
  have HN : Hid (N + 134774 = 146097 * (E1 + E2) + r) := by have := HN1.out; have := HN2.out; show N + 134774 = _; omega
  go_enter Try.func14, Try.ntmps14
  go_wp2_with (first
    | (go_at_call 27; (with_reducible refine (HS.out _).mono ?_); rintro e w' ⟨rfl, k, rfl⟩)
    | (go_at_call 27; (with_reducible refine (HT.out _).mono ?_); rintro e w' ⟨rfl, k2, rfl⟩)
    | (go_at_call 28; (with_reducible refine (ahead_369 _).mono ?_); rintro e w' ⟨rfl, rfl⟩))
  go_loop [8] (fun x8 => ∃ n : Nat, x8 = .int .i64 n ∧ ahd n ≤ r ∧ n < 400) (fun x8 => 400 - (intOf x8).toNat)
  case atStart => exact ⟨r / 366, i64_eq (by omega), ahd_start, by omega⟩
  case round =>
    obtain ⟨n, rfl, hn, hn2⟩ := hrel
    have HA := Lib.hid (ahead_at ((n : Int) + 1) (n + 1) (by omega) (by omega))
    have l1 : ahd (n + 1) ≤ 146097 := ahd_lt (by omega)
    by_cases hlt : ahd (n + 1) ≤ r
    · go_wp2_with (go_at_call 28; (with_reducible refine (HA.out _).mono ?_); rintro e w' ⟨rfl, rfl⟩)
      go_round
      case rel => exact ⟨n + 1, by go_num, hlt, ahd_of hlt (by omega)⟩
      case measure => simp [intOf]; omega
    · obtain ⟨y, hy⟩ : ∃ y, y = 1601 + 400 * (E1 + E2) + n := ⟨_, rfl⟩
      obtain ⟨g1, g2, g3⟩ := year_at HN.out hn (by omega) hy
      have HB := Lib.hid (ahead_at (n : Int) n rfl (by omega))
      have l2 : ahd n ≤ 146097 := ahd_lt (by omega)
      obtain ⟨D, hD⟩ : ∃ D, D = r - ahd n := ⟨_, rfl⟩
      rw [← hD] at g2 g3
      have HY := Lib.hid hy; clear hy
      have HD := Lib.hid hD; clear hD
      have HG := Lib.hid g2; clear g2
      have l3 : y ≤ 100000 := by have := HY.out; omega
      have l4 : D ≤ 366 := by have := ylen_le y; omega
      go_wp2_with (first
        | (go_at_call 28; (with_reducible refine (HA.out _).mono ?_); rintro e w' ⟨rfl, rfl⟩)
        | (go_at_call 28; (with_reducible refine (HB.out _).mono ?_); rintro e w' ⟨rfl, rfl⟩))
      go_loop [10, 11] (fun x10 x11 => ∃ m l : Nat, x10 = .int .i64 m ∧ x11 = .int .i64 l ∧ 1 ≤ m ∧ m ≤ 12 ∧ mdays y (m - 1) + l = D) (fun x10 _ => 12 - (intOf x10).toNat)
      case atStart => exact ⟨1, D, rfl, i64_eq (by have := HD.out; omega), Nat.le_refl _, by omega, by show 0 + D = D; omega⟩
      case round =>
        obtain ⟨m, l, rfl, rfl, h1, h2, h3⟩ := hrel
        have l5 : mlen y m ≤ 31 := mlen_le y m
        have H3 := Lib.hid h3
        have l6 : l ≤ 366 := by omega
        have HL := Lib.hid (length_at ((1601 : Int) + 400 * ((E1 : Int) + E2) + n) m y m (by have := HY.out; omega) rfl (by omega))
        clear h3
        by_cases hl : mlen y m ≤ l
        · go_wp2_with (go_at_call 12; refine (HL.out _).mono ?_; rintro e w' ⟨rfl, rfl⟩)
          go_round
          case rel => exact ⟨m + 1, l - mlen y m, by go_num, i64_eq (by omega), by omega, not_last h1 h2 H3.out g3 hl, by rw [Nat.add_sub_cancel, mdays_step h1]; have := H3.out; omega⟩
          case measure => have := not_last h1 h2 H3.out g3 hl; simp [intOf]; omega
        · go_wp2_with (go_at_call 12; refine (HL.out _).mono ?_; rintro e w' ⟨rfl, rfl⟩)
          go_ret3
          exact ⟨ret_eq (dateV_eq (date_at g1 h1 h2 H3.out (by omega) HG.out) _ _ _ (by have := HY.out; omega) rfl (by omega)), _, rfl⟩

end Go.Proofs.Ytbhfjmioakldiaa
