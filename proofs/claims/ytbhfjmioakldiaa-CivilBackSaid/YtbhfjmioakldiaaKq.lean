
/-
  The hour of a text, by the program.
-/
import Derived.Test.YtbhfjmioakldiaaKp
namespace Go.Proofs.Ytbhfjmioakldiaa
open Go.RowKit

theorem valid_of {Y M D : Nat} (h : IsDate Y M D) : Valid Y M D := by
  obtain ⟨h1, h3, h4, h5⟩ := h
  rw [Int.toNat_natCast, mlenZ_nat] at h5
  obtain ⟨k, hk, m1, m2⟩ := mlenZ_month (y := Y) (m := M) (by rw [mlenZ_nat]; omega)
  exact ⟨by omega, by omega, by omega, by omega, by omega⟩
theorem unfit_no {l : List UInt8} (h : ¬ (l.length = 13 ∧ fits l 13 = true)) : Parsed l 0 false :=
  parsed_no fun g _ e => h (by rw [e]; exact ⟨textL_len g, laidT_fits _ _ _ _⟩)
theorem vals_no {l : List UInt8} {a b c d : Nat} (hv : vals l 13 = [a, b, c, d]) (h : ¬ (IsDate a b c ∧ d < 24 ∧ 24 * num a b c + d ≤ 16777216)) : Parsed l 0 false := by
  refine parsed_no fun g hg e => h ?_
  obtain ⟨v, n, y, _, _⟩ := hour_date hg
  rw [e, textL_vals hg] at hv
  simp only [List.cons.injEq, and_true] at hv
  obtain ⟨rfl, rfl, rfl, rfl⟩ := hv
  exact ⟨is_date v y, by omega, by rw [n]; omega⟩
theorem vals_small {l : List UInt8} {a b c d : Nat} (hl : l.length = 13) (hf : fits l 13 = true) (hv : vals l 13 = [a, b, c, d]) : a ≤ 10000 ∧ b ≤ 100 ∧ c ≤ 100 ∧ d ≤ 100 := by
  obtain ⟨A, B, C, D, _, e1, e2, e3, e4, _, _, _, _, hv'⟩ := fits_form hl hf
  rw [hv] at hv'
  simp only [List.cons.injEq, and_true] at hv'
  obtain ⟨rfl, rfl, rfl, rfl⟩ := hv'
  have h1 := numr_lt A
  have h2 := numr_lt B
  have h3 := numr_lt C
  have h4 := numr_lt D
  rw [e1] at h1
  rw [e2] at h2
  rw [e3] at h3
  rw [e4] at h4
  omega

set_option maxRecDepth 100000 in
set_option maxHeartbeats 2000000 in
theorem parse_any (l : List UInt8) (w : World) (hl : l.length ≤ 100) :
    Calls Try.prog 23 #[.string ⟨l.toArray⟩] w (PParse l w) := by
  have HL := Lib.hid (numbers_any l · hl)
  go_enter Try.func23, Try.ntmps23
  go_wp2_with fail
  refine (HL.out _).mono ?_
  intro e w1 hp
  obtain ⟨a, b, c, d, o, rfl, hy, hn, ht⟩ := hp
  have HT := Lib.hid ht
  clear ht
  cases o with
  | false =>
    have HP := Lib.hid (unfit_no (hn rfl))
    clear hn hy
    go_wp2
    go_ret2
    exact ⟨0, false, rfl, HP.out, HT.out.alloc _⟩
  | true =>
    obtain ⟨h1, h2, h3⟩ := hy rfl
    obtain ⟨b1, b2, b3, b4⟩ := vals_small h1 h2 h3
    have HV := Lib.hid h3
    have HF := Lib.hid h2
    have H13 := Lib.hid h1
    clear h1 h2 h3 hn hy
    have HN : Hid (∀ w, Calls Try.prog 16 #[.int .i64 a, .int .i64 b, .int .i64 c] w fun e w' => e = .returned (numV a b c) ∧ ∃ k, w' = w.drewN k) := fun w => number_any a b c w
    have HR := Lib.hid (fun h => vals_no HV.out h)
    by_cases hd : IsDate a b c
    · obtain ⟨bn, hv⟩ := isDate_num hd
      rw [hv] at HN
      have HD := Lib.hid (valid_of hd)
      have HH := Lib.hid hd
      obtain ⟨n, hn⟩ : ∃ n, n = num a b c := ⟨_, rfl⟩
      rw [← hn] at HN HR bn
      have HNN := Lib.hid hn
      clear hv hd hn
      by_cases h24 : d < 24
      · by_cases hm : 24 * n + d ≤ 16777216
        · go_wp2_with (go_at_call 16; refine (HN.out _).mono ?_; rintro e w' ⟨rfl, k, rfl⟩)
          go_ret2
          exact ⟨24 * n + d, true, rfl, parsed_yes H13.out HF.out HV.out HD.out h24 (by rw [HNN.out]) hm, (HT.out.alloc _).drewN _⟩
        · have HP := Lib.hid (HR.out (fun g => hm g.2.2))
          go_wp2_with (go_at_call 16; refine (HN.out _).mono ?_; rintro e w' ⟨rfl, k, rfl⟩)
          go_ret2
          exact ⟨0, false, rfl, HP.out, (HT.out.alloc _).drewN _⟩
      · have HP := Lib.hid (HR.out (fun g => h24 g.2.1))
        go_wp2_with (go_at_call 16; refine (HN.out _).mono ?_; rintro e w' ⟨rfl, k, rfl⟩)
        go_ret2
        exact ⟨0, false, rfl, HP.out, (HT.out.alloc _).drewN _⟩
    · have HP := Lib.hid (HR.out (fun g => hd g.1))
      rw [numV_no hd] at HN
      clear hd
      go_wp2_with (go_at_call 16; refine (HN.out _).mono ?_; rintro e w' ⟨rfl, k, rfl⟩)
      go_ret2
      exact ⟨0, false, rfl, HP.out, (HT.out.alloc _).drewN _⟩

end Go.Proofs.Ytbhfjmioakldiaa
