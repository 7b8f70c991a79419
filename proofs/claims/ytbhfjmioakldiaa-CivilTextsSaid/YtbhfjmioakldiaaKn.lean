
/-
  Numbers of digits, and hours of texts, by the document.
-/
import Derived.Test.YtbhfjmioakldiaaKm
namespace Go.Proofs.Ytbhfjmioakldiaa
open Go.RowKit

theorem str_at {l : List UInt8} {k : Nat} {c : UInt8} (hc : l[k]? = some c) (h : k < ByteArray.size ⟨l.toArray⟩) : (⟨l.toArray⟩ : ByteArray)[k] = c := by
  obtain ⟨hk, e⟩ := List.getElem?_eq_some_iff.1 hc
  show (l.toArray)[k] = c
  rw [List.getElem_toArray]
  exact e

theorem eatd_yes {x : Nat} {c : UInt8} (h1 : 48 ≤ (c.toNat : Int)) (h2 : (c.toNat : Int) ≤ 57) : (x : Int) * 10 + ((c.toNat : Int) - 48) = (eatd x c : Nat) := by
  have : isd c = true := by unfold isd; simp; omega
  unfold eatd
  rw [if_pos this]
  omega
theorem eatd_hi {x : Nat} {c : UInt8} (h : 57 < (c.toNat : Int)) : (x : Int) = (eatd x c : Nat) := by
  have : ¬ isd c = true := by unfold isd; simp; omega
  unfold eatd
  rw [if_neg this]
theorem eatd_lo {x : Nat} {c : UInt8} (h : ¬ 48 ≤ (c.toNat : Int)) : (x : Int) = (eatd x c : Nat) := by
  have : ¬ isd c = true := by unfold isd; simp; omega
  unfold eatd
  rw [if_neg this]

set_option maxRecDepth 100000 in
set_option maxHeartbeats 1000000 in
theorem rnumber_any (l : List UInt8) (w : World) (hl : l.length ≤ 10) :
    Calls Try.prog 32 #[.string ⟨l.toArray⟩] w fun e w' => e = .returned (.int .i64 (numr l)) ∧ w = w' := by
  have hsz : ByteArray.size ⟨l.toArray⟩ = l.length := str_len l
  go_enter Try.func32, Try.ntmps32
  go_wp2
  go_loop [3, 4] (fun x3 x4 => ∃ k : Nat, x4 = .int .i64 k ∧ k ≤ l.length ∧ x3 = .int .i64 (numr (l.take k))) (fun _ x4 => l.length - (intOf x4).toNat)
  case atStart => exact ⟨0, rfl, Nat.zero_le _, rfl⟩
  case round =>
    obtain ⟨k, rfl, hk, rfl⟩ := hrel
    by_cases hlt : k < l.length
    · obtain ⟨c, hc⟩ : ∃ c, l[k]? = some c := ⟨_, List.getElem?_eq_getElem hlt⟩
      have hb : numr (l.take k) ≤ 100000000000 := by
        have := numr_lt (l.take k)
        have h2 : 10 ^ (l.take k).length ≤ 10 ^ 10 := Nat.pow_le_pow_right (by omega) (by rw [List.length_take]; omega)
        omega
      have HN := Lib.hid (numr_take hc)
      generalize numr (l.take k) = x at *
      have eg := str_at hc (by rw [hsz]; exact hlt)
      have HC := Lib.hid hc
      clear hc
      go_wp2
      · go_round
        case rel => exact ⟨k + 1, by go_num, by omega, i64_eq (by rw [HN.out]; exact eatd_yes (by assumption) (by assumption))⟩
        case measure => simp [intOf]; omega
      · go_round
        case rel => exact ⟨k + 1, by go_num, by omega, i64_eq (by rw [HN.out]; exact eatd_hi (by assumption))⟩
        case measure => simp [intOf]; omega
      · go_round
        case rel => exact ⟨k + 1, by go_num, by omega, i64_eq (by rw [HN.out]; exact eatd_lo (by assumption))⟩
        case measure => simp [intOf]; omega
    · have ek : k = l.length := by omega
      subst ek
      go_wp2
      go_ret
      exact ⟨ret_int (by first | rfl | rw [List.take_length]), rfl⟩

/-- A part of a text. -/
def part (l : List UInt8) (i n : Nat) : List UInt8 := (l.drop i).take n
theorem str_part (l : List UInt8) (i j : Nat) : (⟨l.toArray⟩ : ByteArray).extract i j = ⟨(part l i (j - i)).toArray⟩ := by
  apply ByteArray.ext
  rw [ByteArray.data_extract]
  simp [part, List.take_drop]
theorem part_len (l : List UInt8) (i n : Nat) : (part l i n).length ≤ n := by unfold part; rw [List.length_take]; omega
theorem parts_of {A B C D : List UInt8} (a : A.length = 4) (b : B.length = 2) (c : C.length = 2) (d : D.length = 2) :
    part (A ++ (45 :: B ++ (45 :: C ++ (84 :: D)))) 0 4 = A ∧ part (A ++ (45 :: B ++ (45 :: C ++ (84 :: D)))) 5 2 = B ∧ part (A ++ (45 :: B ++ (45 :: C ++ (84 :: D)))) 8 2 = C ∧ part (A ++ (45 :: B ++ (45 :: C ++ (84 :: D)))) 11 2 = D := by
  match A, a, B, b, C, c, D, d with
  | [a, b, c, d], _, [f, g], _, [j, k], _, [n, o], _ => exact ⟨rfl, rfl, rfl, rfl⟩
theorem text_parts {h : Nat} (hh : h ≤ 16777216) : numr (part (textL h) 0 4) = (dateOf (h / 24)).1 ∧ numr (part (textL h) 5 2) = (dateOf (h / 24)).2.1 ∧ numr (part (textL h) 8 2) = (dateOf (h / 24)).2.2 ∧ numr (part (textL h) 11 2) = h % 24 := by
  obtain ⟨_, _, l1, l2, l3⟩ := hour_date hh
  obtain ⟨e1, e2, e3, e4⟩ := parts_of (dg_len 4 (dateOf (h / 24)).1) (dg_len 2 (dateOf (h / 24)).2.1) (dg_len 2 (dateOf (h / 24)).2.2) (dg_len 2 (h % 24))
  unfold textL laidT
  rw [e1, e2, e3, e4, numr_dg, numr_dg, numr_dg, numr_dg]
  exact ⟨Nat.mod_eq_of_lt (by omega), Nat.mod_eq_of_lt (by omega), Nat.mod_eq_of_lt (by omega), Nat.mod_eq_of_lt (by omega)⟩
theorem is_date {y m d : Nat} (v : Valid y m d) (h : y ≤ 4900) : IsDate y m d :=
  ⟨by have := v.1; omega, by omega, by have := v.2.2.2.1; omega, by rw [Int.toNat_natCast, mlenZ_nat]; have := v.2.2.2.2; omega⟩
/-- What a text is read as, by its parts. -/
theorem reads_no {l : List UInt8} {Y M D H : Nat} (e1 : Y = numr (part l 0 4)) (e2 : M = numr (part l 5 2)) (e3 : D = numr (part l 8 2)) (e4 : H = numr (part l 11 2))
    (h : ¬ (IsDate Y M D ∧ H ≤ 23 ∧ 24 * num Y M D + H ≤ 16777216 ∧ l = textL (24 * num Y M D + H))) : Parsed l 0 false := by
  refine parsed_no fun g hg e => h ?_
  obtain ⟨v, n, b, _, _⟩ := hour_date hg
  obtain ⟨t1, t2, t3, t4⟩ := text_parts hg
  rw [e, t1] at e1
  rw [e, t2] at e2
  rw [e, t3] at e3
  rw [e, t4] at e4
  subst e1 e2 e3 e4
  have k : 24 * num (dateOf (g / 24)).1 (dateOf (g / 24)).2.1 (dateOf (g / 24)).2.2 + g % 24 = g := by rw [n]; omega
  rw [k]
  exact ⟨is_date v b, by omega, hg, e⟩
theorem isDate_num {Y M D : Nat} (h : IsDate Y M D) : num Y M D ≤ 40000000 ∧ numV Y M D = .tuple #[.int .i64 (num Y M D), .bool true] := by
  have h2 := h
  obtain ⟨h1, h3, h4, h5⟩ := h2
  rw [Int.toNat_natCast, mlenZ_nat] at h5
  have h6 := mlen_le Y M
  obtain ⟨k, hk, m1, m2⟩ := mlenZ_month (y := Y) (m := M) (by rw [mlenZ_nat]; omega)
  have := num_le (y := Y) (m := M) (by omega) (by omega) (by omega) (by omega)
  have := num_day Y M D
  refine ⟨?_, (numV_yes (by omega) (by omega) (by omega) (by omega) _ rfl).symm⟩
  unfold num at *
  have := ydays_ahd (y := Y) (by omega)
  have := mdays_le (y := Y) (m := M - 1) (by omega)
  have : ydays (Y - 1970) ≤ 3000000 := by unfold ahd at *; omega
  omega

/-- Behind a call that parses. -/
def PParse (l : List UInt8) (w : World) (e : Ending) (w' : World) : Prop := ∃ (n : Nat) (b : Bool), e = .returned (.tuple #[.int .i64 (n : Int), .bool b]) ∧ Parsed l n b ∧ Turn (fun _ => False) w w'

set_option maxRecDepth 100000 in
set_option maxHeartbeats 2000000 in
theorem rparse_any (l : List UInt8) (w : World) (hl : l.length ≤ 100) :
    Calls Try.prog 24 #[.string ⟨l.toArray⟩] w (PParse l w) := by
  have hsz : ByteArray.size ⟨l.toArray⟩ = l.length := str_len l
  by_cases h13 : l.length = 13
  · obtain ⟨Y, e1⟩ : ∃ Y, Y = numr (part l 0 4) := ⟨_, rfl⟩
    obtain ⟨M, e2⟩ : ∃ M, M = numr (part l 5 2) := ⟨_, rfl⟩
    obtain ⟨D, e3⟩ : ∃ D, D = numr (part l 8 2) := ⟨_, rfl⟩
    obtain ⟨H, e4⟩ : ∃ H, H = numr (part l 11 2) := ⟨_, rfl⟩
    have bH : H ≤ 100 := by
      have := numr_lt (part l 11 2)
      have h2 : 10 ^ (part l 11 2).length ≤ 10 ^ 2 := Nat.pow_le_pow_right (by omega) (part_len l 11 2)
      omega
    have H1 : Hid (∀ w, Calls Try.prog 32 #[.string ((⟨l.toArray⟩ : ByteArray).extract 0 4)] w fun e w' => e = .returned (.int .i64 Y) ∧ w = w') := fun w => by
      rw [str_part, e1]; exact rnumber_any _ w (Nat.le_trans (part_len _ _ _) (by decide))
    have H2 : Hid (∀ w, Calls Try.prog 32 #[.string ((⟨l.toArray⟩ : ByteArray).extract 5 7)] w fun e w' => e = .returned (.int .i64 M) ∧ w = w') := fun w => by
      rw [str_part, e2]; exact rnumber_any _ w (Nat.le_trans (part_len _ _ _) (by decide))
    have H3 : Hid (∀ w, Calls Try.prog 32 #[.string ((⟨l.toArray⟩ : ByteArray).extract 8 10)] w fun e w' => e = .returned (.int .i64 D) ∧ w = w') := fun w => by
      rw [str_part, e3]; exact rnumber_any _ w (Nat.le_trans (part_len _ _ _) (by decide))
    have H4 : Hid (∀ w, Calls Try.prog 32 #[.string ((⟨l.toArray⟩ : ByteArray).extract 11 13)] w fun e w' => e = .returned (.int .i64 H) ∧ w = w') := fun w => by
      rw [str_part, e4]; exact rnumber_any _ w (Nat.le_trans (part_len _ _ _) (by decide))
    have HN : Hid (∀ w, Calls Try.prog 17 #[.int .i64 Y, .int .i64 M, .int .i64 D] w fun e w' => e = .returned (numV Y M D) ∧ w = w') := fun w => ref_number Y M D w
    have HR := Lib.hid (fun h => reads_no e1 e2 e3 e4 h)
    clear e1 e2 e3 e4
    by_cases hd : IsDate Y M D
    · obtain ⟨bn, hv⟩ := isDate_num hd
      rw [hv] at HN
      generalize num Y M D = n at *
      have HH := Lib.hid hd
      clear hv hd
      by_cases h23 : H ≤ 23
      · by_cases hm : 24 * n + H ≤ 16777216
        · have HT : Hid (∀ w, Calls Try.prog 26 #[.int .i64 (24 * (n : Int) + H)] w fun e w' => e = .returned (.string ⟨(textL (24 * n + H)).toArray⟩) ∧ Turn (fun _ => False) w w') := fun w => rtext_any (24 * n + H) w hm
          by_cases ht : l = textL (24 * n + H)
          · have HE := Lib.hid ht
            rw [← ht] at HT
            clear ht
            go_enter Try.func24, Try.ntmps24
            go_wp2
            go_quiet ((first
              | (go_at_call 32; with_reducible exact quiet_left (H1.out _))
              | (go_at_call 32; with_reducible exact quiet_left (H2.out _))
              | (go_at_call 32; with_reducible exact quiet_left (H3.out _))
              | (go_at_call 17; with_reducible exact quiet_left (HN.out _))))
            go_wp2_with (first
              | (go_at_call 32; refine (H4.out _).mono ?_; rintro e w' ⟨rfl, rfl⟩)
              | (go_at_call 26; refine (HT.out _).mono ?_; rintro e w1 ⟨rfl, ht⟩; have T1 := Lib.hid ht; clear ht))
            go_ret2
            exact ⟨24 * n + H, true, rfl, .inl ⟨rfl, hm, HE.out⟩, ((Turn.refl (fun _ => False) w).drewN _).trans T1.out (fun _ _ f => f)⟩
          · have hne : (textL (24 * n + H) == l) = false := by rw [beq_eq_false_iff_ne]; exact fun e => ht e.symm
            have HP := Lib.hid (HR.out (fun g => ht g.2.2.2))
            clear ht
            generalize textL (24 * n + H) = tt at *
            go_enter Try.func24, Try.ntmps24
            go_wp2
            go_quiet ((first
              | (go_at_call 32; with_reducible exact quiet_left (H1.out _))
              | (go_at_call 32; with_reducible exact quiet_left (H2.out _))
              | (go_at_call 32; with_reducible exact quiet_left (H3.out _))
              | (go_at_call 17; with_reducible exact quiet_left (HN.out _))))
            go_wp2_with (first
              | (go_at_call 32; refine (H4.out _).mono ?_; rintro e w' ⟨rfl, rfl⟩)
              | (go_at_call 26; refine (HT.out _).mono ?_; rintro e w1 ⟨rfl, ht⟩; have T1 := Lib.hid ht; clear ht))
            go_ret2
            exact ⟨0, false, rfl, HP.out, ((Turn.refl (fun _ => False) w).drewN _).trans T1.out (fun _ _ f => f)⟩
        · have HP := Lib.hid (HR.out (fun g => hm g.2.2.1))
          go_enter Try.func24, Try.ntmps24
          go_wp2
          go_quiet ((first
            | (go_at_call 32; with_reducible exact quiet_left (H1.out _))
            | (go_at_call 32; with_reducible exact quiet_left (H2.out _))
            | (go_at_call 32; with_reducible exact quiet_left (H3.out _))
            | (go_at_call 17; with_reducible exact quiet_left (HN.out _))))
          go_wp2_with (go_at_call 32; refine (H4.out _).mono ?_; rintro e w' ⟨rfl, rfl⟩)
          go_ret2
          exact ⟨0, false, rfl, HP.out, (Turn.refl (fun _ => False) w).drewN _⟩
      · have HP := Lib.hid (HR.out (fun g => h23 g.2.1))
        go_enter Try.func24, Try.ntmps24
        go_wp2
        go_quiet ((first
          | (go_at_call 32; with_reducible exact quiet_left (H1.out _))
          | (go_at_call 32; with_reducible exact quiet_left (H2.out _))
          | (go_at_call 32; with_reducible exact quiet_left (H3.out _))
          | (go_at_call 17; with_reducible exact quiet_left (HN.out _))))
        go_wp2_with (go_at_call 32; refine (H4.out _).mono ?_; rintro e w' ⟨rfl, rfl⟩)
        go_ret2
        exact ⟨0, false, rfl, HP.out, (Turn.refl (fun _ => False) w).drewN _⟩
    · have HP := Lib.hid (HR.out (fun g => hd g.1))
      rw [numV_no hd] at HN
      clear hd
      go_enter Try.func24, Try.ntmps24
      go_wp2
      go_quiet ((first
        | (go_at_call 32; with_reducible exact quiet_left (H1.out _))
        | (go_at_call 32; with_reducible exact quiet_left (H2.out _))
        | (go_at_call 32; with_reducible exact quiet_left (H3.out _))
        | (go_at_call 17; with_reducible exact quiet_left (HN.out _))))
      go_wp2_with (go_at_call 32; refine (H4.out _).mono ?_; rintro e w' ⟨rfl, rfl⟩)
      go_ret2
      exact ⟨0, false, rfl, HP.out, (Turn.refl (fun _ => False) w).drewN _⟩
  · have hb : ((l.length : Int) == 13) = false := by rw [beq_eq_false_iff_ne]; omega
    go_enter Try.func24, Try.ntmps24
    go_wp2
    go_ret2
    exact ⟨0, false, rfl, parsed_no (fun h _ e => h13 (by rw [e, textL_len])), Turn.refl _ w⟩

end Go.Proofs.Ytbhfjmioakldiaa
