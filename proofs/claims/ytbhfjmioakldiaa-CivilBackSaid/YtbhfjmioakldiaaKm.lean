
/-
  Digits and texts by the document.
-/
import Derived.Test.YtbhfjmioakldiaaKh
import Derived.Test.YtbhfjmioakldiaaKf
namespace Go.Proofs.Ytbhfjmioakldiaa
open Go.RowKit

/-- One byte as a string. -/
theorem one_string (w : World) (x : Int) (n : Nat) (h : x = 48 + n % 10) :
    (convert 44 9 (.slice (some ⟨w.heap.size, 0, none⟩) 1 1)).run Try.prog (w.alloc (.cells #[.int .u8 x] 5)) = .ok (.string ⟨#[dgt n]⟩) (w.alloc (.cells #[.int .u8 x] 5)) := by
  have e : x = ((dgt n).toNat : Int) := by rw [dgt_nat, h]; omega
  subst e
  exact (By.made w [dgt n] (by show 1 ≤ maxLen; decide)).rd.string
theorem str_app (a b : List UInt8) : (⟨a.toArray⟩ ++ ⟨b.toArray⟩ : ByteArray) = ⟨(a ++ b).toArray⟩ := by
  apply ByteArray.ext
  rw [ByteArray.data_append]
  simp
theorem string_eq {a b : ByteArray} (h : a = b) : Value.string a = .string b := by rw [h]

set_option maxRecDepth 100000 in
set_option maxHeartbeats 1000000 in
theorem digits_any (n k : Nat) (w : World) (hn : n ≤ 1000000) (hk : k ≤ 100) :
    Calls Try.prog 34 #[.int .i64 n, .int .i64 k] w fun e w' => e = .returned (.string ⟨(dg n k).toArray⟩) ∧ Turn (fun _ => False) w w' := by
  go_enter Try.func34, Try.ntmps34
  go_wp2
  go_loopw [0, 5, 6] (fun x0 x5 x6 wr => ∃ (i x : Nat) (t : List UInt8), x0 = .int .i64 x ∧ x5 = .string ⟨t.toArray⟩ ∧ x6 = .int .i64 i ∧ i ≤ k ∧ x ≤ 1000000 ∧ dg x (k - i) ++ t = dg n k ∧ t.length = i ∧ Turn (fun _ => False) w wr) (fun _ _ x6 _ => k - (intOf x6).toNat)
  case atStart => exact ⟨0, n, [], rfl, rfl, rfl, Nat.zero_le _, hn, by simp, rfl, Turn.refl _ w⟩
  case round =>
    obtain ⟨i, x, t, rfl, rfl, rfl, hik, hx, hd, hl, ht⟩ := hrel
    have HD := Lib.hid hd
    have HL := Lib.hid hl
    have HT := Lib.hid ht
    clear hd ht hl
    by_cases hlt : i < k
    · have kc := fun (w : World) => one_string w (48 + (x : Int) % 10) x (by omega)
      have bl : t.length ≤ 100 := by have := HL.out; omega
      go_wp2
      go_roundw
      case rel =>
        refine ⟨i + 1, x / 10, dgt x :: t, i64_eq (by omega), string_eq (str_app [dgt x] t), by go_num, by omega, by omega, ?_, by rw [List.length_cons, HL.out], HT.out.alloc _⟩
        rw [← HD.out, show k - i = (k - (i + 1)) + 1 by omega]
        show _ = (dg (x / 10) (k - (i + 1)) ++ [dgt x]) ++ t
        rw [List.append_assoc]
        rfl
      case measure => simp [intOf]; omega
    · go_wp2
      go_ret
      exact ⟨ret_eq (by have h := HD.out; rw [show k - i = 0 by omega] at h; rw [← h]; rfl), HT.out⟩

theorem digits_at (n k : Int) (N K : Nat) (hN : n = N) (hK : k = K) (hn : N ≤ 1000000) (hk : K ≤ 100) (w : World) :
    Calls Try.prog 34 #[.int .i64 n, .int .i64 k] w fun e w' => e = .returned (.string ⟨(dg N K).toArray⟩) ∧ Turn (fun _ => False) w w' := by
  subst hN hK
  exact digits_any N K w hn hk
theorem str_len (a : List UInt8) : ByteArray.size ⟨a.toArray⟩ = a.length := by
  show a.toArray.size = _
  rw [List.size_toArray]
theorem joinT (y m d h : Nat) : ((((((⟨(dg y 4).toArray⟩ ++ ⟨#[45]⟩) ++ ⟨(dg m 2).toArray⟩) ++ ⟨#[45]⟩) ++ ⟨(dg d 2).toArray⟩) ++ ⟨#[84]⟩) ++ ⟨(dg h 2).toArray⟩ : ByteArray) = ⟨(laidT y m d h).toArray⟩ := by
  rw [show (⟨#[45]⟩ : ByteArray) = ⟨[45].toArray⟩ from rfl, show (⟨#[84]⟩ : ByteArray) = ⟨[84].toArray⟩ from rfl]
  simp only [str_app]
  have e : dg y 4 ++ [45] ++ dg m 2 ++ [45] ++ dg d 2 ++ [84] ++ dg h 2 = laidT y m d h := by simp [laidT]
  rw [e]

set_option maxRecDepth 100000 in
set_option maxHeartbeats 1000000 in
theorem rtext_any (h : Nat) (w : World) (hh : h ≤ 16777216) :
    Calls Try.prog 26 #[.int .i64 h] w fun e w' => e = .returned (.string ⟨(textL h).toArray⟩) ∧ Turn (fun _ => False) w w' := by
  have e1 : (h : Int) / 24 = (h / 24 : Nat) := by omega
  have HD : Hid (∀ w, Calls Try.prog 15 #[.int .i64 ((h : Int) / 24)] w fun e w' => e = .returned (.tuple #[.int .i64 (dateOf (h / 24)).1, .int .i64 (dateOf (h / 24)).2.1, .int .i64 (dateOf (h / 24)).2.2]) ∧ w = w') := by
    intro w
    rw [e1]
    exact ref_date (h / 24) w (by omega)
  obtain ⟨_, _, a1, a2, a3⟩ := hour_date hh
  have HX : Hid (textL h = laidT (dateOf (h / 24)).1 (dateOf (h / 24)).2.1 (dateOf (h / 24)).2.2 (h % 24)) := rfl
  have H4 := Lib.hid (digits_at ((h : Int) % 24) 2 (h % 24) 2 (by omega) rfl (by omega) (by omega))
  generalize (dateOf (h / 24)).1 = y at *
  generalize (dateOf (h / 24)).2.1 = m at *
  generalize (dateOf (h / 24)).2.2 = d at *
  have H1 := Lib.hid (digits_at (y : Int) 4 y 4 rfl rfl (by omega) (by omega))
  have H2 := Lib.hid (digits_at (m : Int) 2 m 2 rfl rfl (by omega) (by omega))
  have H3 := Lib.hid (digits_at (d : Int) 2 d 2 rfl rfl (by omega) (by omega))
  have E1 := Lib.hid e1
  clear e1
  have z1 := dg_len 4 y
  have z2 := dg_len 2 m
  have z3 := dg_len 2 d
  have z4 := dg_len 2 (h % 24)
  go_enter Try.func26, Try.ntmps26
  go_wp2_with (first
    | (go_at_call 15; refine (HD.out _).mono ?_; rintro e w' ⟨rfl, rfl⟩)
    | (go_at_call 34; (with_reducible refine (H1.out _).mono ?_); rintro e w1 ⟨rfl, ht⟩; have T1 := Lib.hid ht; clear ht)
    | (go_at_call 34; (with_reducible refine (H2.out _).mono ?_); rintro e w2 ⟨rfl, ht⟩; have T2 := Lib.hid ht; clear ht)
    | (go_at_call 34; (with_reducible refine (H3.out _).mono ?_); rintro e w3 ⟨rfl, ht⟩; have T3 := Lib.hid ht; clear ht)
    | (go_at_call 34; (with_reducible refine (H4.out _).mono ?_); rintro e w4 ⟨rfl, ht⟩; have T4 := Lib.hid ht; clear ht))
  go_ret
  refine ⟨ret_eq ?_, ((T1.out.trans T2.out (fun _ _ f => f)).trans T3.out (fun _ _ f => f)).trans T4.out (fun _ _ f => f)⟩
  rw [HX.out, ← joinT]
  rfl

end Go.Proofs.Ytbhfjmioakldiaa
