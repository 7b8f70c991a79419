
/-
  Checks, by the program and by the document.
-/
import Derived.Test.YtjhgbbmghgeeoaaBb
import Derived.Test.YtjhgbbmghgeeoaaCm
namespace Go.Proofs.Ytjhgbbmghgeeoaa
open Go.RowKit

set_option maxRecDepth 100000 in
set_option maxHeartbeats 400000 in
theorem move_any (s : Nat) (w : World) (h : Hid (s < 4294967296)) :
    Calls Try.prog 42 #[.int .u32 s] w fun e w' => e = .returned (.int .u32 (stp s)) ∧ w = w' := by
  go_enter Try.func42, Try.ntmps42
  go_wp2
  go_ret
  exact ⟨ret_int (move_val s h), rfl⟩

theorem ref_half (s : Nat) (h : Hid (s < 4294967296)) (h1 : ((s : Int) % 2 == 1) = true) : bits BinOp.xor IntKind.u32 ((s : Int) / 2 % 4294967296) 3988292384 = (stp s : Int) := by
  have h : s < 4294967296 := h
  have h1 : s % 2 = 1 := by have := eq_of_beq h1; omega
  have e : (s : Int) / 2 % 4294967296 = ((s / 2 : Nat) : Int) := by omega
  unfold stp
  rw [if_pos h1, e, show (3988292384 : Int) = ((3988292384 : Nat) : Int) from rfl, u32_xor_nat _ _ (by omega) (by omega)]
theorem ref_even (s : Nat) (h : Hid (s < 4294967296)) (h1 : ((s : Int) % 2 == 1) = false) : (s : Int) / 2 % 4294967296 = (stp s : Int) := by
  have h : s < 4294967296 := h
  have h1 : ¬ s % 2 = 1 := by have := ne_of_beq_false h1; omega
  unfold stp
  rw [if_neg h1]
  omega

set_option maxRecDepth 100000 in
set_option maxHeartbeats 400000 in
theorem step_any (s : Nat) (w : World) (h : Hid (s < 4294967296)) :
    Calls Try.prog 45 #[.int .u32 s] w fun e w' => e = .returned (.int .u32 (stp s)) ∧ w = w' := by
  go_enter Try.func45, Try.ntmps45
  go_wp2
  · go_ret
    exact ⟨ret_int (ref_half s h (by assumption)), rfl⟩
  · go_ret
    exact ⟨ret_int (ref_even s h (by assumption)), rfl⟩

theorem start_val (s : Nat) (h : Hid (s < 4294967296)) : bits BinOp.xor IntKind.u32 IntKind.u32.max (s : Int) = ((4294967295 - s : Nat) : Int) := by
  have e : bits BinOp.xor IntKind.u32 IntKind.u32.max (s : Int) = bits BinOp.xor IntKind.u32 (s : Int) 4294967295 := by
    show IntKind.u32.wrap ((BitVec.ofInt 32 4294967295 ^^^ BitVec.ofInt 32 (s : Int)).toNat : Int) = IntKind.u32.wrap ((BitVec.ofInt 32 (s : Int) ^^^ BitVec.ofInt 32 4294967295).toNat : Int)
    rw [BitVec.xor_comm]
  rw [e]
  exact turn_u32 s h
theorem mix_val (x : Nat) (b : UInt8) (h : Hid (x < 4294967296)) : bits BinOp.xor IntKind.u32 (x : Int) ((b.toNat : Int) % 4294967296) = ((x ^^^ b.toNat : Nat) : Int) := by
  have hb := b.toNat_lt
  have e : (b.toNat : Int) % 4294967296 = (b.toNat : Int) := by omega
  rw [e]
  exact u32_xor_nat _ _ h (by omega)
theorem u32_eq {a b : Int} (h : a = b) : Value.int .u32 a = Value.int .u32 b := by rw [h]

set_option maxRecDepth 100000 in
set_option maxHeartbeats 400000 in
theorem crc_more (s : Nat) (v : Value) (l : List UInt8) (w : World) (hs : Hid (s < 4294967296)) (hv : Rd w v l) (hl : l.length ≤ 1000000) :
    Calls Try.prog 37 #[.int .u32 s, v] w fun e w' => e = .returned (.int .u32 (more s l)) ∧ w = w' := by
  have HV := Lib.hid hv
  obtain ⟨A, c, rfl, _⟩ := hv
  go_enter Try.func37, Try.ntmps37
  go_wp2
  go_loop [6, 13] (fun x6 x13 => ∃ k : Nat, x13 = .int .i64 k ∧ k ≤ l.length ∧ x6 = .int .u32 (eats (4294967295 - s) (l.take k))) (fun _ x13 => l.length - (intOf x13).toNat)
  case atStart => exact ⟨0, rfl, Nat.zero_le _, u32_eq (start_val s hs)⟩
  case round =>
    obtain ⟨k, rfl, hk, rfl⟩ := hrel
    obtain ⟨x, hx⟩ : ∃ x, x = eats (4294967295 - s) (l.take k) := ⟨_, rfl⟩
    have hxl : Hid (x < 4294967296) := by rw [hx]; exact eats_lt _ (by omega)
    rw [← hx]
    have HX := Lib.hid hx; clear hx
    by_cases hlt : k < l.length
    · obtain ⟨b, hb⟩ : ∃ b, l[k]? = some b := ⟨_, List.getElem?_eq_getElem hlt⟩
      obtain ⟨ad, rfl, hcell⟩ := HV.out.at hb
      have HB := Lib.hid hb; clear hb
      have hy : Hid (x ^^^ b.toNat < 4294967296) := mix_lt b hxl
      go_wp2
      go_loop [6, 21] (fun x6 x21 => ∃ j : Nat, x21 = .int .i64 j ∧ j ≤ 8 ∧ x6 = .int .u32 (stps j (x ^^^ b.toNat))) (fun _ x21 => 8 - (intOf x21).toNat)
      case atStart => exact ⟨0, rfl, Nat.zero_le _, u32_eq (mix_val x b hxl)⟩
      case round =>
        obtain ⟨j, rfl, hj, rfl⟩ := hrel
        by_cases h8 : j < 8
        · go_wp2_with (go_at_call 42; refine (move_any _ w (stps_lt j hy)).mono ?_; rintro e w' ⟨rfl, rfl⟩)
          go_round
          case rel => exact ⟨j + 1, by go_num, by omega, rfl⟩
          case measure => simp [intOf]; omega
        · have ej : j = 8 := by omega
          subst ej
          go_wp2
          go_round
          case rel => exact ⟨k + 1, by go_num, by omega, by rw [eats_take HB.out, ← HX.out]; rfl⟩
          case measure => simp [intOf]; omega
    · have ek : k = l.length := by omega
      subst ek
      go_wp2
      go_ret
      exact ⟨ret_int (by rw [start_val x hxl, HX.out, List.take_length]; rfl), rfl⟩

theorem more_val (s : Nat) (h : Hid (s < 4294967296)) : (4294967295 - (s : Int)) % 4294967296 = ((4294967295 - s : Nat) : Int) := by
  have h : s < 4294967296 := h
  omega

set_option maxRecDepth 100000 in
set_option maxHeartbeats 400000 in
theorem ref_more (s : Nat) (v : Value) (l : List UInt8) (w : World) (hs : Hid (s < 4294967296)) (hv : Rd w v l) (hl : l.length ≤ 1000000) :
    Calls Try.prog 41 #[.int .u32 s, v] w fun e w' => e = .returned (.int .u32 (more s l)) ∧ w = w' := by
  have HV := Lib.hid hv
  obtain ⟨A, c, rfl, _⟩ := hv
  go_enter Try.func41, Try.ntmps41
  go_wp2
  go_loop [5, 6] (fun x6 x13 => ∃ k : Nat, x13 = .int .i64 k ∧ k ≤ l.length ∧ x6 = .int .u32 (eats (4294967295 - s) (l.take k))) (fun _ x13 => l.length - (intOf x13).toNat)
  case atStart => exact ⟨0, rfl, Nat.zero_le _, u32_eq (more_val s hs)⟩
  case round =>
    obtain ⟨k, rfl, hk, rfl⟩ := hrel
    obtain ⟨x, hx⟩ : ∃ x, x = eats (4294967295 - s) (l.take k) := ⟨_, rfl⟩
    have hxl : Hid (x < 4294967296) := by rw [hx]; exact eats_lt _ (by omega)
    rw [← hx]
    have HX := Lib.hid hx; clear hx
    by_cases hlt : k < l.length
    · obtain ⟨b, hb⟩ : ∃ b, l[k]? = some b := ⟨_, List.getElem?_eq_getElem hlt⟩
      obtain ⟨ad, rfl, hcell⟩ := HV.out.at hb
      have HB := Lib.hid hb; clear hb
      have hy : Hid (x ^^^ b.toNat < 4294967296) := mix_lt b hxl
      go_wp2
      go_loop [5, 7] (fun x6 x21 => ∃ j : Nat, x21 = .int .i64 j ∧ j ≤ 8 ∧ x6 = .int .u32 (stps j (x ^^^ b.toNat))) (fun _ x21 => 8 - (intOf x21).toNat)
      case atStart => exact ⟨0, rfl, Nat.zero_le _, u32_eq (mix_val x b hxl)⟩
      case round =>
        obtain ⟨j, rfl, hj, rfl⟩ := hrel
        by_cases h8 : j < 8
        · go_wp2_with (go_at_call 45; refine (step_any _ w (stps_lt j hy)).mono ?_; rintro e w' ⟨rfl, rfl⟩)
          go_round
          case rel => exact ⟨j + 1, by go_num, by omega, rfl⟩
          case measure => simp [intOf]; omega
        · have ej : j = 8 := by omega
          subst ej
          go_wp2
          go_round
          case rel => exact ⟨k + 1, by go_num, by omega, by rw [eats_take HB.out, ← HX.out]; rfl⟩
          case measure => simp [intOf]; omega
    · have ek : k = l.length := by omega
      subst ek
      go_wp2
      go_ret
      exact ⟨ret_int (by rw [more_val x hxl, HX.out, List.take_length]; rfl), rfl⟩

set_option maxRecDepth 100000 in
set_option maxHeartbeats 400000 in
theorem crc_sum (v : Value) (l : List UInt8) (w : World) (hv : Rd w v l) (hl : l.length ≤ 1000000) :
    Calls Try.prog 26 #[v] w fun e w' => e = .returned (.int .u32 (more 0 l)) ∧ w = w' := by
  have HV := Lib.hid hv
  clear hv
  go_enter Try.func26, Try.ntmps26
  go_wp2_with (go_at_call 37; refine (crc_more 0 v l w (by show (0 : Nat) < 4294967296; omega) HV.out hl).mono ?_; rintro e w' ⟨rfl, rfl⟩)
  go_ret
  exact ⟨rfl, rfl⟩

set_option maxRecDepth 100000 in
set_option maxHeartbeats 400000 in
theorem ref_sum (v : Value) (l : List UInt8) (w : World) (hv : Rd w v l) (hl : l.length ≤ 1000000) :
    Calls Try.prog 36 #[v] w fun e w' => e = .returned (.int .u32 (more 0 l)) ∧ w = w' := by
  have HV := Lib.hid hv
  clear hv
  go_enter Try.func36, Try.ntmps36
  go_wp2_with (go_at_call 41; refine (ref_more 0 v l w (by show (0 : Nat) < 4294967296; omega) HV.out hl).mono ?_; rintro e w' ⟨rfl, rfl⟩)
  go_ret
  exact ⟨rfl, rfl⟩

end Go.Proofs.Ytjhgbbmghgeeoaa
