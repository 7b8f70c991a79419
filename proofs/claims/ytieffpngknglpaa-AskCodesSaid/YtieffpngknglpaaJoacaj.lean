/-
  Texts laid one behind the other: Om Od.
-/
import Derived.WalkKit
import Derived.WalkSmall
import Derived.Laws.BitsAllLaws
import Derived.Test.YtieffpngknglpaaJoacai

/-
  Plain facts on numbers: bits, turned numbers, groups of seven bits.
-/
namespace Go.Proofs.Ytieffpngknglpaa
open Go.RowKit

/-- A number turned, so that one near 0 is small. -/
def zig (n : Int) : Nat := if 0 ≤ n then (2 * n).toNat else (-2 * n - 1).toNat
/-- .. and turned back. -/
def zag (n : Nat) : Int := if n % 2 = 0 then ((n / 2 : Nat) : Int) else -((n / 2 : Nat) : Int) - 1

theorem zag_zig (n : Int) : zag (zig n) = n := by
  unfold zag zig
  split <;> split <;> omega

theorem zig_lt (n : Int) (h1 : Hid (-9223372036854775808 ≤ n)) (h2 : Hid (n ≤ 9223372036854775807)) : zig n < 18446744073709551616 := by
  have a : -9223372036854775808 ≤ n := h1
  have b : n ≤ 9223372036854775807 := h2
  unfold zig
  split <;> omega

theorem xor_ones (a : Nat) (h : a < 18446744073709551616) : bits BinOp.xor IntKind.u64 (a : Int) 18446744073709551615 = ((18446744073709551615 - a : Nat) : Int) := by
  show IntKind.u64.wrap ((BitVec.ofInt 64 (a : Int) ^^^ BitVec.ofInt 64 18446744073709551615).toNat : Int) = _
  have h1 : BitVec.ofInt 64 18446744073709551615 = BitVec.allOnes 64 := by decide +kernel
  rw [h1, BitVec.xor_allOnes, BitVec.toNat_not, ofInt_u64 a h, IntKind.wrap_u64]
  omega

theorem turn_val (n : Int) (h1 : Hid (-9223372036854775808 ≤ n)) (h2 : Hid (n ≤ 9223372036854775807)) :
    bits BinOp.xor IntKind.u64 (IntKind.u64.wrap (IntKind.u64.wrap n * 2)) (IntKind.u64.wrap (n / 9223372036854775808)) = (zig n : Int) := by
  have a : -9223372036854775808 ≤ n := h1
  have b : n ≤ 9223372036854775807 := h2
  by_cases h : 0 ≤ n
  · have e0 : n / 9223372036854775808 = 0 := by omega
    have e1 : IntKind.u64.wrap (n / 9223372036854775808) = ((0 : Nat) : Int) := by rw [e0, IntKind.wrap_u64]; omega
    have e2 : IntKind.u64.wrap (IntKind.u64.wrap n * 2) = (((2 * n).toNat : Nat) : Int) := by rw [IntKind.wrap_u64, IntKind.wrap_u64]; omega
    rw [e1, e2, u64_xor_nat _ _ (by omega) (by omega), Nat.xor_zero]
    unfold zig
    rw [if_pos h]
  · have e0 : n / 9223372036854775808 = -1 := by omega
    have e1 : IntKind.u64.wrap (n / 9223372036854775808) = 18446744073709551615 := by rw [e0, IntKind.wrap_u64]; omega
    have e2 : IntKind.u64.wrap (IntKind.u64.wrap n * 2) = (((2 * n + 18446744073709551616).toNat : Nat) : Int) := by rw [IntKind.wrap_u64, IntKind.wrap_u64]; omega
    rw [e1, e2, xor_ones _ (by omega)]
    unfold zig
    rw [if_neg h]
    omega

theorem i64_xor_ones (a : Nat) (h : a < 9223372036854775808) : bits BinOp.xor IntKind.i64 (a : Int) (-1) = -(a : Int) - 1 := by
  show IntKind.i64.wrap ((BitVec.ofInt 64 (a : Int) ^^^ BitVec.ofInt 64 (-1)).toNat : Int) = _
  have h1 : BitVec.ofInt 64 (-1) = BitVec.allOnes 64 := by decide
  rw [h1, BitVec.xor_allOnes, BitVec.toNat_not, ofInt_u64 a (by omega)]
  simp [IntKind.wrap, IntKind.bits, IntKind.signed]
  omega

theorem i64_xor_zero (a : Nat) (h : a < 9223372036854775808) : bits BinOp.xor IntKind.i64 (a : Int) 0 = (a : Int) := by
  show IntKind.i64.wrap ((BitVec.ofInt 64 (a : Int) ^^^ BitVec.ofInt 64 0).toNat : Int) = _
  have h1 : BitVec.ofInt 64 0 = 0#64 := by decide
  rw [h1, BitVec.xor_zero, ofInt_u64 a (by omega)]
  simp [IntKind.wrap, IntKind.bits, IntKind.signed]
  omega

theorem back_val (n : Nat) (h1 : Hid (n < 18446744073709551616)) :
    bits BinOp.xor IntKind.i64 (wrap64 ((n : Int) / 2)) (wrap64 (-wrap64 (bits BinOp.and IntKind.u64 (n : Int) 1))) = zag n := by
  have a : n < 18446744073709551616 := h1
  rw [and_one_u64 (n : Int) (by omega) (by omega)]
  have e1 : wrap64 ((n : Int) / 2) = ((n / 2 : Nat) : Int) := by unfold wrap64; omega
  have e2 : wrap64 (-wrap64 ((n : Int) % 2)) = -((n : Int) % 2) := by unfold wrap64; omega
  rw [e1, e2]
  unfold zag
  split
  · have e3 : -((n : Int) % 2) = 0 := by omega
    rw [e3, i64_xor_zero _ (by omega)]
  · have e3 : -((n : Int) % 2) = -1 := by omega
    rw [e3, i64_xor_ones _ (by omega)]

theorem pow_7 (i : Nat) : (2 : Int) ^ (7 * i) = ((128 ^ i : Nat) : Int) := by
  rw [Int.pow_mul]
  simp

theorem pow_le (i : Nat) (h : i ≤ 9) : 128 ^ i ≤ 9223372036854775808 := by
  have := Nat.pow_le_pow_right (n := 128) (by omega) h
  have e : (128 : Nat) ^ 9 = 9223372036854775808 := by decide +kernel
  omega

theorem or_val (acc c i : Nat) (hi : i ≤ 9) (hacc : acc < 128 ^ i) (hb : c * 128 ^ i < 18446744073709551616) :
    bits BinOp.or IntKind.u64 (acc : Int) (IntKind.u64.wrap ((c : Int) * 2 ^ (7 * i))) = ((acc + c * 128 ^ i : Nat) : Int) := by
  have hp := pow_le i hi
  have e : IntKind.u64.wrap ((c : Int) * 2 ^ (7 * i)) = ((c * 128 ^ i : Nat) : Int) := by
    rw [pow_7, ← Int.natCast_mul, IntKind.wrap_u64]
    omega
  rw [e, bits_or_u64_nat _ _ (by omega) hb]
  have h2 : (128 : Nat) ^ i = 2 ^ (7 * i) := by rw [Nat.pow_mul]
  rw [h2] at hacc ⊢
  have := Nat.shiftLeft_add_eq_or_of_lt hacc c
  rw [Nat.shiftLeft_eq] at this
  rw [Nat.or_comm, ← this, Nat.add_comm]

theorem or_mid (acc x i : Nat) (hx : 128 ≤ x) (hx2 : x < 256) (hi : i ≤ 8) (hacc : acc < 128 ^ i) :
    bits BinOp.or IntKind.u64 (acc : Int) (IntKind.u64.wrap (((x : Int) - 128) * 2 ^ (7 * i))) = ((acc + (x - 128) * 128 ^ i : Nat) : Int) ∧ acc + (x - 128) * 128 ^ i < 128 ^ (i + 1) := by
  have e : ((x : Int) - 128) = ((x - 128 : Nat) : Int) := by omega
  have h1 : (x - 128) * 128 ^ i ≤ 127 * 128 ^ i := Nat.mul_le_mul_right _ (by omega)
  have h2 := pow_le (i + 1) (by omega)
  rw [Nat.pow_succ] at h2 ⊢
  rw [e]
  exact ⟨or_val acc (x - 128) i (by omega) hacc (by omega), by omega⟩

end Go.Proofs.Ytieffpngknglpaa

/-
  Numbers with a sign, texts and flags, as the program and as the document put them.
-/
namespace Go.Proofs.Ytieffpngknglpaa
open Go.RowKit


set_option maxRecDepth 100000 in
set_option maxHeartbeats 400000 in
theorem bool_put (p : Nat) (v : Value) (l : List UInt8) (b : Bool) (w : World) (hw : Wr w p v l) (hl : l.length ≤ 1000000) :
    Calls Try.prog 22 #[.pointer (some ⟨p, 0, none⟩), .bool b] w fun e w' => e = .returned (.pointer (some ⟨p, 0, none⟩)) ∧
      ∃ v', Put w p v w' v' (l ++ enc b.toNat) := by
  have HW := Lib.hid hw; clear hw
  cases b
  · go_enter Try.func22, Try.ntmps22
    go_wp2_with (go_at_call 21; refine (num_put p v l 0 w HW.out (by show (0 : Nat) < 18446744073709551616; omega) hl).mono ?_; rintro e w' ⟨rfl, hp⟩; have HP := Lib.hid hp; clear hp)
    go_ret
    exact ⟨rfl, HP.out⟩
  · go_enter Try.func22, Try.ntmps22
    go_wp2_with (go_at_call 21; refine (num_put p v l 1 w HW.out (by show (1 : Nat) < 18446744073709551616; omega) hl).mono ?_; rintro e w' ⟨rfl, hp⟩; have HP := Lib.hid hp; clear hp)
    go_ret
    exact ⟨rfl, HP.out⟩

end Go.Proofs.Ytieffpngknglpaa
