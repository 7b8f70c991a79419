
/-
  Numbers of cells: a number's sign, its size, two numbers together, by the program and by the document.
-/
import Derived.Test.YtejilonhdgfkbaaLa
import Derived.Test.YtejilonhdgfkbaaLb
import Derived.Test.YtejilonhdgfkbaaBb
import Derived.BigQuiet
namespace Go.Proofs.Ytejilonhdgfkbaa
open Go.RowKit

theorem u64_of {x : Int} (h : fit x = true) : IntKind.u64.wrap x = if x < 0 then x + 18446744073709551616 else x := by
  rw [fit_iff] at h
  rw [IntKind.wrap_u64]
  split <;> omega

set_option maxRecDepth 100000 in
set_option maxHeartbeats 400000 in
theorem cell_size (x : Int) (w : World) (h : Hid (fit x = true)) :
    Calls Try.prog 58 #[.int .i64 x] w fun e w' => e = .returned (.int .u64 x.natAbs) ∧ w = w' := by
  have HA : Hid (x < 0 → IntKind.u64.wrap (-IntKind.u64.wrap x) = (x.natAbs : Int)) := by
    show _ → _
    intro hx
    rw [u64_of h.out, if_pos hx, IntKind.wrap_u64]
    have := (fit_iff x).1 h.out
    omega
  have HB : Hid (0 ≤ x → IntKind.u64.wrap x = (x.natAbs : Int)) := by
    show _ → _
    intro hx
    rw [u64_of h.out, if_neg (by omega)]
    omega
  go_enter Try.func58, Try.ntmps58
  go_wp2
  · go_ret
    exact ⟨ret_int (HA.out (by assumption)), rfl⟩
  · go_ret
    exact ⟨ret_int (HB.out (by assumption)), rfl⟩

theorem size_a {x : Int} (h : 4611686018427387904 < x ∨ x < -4611686018427387904) : 4611686018427387905 = (sizeC x : Int) := by
  unfold sizeC
  rw [if_neg (by omega)]
  rfl
theorem size_b {x : Int} (h : x ≤ 4611686018427387904 ∧ -4611686018427387904 ≤ x) (g : x < 0) : -x = (sizeC x : Int) := by
  unfold sizeC
  rw [if_pos (by omega)]
  omega
theorem size_c {x : Int} (h : x ≤ 4611686018427387904 ∧ -4611686018427387904 ≤ x) (g : 0 ≤ x) : x = (sizeC x : Int) := by
  unfold sizeC
  rw [if_pos (by omega)]
  omega

set_option maxRecDepth 100000 in
set_option maxHeartbeats 400000 in
theorem ref_size (x : Int) (w : World) :
    Calls Try.prog 59 #[.int .i64 x] w fun e w' => e = .returned (.int .i64 (sizeC x)) ∧ w = w' := by
  go_enter Try.func59, Try.ntmps59
  go_wp2
  all_goals go_ret
  all_goals refine ⟨ret_int ?_, rfl⟩
  all_goals first
    | exact size_b (by assumption) (by assumption)
    | exact size_c (by assumption) (by assumption)
    | exact size_a (.inl (by assumption))
    | exact size_a (by assumption)

theorem wrap_par (z : Nat) : IntKind.i64.wrap (z : Int) % 2 = ((z % 2 : Nat) : Int) := by
  rw [IntKind.wrap_i64]
  have h := Int.emod_emod_of_dvd ((z : Int) + 9223372036854775808) (show (2 : Int) ∣ 18446744073709551616 from ⟨9223372036854775808, by decide⟩)
  generalize ((z : Int) + 9223372036854775808) % 18446744073709551616 = r at *
  omega

/-- The lowest bit of two numbers' common ones. -/
def low2 (x y : Int) : Int := if x % 2 = 1 ∧ y % 2 = 1 then 1 else 0
theorem low_and (x y : Int) : bits BinOp.and IntKind.i64 (bits BinOp.and IntKind.i64 x y) 1 = low2 x y := by
  have e1 : ∀ u : Int, bits BinOp.and IntKind.i64 u 1 = u % 2 := fun u => by
    show IntKind.i64.wrap ((BitVec.ofInt 64 u &&& BitVec.ofInt 64 1).toNat : Int) = _
    rw [BitVec.toNat_and, show (BitVec.ofInt 64 1).toNat = 1 from rfl, Nat.and_one_is_mod, BitVec.toNat_ofInt]
    have := Int.emod_nonneg u (b := 2 ^ 64) (by decide)
    have e : ((2 ^ 64 : Nat) : Int) = 18446744073709551616 := rfl
    rw [e]
    rw [IntWalk.i64_in _ (by omega)]
    omega
  rw [e1]
  have hx : (BitVec.ofInt 64 x).toNat % 2 = (x % 2).toNat := by rw [BitVec.toNat_ofInt, show ((2 ^ 64 : Nat) : Int) = 18446744073709551616 from rfl]; omega
  have hy : (BitVec.ofInt 64 y).toNat % 2 = (y % 2).toNat := by rw [BitVec.toNat_ofInt, show ((2 ^ 64 : Nat) : Int) = 18446744073709551616 from rfl]; omega
  have h2 : ((BitVec.ofInt 64 x).toNat &&& (BitVec.ofInt 64 y).toNat) % 2 = (x % 2).toNat &&& (y % 2).toNat := by
    have := Nat.and_mod_two_pow (a := (BitVec.ofInt 64 x).toNat) (b := (BitVec.ofInt 64 y).toNat) (n := 1)
    rw [Nat.pow_one, hx, hy] at this
    exact this
  show IntKind.i64.wrap ((BitVec.ofInt 64 x &&& BitVec.ofInt 64 y).toNat : Int) % 2 = low2 x y
  rw [BitVec.toNat_and]
  generalize (BitVec.ofInt 64 x).toNat &&& (BitVec.ofInt 64 y).toNat = z at *
  rw [wrap_par, h2]
  unfold low2
  rcases (show x % 2 = 0 ∨ x % 2 = 1 by omega) with a | a <;> rcases (show y % 2 = 0 ∨ y % 2 = 1 by omega) with b | b <;> rw [a, b] <;> rfl

theorem sign_same {g q : Int} (h : fit g = true) (hq : q = wrap64 (g * 2)) {z : Int} (hg : g = z / 2) : ((if g < 0 then 1 else 0 : Int) = if q < 0 then 1 else 0) ↔ fit z = true := by
  rw [fit_iff] at *
  unfold wrap64 at hq
  subst hq
  split <;> split <;> omega

theorem ret_pair {a b : Int} {k : IntKind} {c : Bool} (h : a = b) : Ending.returned (.tuple #[.int k a, .bool c]) = .returned (.tuple #[.int k b, .bool c]) := by rw [h]

/-- What two numbers come to, and whether. -/
def sumV (x y : Int) : Value := .tuple #[.int .i64 (if fit (x + y) then x + y else 0), .bool (fit (x + y))]
theorem sumV_yes {x y : Int} (h : fit (x + y) = true) : sumV x y = .tuple #[.int .i64 (x + y), .bool true] := by unfold sumV; rw [h]; rfl
theorem sumV_no {x y : Int} (h : fit (x + y) = false) : sumV x y = .tuple #[.int .i64 0, .bool false] := by unfold sumV; rw [h]; rfl

section
variable {x y : Int}
theorem add_a (hx : fit x = true) (hy : fit y = true) (h : 0 ≤ y) (g : x ≤ wrap64 (9223372036854775807 - y)) : Ending.returned (.tuple #[.int .i64 (wrap64 (x + y)), .bool true]) = .returned (sumV x y) := by
  rw [fit_iff] at *
  have e : wrap64 (9223372036854775807 - y) = 9223372036854775807 - y := by unfold wrap64; omega
  rw [e] at g
  rw [sumV_yes ((fit_iff _).2 ⟨by omega, by omega⟩)]
  exact ret_pair (by unfold wrap64; omega)
theorem add_b (hy : fit y = true) (h : 0 ≤ y) (g : wrap64 (9223372036854775807 - y) < x) : Ending.returned (.tuple #[.int .i64 0, .bool false]) = .returned (sumV x y) := by
  rw [fit_iff] at *
  have e : wrap64 (9223372036854775807 - y) = 9223372036854775807 - y := by unfold wrap64; omega
  rw [e] at g
  rw [sumV_no]
  rw [Bool.eq_false_iff, ne_eq, fit_iff]
  omega
theorem add_c (hy : fit y = true) (h : y < 0) (g : x < wrap64 (-9223372036854775808 - y)) : Ending.returned (.tuple #[.int .i64 0, .bool false]) = .returned (sumV x y) := by
  rw [fit_iff] at *
  have e : wrap64 (-9223372036854775808 - y) = -9223372036854775808 - y := by unfold wrap64; omega
  rw [e] at g
  rw [sumV_no]
  rw [Bool.eq_false_iff, ne_eq, fit_iff]
  omega
theorem add_d (hx : fit x = true) (hy : fit y = true) (h : y < 0) (g : wrap64 (-9223372036854775808 - y) ≤ x) : Ending.returned (.tuple #[.int .i64 (wrap64 (x + y)), .bool true]) = .returned (sumV x y) := by
  rw [fit_iff] at *
  have e : wrap64 (-9223372036854775808 - y) = -9223372036854775808 - y := by unfold wrap64; omega
  rw [e] at g
  rw [sumV_yes ((fit_iff _).2 ⟨by omega, by omega⟩)]
  exact ret_pair (by unfold wrap64; omega)
end

end Go.Proofs.Ytejilonhdgfkbaa
