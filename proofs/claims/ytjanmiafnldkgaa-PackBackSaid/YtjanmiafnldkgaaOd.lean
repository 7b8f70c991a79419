/-
  Numbers with a sign, texts and flags, as the program and as the document put them.
-/
import Derived.Test.YtjanmiafnldkgaaOc
import Derived.Test.YtjanmiafnldkgaaOm
namespace Go.Proofs.Ytjanmiafnldkgaa
open Go.RowKit

theorem ret_int {k : IntKind} {a b : Int} (h : a = b) : Ending.returned (.int k a) = .returned (.int k b) := by rw [h]

set_option maxRecDepth 100000 in
set_option maxHeartbeats 400000 in
theorem turn_any (n : Int) (w : World) (h1 : Hid (-9223372036854775808 ≤ n)) (h2 : Hid (n ≤ 9223372036854775807)) :
    Calls Try.prog 30 #[.int .i64 n] w fun e w' => e = .returned (.int .u64 (zig n)) ∧ w = w' := by
  go_enter Try.func30, Try.ntmps30
  go_wp2
  go_ret
  exact ⟨ret_int (turn_val n h1 h2), rfl⟩

set_option maxRecDepth 100000 in
set_option maxHeartbeats 400000 in
theorem back_any (n : Nat) (w : World) (h1 : Hid (n < 18446744073709551616)) :
    Calls Try.prog 36 #[.int .u64 n] w fun e w' => e = .returned (.int .i64 (zag n)) ∧ w = w' := by
  go_enter Try.func36, Try.ntmps36
  go_wp2
  go_ret
  exact ⟨ret_int (back_val n h1), rfl⟩

/-- Behind a call that makes bytes of its own. -/
def Made (w w' : World) (v : Value) (l : List UInt8) : Prop := By w' v l ∧ Turn (fun _ => False) w w' ∧ ∀ k, v.ownBlock = some k → w.heap.size ≤ k

set_option maxRecDepth 100000 in
set_option maxHeartbeats 400000 in
theorem int_put (p : Nat) (v : Value) (l : List UInt8) (n : Int) (w : World) (hw : Wr w p v l) (h1 : Hid (-9223372036854775808 ≤ n)) (h2 : Hid (n ≤ 9223372036854775807)) (hl : l.length ≤ 1000000) :
    Calls Try.prog 13 #[.pointer (some ⟨p, 0, none⟩), .int .i64 n] w fun e w' => e = .returned (.pointer (some ⟨p, 0, none⟩)) ∧
      ∃ v', Put w p v w' v' (l ++ enc (zig n)) := by
  have HW := Lib.hid hw; clear hw
  go_enter Try.func13, Try.ntmps13
  go_wp2_with (first
    | (go_at_call 30; refine (turn_any n w h1 h2).mono ?_; rintro e w' ⟨rfl, rfl⟩)
    | (go_at_call 9; refine (num_put p v l (zig n) w HW.out (zig_lt n h1 h2) hl).mono ?_; rintro e w' ⟨rfl, hp⟩; have HP := Lib.hid hp; clear hp))
  go_ret
  exact ⟨rfl, HP.out⟩

set_option maxRecDepth 100000 in
set_option maxHeartbeats 400000 in
theorem bool_put (p : Nat) (v : Value) (l : List UInt8) (b : Bool) (w : World) (hw : Wr w p v l) (hl : l.length ≤ 1000000) :
    Calls Try.prog 33 #[.pointer (some ⟨p, 0, none⟩), .bool b] w fun e w' => e = .returned (.pointer (some ⟨p, 0, none⟩)) ∧
      ∃ v', Put w p v w' v' (l ++ enc b.toNat) := by
  have HW := Lib.hid hw; clear hw
  cases b
  · go_enter Try.func33, Try.ntmps33
    go_wp2_with (go_at_call 9; refine (num_put p v l 0 w HW.out (by show (0 : Nat) < 18446744073709551616; omega) hl).mono ?_; rintro e w' ⟨rfl, hp⟩; have HP := Lib.hid hp; clear hp)
    go_ret
    exact ⟨rfl, HP.out⟩
  · go_enter Try.func33, Try.ntmps33
    go_wp2_with (go_at_call 9; refine (num_put p v l 1 w HW.out (by show (1 : Nat) < 18446744073709551616; omega) hl).mono ?_; rintro e w' ⟨rfl, hp⟩; have HP := Lib.hid hp; clear hp)
    go_ret
    exact ⟨rfl, HP.out⟩

end Go.Proofs.Ytjanmiafnldkgaa
