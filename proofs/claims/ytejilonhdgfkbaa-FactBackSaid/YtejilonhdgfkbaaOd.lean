
/-
  Numbers with a sign, texts and flags, as the program and as the document put them.
-/
import Derived.Test.YtejilonhdgfkbaaOc
import Derived.Test.YtejilonhdgfkbaaOm
namespace Go.Proofs.Ytejilonhdgfkbaa
open Go.RowKit


set_option maxRecDepth 100000 in
set_option maxHeartbeats 400000 in
theorem turn_any (n : Int) (w : World) (h1 : Hid (-9223372036854775808 ≤ n)) (h2 : Hid (n ≤ 9223372036854775807)) :
    Calls Try.prog 63 #[.int .i64 n] w fun e w' => e = .returned (.int .u64 (zig n)) ∧ w = w' := by
  go_enter Try.func63, Try.ntmps63
  go_wp2
  go_ret
  exact ⟨ret_int (turn_val n h1 h2), rfl⟩

set_option maxRecDepth 100000 in
set_option maxHeartbeats 400000 in
theorem back_any (n : Nat) (w : World) (h1 : Hid (n < 18446744073709551616)) :
    Calls Try.prog 109 #[.int .u64 n] w fun e w' => e = .returned (.int .i64 (zag n)) ∧ w = w' := by
  go_enter Try.func109, Try.ntmps109
  go_wp2
  go_ret
  exact ⟨ret_int (back_val n h1), rfl⟩

set_option maxRecDepth 100000 in
set_option maxHeartbeats 400000 in
theorem int_put (p : Nat) (v : Value) (l : List UInt8) (n : Int) (w : World) (hw : Wr w p v l) (h1 : Hid (-9223372036854775808 ≤ n)) (h2 : Hid (n ≤ 9223372036854775807)) (hl : l.length ≤ 1000000) :
    Calls Try.prog 44 #[.pointer (some ⟨p, 0, none⟩), .int .i64 n] w fun e w' => e = .returned (.pointer (some ⟨p, 0, none⟩)) ∧
      ∃ v', Put w p v w' v' (l ++ enc (zig n)) := by
  have HW := Lib.hid hw; clear hw
  go_enter Try.func44, Try.ntmps44
  go_wp2_with (first
    | (go_at_call 63; refine (turn_any n w h1 h2).mono ?_; rintro e w' ⟨rfl, rfl⟩)
    | (go_at_call 42; refine (num_put p v l (zig n) w HW.out (zig_lt n h1 h2) hl).mono ?_; rintro e w' ⟨rfl, hp⟩; have HP := Lib.hid hp; clear hp))
  go_ret
  exact ⟨rfl, HP.out⟩

end Go.Proofs.Ytejilonhdgfkbaa
