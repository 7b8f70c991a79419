
/-
  Numbers with a sign, texts and flags, as the program and as the document put them.
-/
import Derived.Test.YtieffpngknglpaaOc
import Derived.Test.YtieffpngknglpaaOm
namespace Go.Proofs.Ytieffpngknglpaa
open Go.RowKit


set_option maxRecDepth 100000 in
set_option maxHeartbeats 400000 in
theorem bool_put (p : Nat) (v : Value) (l : List UInt8) (b : Bool) (w : World) (hw : Wr w p v l) (hl : l.length ≤ 1000000) :
    Calls Try.prog 22 #[.pointer (some ⟨p, 0, none⟩), .bool b] w fun e w' => e = .returned (.pointer (some ⟨p, 0, none⟩)) ∧
      ∃ v', Put w p v w' v' (l ++ enc b.toNat) := by
  have HW := Lib.hid hw; clear hw
  cases b
  · go_enter Try.func22, Try.ntmps22
    go_wp2_with (go_at_call 21; refine (num_put p v l 0 w HW.out (by show (0 : Nat) < 18446744073709551616; omega) hl).mono ?_; rintro e w' ⟨rfl, hp⟩; have HP := Lib.hid hp; clear hp)
    go_ret
    exact ⟨rfl, HP.out⟩
  · go_enter Try.func22, Try.ntmps22
    go_wp2_with (go_at_call 21; refine (num_put p v l 1 w HW.out (by show (1 : Nat) < 18446744073709551616; omega) hl).mono ?_; rintro e w' ⟨rfl, hp⟩; have HP := Lib.hid hp; clear hp)
    go_ret
    exact ⟨rfl, HP.out⟩

end Go.Proofs.Ytieffpngknglpaa
