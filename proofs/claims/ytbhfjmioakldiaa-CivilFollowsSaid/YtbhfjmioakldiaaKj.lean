
/-
  The chapter's example.
-/
import Derived.Test.YtbhfjmioakldiaaKi
namespace Go.Proofs.Ytbhfjmioakldiaa
open Go.RowKit

theorem date_59 : dateV 59 = .tuple #[.int .i64 1970, .int .i64 3, .int .i64 1] := (dateV_eq (n := 59) (y := 1970) (m := 3) (d := 1) (by decide +kernel) 1970 3 1 rfl rfl rfl).symm
theorem text_25 : (textL 25).toArray = #[49, 57, 55, 48, 45, 48, 49, 45, 48, 50, 84, 48, 49] := by decide +kernel
theorem ex_date (w : World) : Calls Try.prog 14 #[.int .i64 59] w fun e w' => e = .returned (.tuple #[.int .i64 1970, .int .i64 3, .int .i64 1]) ∧ ∃ k, w' = w.drewN k := by
  have h := date_any 59 w (by omega)
  rw [date_59] at h
  exact h
theorem ex_text (w : World) : Calls Try.prog 25 #[.int .i64 25] w fun e w' => e = .returned (.string ⟨#[49, 57, 55, 48, 45, 48, 49, 45, 48, 50, 84, 48, 49]⟩) ∧ Turn (fun _ => False) w w' := by
  have h := text_any 25 w (by omega)
  rw [text_25] at h
  exact h

set_option maxRecDepth 100000 in
set_option maxHeartbeats 400000 in
theorem alive_any4 (w : World) : Calls Try.prog 9 #[] w fun e w' => e = .returned (.bool true) ∧ Turn (fun _ => False) w w' := by
  go_enter Try.func9, Try.ntmps9
  go_wp2_with (first
    | (go_at_call 14; refine (ex_date _).mono ?_; rintro e w' ⟨rfl, k, rfl⟩)
    | (go_at_call 25; refine (ex_text _).mono ?_; rintro e w1 ⟨rfl, ht⟩; have HT := Lib.hid ht; clear ht))
  go_ret
  exact ⟨rfl, ((Turn.refl (fun _ => False) w).drewN _).trans HT.out (fun _ _ f => f)⟩

end Go.Proofs.Ytbhfjmioakldiaa
