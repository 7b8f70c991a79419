
/-
  Stage 7: the chapter's example.
-/
import Derived.Test.YthhlppdphcjlnaaPji
namespace Go.Proofs.Ythhlppdphcjlnaa
open Go.RowKit Go.ChangeShapes Go.WideShapes Go.Deep pli

set_option maxRecDepth 100000 in
set_option maxHeartbeats 2000000 in
theorem alive_any7 (w : World) : Calls Try.prog 7 #[] w fun e w' => e = .returned (.bool true) ∧ Turn (fun _ => False) w w' := by
  have e1 : insS ltN 5 [] = [5] := by decide
  have e2 : insS ltN 2 [5] = [2, 5] := by decide
  have e3 : insS ltN 9 [2, 5] = [2, 5, 9] := by decide
  have E1 := Lib.hid e1; have E2 := Lib.hid e2; have E3 := Lib.hid e3
  clear e1 e2 e3
  go_enter Try.func7, Try.ntmps7
  go_wp2_with fail
  refine (mine_new (Turn.refl _ w)).mono ?_
  rintro e w1 ⟨rfl, h1, -⟩
  have H1 := Lib.hid h1; clear h1
  go_wp2_with fail
  refine (mine_push 5 H1.out (by omega) (by simp)).mono ?_
  rintro e w2 ⟨⟨v, rfl⟩, h2, -⟩
  rw [E1.out] at h2
  have H2 := Lib.hid h2; clear h2
  go_wp2_with fail
  refine (mine_push 2 H2.out (by omega) (by simp)).mono ?_
  rintro e w3 ⟨⟨v, rfl⟩, h3, -⟩
  rw [E2.out] at h3
  have H3 := Lib.hid h3; clear h3
  go_wp2_with fail
  refine (mine_push 9 H3.out (by omega) (by simp)).mono ?_
  rintro e w4 ⟨⟨v, rfl⟩, h4, -⟩
  rw [E3.out] at h4
  have H4 := Lib.hid h4; clear h4
  go_wp2_with fail
  refine (mine_pop H4.out (by simp)).mono ?_
  rintro e w5 ⟨rfl, h5, -⟩
  have H5 := Lib.hid h5; clear h5
  go_wp2_with fail
  refine (mine_len H5.out).mono ?_
  rintro e w6 ⟨rfl, rfl⟩
  go_wp2
  go_ret
  exact ⟨rfl, H5.out.turn⟩

end Go.Proofs.Ythhlppdphcjlnaa
