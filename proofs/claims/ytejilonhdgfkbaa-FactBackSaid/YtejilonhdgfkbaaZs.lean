
/-
  Stage 9: the chapter's example.
-/
import Derived.Test.YtejilonhdgfkbaaZre
namespace Go.Proofs.Ytejilonhdgfkbaa
open Go.RowKit

set_option maxRecDepth 100000
def f90 : F9 := ⟨⟨5, [97], [], [], []⟩, -1⟩
set_option maxHeartbeats 2000000 in
theorem alive_any9 (w : World) : Calls Try.prog 10 #[] w fun e w' => e = .returned (.bool true) ∧ Turn (fun _ => False) w w' := by
  have e1 : (allB [f90] 1).1 = 0 := by decide
  have e2 : batchB [f90] (1 : Int).toNat = [1, 5, 1, 97, 1] := by decide
  have hen := encode_any9 (.slice (some ⟨w.heap.size, 0, none⟩) 1 1) [f90] 1 (w.alloc (.cells (EF.enc f90).toArray 33)) (one_row EF 33 w f90) (by simp)
  unfold Encp at hen
  rw [e1, if_pos rfl, e2] at hen
  have HEN := Lib.hid hen
  clear e1 e2 hen
  go_enter Try.func10, Try.ntmps10
  go_wp2_with fail
  refine HEN.out.mono ?_
  rintro e w1 ⟨v, rfl, hr, ht⟩
  have HT : Hid (Turn (fun _ => False) w w1) := ((Turn.refl _ w).alloc _).trans ht (fun _ _ f => f)
  obtain ⟨A, c, rfl⟩ := hr.shape
  obtain ⟨ad, rfl, x0⟩ := hr.at (k := 0) rfl
  obtain ⟨_, h1, x1⟩ := hr.at (k := 1) rfl
  cases h1
  obtain ⟨_, h2, x2⟩ := hr.at (k := 2) rfl
  cases h2
  obtain ⟨_, h3, x3⟩ := hr.at (k := 3) rfl
  cases h3
  obtain ⟨_, h4, x4⟩ := hr.at (k := 4) rfl
  cases h4
  rw [show ad.add 0 = ad from rfl] at x0
  have y0 : w1.cell? ad = some (.int .u8 1) := x0
  have y1 : w1.cell? ⟨ad.block, ad.off + 1, none⟩ = some (.int .u8 5) := x1
  have y2 : w1.cell? ⟨ad.block, ad.off + 2, none⟩ = some (.int .u8 1) := x2
  have y3 : w1.cell? ⟨ad.block, ad.off + 3, none⟩ = some (.int .u8 97) := x3
  have y4 : w1.cell? ⟨ad.block, ad.off + 4, none⟩ = some (.int .u8 1) := x4
  clear hr ht x0 x1 x2 x3 x4
  go_wp2
  go_ret
  exact ⟨rfl, HT.out⟩

end Go.Proofs.Ytejilonhdgfkbaa
