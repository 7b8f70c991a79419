
/-
  The chapter's example; what the statements take in.
-/
import Derived.Test.YtghplmgpnnaofaaMe
namespace Go.Proofs.Ytghplmgpnnaofaa
open Go.RowKit

def demo5 : List Int := [3, -1]
theorem demo5_all : allC demo5 = some ⟨2, 2, -1, 3⟩ := by decide
theorem demo5_fit : ∀ x ∈ demo5, fit x = true := by decide
theorem demo5_rd (w : World) : RdN .i64 (w.alloc (.cells #[.int .i64 3, .int .i64 (-1)] 2)) (.slice (some ⟨w.heap.size, 0, none⟩) 2 2) demo5 := by
  refine ⟨_, _, rfl, ⟨Nat.le_refl _, by decide⟩, (fun e => by cases e), fun ad e j b hj => ?_⟩
  cases e
  have hb := Box.new w 2 #[.int .i64 3, .int .i64 (-1)]
  have e1 : (⟨w.heap.size, 0, none⟩ : Addr).add j = ⟨w.heap.size, j, none⟩ := by unfold Addr.add; split <;> simp_all
  rw [e1, hb.cell]
  match j, hj with
  | 0, hj => cases hj; rfl
  | 1, hj => cases hj; rfl
  | j + 2, hj => cases hj

set_option maxRecDepth 100000 in
set_option maxHeartbeats 400000 in
theorem alive_any5 (w : World) : Calls Try.prog 6 #[] w fun e w' => e = .returned (.bool true) ∧ Turn (fun _ => False) w w' := by
  have HA := Lib.hid (all_any _ demo5 _ (demo5_rd w) (by decide) demo5_fit)
  rw [demo5_all] at HA
  go_enter Try.func6, Try.ntmps6
  go_wp2_with (go_at_call 7; refine HA.out.mono ?_; rintro e w' ⟨rfl, ht⟩; have HT := Lib.hid ht; clear ht; unfold outC cv)
  go_ret
  exact ⟨rfl, ((((Turn.refl _ w).alloc _).trans HT.out (fun _ _ f => f)).alloc _)⟩

end Go.Proofs.Ytghplmgpnnaofaa
