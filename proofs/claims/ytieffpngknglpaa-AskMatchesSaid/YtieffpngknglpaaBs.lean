
/-
  Two rows of bytes held against each other.
-/
import Derived.Test.YtieffpngknglpaaBb
namespace Go.Proofs.Ytieffpngknglpaa
open Go.RowKit

set_option maxRecDepth 100000 in
set_option maxHeartbeats 400000 in
theorem same_any (u v : Value) (l m : List UInt8) (w : World) (hu : Rd w u l) (hv : Rd w v m) :
    Calls Try.prog 17 #[u, v] w fun e w' => e = .returned (.bool (l == m)) ∧ w = w' := by
  have h1 := hu.string
  have h2 := hv.string
  obtain ⟨A, c, rfl, _⟩ := hu
  obtain ⟨B, d, rfl, _⟩ := hv
  go_enter Try.func17, Try.ntmps17
  go_wp2
  go_ret
  exact ⟨rfl, rfl⟩

end Go.Proofs.Ytieffpngknglpaa
