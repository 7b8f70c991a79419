
/-
  Stage 10: the program's contracts, as the laws want them.
-/
import Derived.Test.YtnapeckpjnbcgaaDpj
import Derived.Test.YtnapeckpjnbcgaaDpci
import Derived.Test.YtnapeckpjnbcgaaDpdi
namespace Go.Proofs.Ytnapeckpjnbcgaa
open Go.RowKit

theorem of_any10 (v : Value) (l : List (List UInt8)) (w : World) (hv : RdE ET10 w v l) (hl : l.length ≤ 1000) : Calls Try.prog 8 #[v] w fun e w' => ∃ d, e = .returned d ∧ DV10 w' d (ofT l) ∧ Turn (fun _ => False) w w' :=
  (of_post_any10 v l w hv hl).mono fun _ _ ⟨d, h1, h2, _, h4⟩ => ⟨d, h1, h2, h4⟩
theorem of_real10 (v : Value) (l : List (List UInt8)) (w : World) (hv : RdE ET10 w v l) (hl : l.length ≤ 1000) : Calls Try.prog 8 #[v] w fun e w' => ∃ d, e = .returned d ∧ DV10 w' d (ofT l) ∧ d ≠ .pointer none ∧ Turn (fun _ => False) w w' := of_post_any10 v l w hv hl
theorem of_int10 (v : Value) (l : List Int) (w : World) (hv : RdE EC10 w v l) (hl : l.length ≤ 1000) : Calls Try.prog 18 #[v] w fun e w' => ∃ d, e = .returned d ∧ DI10 w' d (setG ltI l) ∧ d ≠ .pointer none ∧ Turn (fun _ => False) w w' := of_post_int10 v l w hv hl

end Go.Proofs.Ytnapeckpjnbcgaa
