
/-
  Stage 9: the program's Encode, as the laws want it.
-/
import Derived.Test.YtejilonhdgfkbaaZz
namespace Go.Proofs.Ytejilonhdgfkbaa
open Go.RowKit

/-- Behind Encode: the bytes, or none, wherever they lie. -/
def Encp (w : World) (l : List F9) (n : Int) (e : Ending) (w' : World) : Prop :=
  ∃ v, e = .returned (.tuple #[v, .int .i64 (allB l n).1]) ∧ Rd w' v (if (allB l n).1 = 0 then batchB l n.toNat else []) ∧ Turn (fun _ => False) w w'
theorem Encd.p {w : World} {l : List F9} {n : Int} {e : Ending} {w' : World} (h : Encd w l n e w') : Encp w l n e w' := by
  obtain ⟨v, h1, h2⟩ := h
  exact ⟨v, h1, h2.rd, h2.2.1⟩
theorem encode_any9 (v : Value) (l : List F9) (n : Int) (w : World) (hv : RdE EF w v l) (hl : l.length ≤ 1000) : Calls Try.prog 24 #[v, .int .i64 n] w fun e w' => Encp w l n e w' :=
  (encode_any9' v l n w hv hl).mono fun _ _ h => h.p

end Go.Proofs.Ytejilonhdgfkbaa
