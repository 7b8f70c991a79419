
/-
  Rows of elements of any size, new since a world; tails of slices of any size. No type is named here.
-/
import Derived.Test.YtieffpngknglpaaGa
import Derived.Test.YtieffpngknglpaaBb
namespace Go.Proofs.Ytieffpngknglpaa
open Go.RowKit

section
variable {T : Type} {E : El T} {e : TypeId}
/-- The tail of a slice from place U on, in whatever shape it is cut. -/
def TailE (E : El T) (A : Option Addr) (n c U : Nat) (v : Value) : Prop :=
  (A = none ∧ v = .slice none 0 0) ∨ (∃ ad, A = some ad ∧ ¬ c ≤ U ∧ v = .slice (some (ad.add (U * E.sz))) (n - U) (c - U)) ∨ (∃ ad, A = some ad ∧ c ≤ U ∧ v = .slice (some ad) (n - U) 0)
theorem tailE_rd {w : World} {A : Option Addr} {c U : Nat} {L : List T} (h : RdE E w (.slice A L.length c) L) (hU : U ≤ L.length) (w' : World) (ht : Turn (fun _ => False) w w') {v : Value}
    (hv : TailE E A L.length c U v) : RdE E w' v (L.drop U) := by
  have hf := h.fits
  rcases hv with ⟨rfl, rfl⟩ | ⟨ad, rfl, _, rfl⟩ | ⟨ad, rfl, hc, rfl⟩
  · rw [(hf.2.2.2 rfl).1, List.drop_nil]
    exact RdE.nil w'
  · exact (h.back U hU).later ht
  · have e : L.drop U = [] := List.eq_nil_of_length_eq_zero (by rw [List.length_drop]; omega)
    rw [e, show L.length - U = 0 by omega]
    exact RdE.none_left _ (by simp) w' 0 (Nat.zero_le _)
theorem frontE_rd {w : World} {A : Option Addr} {c P : Nat} {L : List T} (h : RdE E w (.slice A L.length c) L) (hP : P ≤ L.length) (w' : World) (ht : Turn (fun _ => False) w w') :
    RdE E w' (.slice A P c) (L.take P) := (h.front P hP).later ht
/-- A row of a call's own, new since w. -/
structure NewE (E : El T) (e : TypeId) (w w' : World) (v : Value) (L : List T) : Prop where
  own : OwE E e w' v L
  new : ∀ k, v.ownBlock = some k → w.heap.size ≤ k
  turn : Turn (fun _ => False) w w'
theorem NewE.start (w : World) (n : Nat) : NewE E e w (w.drewN n) (.slice none 0 0) [] := ⟨OwE.nil _, (fun k e => by simp [Value.ownBlock] at e), (Turn.refl _ w).drewN n⟩
theorem NewE.empty (w w0 : World) (h : Turn (fun _ => False) w w0) : NewE E e w (w0.alloc (.cells #[] e)) (.slice (some ⟨w0.heap.size, 0, none⟩) 0 0) [] :=
  ⟨OwE.made (E := E) w0 [] (Nat.zero_le _), (fun k e => Nat.le_trans h.size (Nat.le_of_eq (by simpa [Value.ownBlock] using e))), h.alloc _⟩
theorem NewE.step {w w1 w2 : World} {v v2 : Value} {L M : List T} (h : NewE E e w w1 v L) (ho : OwE E e w2 v2 M) (ht : Turn (fun k => v.ownBlock = some k) w1 w2) (hn : v2.ownBlock = v.ownBlock ∨ v2.ownBlock = some w1.heap.size) : NewE E e w w2 v2 M := by
  refine ⟨ho, fun k hk => ?_, h.turn.trans ht (fun k hk e => ?_)⟩
  · rcases hn with e | e
    · exact h.new k (by rw [← e]; exact hk)
    · rw [hk] at e
      cases e
      exact h.turn.size
  · have := h.new k e
    omega
theorem NewE.alloc {w w1 : World} {v : Value} {L : List T} (h : NewE E e w w1 v L) (o : Obj) : NewE E e w (w1.alloc o) v L :=
  ⟨h.own.later ((Turn.refl _ w1).alloc o), h.new, h.turn.alloc o⟩
theorem NewE.later {w w1 w2 : World} {v : Value} {L : List T} (h : NewE E e w w1 v L) (ht : Turn (fun _ => False) w1 w2) : NewE E e w w2 v L :=
  ⟨h.own.later ht, h.new, h.turn.trans ht (fun _ _ f => f)⟩
end

end Go.Proofs.Ytieffpngknglpaa
