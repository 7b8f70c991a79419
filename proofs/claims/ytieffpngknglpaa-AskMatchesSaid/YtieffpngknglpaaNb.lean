
/-
  Texts in their order, plain.
-/
import Derived.Test.YtieffpngknglpaaNa
import Derived.Laws.Strings
namespace Go.Proofs.Ytieffpngknglpaa
open Go.RowKit

theorem less_irr : ∀ a : List UInt8, Op.bytesLess a a = false
  | [] => rfl
  | x :: a => by
    show (decide (x < x) || (x == x && Op.bytesLess a a)) = false
    rw [less_irr a]
    simp
theorem less_tr : ∀ a b c : List UInt8, Op.bytesLess a b = true → Op.bytesLess b c = true → Op.bytesLess a c = true
  | [], [], _, h, _ => absurd h (by decide)
  | x :: a, [], _, h, _ => absurd (show false = true from h) (by decide)
  | _, _ :: _, [], _, g => by cases g
  | [], _ :: _, _ :: _, _, _ => rfl
  | x :: a, y :: b, z :: c, h, g => by
    have h1 : (decide (x < y) || (x == y && Op.bytesLess a b)) = true := h
    have g1 : (decide (y < z) || (y == z && Op.bytesLess b c)) = true := g
    have ih := less_tr a b c
    show (decide (x < z) || (x == z && Op.bytesLess a c)) = true
    simp only [Bool.or_eq_true, decide_eq_true_iff, Bool.and_eq_true, beq_iff_eq] at h1 g1 ⊢
    rcases h1 with h1 | ⟨e, h1⟩
    · rcases g1 with g1 | ⟨e2, g1⟩
      · left
        rw [UInt8.lt_iff_toNat_lt] at *
        omega
      · subst e2
        exact .inl h1
    · subst e
      rcases g1 with g1 | ⟨e2, g1⟩
      · exact .inl g1
      · subst e2
        exact .inr ⟨rfl, ih h1 g1⟩
theorem less_tot : ∀ a b : List UInt8, a ≠ b → Op.bytesLess a b = false → Op.bytesLess b a = true
  | [], [], h, _ => absurd rfl h
  | [], _ :: _, _, g => by cases g
  | _ :: _, [], _, _ => rfl
  | x :: a, y :: b, h, g => by
    have g : (decide (x < y) || (x == y && Op.bytesLess a b)) = false := g
    show (decide (y < x) || (y == x && Op.bytesLess b a)) = true
    simp only [Bool.or_eq_false_iff, decide_eq_false_iff_not, Bool.and_eq_false_iff, beq_eq_false_iff_ne, ne_eq, Bool.or_eq_true, decide_eq_true_iff, Bool.and_eq_true, beq_iff_eq] at *
    by_cases hxy : x = y
    · subst hxy
      refine .inr ⟨rfl, less_tot a b (fun e => h (by rw [e])) ?_⟩
      rcases g.2 with g | g
      · exact absurd rfl g
      · exact g
    · left
      have h1 : x.toNat ≠ y.toNat := fun e => hxy (UInt8.toNat_inj.1 e)
      have h2 := g.1
      rw [UInt8.lt_iff_toNat_lt] at *
      omega
theorem rises_bytes : Rises Op.bytesLess := ⟨less_irr, less_tr, less_tot⟩

end Go.Proofs.Ytieffpngknglpaa
