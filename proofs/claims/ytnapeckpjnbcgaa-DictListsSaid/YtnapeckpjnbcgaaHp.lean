
/-
  Plain: what is in a list of pairs behind a put; whether a key is there. No type is named here.
-/
import Derived.Test.YtnapeckpjnbcgaaHa
namespace Go.Proofs.Ytnapeckpjnbcgaa
open Go.RowKit

section
variable {K V : Type} [DecidableEq K] {lt : K → K → Bool}
theorem put_mem (hr : Rises lt) {k : K} {v : V} {p : K × V} : ∀ {L : List (K × V)} (_ : Up lt L), p ∈ putK lt L k v ↔ p = (k, v) ∨ (p ∈ L ∧ p.1 ≠ k)
  | [], _ => by rw [putK_nil]; simp
  | q :: L, hu => by
    have hu2 := up_cons.1 hu
    have ih := put_mem hr (k := k) (v := v) (p := p) hu2.2
    have habove : ∀ a, a ∈ L → lt q.1 a.1 = true := fun a ha => by
      obtain ⟨i, hi, e⟩ := List.mem_iff_getElem.1 ha
      exact hu2.1 i a (by rw [List.getElem?_eq_getElem hi, e])
    rw [putK_cons]
    by_cases h : lt q.1 k = true
    · rw [if_pos h, List.mem_cons, ih, List.mem_cons]
      constructor
      · rintro (e | e | ⟨h1, h2⟩)
        · subst e; exact .inr ⟨.inl rfl, fun e => by rw [e, hr.irr] at h; cases h⟩
        · exact .inl e
        · exact .inr ⟨.inr h1, h2⟩
      · rintro (e | ⟨e | h1, h2⟩)
        · exact .inr (.inl e)
        · exact .inl e
        · exact .inr (.inr ⟨h1, h2⟩)
    · rw [if_neg h]
      by_cases e : q.1 = k
      · rw [if_pos e, List.mem_cons, List.mem_cons]
        constructor
        · rintro (h1 | h1)
          · exact .inl h1
          · refine .inr ⟨.inr h1, fun e2 => ?_⟩
            have := habove p h1
            rw [e2, e, hr.irr] at this
            cases this
        · rintro (h1 | ⟨h1 | h1, h2⟩)
          · exact .inl h1
          · subst h1; exact absurd e h2
          · exact .inr h1
      · rw [if_neg e, List.mem_cons]
        have hk : lt k q.1 = true := hr.tot _ _ e (by simpa using h)
        constructor
        · rintro (h1 | h1)
          · exact .inl h1
          · refine .inr ⟨h1, fun e2 => ?_⟩
            rcases List.mem_cons.1 h1 with h3 | h3
            · subst h3; exact e e2
            · have := hr.tr _ _ _ hk (habove p h3)
              rw [e2, hr.irr] at this
              cases this
        · rintro (h1 | ⟨h1, _⟩)
          · exact .inl h1
          · exact .inr h1
theorem has_iff (hr : Rises lt) {L : List (K × V)} (hu : Up lt L) (k : K) : hasK lt L k = true ↔ ∃ p ∈ L, p.1 = k := by
  rw [hasK_mem hr hu]
  constructor
  · rintro ⟨i, p, h1, h2⟩
    exact ⟨p, List.mem_of_getElem? h1, h2⟩
  · rintro ⟨p, h1, h2⟩
    obtain ⟨i, hi, e⟩ := List.mem_iff_getElem.1 h1
    exact ⟨i, p, by rw [List.getElem?_eq_getElem hi, e], h2⟩
end

end Go.Proofs.Ytnapeckpjnbcgaa
