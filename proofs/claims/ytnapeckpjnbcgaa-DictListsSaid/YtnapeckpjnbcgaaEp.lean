
/-
  Plain: a thing put where it belongs, once: lists that rise. No type is named.
-/
import Derived.Test.YtnapeckpjnbcgaaNa
namespace Go.Proofs.Ytnapeckpjnbcgaa

section
variable {A : Type} (lt : A → A → Bool)
/-- How many stand below h at the head. -/
def posG (h : A) : List A → Nat
  | [] => 0
  | x :: t => if lt x h = true then posG h t + 1 else 0
theorem posG_le (h : A) : ∀ l, posG lt h l ≤ l.length
  | [] => Nat.le_refl _
  | x :: t => by
    unfold posG
    split
    · have := posG_le h t
      simp only [List.length_cons]
      omega
    · exact Nat.zero_le _
theorem posG_at (h : A) : ∀ (l : List A) (i : Nat) (y : A), l[i]? = some y → i < posG lt h l → lt y h = true
  | [], i, y, hy, _ => by simp at hy
  | x :: t, i, y, hy, hi => by
    unfold posG at hi
    split at hi
    · rename_i hx
      cases i with
      | zero =>
        have e : x = y := by simpa using hy
        rw [← e]; exact hx
      | succ i => exact posG_at h t i y (by simpa using hy) (by omega)
    · omega
theorem posG_end (h : A) : ∀ (l : List A) (y : A), l[posG lt h l]? = some y → lt y h = false
  | [], y, hy => by simp [posG] at hy
  | x :: t, y, hy => by
    unfold posG at hy
    split at hy
    · exact posG_end h t y (by simpa using hy)
    · rename_i hx
      have e : x = y := by simpa using hy
      rw [← e]; simpa using hx
end
section
variable {A : Type} [DecidableEq A] (lt : A → A → Bool)
/-- A thing put where it belongs, once. -/
def insG (h : A) (l : List A) : List A := if l[posG lt h l]? = some h then l else l.take (posG lt h l) ++ h :: l.drop (posG lt h l)
/-- All things of a list: each once, rising. -/
def setG (l : List A) : List A := l.foldl (fun out x => insG lt x out) []
theorem insG_len (h : A) (l : List A) : (insG lt h l).length ≤ l.length + 1 := by
  unfold insG
  split
  · omega
  · rw [List.length_append, List.length_cons, List.length_take, List.length_drop]
    have := posG_le lt h l
    omega
theorem setG_snoc (l : List A) (x : A) : setG lt (l ++ [x]) = insG lt x (setG lt l) := by
  unfold setG
  rw [List.foldl_append]
  rfl
theorem setG_take {l : List A} {i : Nat} {x : A} (h : l[i]? = some x) : setG lt (l.take (i + 1)) = insG lt x (setG lt (l.take i)) := by
  obtain ⟨h0, e⟩ := List.getElem?_eq_some_iff.1 h
  rw [List.take_succ_eq_append_getElem h0, e, setG_snoc]
theorem setG_len (l : List A) : ∀ i, (setG lt (l.take i)).length ≤ i
  | 0 => by simp [setG]
  | i + 1 => by
    have ih := setG_len l i
    cases h : l[i]? with
    | none => rw [List.take_of_length_le (by have := List.getElem?_eq_none_iff.1 h; omega)]; rw [List.take_of_length_le (by have := List.getElem?_eq_none_iff.1 h; omega)] at ih; omega
    | some x =>
      rw [setG_take lt h]
      have := insG_len lt x (setG lt (l.take i))
      omega
theorem insG_mem (h : A) (l : List A) (x : A) : x ∈ insG lt h l ↔ x = h ∨ x ∈ l := by
  unfold insG
  split
  · rename_i hp
    exact ⟨fun hx => .inr hx, fun hx => hx.elim (fun e => by rw [e]; exact List.mem_of_getElem? hp) id⟩
  · constructor
    · intro hx
      rcases List.mem_append.1 hx with hx | hx
      · exact .inr (List.mem_of_mem_take hx)
      · rcases List.mem_cons.1 hx with hx | hx
        · exact .inl hx
        · exact .inr (List.mem_of_mem_drop hx)
    · intro hx
      rcases hx with rfl | hx
      · exact List.mem_append_right _ (List.mem_cons_self ..)
      · rw [← List.take_append_drop (posG lt h l) l] at hx
        rcases List.mem_append.1 hx with hx | hx
        · exact List.mem_append_left _ hx
        · exact List.mem_append_right _ (List.mem_cons_of_mem _ hx)
theorem insG_rises (hr : Rises lt) (h : A) (l : List A) (hl : l.Pairwise fun x y => lt x y = true) : (insG lt h l).Pairwise fun x y => lt x y = true := by
  unfold insG
  split
  · exact hl
  · rename_i hp
    have ple := posG_le lt h l
    have pat := posG_at lt h l
    have pend := posG_end lt h l
    generalize posG lt h l = p at *
    rw [List.pairwise_append, List.pairwise_cons]
    have ha : ∀ y ∈ l.drop p, lt h y = true := fun y hy => by
      obtain ⟨i, hi, e⟩ := List.getElem_of_mem hy
      have hi2 : p + i < l.length := by rw [List.length_drop] at hi; omega
      rw [List.getElem_drop] at e
      have hpl : p < l.length := by omega
      have h1 := pend l[p] (List.getElem?_eq_getElem hpl)
      have h2 : l[p] ≠ h := fun e => hp (by rw [List.getElem?_eq_getElem hpl, e])
      have h3 : lt h l[p] = true := hr.tot _ _ h2 h1
      by_cases ei : i = 0
      · subst ei
        rw [← e]
        exact h3
      · have h4 := List.pairwise_iff_getElem.1 hl p (p + i) hpl hi2 (by omega)
        rw [e] at h4
        exact hr.tr _ _ _ h3 h4
    have hb : ∀ x ∈ l.take p, lt x h = true := fun x hx => by
      obtain ⟨i, hi, e⟩ := List.getElem_of_mem hx
      have hi2 : i < p := by rw [List.length_take] at hi; omega
      rw [List.getElem_take] at e
      exact pat i x (by rw [List.getElem?_eq_getElem (by omega), e]) hi2
    refine ⟨hl.sublist (List.take_sublist _ _), ⟨ha, hl.sublist (List.drop_sublist _ _)⟩, fun x hx y hy => ?_⟩
    rcases List.mem_cons.1 hy with rfl | hy
    · exact hb x hx
    · exact hr.tr _ _ _ (hb x hx) (ha y hy)
theorem setG_is (hr : Rises lt) (l : List A) : ((setG lt l).Pairwise fun x y => lt x y = true) ∧ ∀ x, x ∈ setG lt l ↔ x ∈ l := by
  have key : ∀ (m acc : List A), (acc.Pairwise fun x y => lt x y = true) → ((m.foldl (fun out x => insG lt x out) acc).Pairwise fun x y => lt x y = true) ∧ ∀ x, x ∈ m.foldl (fun out x => insG lt x out) acc ↔ x ∈ m ∨ x ∈ acc := by
    intro m
    induction m with
    | nil => intro acc h; exact ⟨h, fun x => by simp⟩
    | cons f m ih =>
      intro acc h
      obtain ⟨h1, h2⟩ := ih (insG lt f acc) (insG_rises lt hr _ _ h)
      refine ⟨h1, fun x => ?_⟩
      rw [List.foldl_cons, h2 x, insG_mem, List.mem_cons]
      constructor
      · rintro (h | h | h)
        · exact .inl (.inr h)
        · exact .inl (.inl h)
        · exact .inr h
      · rintro ((h | h) | h)
        · exact .inr (.inl h)
        · exact .inl h
        · exact .inr (.inr h)
  obtain ⟨h1, h2⟩ := key l [] List.Pairwise.nil
  exact ⟨h1, fun x => by unfold setG; rw [h2 x]; simp⟩
end
/-- The place of a thing; as many as there are: it has none. -/
def idxG {A : Type} [DecidableEq A] (x : A) : List A → Nat
  | [] => 0
  | y :: t => if y = x then 0 else idxG x t + 1
theorem idxG_le {A : Type} [DecidableEq A] (x : A) : ∀ l : List A, idxG x l ≤ l.length
  | [] => Nat.le_refl _
  | y :: t => by
    unfold idxG
    split
    · exact Nat.zero_le _
    · have := idxG_le x t; simp only [List.length_cons]; omega
theorem idxG_at {A : Type} [DecidableEq A] {x : A} : ∀ {l : List A} {i : Nat}, idxG x l = i → i < l.length → l[i]? = some x
  | [], i, _, h => absurd h (Nat.not_lt_zero i)
  | y :: t, i, h, hi => by
    unfold idxG at h
    split at h
    · rename_i e
      subst h e
      rfl
    · subst h
      rw [List.getElem?_cons_succ]
      exact idxG_at rfl (by simp only [List.length_cons] at hi; omega)
theorem idxG_below {A : Type} [DecidableEq A] {x : A} : ∀ {l : List A} {i : Nat} {y : A}, i < idxG x l → l[i]? = some y → y ≠ x
  | [], i, y, _, h => by simp at h
  | z :: t, i, y, hi, h => by
    unfold idxG at hi
    split at hi
    · exact absurd hi (Nat.not_lt_zero i)
    · rename_i e
      cases i with
      | zero =>
        have : z = y := by simpa using h
        rw [← this]; exact e
      | succ i => exact idxG_below (l := t) (i := i) (by omega) (by simpa using h)
theorem idxG_mem {A : Type} [DecidableEq A] {x : A} : ∀ {l : List A}, idxG x l < l.length ↔ x ∈ l
  | [] => by simp [idxG]
  | y :: t => by
    unfold idxG
    split
    · rename_i e
      subst e
      simp
    · rename_i e
      rw [List.length_cons, List.mem_cons]
      have := idxG_mem (x := x) (l := t)
      constructor
      · intro h; exact .inr (this.1 (by omega))
      · rintro (h | h)
        · exact absurd h.symm e
        · have := this.2 h; omega

end Go.Proofs.Ytnapeckpjnbcgaa
