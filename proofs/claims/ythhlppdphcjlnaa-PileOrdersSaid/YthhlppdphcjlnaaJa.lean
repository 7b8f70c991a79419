
/-
  Lists in an order, equal ones as they came, plain; heaps, plain. No type is named here.
-/
import Derived.WalkKit
import Derived.WalkSmall
namespace Go.Proofs.Ythhlppdphcjlnaa
open Go.RowKit

/-- An order: of no two each ahead of the other; what is not ahead of what is not ahead is not ahead. -/
structure Weak {A : Type} (lt : A → A → Bool) : Prop where
  asym : ∀ a b, lt a b = true → lt b a = false
  ntr : ∀ a b c, lt a b = false → lt b c = false → lt a c = false
theorem weak_int {A : Type} (f : A → Int) : Weak (fun a b => decide (f a < f b)) := ⟨fun a b h => by simp at *; omega, fun a b c h g => by simp at *; omega⟩

section
variable {A : Type} {lt : A → A → Bool}
theorem Weak.irr (h : Weak lt) (a : A) : lt a a = false := by
  cases e : lt a a with
  | false => rfl
  | true => have := h.asym _ _ e; rw [e] at this; exact this
theorem Weak.tr (h : Weak lt) {a b c : A} (hab : lt a b = true) (hbc : lt b c = true) : lt a c = true := by
  cases e : lt a c with
  | true => rfl
  | false => have := h.ntr _ _ _ e (h.asym _ _ hbc); rw [hab] at this; cases this

/-- Where a thing stands: behind all that it is not ahead of, as far as the first that it is. -/
def posS (lt : A → A → Bool) (x : A) : List A → Nat
  | [] => 0
  | y :: l => if lt x y then 0 else posS lt x l + 1
def insS (lt : A → A → Bool) (x : A) (L : List A) : List A := L.take (posS lt x L) ++ x :: L.drop (posS lt x L)
def sortS (lt : A → A → Bool) (l : List A) : List A := l.foldl (fun s x => insS lt x s) []
theorem posS_le (x : A) : ∀ L : List A, posS lt x L ≤ L.length
  | [] => Nat.le_refl _
  | y :: l => by
    unfold posS
    split
    · exact Nat.zero_le _
    · exact Nat.succ_le_succ (posS_le x l)
theorem posS_at {x : A} : ∀ {L : List A} {i : Nat} {y : A}, L[i]? = some y → i < posS lt x L → lt x y = false
  | [], i, y, h, _ => by simp at h
  | z :: l, 0, y, h, hi => by
    cases h
    unfold posS at hi
    split at hi
    · omega
    · rename_i hz; simpa using hz
  | z :: l, i + 1, y, h, hi => by
    unfold posS at hi
    split at hi
    · omega
    · exact posS_at (L := l) (i := i) h (by omega)
theorem posS_end {x : A} : ∀ {L : List A} {y : A}, L[posS lt x L]? = some y → lt x y = true
  | [], y, h => by simp [posS] at h
  | z :: l, y, h => by
    unfold posS at h
    split at h
    · rename_i hz; cases h; exact hz
    · exact posS_end (L := l) h
theorem insS_nil (x : A) : insS lt x [] = [x] := rfl
theorem insS_cons (x y : A) (l : List A) : insS lt x (y :: l) = if lt x y then x :: y :: l else y :: insS lt x l := by
  unfold insS
  by_cases h : lt x y = true
  · simp [posS, h]
  · simp [posS, h]
theorem insS_len (x : A) (L : List A) : (insS lt x L).length = L.length + 1 := by
  have := posS_le (lt := lt) x L
  unfold insS
  rw [List.length_append, List.length_cons, List.length_take, List.length_drop]
  omega
theorem insS_perm (x : A) : ∀ L : List A, (insS lt x L).Perm (x :: L)
  | [] => List.Perm.refl _
  | y :: l => by
    rw [insS_cons]
    split
    · exact List.Perm.refl _
    · exact ((insS_perm x l).cons y).trans (List.Perm.swap x y l)
theorem sortS_snoc (l : List A) (x : A) : sortS lt (l ++ [x]) = insS lt x (sortS lt l) := by unfold sortS; rw [List.foldl_append]; rfl
theorem sortS_perm (l : List A) : (sortS lt l).Perm l := by
  suffices h : ∀ (l s : List A), (l.foldl (fun s x => insS lt x s) s).Perm (s ++ l) by have := h l []; rwa [List.nil_append] at this
  intro l
  induction l with
  | nil => intro s; rw [List.append_nil]; exact List.Perm.refl _
  | cons x l ih =>
    intro s
    refine (ih (insS lt x s)).trans ?_
    refine ((insS_perm x s).append_right l).trans ?_
    rw [List.cons_append]
    exact List.perm_middle.symm
/-- In order. -/
def Srt (lt : A → A → Bool) (L : List A) : Prop := L.Pairwise (fun a b => lt b a = false)
theorem ins_srt (h : Weak lt) (x : A) : ∀ {L : List A}, Srt lt L → Srt lt (insS lt x L)
  | [], _ => List.pairwise_singleton _ _
  | y :: l, hs => by
    obtain ⟨h1, h2⟩ := List.pairwise_cons.1 hs
    rw [insS_cons]
    by_cases hx : lt x y = true
    · rw [if_pos hx]
      refine List.pairwise_cons.2 ⟨fun z hz => ?_, hs⟩
      rcases List.mem_cons.1 hz with e | e
      · rw [e]; exact h.asym _ _ hx
      · exact h.ntr _ _ _ (h1 z e) (h.asym _ _ hx)
    · rw [if_neg hx]
      refine List.pairwise_cons.2 ⟨fun z hz => ?_, ins_srt h x h2⟩
      rcases List.mem_cons.1 ((insS_perm x l).mem_iff.1 hz) with e | e
      · rw [e]; simpa using hx
      · exact h1 z e
theorem sort_srt (h : Weak lt) (l : List A) : Srt lt (sortS lt l) := by
  suffices k : ∀ (l s : List A), Srt lt s → Srt lt (l.foldl (fun s x => insS lt x s) s) from k l [] List.Pairwise.nil
  intro l
  induction l with
  | nil => exact fun s hs => hs
  | cons x l ih => exact fun s hs => ih _ (ins_srt h x hs)

/-- Things with the numbers in which they came: which comes first. -/
def bef (lt : A → A → Bool) (p q : A × Nat) : Bool := lt p.1 q.1 || (!lt q.1 p.1 && decide (p.2 < q.2))
theorem weak_bef (h : Weak lt) : Weak (bef lt) := by
  refine ⟨fun a b hab => ?_, fun a b c hab hbc => ?_⟩
  · unfold bef at *
    cases h1 : lt a.1 b.1 with
    | true =>
      have h2 := h.asym _ _ h1
      simp [h2]
    | false =>
      rw [h1] at hab
      simp at hab ⊢
      refine ⟨hab.1, by omega⟩
  · unfold bef at *
    simp only [Bool.or_eq_false_iff, Bool.and_eq_false_iff, Bool.not_eq_false', decide_eq_false_iff_not] at *
    refine ⟨h.ntr _ _ _ hab.1 hbc.1, ?_⟩
    rcases hab.2 with h1 | h1
    · left
      cases e : lt c.1 a.1 with
      | true => rfl
      | false => have := h.ntr _ _ _ hbc.1 e; rw [h1] at this; cases this
    · rcases hbc.2 with h2 | h2
      · left
        cases e : lt c.1 a.1 with
        | true => rfl
        | false => have := h.ntr _ _ _ e hab.1; rw [h2] at this; cases this
      · right; omega
/-- What has come last stands behind all that it is not ahead of. -/
theorem bef_last {x y : A} {s t : Nat} (hst : t ≤ s) : bef lt (x, s) (y, t) = lt x y := by
  unfold bef
  rw [decide_eq_false (by show ¬ s < t; omega)]
  simp
theorem ins_last {x : A} {s : Nat} : ∀ {S : List (A × Nat)} (_ : ∀ p ∈ S, p.2 ≤ s), (insS (bef lt) (x, s) S).map (·.1) = insS lt x (S.map (·.1))
  | [], _ => rfl
  | p :: S, h => by
    have hp : bef lt (x, s) p = lt x p.1 := bef_last (h p (by simp))
    rw [List.map_cons, insS_cons, insS_cons, hp]
    split
    · rfl
    · rw [List.map_cons, ins_last (fun q hq => h q (by simp [hq]))]
/-- Of two things with unlike numbers one comes first. -/
theorem bef_tot {p q : A × Nat} (h : p.2 ≠ q.2) (hpq : bef lt p q = false) : bef lt q p = true := by
  unfold bef at *
  simp only [Bool.or_eq_false_iff, Bool.and_eq_false_iff, Bool.not_eq_false', decide_eq_false_iff_not] at hpq
  simp only [Bool.or_eq_true, Bool.and_eq_true, Bool.not_eq_true', decide_eq_true_eq]
  rcases hpq.2 with h1 | h1
  · exact .inl h1
  · exact .inr ⟨hpq.1, by omega⟩

/-- A heap: n things at places from 0 on; none comes ahead of the one above it. -/
def Heap (lt : A → A → Bool) (f : Nat → A) (n : Nat) : Prop := ∀ j, 0 < j → j < n → lt (f j) (f ((j - 1) / 2)) = false
theorem heap_min (h : Weak lt) {f : Nat → A} {n : Nat} (hh : Heap lt f n) : ∀ j, j < n → lt (f j) (f 0) = false := by
  intro j
  induction j using Nat.strongRecOn with
  | ind j ih =>
    intro hj
    rcases Nat.eq_zero_or_pos j with e | e
    · rw [e]; exact h.irr _
    · exact h.ntr _ _ _ (hh j e hj) (ih ((j - 1) / 2) (by omega) (by omega))
def swapF (f : Nat → A) (i j : Nat) : Nat → A := fun k => if k = i then f j else if k = j then f i else f k
/-- A heap but for place i, from which a thing may have to go up. -/
structure UpX (lt : A → A → Bool) (f : Nat → A) (n i : Nat) : Prop where
  in' : i < n
  rest : ∀ j, 0 < j → j < n → j ≠ i → lt (f j) (f ((j - 1) / 2)) = false
  kids : 0 < i → ∀ j, 0 < j → j < n → (j - 1) / 2 = i → lt (f j) (f ((i - 1) / 2)) = false
theorem UpX.done {f : Nat → A} {n i : Nat} (h : UpX lt f n i) (hi : i = 0 ∨ lt (f i) (f ((i - 1) / 2)) = false) : Heap lt f n := fun j h1 h2 => by
  by_cases e : j = i
  · subst e
    rcases hi with e | e
    · omega
    · exact e
  · exact h.rest j h1 h2 e
theorem UpX.step (hw : Weak lt) {f : Nat → A} {n i : Nat} (h : UpX lt f n i) (h0 : 0 < i) (hi : lt (f i) (f ((i - 1) / 2)) = true) : UpX lt (swapF f i ((i - 1) / 2)) n ((i - 1) / 2) := by
  have hin := h.in'
  refine ⟨by omega, fun j h1 h2 h3 => ?_, fun hp j h1 h2 h3 => ?_⟩
  · unfold swapF
    by_cases e : j = i
    · subst e
      rw [if_pos rfl, if_neg (by omega), if_pos rfl]
      exact hw.asym _ _ hi
    · rw [if_neg e, if_neg h3]
      by_cases e2 : (j - 1) / 2 = i
      · rw [if_pos e2]
        exact h.kids h0 j h1 h2 e2
      · rw [if_neg e2]
        by_cases e3 : (j - 1) / 2 = (i - 1) / 2
        · rw [if_pos e3]
          have h4 := h.rest j h1 h2 e
          rw [e3] at h4
          exact hw.ntr _ _ _ h4 (hw.asym _ _ hi)
        · rw [if_neg e3]
          exact h.rest j h1 h2 e
  · have h4 : ((i - 1) / 2 - 1) / 2 ≠ i := by omega
    have h5 : ((i - 1) / 2 - 1) / 2 ≠ (i - 1) / 2 := by omega
    have h6 := h.rest ((i - 1) / 2) hp (by omega) (by omega)
    unfold swapF
    rw [if_neg h4, if_neg h5]
    by_cases e : j = i
    · rw [if_pos e]; exact h6
    · rw [if_neg e, if_neg (by omega)]
      have h7 := h.rest j h1 h2 e
      rw [h3] at h7
      exact hw.ntr _ _ _ h7 h6
/-- A heap but for place i, from which a thing may have to go down. -/
structure DownX (lt : A → A → Bool) (f : Nat → A) (n i : Nat) : Prop where
  rest : ∀ j, 0 < j → j < n → (j - 1) / 2 ≠ i → lt (f j) (f ((j - 1) / 2)) = false
  kids : 0 < i → ∀ j, 0 < j → j < n → (j - 1) / 2 = i → lt (f j) (f ((i - 1) / 2)) = false
theorem DownX.done {f : Nat → A} {n i : Nat} (h : DownX lt f n i) (hi : ∀ j, 0 < j → j < n → (j - 1) / 2 = i → lt (f j) (f i) = false) : Heap lt f n := fun j h1 h2 => by
  by_cases e : (j - 1) / 2 = i
  · rw [e]; exact hi j h1 h2 e
  · exact h.rest j h1 h2 e
theorem DownX.step (hw : Weak lt) {f : Nat → A} {n i c : Nat} (h : DownX lt f n i) (h0 : 0 < c) (hcn : c < n) (hc : (c - 1) / 2 = i) (hb : lt (f c) (f i) = true) (hl : ∀ j, 0 < j → j < n → (j - 1) / 2 = i → lt (f j) (f c) = false) : DownX lt (swapF f i c) n c := by
  have hci : c ≠ i := by omega
  refine ⟨fun j h1 h2 h3 => ?_, fun _ j h1 h2 h3 => ?_⟩
  · unfold swapF
    by_cases e : j = i
    · -- the place itself: its new thing, c's, against the one above it
      subst e
      rw [if_pos rfl, if_neg (by omega), if_neg (by omega)]
      exact h.kids h1 c h0 hcn hc
    · rw [if_neg e]
      by_cases e2 : j = c
      · subst e2
        rw [if_pos rfl, if_pos hc]
        exact hw.asym _ _ hb
      · rw [if_neg e2]
        by_cases e3 : (j - 1) / 2 = i
        · rw [if_pos e3]; exact hl j h1 h2 e3
        · rw [if_neg e3, if_neg h3]; exact h.rest j h1 h2 e3
  · unfold swapF
    rw [if_neg (by omega), if_neg (by omega), if_pos hc]
    have h4 := h.rest j h1 h2 (by omega)
    rw [h3] at h4
    exact h4
end

end Go.Proofs.Ythhlppdphcjlnaa
