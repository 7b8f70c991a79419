
/-
  Plain: what putting all things of a list comes to, each with a number: all of them, rising, each with its place. No type is named here.
-/
import Derived.Test.YtnapeckpjnbcgaaHp
import Derived.Test.YtnapeckpjnbcgaaEp
namespace Go.Proofs.Ytnapeckpjnbcgaa
open Go.RowKit

/-- Two lists that rise, with the same things, are one. -/
theorem rising_same {A : Type} {lt : A → A → Bool} (h : Rises lt) : ∀ {l m : List A}, (l.Pairwise fun x y => lt x y = true) → (m.Pairwise fun x y => lt x y = true) → (∀ x, x ∈ l ↔ x ∈ m) → l = m
  | [], [], _, _, _ => rfl
  | [], y :: m, _, _, he => by have := (he y).2 (List.mem_cons_self ..); cases this
  | x :: l, [], _, _, he => by have := (he x).1 (List.mem_cons_self ..); cases this
  | x :: l, y :: m, hl, hm, he => by
    rw [List.pairwise_cons] at hl hm
    have hxy : x = y := by
      rcases List.mem_cons.1 ((he x).1 (List.mem_cons_self ..)) with e | e
      · exact e
      · rcases List.mem_cons.1 ((he y).2 (List.mem_cons_self ..)) with e2 | e2
        · exact e2.symm
        · have h1 := h.tr x y x (hl.1 y e2) (hm.1 x e)
          rw [h.irr x] at h1
          cases h1
    subst hxy
    have hlm : l = m := by
      refine rising_same h hl.2 hm.2 fun z => ⟨fun hz => ?_, fun hz => ?_⟩
      · rcases List.mem_cons.1 ((he z).1 (List.mem_cons_of_mem _ hz)) with e | e
        · subst e
          have h1 := hl.1 z hz
          rw [h.irr z] at h1
          cases h1
        · exact e
      · rcases List.mem_cons.1 ((he z).2 (List.mem_cons_of_mem _ hz)) with e | e
        · subst e
          have h1 := hm.1 z hz
          rw [h.irr z] at h1
          cases h1
        · exact e
    rw [hlm]

section
variable {K V : Type} [DecidableEq K] {lt : K → K → Bool}
omit [DecidableEq K] in
theorem up_keys {M : List (K × V)} (h : Up lt M) : (M.map (·.1)).Pairwise fun x y => lt x y = true := by
  rw [List.pairwise_map, List.pairwise_iff_getElem]
  intro i j hi hj hij
  exact h i j _ _ hij (List.getElem?_eq_getElem hi) (List.getElem?_eq_getElem hj)
/-- Behind i things put: all that came, and no others. -/
structure AllPut (lt : K → K → Bool) (l : List K) (i : Nat) (M : List (K × V)) : Prop where
  up : Up lt M
  mem : ∀ x, (∃ p ∈ M, p.1 = x) ↔ x ∈ l.take i
  len : M.length ≤ i
omit [DecidableEq K] in
theorem AllPut.start (l : List K) : AllPut (V := V) lt l 0 [] := ⟨up_nil, fun x => by simp, Nat.le_refl _⟩
theorem AllPut.step (hr : Rises lt) {l : List K} {i : Nat} {M : List (K × V)} (h : AllPut lt l i M) {x : K} (hx : l[i]? = some x) (v : V) : AllPut lt l (i + 1) (putK lt M x v) := by
  refine ⟨put_up hr h.up _ _, fun y => ?_, by have := put_len (lt := lt) M x v; have := h.len; omega⟩
  obtain ⟨h0, e⟩ := List.getElem?_eq_some_iff.1 hx
  rw [List.take_succ_eq_append_getElem h0, e, List.mem_append, List.mem_singleton, ← h.mem y]
  constructor
  · rintro ⟨p, hp, rfl⟩
    rcases (put_mem hr h.up).1 hp with rfl | ⟨h1, h2⟩
    · exact .inr rfl
    · exact .inl ⟨p, h1, rfl⟩
  · rintro (⟨p, hp, rfl⟩ | rfl)
    · by_cases e2 : p.1 = x
      · exact ⟨(x, v), (put_mem hr h.up).2 (.inl rfl), e2.symm⟩
      · exact ⟨p, (put_mem hr h.up).2 (.inr ⟨hp, e2⟩), rfl⟩
    · exact ⟨(y, v), (put_mem hr h.up).2 (.inl rfl), rfl⟩
theorem AllPut.keys (hr : Rises lt) {l : List K} {M : List (K × V)} (h : AllPut lt l l.length M) : M.map (·.1) = setG lt l := by
  obtain ⟨h1, h2⟩ := setG_is lt hr l
  refine rising_same hr (up_keys h.up) h1 fun x => ?_
  rw [h2 x]
  have := h.mem x
  rw [List.take_length] at this
  rw [← this, List.mem_map]

/-- Things, each with a number, from n on. -/
def numFrom (n : Int) : List K → List (K × Int)
  | [] => []
  | x :: t => (x, n) :: numFrom (n + 1) t
omit [DecidableEq K] in
theorem numFrom_snoc (x : K) : ∀ (l : List K) (n : Int), numFrom n (l ++ [x]) = numFrom n l ++ [(x, n + (l.length : Int))]
  | [], n => by simp [numFrom]
  | y :: l, n => by
    rw [List.cons_append, numFrom, numFrom, numFrom_snoc x l, List.cons_append, List.length_cons]
    congr 4
    omega
omit [DecidableEq K] in
theorem numFrom_len : ∀ (l : List K) (n : Int), (numFrom n l).length = l.length
  | [], _ => rfl
  | x :: l, n => by rw [numFrom, List.length_cons, numFrom_len l, List.length_cons]
/-- The number of a thing that has one, and of no other. -/
theorem numFrom_get (hr : Rises lt) (x : K) : ∀ {l : List K} (n : Int), (l.Pairwise fun x y => lt x y = true) → getK lt (numFrom n l) x = if idxG x l < l.length then some (n + (idxG x l : Int)) else none
  | [], n, _ => by simp [numFrom, idxG, getK]
  | y :: l, n, h => by
    rw [List.pairwise_cons] at h
    rw [numFrom, getK_cons]
    dsimp only
    have ih := numFrom_get hr x (n + 1) h.2
    by_cases h1 : lt y x = true
    · have hne : y ≠ x := fun e => by rw [e, hr.irr] at h1; cases h1
      rw [if_pos h1, ih, idxG, if_neg hne, List.length_cons]
      by_cases h2 : idxG x l < l.length
      · rw [if_pos h2, if_pos (by omega)]
        congr 1
        omega
      · rw [if_neg h2, if_neg (by omega)]
    · rw [if_neg h1]
      by_cases h2 : y = x
      · rw [if_pos h2, idxG, if_pos h2, List.length_cons, if_pos (by omega)]
        simp
      · rw [if_neg h2, idxG, if_neg h2, List.length_cons]
        have h3 := hr.tot y x h2 (by simpa using h1)
        have h4 : ¬ idxG x l < l.length := fun h5 => by
          have h6 := hr.tr _ _ _ h3 (h.1 x (idxG_mem.1 h5))
          rw [hr.irr] at h6
          cases h6
        rw [if_neg (by omega)]
/-- Behind j numbers put: those j have theirs. -/
def Numbered (L : List K) (M0 : List (K × Int)) (j : Nat) : List (K × Int) := numFrom 0 (L.take j) ++ M0.drop j
theorem numbered_step (hr : Rises lt) {L : List K} {M0 : List (K × Int)} (hk : M0.map (·.1) = L) {j : Nat} {x : K} (hx : L[j]? = some x) (hu : Up lt (Numbered L M0 j)) : putK lt (Numbered L M0 j) x (j : Int) = Numbered L M0 (j + 1) := by
  obtain ⟨h0, e⟩ := List.getElem?_eq_some_iff.1 hx
  have hm : M0.length = L.length := by rw [← hk, List.length_map]
  have h1 : j < M0.length := by omega
  have e1 : M0.drop j = M0[j] :: M0.drop (j + 1) := List.drop_eq_getElem_cons h1
  have e2 : (M0[j]).1 = x := by
    subst hk
    rw [List.getElem_map] at e
    exact e
  unfold Numbered at hu ⊢
  rw [e1] at hu ⊢
  have hb := (up_parts hu).2.2
  have h3 := put_same hr (j : Int) (M0.drop (j + 1)) (numFrom 0 (L.take j)) hb
  rw [e2] at h3
  rw [h3, List.take_succ_eq_append_getElem h0, e, numFrom_snoc, List.append_assoc, List.length_take, Nat.min_eq_left (Nat.le_of_lt h0)]
  simp
omit [DecidableEq K] in
theorem numbered_start (L : List K) (M0 : List (K × Int)) : Numbered L M0 0 = M0 := by simp [Numbered, numFrom]
omit [DecidableEq K] in
theorem numbered_end {L : List K} {M0 : List (K × Int)} (hk : M0.map (·.1) = L) : Numbered L M0 L.length = numFrom 0 L := by
  have hm : M0.length = L.length := by rw [← hk, List.length_map]
  unfold Numbered
  rw [List.take_length, List.drop_of_length_le (by omega), List.append_nil]
omit [DecidableEq K] in
theorem numbered_len {L : List K} {M0 : List (K × Int)} (hk : M0.map (·.1) = L) (j : Nat) : (Numbered L M0 j).length = L.length := by
  have hm : M0.length = L.length := by rw [← hk, List.length_map]
  unfold Numbered
  rw [List.length_append, numFrom_len, List.length_take, List.length_drop]
  omega
end

end Go.Proofs.Ytnapeckpjnbcgaa
