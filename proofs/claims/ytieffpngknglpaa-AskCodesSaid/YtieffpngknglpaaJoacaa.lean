/-
  Texts laid one behind the other: Na Nb.
-/
import Derived.WalkKit
import Derived.WalkSmall
import Derived.Laws.Strings

/-
  Lists of pairs whose keys rise, plain: places, what is put, dropped, got, the floor of a key, ranges; of any keys with an order. No type is named here.
-/
namespace Go.Proofs.Ytieffpngknglpaa
open Go.RowKit

/-- An order that is told by 'below'. -/
structure Rises {K : Type} (lt : K → K → Bool) : Prop where
  irr : ∀ a, lt a a = false
  tr : ∀ a b c, lt a b = true → lt b c = true → lt a c = true
  tot : ∀ a b, a ≠ b → lt a b = false → lt b a = true
theorem rises_int : Rises (fun a b : Int => decide (a < b)) :=
  ⟨fun a => by simp, fun a b c h g => by simp at *; omega, fun a b h g => by simp at *; omega⟩

section
variable {K V : Type} (lt : K → K → Bool)
def plc : List (K × V) → K → Nat
  | [], _ => 0
  | p :: l, k => if lt p.1 k then plc l k + 1 else 0
def rangeK (l : List (K × V)) (a b : K) : List (K × V) := l.filter fun p => !lt p.1 a && lt p.1 b
def Up (l : List (K × V)) : Prop := ∀ (i j : Nat) (a b : K × V), i < j → l[i]? = some a → l[j]? = some b → lt a.1 b.1 = true

variable {lt}
theorem plc_le (l : List (K × V)) (k : K) : plc lt l k ≤ l.length := by
  induction l with
  | nil => exact Nat.le_refl _
  | cons p l ih =>
    unfold plc
    split
    · simp only [List.length_cons]; omega
    · exact Nat.zero_le _
theorem plc_below {l : List (K × V)} {k : K} {i : Nat} {p : K × V} (hi : i < plc lt l k) (hp : l[i]? = some p) : lt p.1 k = true := by
  induction l generalizing i with
  | nil => cases hp
  | cons q l ih =>
    unfold plc at hi
    split at hi
    · rename_i hq
      cases i with
      | zero => cases hp; exact hq
      | succ i => exact ih (by omega) hp
    · omega
theorem plc_at {l : List (K × V)} {k : K} {p : K × V} (hp : l[plc lt l k]? = some p) : lt p.1 k = false := by
  induction l with
  | nil => cases hp
  | cons q l ih =>
    unfold plc at hp
    split at hp
    · exact ih hp
    · rename_i hq
      cases hp
      simpa using hq
theorem plc_above {l : List (K × V)} {k : K} (h : Rises lt) (hu : Up lt l) {j : Nat} {p : K × V} (hj : plc lt l k ≤ j) (hp : l[j]? = some p) : lt p.1 k = false := by
  obtain ⟨hl, _⟩ := List.getElem?_eq_some_iff.1 hp
  rcases Nat.lt_or_ge (plc lt l k) j with c | c
  · obtain ⟨q, hq⟩ : ∃ q, l[plc lt l k]? = some q := ⟨_, List.getElem?_eq_getElem (by omega)⟩
    have h1 := plc_at hq
    have h2 := hu _ _ _ _ c hq hp
    cases h3 : lt p.1 k with
    | false => rfl
    | true => rw [h.tr _ _ _ h2 h3] at h1; cases h1
  · obtain rfl : j = plc lt l k := by omega
    exact plc_at hp
theorem plc_is {l : List (K × V)} {k : K} {i : Nat} (hi : i ≤ l.length) (hb : ∀ (j : Nat) (p : K × V), j < i → l[j]? = some p → lt p.1 k = true) (ha : ∀ p : K × V, l[i]? = some p → lt p.1 k = false) : plc lt l k = i := by
  rcases Nat.lt_trichotomy (plc lt l k) i with c | c | c
  · obtain ⟨q, hq⟩ : ∃ q, l[plc lt l k]? = some q := ⟨_, List.getElem?_eq_getElem (by omega)⟩
    have h1 := plc_at hq
    rw [hb _ _ c hq] at h1
    cases h1
  · exact c
  · have hl := plc_le (lt := lt) l k
    obtain ⟨q, hq⟩ : ∃ q, l[i]? = some q := ⟨_, List.getElem?_eq_getElem (by omega)⟩
    have h1 := ha _ hq
    rw [plc_below c hq] at h1
    cases h1
theorem up_nil : Up lt ([] : List (K × V)) := fun i j a b _ h => by simp at h
theorem up_cons {p : K × V} {l : List (K × V)} : Up lt (p :: l) ↔ (∀ (i : Nat) (q : K × V), l[i]? = some q → lt p.1 q.1 = true) ∧ Up lt l := by
  constructor
  · intro h
    refine ⟨fun i q hq => h 0 (i + 1) p q (by omega) rfl hq, fun i j a b hij ha hb => h (i + 1) (j + 1) a b (by omega) ha hb⟩
  · rintro ⟨h1, h2⟩ i j a b hij ha hb
    cases j with
    | zero => omega
    | succ j =>
      cases i with
      | zero => cases ha; exact h1 j b hb
      | succ i => exact h2 i j a b (by omega) ha hb
theorem up_append {l m : List (K × V)} : Up lt (l ++ m) ↔ Up lt l ∧ Up lt m ∧ ∀ (i j : Nat) (a b : K × V), l[i]? = some a → m[j]? = some b → lt a.1 b.1 = true := by
  induction l with
  | nil =>
    simp only [List.nil_append]
    exact ⟨fun h => ⟨up_nil, h, fun i j a b ha => by simp at ha⟩, fun h => h.2.1⟩
  | cons p l ih =>
    rw [List.cons_append, up_cons, ih, up_cons]
    constructor
    · rintro ⟨h1, h2, h3, h4⟩
      refine ⟨⟨fun i q hq => h1 i q ?_, h2⟩, h3, fun i j a b ha hb => ?_⟩
      · obtain ⟨hl, _⟩ := List.getElem?_eq_some_iff.1 hq
        rw [List.getElem?_append_left hl]
        exact hq
      · cases i with
        | zero =>
          cases ha
          refine h1 (l.length + j) b ?_
          rw [List.getElem?_append_right (by omega), Nat.add_sub_cancel_left]
          exact hb
        | succ i => exact h4 i j a b ha hb
    · rintro ⟨⟨h1, h2⟩, h3, h4⟩
      refine ⟨fun i q hq => ?_, h2, h3, fun i j a b ha hb => h4 (i + 1) j a b ha hb⟩
      rcases Nat.lt_or_ge i l.length with c | c
      · rw [List.getElem?_append_left c] at hq
        exact h1 i q hq
      · rw [List.getElem?_append_right c] at hq
        exact h4 0 _ p q rfl hq
theorem up_take {l : List (K × V)} (h : Up lt l) (n : Nat) : Up lt (l.take n) := fun i j a b hij ha hb => by
  rw [List.getElem?_take] at ha hb
  split at ha
  · split at hb
    · exact h i j a b hij ha hb
    · cases hb
  · cases ha
theorem up_drop {l : List (K × V)} (h : Up lt l) (n : Nat) : Up lt (l.drop n) := fun i j a b hij ha hb => by
  rw [List.getElem?_drop] at ha hb
  exact h _ _ a b (by omega) ha hb
theorem range_part {l : List (K × V)} (h : Rises lt) (hu : Up lt l) (a b : K) : rangeK lt l a b = (l.take (plc lt l b)).drop (plc lt l a) := by
  induction l with
  | nil => rfl
  | cons p l ih =>
    obtain ⟨h1, h2⟩ := up_cons.1 hu
    have ih := ih h2
    unfold rangeK at *
    unfold plc
    rw [List.filter_cons]
    by_cases hb : lt p.1 b = true
    · rw [if_pos hb, List.take_succ_cons]
      by_cases ha : lt p.1 a = true
      · rw [if_pos ha, if_neg (by rw [ha]; simp), List.drop_succ_cons, ih]
      · rw [if_neg ha, if_pos (by rw [hb]; simpa using ha), List.drop_zero, ih]
        have e : plc lt l a = 0 := plc_is (Nat.zero_le _) (fun j q hj => by omega) (fun q hq => by
          cases h3 : lt q.1 a with
          | false => rfl
          | true => exact absurd (h.tr _ _ _ (h1 0 q hq) h3) ha)
        rw [e, List.drop_zero]
    · rw [if_neg hb, if_neg (by simp [hb]), List.take_zero, List.drop_nil, ih]
      have e : plc lt l b = 0 := plc_is (Nat.zero_le _) (fun j q hj => by omega) (fun q hq => by
        cases h3 : lt q.1 b with
        | false => rfl
        | true => exact absurd (h.tr _ _ _ (h1 0 q hq) h3) hb)
      rw [e, List.take_zero, List.drop_nil]
end

section
variable {K V : Type} [DecidableEq K] (lt : K → K → Bool)
def hasK (l : List (K × V)) (k : K) : Bool := match l[plc lt l k]? with
  | some p => decide (p.1 = k)
  | none => false
def getK (l : List (K × V)) (k : K) : Option V := match l[plc lt l k]? with
  | some p => if p.1 = k then some p.2 else none
  | none => none
def upK (l : List (K × V)) (k : K) : Nat := if hasK lt l k then plc lt l k + 1 else plc lt l k
def putK (l : List (K × V)) (k : K) (v : V) : List (K × V) := l.take (plc lt l k) ++ (k, v) :: l.drop (upK lt l k)
def dropK (l : List (K × V)) (k : K) : List (K × V) := l.take (plc lt l k) ++ l.drop (upK lt l k)
def floorK (l : List (K × V)) (k : K) : Option (K × V) := if upK lt l k = 0 then none else l[upK lt l k - 1]?

variable {lt}
theorem hasK_iff {l : List (K × V)} {k : K} : hasK lt l k = true ↔ ∃ p : K × V, l[plc lt l k]? = some p ∧ p.1 = k := by
  unfold hasK
  cases h : l[plc lt l k]? with
  | none => simp
  | some p => simp
theorem hasK_mem {l : List (K × V)} {k : K} (h : Rises lt) (hu : Up lt l) : hasK lt l k = true ↔ ∃ (i : Nat) (p : K × V), l[i]? = some p ∧ p.1 = k := by
  rw [hasK_iff]
  constructor
  · rintro ⟨p, h1, h2⟩
    exact ⟨_, p, h1, h2⟩
  · rintro ⟨i, p, hp, rfl⟩
    have e : plc lt l p.1 = i := plc_is (by obtain ⟨hl, _⟩ := List.getElem?_eq_some_iff.1 hp; omega) (fun j q hj hq => hu _ _ _ _ hj hq hp) (fun q hq => by rw [hp] at hq; cases hq; exact h.irr _)
    exact ⟨p, by rw [e]; exact hp, rfl⟩
theorem upK_le (l : List (K × V)) (k : K) : upK lt l k ≤ l.length := by
  unfold upK
  split
  · rename_i h
    obtain ⟨p, hp, _⟩ := hasK_iff.1 h
    obtain ⟨hl, _⟩ := List.getElem?_eq_some_iff.1 hp
    omega
  · exact plc_le l k
theorem upK_below {l : List (K × V)} {k : K} (h : Rises lt) {i : Nat} {p : K × V} (hi : i < upK lt l k) (hp : l[i]? = some p) : lt k p.1 = false := by
  unfold upK at hi
  have key : lt p.1 k = true ∨ p.1 = k := by
    split at hi
    · rename_i hk
      rcases Nat.lt_or_ge i (plc lt l k) with c | c
      · exact .inl (plc_below c hp)
      · obtain rfl : i = plc lt l k := by omega
        obtain ⟨q, hq, e⟩ := hasK_iff.1 hk
        rw [hp] at hq
        cases hq
        exact .inr e
    · exact .inl (plc_below hi hp)
  rcases key with c | c
  · cases h2 : lt k p.1 with
    | false => rfl
    | true => have := h.tr _ _ _ c h2; rw [h.irr] at this; cases this
  · rw [c]
    exact h.irr _
theorem upK_above {l : List (K × V)} {k : K} (h : Rises lt) (hu : Up lt l) {j : Nat} {p : K × V} (hj : upK lt l k ≤ j) (hp : l[j]? = some p) : lt k p.1 = true := by
  unfold upK at hj
  have h0 : lt p.1 k = false := plc_above h hu (by split at hj <;> omega) hp
  refine h.tot _ _ (fun e => ?_) h0
  split at hj
  · rename_i hk
    obtain ⟨q, hq, e2⟩ := hasK_iff.1 hk
    have := hu _ _ _ _ (show plc lt l k < j by omega) hq hp
    rw [e2, e, h.irr] at this
    cases this
  · rename_i hk
    exact hk ((hasK_mem h hu).2 ⟨j, p, hp, e⟩)
theorem put_up {l : List (K × V)} (h : Rises lt) (hu : Up lt l) (k : K) (v : V) : Up lt (putK lt l k v) := by
  unfold putK
  rw [up_append, up_cons]
  refine ⟨up_take hu _, ⟨fun i q hq => ?_, up_drop hu _⟩, fun i j a b ha hb => ?_⟩
  · rw [List.getElem?_drop] at hq
    show lt k q.1 = true
    exact upK_above h hu (by omega) hq
  · rw [List.getElem?_take] at ha
    split at ha
    · rename_i hi
      have h1 := plc_below hi ha
      cases j with
      | zero => cases hb; exact h1
      | succ j =>
        rw [List.getElem?_cons_succ, List.getElem?_drop] at hb
        exact h.tr _ _ _ h1 (upK_above h hu (by omega) hb)
    · cases ha
theorem drop_up {l : List (K × V)} (h : Rises lt) (hu : Up lt l) (k : K) : Up lt (dropK lt l k) := by
  unfold dropK
  rw [up_append]
  refine ⟨up_take hu _, up_drop hu _, fun i j a b ha hb => ?_⟩
  rw [List.getElem?_take] at ha
  rw [List.getElem?_drop] at hb
  split at ha
  · rename_i hi
    exact h.tr _ _ _ (plc_below hi ha) (upK_above h hu (by omega) hb)
  · cases ha
theorem put_len (l : List (K × V)) (k : K) (v : V) : (putK lt l k v).length ≤ l.length + 1 := by
  have h1 := plc_le (lt := lt) l k
  have h2 : plc lt l k ≤ upK lt l k := by unfold upK; split <;> omega
  unfold putK
  rw [List.length_append, List.length_cons, List.length_take, List.length_drop]
  omega
theorem drop_len (l : List (K × V)) (k : K) : (dropK lt l k).length ≤ l.length := by
  have h1 := plc_le (lt := lt) l k
  have h2 : plc lt l k ≤ upK lt l k := by unfold upK; split <;> omega
  unfold dropK
  rw [List.length_append, List.length_take, List.length_drop]
  omega
theorem drop_not {l : List (K × V)} {k : K} (h : hasK lt l k = false) : dropK lt l k = l := by
  unfold dropK upK
  rw [h]
  exact List.take_append_drop _ _
end

end Go.Proofs.Ytieffpngknglpaa

/-
  Texts in their order, plain.
-/
namespace Go.Proofs.Ytieffpngknglpaa
open Go.RowKit

theorem less_irr : ∀ a : List UInt8, Op.bytesLess a a = false
  | [] => rfl
  | x :: a => by
    show (decide (x < x) || (x == x && Op.bytesLess a a)) = false
    rw [less_irr a]
    simp
theorem less_tr : ∀ a b c : List UInt8, Op.bytesLess a b = true → Op.bytesLess b c = true → Op.bytesLess a c = true
  | [], [], _, h, _ => absurd h (by decide)
  | x :: a, [], _, h, _ => absurd (show false = true from h) (by decide)
  | _, _ :: _, [], _, g => by cases g
  | [], _ :: _, _ :: _, _, _ => rfl
  | x :: a, y :: b, z :: c, h, g => by
    have h1 : (decide (x < y) || (x == y && Op.bytesLess a b)) = true := h
    have g1 : (decide (y < z) || (y == z && Op.bytesLess b c)) = true := g
    have ih := less_tr a b c
    show (decide (x < z) || (x == z && Op.bytesLess a c)) = true
    simp only [Bool.or_eq_true, decide_eq_true_iff, Bool.and_eq_true, beq_iff_eq] at h1 g1 ⊢
    rcases h1 with h1 | ⟨e, h1⟩
    · rcases g1 with g1 | ⟨e2, g1⟩
      · left
        rw [UInt8.lt_iff_toNat_lt] at *
        omega
      · subst e2
        exact .inl h1
    · subst e
      rcases g1 with g1 | ⟨e2, g1⟩
      · exact .inl g1
      · subst e2
        exact .inr ⟨rfl, ih h1 g1⟩
theorem less_tot : ∀ a b : List UInt8, a ≠ b → Op.bytesLess a b = false → Op.bytesLess b a = true
  | [], [], h, _ => absurd rfl h
  | [], _ :: _, _, g => by cases g
  | _ :: _, [], _, _ => rfl
  | x :: a, y :: b, h, g => by
    have g : (decide (x < y) || (x == y && Op.bytesLess a b)) = false := g
    show (decide (y < x) || (y == x && Op.bytesLess b a)) = true
    simp only [Bool.or_eq_false_iff, decide_eq_false_iff_not, Bool.and_eq_false_iff, beq_eq_false_iff_ne, ne_eq, Bool.or_eq_true, decide_eq_true_iff, Bool.and_eq_true, beq_iff_eq] at *
    by_cases hxy : x = y
    · subst hxy
      refine .inr ⟨rfl, less_tot a b (fun e => h (by rw [e])) ?_⟩
      rcases g.2 with g | g
      · exact absurd rfl g
      · exact g
    · left
      have h1 : x.toNat ≠ y.toNat := fun e => hxy (UInt8.toNat_inj.1 e)
      have h2 := g.1
      rw [UInt8.lt_iff_toNat_lt] at *
      omega
theorem rises_bytes : Rises Op.bytesLess := ⟨less_irr, less_tr, less_tot⟩

end Go.Proofs.Ytieffpngknglpaa
