/-
  Texts laid one behind the other: Na Nb Za Oa Ga Bb Ea Eg.
-/
import Derived.WalkKit
import Derived.WalkSmall
import Derived.Laws.Strings
import Derived.Test.YtklpmajaihmmfaaRows
import Derived.WalkSpells
import Derived.WalkLawsBesides
import Derived.Maps.AppendAt
import Derived.Deep.AppendSrc
import Derived.Lib.Hide
import Derived.WalkMore
import Derived.OwnWalk
import Derived.ProofKit
import Derived.OpenShut
import Derived.Deep.Slices
import Derived.Deep.Fields
import Derived.Laws.CopyOwn
import Derived.Deep.OwnRows
import Derived.Deep.RegionHeld3

/-
  Lists of pairs whose keys rise, plain: places, what is put, dropped, got, the floor of a key, ranges; of any keys with an order. No type is named here.
-/
namespace Go.Proofs.Ytklpmajaihmmfaa
open Go.RowKit

/-- An order that is told by 'below'. -/
structure Rises {K : Type} (lt : K → K → Bool) : Prop where
  irr : ∀ a, lt a a = false
  tr : ∀ a b c, lt a b = true → lt b c = true → lt a c = true
  tot : ∀ a b, a ≠ b → lt a b = false → lt b a = true
theorem rises_int : Rises (fun a b : Int => decide (a < b)) :=
  ⟨fun a => by simp, fun a b c h g => by simp at *; omega, fun a b h g => by simp at *; omega⟩

section
variable {K V : Type} (lt : K → K → Bool)
def plc : List (K × V) → K → Nat
  | [], _ => 0
  | p :: l, k => if lt p.1 k then plc l k + 1 else 0
def rangeK (l : List (K × V)) (a b : K) : List (K × V) := l.filter fun p => !lt p.1 a && lt p.1 b
def Up (l : List (K × V)) : Prop := ∀ (i j : Nat) (a b : K × V), i < j → l[i]? = some a → l[j]? = some b → lt a.1 b.1 = true

variable {lt}
theorem plc_le (l : List (K × V)) (k : K) : plc lt l k ≤ l.length := by
  induction l with
  | nil => exact Nat.le_refl _
  | cons p l ih =>
    unfold plc
    split
    · simp only [List.length_cons]; omega
    · exact Nat.zero_le _
theorem plc_below {l : List (K × V)} {k : K} {i : Nat} {p : K × V} (hi : i < plc lt l k) (hp : l[i]? = some p) : lt p.1 k = true := by
  induction l generalizing i with
  | nil => cases hp
  | cons q l ih =>
    unfold plc at hi
    split at hi
    · rename_i hq
      cases i with
      | zero => cases hp; exact hq
      | succ i => exact ih (by omega) hp
    · omega
theorem plc_at {l : List (K × V)} {k : K} {p : K × V} (hp : l[plc lt l k]? = some p) : lt p.1 k = false := by
  induction l with
  | nil => cases hp
  | cons q l ih =>
    unfold plc at hp
    split at hp
    · exact ih hp
    · rename_i hq
      cases hp
      simpa using hq
theorem plc_above {l : List (K × V)} {k : K} (h : Rises lt) (hu : Up lt l) {j : Nat} {p : K × V} (hj : plc lt l k ≤ j) (hp : l[j]? = some p) : lt p.1 k = false := by
  obtain ⟨hl, _⟩ := List.getElem?_eq_some_iff.1 hp
  rcases Nat.lt_or_ge (plc lt l k) j with c | c
  · obtain ⟨q, hq⟩ : ∃ q, l[plc lt l k]? = some q := ⟨_, List.getElem?_eq_getElem (by omega)⟩
    have h1 := plc_at hq
    have h2 := hu _ _ _ _ c hq hp
    cases h3 : lt p.1 k with
    | false => rfl
    | true => rw [h.tr _ _ _ h2 h3] at h1; cases h1
  · obtain rfl : j = plc lt l k := by omega
    exact plc_at hp
theorem plc_is {l : List (K × V)} {k : K} {i : Nat} (hi : i ≤ l.length) (hb : ∀ (j : Nat) (p : K × V), j < i → l[j]? = some p → lt p.1 k = true) (ha : ∀ p : K × V, l[i]? = some p → lt p.1 k = false) : plc lt l k = i := by
  rcases Nat.lt_trichotomy (plc lt l k) i with c | c | c
  · obtain ⟨q, hq⟩ : ∃ q, l[plc lt l k]? = some q := ⟨_, List.getElem?_eq_getElem (by omega)⟩
    have h1 := plc_at hq
    rw [hb _ _ c hq] at h1
    cases h1
  · exact c
  · have hl := plc_le (lt := lt) l k
    obtain ⟨q, hq⟩ : ∃ q, l[i]? = some q := ⟨_, List.getElem?_eq_getElem (by omega)⟩
    have h1 := ha _ hq
    rw [plc_below c hq] at h1
    cases h1
theorem up_nil : Up lt ([] : List (K × V)) := fun i j a b _ h => by simp at h
theorem up_cons {p : K × V} {l : List (K × V)} : Up lt (p :: l) ↔ (∀ (i : Nat) (q : K × V), l[i]? = some q → lt p.1 q.1 = true) ∧ Up lt l := by
  constructor
  · intro h
    refine ⟨fun i q hq => h 0 (i + 1) p q (by omega) rfl hq, fun i j a b hij ha hb => h (i + 1) (j + 1) a b (by omega) ha hb⟩
  · rintro ⟨h1, h2⟩ i j a b hij ha hb
    cases j with
    | zero => omega
    | succ j =>
      cases i with
      | zero => cases ha; exact h1 j b hb
      | succ i => exact h2 i j a b (by omega) ha hb
theorem up_append {l m : List (K × V)} : Up lt (l ++ m) ↔ Up lt l ∧ Up lt m ∧ ∀ (i j : Nat) (a b : K × V), l[i]? = some a → m[j]? = some b → lt a.1 b.1 = true := by
  induction l with
  | nil =>
    simp only [List.nil_append]
    exact ⟨fun h => ⟨up_nil, h, fun i j a b ha => by simp at ha⟩, fun h => h.2.1⟩
  | cons p l ih =>
    rw [List.cons_append, up_cons, ih, up_cons]
    constructor
    · rintro ⟨h1, h2, h3, h4⟩
      refine ⟨⟨fun i q hq => h1 i q ?_, h2⟩, h3, fun i j a b ha hb => ?_⟩
      · obtain ⟨hl, _⟩ := List.getElem?_eq_some_iff.1 hq
        rw [List.getElem?_append_left hl]
        exact hq
      · cases i with
        | zero =>
          cases ha
          refine h1 (l.length + j) b ?_
          rw [List.getElem?_append_right (by omega), Nat.add_sub_cancel_left]
          exact hb
        | succ i => exact h4 i j a b ha hb
    · rintro ⟨⟨h1, h2⟩, h3, h4⟩
      refine ⟨fun i q hq => ?_, h2, h3, fun i j a b ha hb => h4 (i + 1) j a b ha hb⟩
      rcases Nat.lt_or_ge i l.length with c | c
      · rw [List.getElem?_append_left c] at hq
        exact h1 i q hq
      · rw [List.getElem?_append_right c] at hq
        exact h4 0 _ p q rfl hq
theorem up_take {l : List (K × V)} (h : Up lt l) (n : Nat) : Up lt (l.take n) := fun i j a b hij ha hb => by
  rw [List.getElem?_take] at ha hb
  split at ha
  · split at hb
    · exact h i j a b hij ha hb
    · cases hb
  · cases ha
theorem up_drop {l : List (K × V)} (h : Up lt l) (n : Nat) : Up lt (l.drop n) := fun i j a b hij ha hb => by
  rw [List.getElem?_drop] at ha hb
  exact h _ _ a b (by omega) ha hb
theorem range_part {l : List (K × V)} (h : Rises lt) (hu : Up lt l) (a b : K) : rangeK lt l a b = (l.take (plc lt l b)).drop (plc lt l a) := by
  induction l with
  | nil => rfl
  | cons p l ih =>
    obtain ⟨h1, h2⟩ := up_cons.1 hu
    have ih := ih h2
    unfold rangeK at *
    unfold plc
    rw [List.filter_cons]
    by_cases hb : lt p.1 b = true
    · rw [if_pos hb, List.take_succ_cons]
      by_cases ha : lt p.1 a = true
      · rw [if_pos ha, if_neg (by rw [ha]; simp), List.drop_succ_cons, ih]
      · rw [if_neg ha, if_pos (by rw [hb]; simpa using ha), List.drop_zero, ih]
        have e : plc lt l a = 0 := plc_is (Nat.zero_le _) (fun j q hj => by omega) (fun q hq => by
          cases h3 : lt q.1 a with
          | false => rfl
          | true => exact absurd (h.tr _ _ _ (h1 0 q hq) h3) ha)
        rw [e, List.drop_zero]
    · rw [if_neg hb, if_neg (by simp [hb]), List.take_zero, List.drop_nil, ih]
      have e : plc lt l b = 0 := plc_is (Nat.zero_le _) (fun j q hj => by omega) (fun q hq => by
        cases h3 : lt q.1 b with
        | false => rfl
        | true => exact absurd (h.tr _ _ _ (h1 0 q hq) h3) hb)
      rw [e, List.take_zero, List.drop_nil]
end

section
variable {K V : Type} [DecidableEq K] (lt : K → K → Bool)
def hasK (l : List (K × V)) (k : K) : Bool := match l[plc lt l k]? with
  | some p => decide (p.1 = k)
  | none => false
def getK (l : List (K × V)) (k : K) : Option V := match l[plc lt l k]? with
  | some p => if p.1 = k then some p.2 else none
  | none => none
def upK (l : List (K × V)) (k : K) : Nat := if hasK lt l k then plc lt l k + 1 else plc lt l k
def putK (l : List (K × V)) (k : K) (v : V) : List (K × V) := l.take (plc lt l k) ++ (k, v) :: l.drop (upK lt l k)
def dropK (l : List (K × V)) (k : K) : List (K × V) := l.take (plc lt l k) ++ l.drop (upK lt l k)
def floorK (l : List (K × V)) (k : K) : Option (K × V) := if upK lt l k = 0 then none else l[upK lt l k - 1]?

variable {lt}
theorem hasK_iff {l : List (K × V)} {k : K} : hasK lt l k = true ↔ ∃ p : K × V, l[plc lt l k]? = some p ∧ p.1 = k := by
  unfold hasK
  cases h : l[plc lt l k]? with
  | none => simp
  | some p => simp
theorem hasK_mem {l : List (K × V)} {k : K} (h : Rises lt) (hu : Up lt l) : hasK lt l k = true ↔ ∃ (i : Nat) (p : K × V), l[i]? = some p ∧ p.1 = k := by
  rw [hasK_iff]
  constructor
  · rintro ⟨p, h1, h2⟩
    exact ⟨_, p, h1, h2⟩
  · rintro ⟨i, p, hp, rfl⟩
    have e : plc lt l p.1 = i := plc_is (by obtain ⟨hl, _⟩ := List.getElem?_eq_some_iff.1 hp; omega) (fun j q hj hq => hu _ _ _ _ hj hq hp) (fun q hq => by rw [hp] at hq; cases hq; exact h.irr _)
    exact ⟨p, by rw [e]; exact hp, rfl⟩
theorem upK_le (l : List (K × V)) (k : K) : upK lt l k ≤ l.length := by
  unfold upK
  split
  · rename_i h
    obtain ⟨p, hp, _⟩ := hasK_iff.1 h
    obtain ⟨hl, _⟩ := List.getElem?_eq_some_iff.1 hp
    omega
  · exact plc_le l k
theorem upK_below {l : List (K × V)} {k : K} (h : Rises lt) {i : Nat} {p : K × V} (hi : i < upK lt l k) (hp : l[i]? = some p) : lt k p.1 = false := by
  unfold upK at hi
  have key : lt p.1 k = true ∨ p.1 = k := by
    split at hi
    · rename_i hk
      rcases Nat.lt_or_ge i (plc lt l k) with c | c
      · exact .inl (plc_below c hp)
      · obtain rfl : i = plc lt l k := by omega
        obtain ⟨q, hq, e⟩ := hasK_iff.1 hk
        rw [hp] at hq
        cases hq
        exact .inr e
    · exact .inl (plc_below hi hp)
  rcases key with c | c
  · cases h2 : lt k p.1 with
    | false => rfl
    | true => have := h.tr _ _ _ c h2; rw [h.irr] at this; cases this
  · rw [c]
    exact h.irr _
theorem upK_above {l : List (K × V)} {k : K} (h : Rises lt) (hu : Up lt l) {j : Nat} {p : K × V} (hj : upK lt l k ≤ j) (hp : l[j]? = some p) : lt k p.1 = true := by
  unfold upK at hj
  have h0 : lt p.1 k = false := plc_above h hu (by split at hj <;> omega) hp
  refine h.tot _ _ (fun e => ?_) h0
  split at hj
  · rename_i hk
    obtain ⟨q, hq, e2⟩ := hasK_iff.1 hk
    have := hu _ _ _ _ (show plc lt l k < j by omega) hq hp
    rw [e2, e, h.irr] at this
    cases this
  · rename_i hk
    exact hk ((hasK_mem h hu).2 ⟨j, p, hp, e⟩)
theorem put_up {l : List (K × V)} (h : Rises lt) (hu : Up lt l) (k : K) (v : V) : Up lt (putK lt l k v) := by
  unfold putK
  rw [up_append, up_cons]
  refine ⟨up_take hu _, ⟨fun i q hq => ?_, up_drop hu _⟩, fun i j a b ha hb => ?_⟩
  · rw [List.getElem?_drop] at hq
    show lt k q.1 = true
    exact upK_above h hu (by omega) hq
  · rw [List.getElem?_take] at ha
    split at ha
    · rename_i hi
      have h1 := plc_below hi ha
      cases j with
      | zero => cases hb; exact h1
      | succ j =>
        rw [List.getElem?_cons_succ, List.getElem?_drop] at hb
        exact h.tr _ _ _ h1 (upK_above h hu (by omega) hb)
    · cases ha
theorem drop_up {l : List (K × V)} (h : Rises lt) (hu : Up lt l) (k : K) : Up lt (dropK lt l k) := by
  unfold dropK
  rw [up_append]
  refine ⟨up_take hu _, up_drop hu _, fun i j a b ha hb => ?_⟩
  rw [List.getElem?_take] at ha
  rw [List.getElem?_drop] at hb
  split at ha
  · rename_i hi
    exact h.tr _ _ _ (plc_below hi ha) (upK_above h hu (by omega) hb)
  · cases ha
theorem put_len (l : List (K × V)) (k : K) (v : V) : (putK lt l k v).length ≤ l.length + 1 := by
  have h1 := plc_le (lt := lt) l k
  have h2 : plc lt l k ≤ upK lt l k := by unfold upK; split <;> omega
  unfold putK
  rw [List.length_append, List.length_cons, List.length_take, List.length_drop]
  omega
theorem drop_len (l : List (K × V)) (k : K) : (dropK lt l k).length ≤ l.length := by
  have h1 := plc_le (lt := lt) l k
  have h2 : plc lt l k ≤ upK lt l k := by unfold upK; split <;> omega
  unfold dropK
  rw [List.length_append, List.length_take, List.length_drop]
  omega
theorem drop_not {l : List (K × V)} {k : K} (h : hasK lt l k = false) : dropK lt l k = l := by
  unfold dropK upK
  rw [h]
  exact List.take_append_drop _ _
end

end Go.Proofs.Ytklpmajaihmmfaa

/-
  Texts in their order, plain.
-/
namespace Go.Proofs.Ytklpmajaihmmfaa
open Go.RowKit

theorem less_irr : ∀ a : List UInt8, Op.bytesLess a a = false
  | [] => rfl
  | x :: a => by
    show (decide (x < x) || (x == x && Op.bytesLess a a)) = false
    rw [less_irr a]
    simp
theorem less_tr : ∀ a b c : List UInt8, Op.bytesLess a b = true → Op.bytesLess b c = true → Op.bytesLess a c = true
  | [], [], _, h, _ => absurd h (by decide)
  | x :: a, [], _, h, _ => absurd (show false = true from h) (by decide)
  | _, _ :: _, [], _, g => by cases g
  | [], _ :: _, _ :: _, _, _ => rfl
  | x :: a, y :: b, z :: c, h, g => by
    have h1 : (decide (x < y) || (x == y && Op.bytesLess a b)) = true := h
    have g1 : (decide (y < z) || (y == z && Op.bytesLess b c)) = true := g
    have ih := less_tr a b c
    show (decide (x < z) || (x == z && Op.bytesLess a c)) = true
    simp only [Bool.or_eq_true, decide_eq_true_iff, Bool.and_eq_true, beq_iff_eq] at h1 g1 ⊢
    rcases h1 with h1 | ⟨e, h1⟩
    · rcases g1 with g1 | ⟨e2, g1⟩
      · left
        rw [UInt8.lt_iff_toNat_lt] at *
        omega
      · subst e2
        exact .inl h1
    · subst e
      rcases g1 with g1 | ⟨e2, g1⟩
      · exact .inl g1
      · subst e2
        exact .inr ⟨rfl, ih h1 g1⟩
theorem less_tot : ∀ a b : List UInt8, a ≠ b → Op.bytesLess a b = false → Op.bytesLess b a = true
  | [], [], h, _ => absurd rfl h
  | [], _ :: _, _, g => by cases g
  | _ :: _, [], _, _ => rfl
  | x :: a, y :: b, h, g => by
    have g : (decide (x < y) || (x == y && Op.bytesLess a b)) = false := g
    show (decide (y < x) || (y == x && Op.bytesLess b a)) = true
    simp only [Bool.or_eq_false_iff, decide_eq_false_iff_not, Bool.and_eq_false_iff, beq_eq_false_iff_ne, ne_eq, Bool.or_eq_true, decide_eq_true_iff, Bool.and_eq_true, beq_iff_eq] at *
    by_cases hxy : x = y
    · subst hxy
      refine .inr ⟨rfl, less_tot a b (fun e => h (by rw [e])) ?_⟩
      rcases g.2 with g | g
      · exact absurd rfl g
      · exact g
    · left
      have h1 : x.toNat ≠ y.toNat := fun e => hxy (UInt8.toNat_inj.1 e)
      have h2 := g.1
      rw [UInt8.lt_iff_toNat_lt] at *
      omega
theorem rises_bytes : Rises Op.bytesLess := ⟨less_irr, less_tr, less_tot⟩

end Go.Proofs.Ytklpmajaihmmfaa

/-
  Stage 9, plain: keys and facts, their order, what is right.
-/
namespace Go.Proofs.Ytklpmajaihmmfaa
open Go.RowKit

/-- Two orders, one behind the other. -/
def lexB {A B : Type} [DecidableEq A] (f : A → A → Bool) (g : B → B → Bool) (p q : A × B) : Bool := f p.1 q.1 || (decide (p.1 = q.1) && g p.2 q.2)
theorem rises_lex {A B : Type} [DecidableEq A] {f : A → A → Bool} {g : B → B → Bool} (hf : Rises f) (hg : Rises g) : Rises (lexB f g) := by
  obtain ⟨f1, f2, f3⟩ := hf
  obtain ⟨g1, g2, g3⟩ := hg
  refine ⟨fun p => ?_, fun p q r h k => ?_, fun p q h k => ?_⟩
  · simp [lexB, f1, g1]
  · simp only [lexB, Bool.or_eq_true, Bool.and_eq_true, decide_eq_true_iff] at h k ⊢
    rcases h with h | ⟨e, h⟩
    · rcases k with k | ⟨e2, k⟩
      · exact .inl (f2 _ _ _ h k)
      · rw [← e2]; exact .inl h
    · rcases k with k | ⟨e2, k⟩
      · rw [e]; exact .inl k
      · exact .inr ⟨e.trans e2, g2 _ _ _ h k⟩
  · simp only [lexB, Bool.or_eq_true, Bool.and_eq_true, decide_eq_true_iff, Bool.or_eq_false_iff, Bool.and_eq_false_iff, decide_eq_false_iff_not] at k ⊢
    by_cases e : p.1 = q.1
    · rcases k.2 with k2 | k2
      · exact absurd e k2
      · exact .inr ⟨e.symm, g3 _ _ (fun e2 => h (Prod.ext e e2)) k2⟩
    · exact .inl (f3 _ _ e k.1)
theorem rises_int9 : Rises (fun a b : Int => decide (a < b)) := by
  refine ⟨fun a => by simp, fun a b c h k => ?_, fun a b h k => ?_⟩
  · simp only [decide_eq_true_iff] at *; omega
  · simp only [decide_eq_true_iff, decide_eq_false_iff_not] at *; omega
theorem rises_by {A B : Type} {f : B → B → Bool} (e : A → B) (he : ∀ a b, e a = e b → a = b) (hf : Rises f) : Rises (fun a b => f (e a) (e b)) := by
  obtain ⟨f1, f2, f3⟩ := hf
  exact ⟨fun a => f1 _, fun a b c => f2 _ _ _, fun a b h => f3 _ _ (fun k => h (he _ _ k))⟩

/-- A key: its hour, its dimensions' values. -/
structure K9 where
  h : Int
  a : List UInt8
  b : List UInt8
  c : List UInt8
  d : List UInt8
deriving DecidableEq
/-- A fact: a key, a value. -/
structure F9 where
  k : K9
  v : Int
deriving DecidableEq
instance : Inhabited F9 := ⟨⟨⟨0, [], [], [], []⟩, 0⟩⟩
def K9.dim (k : K9) : Nat → List UInt8
  | 0 => k.a
  | 1 => k.b
  | 2 => k.c
  | _ => k.d
def K9.put (k : K9) (i : Nat) (t : List UInt8) : K9 :=
  match i with
  | 0 => { k with a := t }
  | 1 => { k with b := t }
  | 2 => { k with c := t }
  | _ => { k with d := t }
def K9.tup (k : K9) : Int × List UInt8 × List UInt8 × List UInt8 × List UInt8 := (k.h, k.a, k.b, k.c, k.d)
theorem K9.tup_inj (p q : K9) (h : p.tup = q.tup) : p = q := by
  cases p; cases q
  simpa [K9.tup] using h
/-- Which of two keys stands ahead. -/
def keyLt (p q : K9) : Bool := lexB (fun a b : Int => decide (a < b)) (lexB Op.bytesLess (lexB Op.bytesLess (lexB Op.bytesLess Op.bytesLess))) p.tup q.tup
theorem rises_key : Rises keyLt := rises_by K9.tup K9.tup_inj (rises_lex rises_int9 (rises_lex rises_bytes (rises_lex rises_bytes (rises_lex rises_bytes rises_bytes))))
def cmpK (p q : K9) : Int := if keyLt p q then -1 else if keyLt q p then 1 else 0
/-- Which of two facts stands ahead. -/
def factLt (f g : F9) : Bool := lexB keyLt (fun a b : Int => decide (a < b)) (f.k, f.v) (g.k, g.v)
theorem rises_fact : Rises factLt := rises_by (fun f : F9 => (f.k, f.v)) (fun f g h => by cases f; cases g; simpa using h) (rises_lex rises_key rises_int9)
theorem Rises.asym {A : Type} {lt : A → A → Bool} (h : Rises lt) {a b : A} (k : lt a b = true) : lt b a = false := by
  obtain ⟨h1, h2, h3⟩ := h
  cases e : lt b a with
  | false => rfl
  | true => rw [← h1 a]; exact (h2 _ _ _ k e).symm
theorem cmpK_lt {p q : K9} (h : keyLt p q = true) : cmpK p q = -1 := if_pos h
theorem cmpK_gt {p q : K9} (h : keyLt q p = true) : cmpK p q = 1 := by unfold cmpK; rw [if_neg (by rw [rises_key.asym h]; simp), if_pos h]
theorem cmpK_self (p : K9) : cmpK p p = 0 := by unfold cmpK; rw [rises_key.irr p]; simp
theorem cmpK_cases (p q : K9) : (keyLt p q = true ∧ cmpK p q = -1 ∧ cmpK q p = 1) ∨ (keyLt q p = true ∧ cmpK p q = 1 ∧ cmpK q p = -1) ∨ (p = q ∧ cmpK p q = 0) := by
  by_cases h : keyLt p q = true
  · exact .inl ⟨h, cmpK_lt h, cmpK_gt h⟩
  · by_cases g : keyLt q p = true
    · exact .inr (.inl ⟨g, cmpK_gt g, cmpK_lt g⟩)
    · right; right
      have e : p = q := by
        by_cases e : p = q
        · exact e
        · exact absurd (rises_key.tot p q e (by simpa using h)) g
      subst e
      exact ⟨rfl, cmpK_self p⟩
theorem cmpK_neg (p q : K9) : cmpK q p = - cmpK p q := by
  rcases cmpK_cases p q with ⟨_, h, g⟩ | ⟨_, h, g⟩ | ⟨e, h⟩
  · rw [h, g]; rfl
  · rw [h, g]
  · subst e; rw [h]; rfl
/-- The hour decides, or a dimension behind equal ones. -/
theorem key_hour {p q : K9} (h : p.h < q.h) : keyLt p q = true := by simp [keyLt, lexB, K9.tup, h]
theorem key_dim {p q : K9} {i : Nat} (hi : i < 4) (h0 : p.h = q.h) (he : ∀ k, k < i → p.dim k = q.dim k) (h : Op.bytesLess (p.dim i) (q.dim i) = true) : keyLt p q = true := by
  match i, hi with
  | 0, _ => simp only [K9.dim] at h; simp [keyLt, lexB, K9.tup, h0, h]
  | 1, _ =>
    have e0 := he 0 (by omega)
    simp only [K9.dim] at h e0
    simp [keyLt, lexB, K9.tup, h0, h, e0]
  | 2, _ =>
    have e0 := he 0 (by omega)
    have e1 := he 1 (by omega)
    simp only [K9.dim] at h e0 e1
    simp [keyLt, lexB, K9.tup, h0, h, e0, e1]
  | 3, _ =>
    have e0 := he 0 (by omega)
    have e1 := he 1 (by omega)
    have e2 := he 2 (by omega)
    simp only [K9.dim] at h e0 e1 e2
    simp [keyLt, lexB, K9.tup, h0, h, e0, e1, e2]
theorem key_same {p q : K9} (h0 : p.h = q.h) (he : ∀ k, k < 4 → p.dim k = q.dim k) : p = q := by
  have e0 := he 0 (by omega)
  have e1 := he 1 (by omega)
  have e2 := he 2 (by omega)
  have e3 := he 3 (by omega)
  cases p; cases q
  simp only [K9.dim] at e0 e1 e2 e3
  simp only [K9.mk.injEq]
  exact ⟨h0, e0, e1, e2, e3⟩
theorem bytes_same {a b : List UInt8} (h : Op.bytesLess a b = false) (g : Op.bytesLess b a = false) : a = b := by
  by_cases e : a = b
  · exact e
  · rw [rises_bytes.tot a b e h] at g
    cases g
theorem factLt_iff (f g : F9) : factLt f g = (decide (cmpK f.k g.k < 0) || (decide (cmpK f.k g.k = 0) && decide (f.v < g.v))) := by
  unfold factLt lexB
  rcases cmpK_cases f.k g.k with ⟨h, e, _⟩ | ⟨h, e, _⟩ | ⟨h, e⟩
  · rw [h, e]; rfl
  · rw [rises_key.asym h, e]
    have hne : f.k ≠ g.k := fun e2 => by rw [e2, rises_key.irr] at h; cases h
    simp [hne]
  · rw [e, h, rises_key.irr]
    simp

/-- What is wrong with a fact; of a batch: that, and where. -/
def okDims (n : Int) : Bool := decide (1 ≤ n) && decide (n ≤ 4)
def okText (n : Int) (i : Nat) (t : List UInt8) : Bool := decide (t.length ≤ 16) && (decide ((i : Int) < n) || t.isEmpty)
def okTexts (n : Int) (k : K9) : Bool := okText n 0 k.a && okText n 1 k.b && okText n 2 k.c && okText n 3 k.d
def chkF (f : F9) (n : Int) : Int :=
  if okDims n then if 0 ≤ f.k.h ∧ f.k.h ≤ 16777216 ∧ f.v ≤ 1152921504606846976 ∧ -1152921504606846976 ≤ f.v then if okTexts n f.k then 0 else 4 else 2 else 1
/-- The first wrong fact from place i on. -/
def badAt (n : Int) : List F9 → Nat → Int × Int
  | [], _ => (0, 0)
  | f :: t, i => if chkF f n = 0 then badAt n t (i + 1) else (chkF f n, (i : Int))
def allB (l : List F9) (n : Int) : Int × Int := if okDims n ∧ 1 ≤ l.length ∧ l.length ≤ 50 then badAt n l 0 else (1, 0)
theorem okTexts_all {n : Int} {k : K9} (h : ∀ i, i < 4 → okText n i (k.dim i) = true) : okTexts n k = true := by
  have e0 := h 0 (by omega)
  have e1 := h 1 (by omega)
  have e2 := h 2 (by omega)
  have e3 := h 3 (by omega)
  simp only [K9.dim] at e0 e1 e2 e3
  simp [okTexts, e0, e1, e2, e3]
theorem okTexts_not {n : Int} {k : K9} {i : Nat} (hi : i < 4) (h : okText n i (k.dim i) = false) : okTexts n k = false := by
  match i, hi with
  | 0, _ => simp only [K9.dim] at h; simp [okTexts, h]
  | 1, _ => simp only [K9.dim] at h; simp [okTexts, h]
  | 2, _ => simp only [K9.dim] at h; simp [okTexts, h]
  | 3, _ => simp only [K9.dim] at h; simp [okTexts, h]
theorem bad_step {n : Int} {l : List F9} {i : Nat} {f : F9} (h : l[i]? = some f) (hf : chkF f n = 0) : badAt n (l.drop i) i = badAt n (l.drop (i + 1)) (i + 1) := by
  obtain ⟨h0, e⟩ := List.getElem?_eq_some_iff.1 h
  rw [List.drop_eq_getElem_cons h0, e]
  simp [badAt, hf]
theorem bad_here {n : Int} {l : List F9} {i : Nat} {f : F9} (h : l[i]? = some f) (hf : chkF f n ≠ 0) : badAt n (l.drop i) i = (chkF f n, (i : Int)) := by
  obtain ⟨h0, e⟩ := List.getElem?_eq_some_iff.1 h
  rw [List.drop_eq_getElem_cons h0, e]
  simp [badAt, hf]

end Go.Proofs.Ytklpmajaihmmfaa

/-
  Words for memory: what a call may turn, a row of bytes that a call owns.
-/
namespace Go.Proofs.Ytklpmajaihmmfaa
open Go.RowKit

/-- From w to w' nothing has turned but blocks of S, and new ones. -/
structure Turn (S : Nat → Prop) (w w' : World) : Prop where
  os : w'.os = w.os
  tape : w'.tape = w.tape
  output : w'.output = w.output
  size : w.heap.size ≤ w'.heap.size
  block : ∀ k, k < w.heap.size → ¬ S k → w'.heap[k]? = w.heap[k]?

section
variable {S T : Nat → Prop} {a b c w w' : World}
theorem Turn.refl (S : Nat → Prop) (w : World) : Turn S w w := ⟨rfl, rfl, rfl, Nat.le_refl _, fun _ _ _ => rfl⟩
theorem Turn.trans (h : Turn S a b) (g : Turn T b c) (hs : ∀ k, k < a.heap.size → T k → S k) : Turn S a c :=
  ⟨g.os.trans h.os, g.tape.trans h.tape, g.output.trans h.output, Nat.le_trans h.size g.size,
    fun k hk hn => (g.block k (Nat.lt_of_lt_of_le hk h.size) (fun t => hn (hs k hk t))).trans (h.block k hk hn)⟩
theorem Turn.mono (h : Turn S a b) (hs : ∀ k, k < a.heap.size → S k → T k) : Turn T a b :=
  ⟨h.os, h.tape, h.output, h.size, fun k hk hn => h.block k hk (fun s => hn (hs k hk s))⟩
theorem Turn.drew (h : Turn S a w) : Turn S a w.drew := ⟨h.os, h.tape, h.output, h.size, h.block⟩
theorem Turn.drewN (h : Turn S a w) (n : Nat) : Turn S a (w.drewN n) := ⟨h.os, h.tape, h.output, h.size, h.block⟩
theorem Turn.alloc (h : Turn S a w) (o : Obj) : Turn S a (w.alloc o) :=
  ⟨h.os, h.tape, h.output, Nat.le_trans h.size (by simp), fun k hk hn => (Below.heap_alloc w o k (Nat.lt_of_lt_of_le hk h.size)).trans (h.block k hk hn)⟩
theorem Turn.setCell (h : Turn S a w) {p : Addr} (hp : p.block < a.heap.size → S p.block) (u : Value) : Turn S a (w.setCell p u) :=
  ⟨h.os, h.tape, h.output, Nat.le_trans h.size (by simp [World.setCell]), fun k hk hn =>
    (Below.heap_setCell w p u k (fun e => hn (by subst e; exact hp hk))).trans (h.block k hk hn)⟩
theorem Turn.grown (h : Turn S a w) {row : Option Nat} (hg : w.grownBy w' row) (hr : ∀ k, k < a.heap.size → row = some k → S k) : Turn S a w' :=
  ⟨hg.os.trans h.os, hg.tape.trans h.tape, hg.output.trans h.output, Nat.le_trans h.size hg.size,
    fun k hk hn => (hg.block k (Nat.lt_of_lt_of_le hk h.size) (fun e => hn (hr k hk e.symm))).trans (h.block k hk hn)⟩
theorem Turn.below (h : Turn S a b) {B : Nat} (hB : B ≤ a.heap.size) (hs : ∀ k, S k → B ≤ k) : Below B a b :=
  ⟨h.os, h.tape, h.output, h.size, fun k hk => h.block k (by omega) (fun s => by have := hs k s; omega)⟩
theorem Turn.cell (h : Turn S w w') {p : Addr} (hp : p.block < w.heap.size) (hn : ¬ S p.block) : w'.cell? p = w.cell? p := World.cell?_of_block (w := w) (h.block _ hp hn)
theorem Turn.frozen (h : Turn S w w') {p : Addr} (hp : p.block < w.heap.size) (hn : ¬ S p.block) : w'.frozen? p = w.frozen? p := World.frozen?_of_block (w := w) (h.block _ hp hn)
end

/-- A byte in memory. -/
def bv (b : UInt8) : Value := .int .u8 (b.toNat : Int)

/-- Block g is just the cells cs of type t, none frozen. -/
def Box (w : World) (g : Nat) (t : TypeId) (cs : Array Value) : Prop := w.heap[g]? = some (.cells cs t (0, 0))

section
variable {w w' : World} {g : Nat} {t : TypeId} {cs : Array Value}
theorem Box.lt (h : Box w g t cs) : g < w.heap.size := (Array.getElem?_eq_some_iff.1 h).1
theorem Box.cell (h : Box w g t cs) (i : Nat) : w.cell? ⟨g, i, none⟩ = cs[i]? := cell_of_row w g i cs t (0, 0) h
theorem Box.free (h : Box w g t cs) (i : Nat) : w.frozen? ⟨g, i, none⟩ = false := by
  unfold Box at h
  simp [World.frozen?, h]
theorem Box.alloc (h : Box w g t cs) (o : Obj) : Box (w.alloc o) g t cs := (Below.heap_alloc w o g h.lt).trans h
theorem Box.new (w : World) (t : TypeId) (cs : Array Value) : Box (w.alloc (.cells cs t)) w.heap.size t cs := heap_alloc_new w _
theorem Box.turn {S : Nat → Prop} (h : Box w g t cs) (ht : Turn S w w') (hn : ¬ S g) : Box w' g t cs := (ht.block g h.lt hn).trans h
theorem Box.grown {row : Option Nat} (h : Box w g t cs) (hg : w.grownBy w' row) (hn : some g ≠ row) : Box w' g t cs := (hg.block g h.lt hn).trans h
theorem Box.set (h : Box w g t cs) (i : Nat) (u : Value) : Box (w.setCell ⟨g, i, none⟩ u) g t (cs.setIfInBounds i u) := by
  unfold Box at h ⊢
  simp [World.setCell, Array.getElem?_modify, h]
theorem Box.far (h : Box w g t cs) {p : Addr} (hp : g ≠ p.block) (u : Value) : Box (w.setCell p u) g t cs := (Below.heap_setCell w p u g hp).trans h
end

/-- Slice value v, at the head of a row of its own, or nil: its bytes are l. -/
def By (w : World) (v : Value) (l : List UInt8) : Prop := w.ownsRow 0 5 1 v l.length (l.map bv)

section
variable {w w' : World} {v : Value} {l : List UInt8}
theorem By.nil (w : World) : By w (.slice none 0 0) [] := World.ownsRow_nil w 0 _ 1
theorem By.lt (h : By w v l) {k : Nat} (hk : v.ownBlock = some k) : k < w.heap.size := (World.ownsRow.lt h k hk).2
theorem By.turn {S : Nat → Prop} (h : By w v l) (ht : Turn S w w') (hn : ∀ k, v.ownBlock = some k → ¬ S k) : By w' v l := by
  refine ⟨h.1, ?_⟩
  rcases h.2 with h0 | ⟨g, cap, cur, rfl, hb, hg, rest⟩
  · exact .inl h0
  · exact .inr ⟨g, cap, cur, rfl, hb, (ht.block g (Array.getElem?_eq_some_iff.1 hg).1 (hn g rfl)).trans hg, rest⟩
theorem By.alloc (h : By w v l) (o : Obj) : By (w.alloc o) v l := h.turn ((Turn.refl (fun _ => False) w).alloc o) (fun _ _ f => f)
theorem By.grown {row : Option Nat} (h : By w v l) (hg : w.grownBy w' row) (hn : v.ownBlock = none ∨ v.ownBlock ≠ row) : By w' v l := World.ownsRow.kept h hg hn
theorem By.form (h : By w v l) : (v = .slice none 0 0 ∧ l = []) ∨ ∃ g cap cur, v = .slice (some ⟨g, 0, none⟩) l.length cap ∧ Box w g 5 cur ∧ l.length ≤ cap ∧ cap ≤ maxLen ∧ cur.size = cap ∧ cur.toList.take l.length = l.map bv := by
  rcases h.2 with ⟨h0, h1⟩ | ⟨g, cap, cur, hv, _, hg, hn, hm, hs, ht⟩
  · exact .inl ⟨h0, List.eq_nil_of_length_eq_zero h1⟩
  · exact .inr ⟨g, cap, cur, hv, hg, hn, hm, by simpa using hs, by simpa using ht⟩
theorem By.ne_box (h : By w v l) {g : Nat} {t : TypeId} {cs : Array Value} (hb : Box w g t cs) (hne : 5 ≠ t) : v.ownBlock ≠ some g := by
  rcases h.form with ⟨rfl, _⟩ | ⟨g', cap, cur, rfl, hb', _⟩
  · simp [Value.ownBlock]
  · intro e
    obtain rfl : g' = g := by simpa [Value.ownBlock] using e
    have e2 := hb'.symm.trans hb
    injection e2 with e2
    injection e2 with _ e3
    exact hne e3
theorem By.len_le (h : By w v l) : l.length ≤ maxLen := by
  rcases h.form with ⟨_, rfl⟩ | ⟨g, cap, cur, _, _, h1, h2, _⟩
  · simp
  · omega
end

theorem By.cap {w : World} {A : Option Addr} {n c : Nat} {l : List UInt8} (h : By w (.slice A n c) l) : n = l.length ∧ l.length ≤ c ∧ c ≤ maxLen ∧ (A = none → l = [] ∧ c = 0) ∧ ∀ ad, A = some ad → ad.off = 0 ∧ ad.spot = none := by
  rcases h.form with ⟨e, rfl⟩ | ⟨g, cap, cur, e, _, h1, h2, _⟩
  · injection e with e1 e2 e3
    subst e1 e2 e3
    exact ⟨rfl, by simp, by simp, fun _ => ⟨rfl, rfl⟩, fun _ e => by cases e⟩
  · injection e with e1 e2 e3
    subst e1 e2 e3
    exact ⟨rfl, h1, h2, (fun e => by cases e), fun ad e => by cases e; exact ⟨rfl, rfl⟩⟩

/-- append onto a row of one's own, or nil, of whatever is appended. -/
theorem run_app {P : Program} (w : World) (t tx ty e : TypeId) (i : TypeInfo) (z : Value) (ht : P.underlying t = some (.slice e)) (hi : P.info? e = some i) (hz : i.zero = some z)
    (hzs : z.cells.size = i.size) (v : Value) (n : Nat) (xs : List Value) (hown : w.ownsRow 0 e i.size v n xs) (x : Value) (m : Nat) (news : List Value) (hs : Src P i.size tx x m news w)
    (h63 : n + m ≤ maxLen) (hbytes : (n + m) * i.bytes ≤ 140737488355328) :
    ∃ A n' c w', (Builtin.append_ #[t, tx] ty #[v, x]).run P w = .ok (.slice A n' c) w' ∧ w'.ownsRow 0 e i.size (.slice A n' c) (n + m) (xs ++ news) ∧ w.grownBy w' v.ownBlock ∧
      ((Value.slice A n' c).ownBlock = v.ownBlock ∨ (Value.slice A n' c).ownBlock = some w.heap.size) := by
  have hlen : (xs ++ news).length = (n + m) * i.size := by rw [List.length_append, hown.1, hs.newsLen, Nat.add_mul]
  have hm1 : n + m ≤ 9223372036854775807 := by simp only [maxLen] at h63; omega
  have grow : ∀ (old : Nat), old < n + m → ∀ (row : Option Nat),
      (w.drew.alloc (.cells ((xs ++ news).toArray ++ Builtin.zeroCells z.cells (grownCap w (n + m) old e - (n + m))) e)).ownsRow 0 e i.size
        (.slice (some ⟨w.heap.size, 0, none⟩) (n + m) (grownCap w (n + m) old e)) (n + m) (xs ++ news) ∧
      w.grownBy (w.drew.alloc (.cells ((xs ++ news).toArray ++ Builtin.zeroCells z.cells (grownCap w (n + m) old e - (n + m))) e)) row := by
    intro old _ row
    have hge := grownCap_ge w (n + m) old e
    refine ⟨⟨hlen, .inr ⟨w.heap.size, _, _, rfl, Nat.zero_le _, heap_alloc_new w.drew _, hge, grownCap_le_maxLen w (n + m) old e h63, ?_, ?_⟩⟩, ⟨rfl, rfl, rfl, by simp, fun k hk _ => Below.heap_alloc w.drew _ k hk⟩⟩
    · rw [Array.size_append, size_zeroCells, hzs, List.size_toArray, hlen, ← Nat.add_mul]
      congr 1
      omega
    · rw [Array.toList_append, ← hlen]
      exact List.take_left
  rcases hown.2 with ⟨rfl, rfl⟩ | ⟨g, cap, cur, rfl, hb0, hg, hnc, hcm, hcs, htake⟩
  · have hx : xs = [] := List.eq_nil_of_length_eq_zero (by simpa using hown.1)
    subst hx
    by_cases hm : m = 0
    · subst hm
      have hn : news = [] := List.eq_nil_of_length_eq_zero (by simpa using hs.newsLen)
      subst hn
      refine ⟨none, 0, 0, w, ?_, World.ownsRow_nil w 0 e i.size, ⟨rfl, rfl, rfl, Nat.le_refl _, fun _ _ _ => rfl⟩, .inl rfl⟩
      rcases hs.kind with ⟨e', hk⟩ | hk <;> simp [Builtin.append_, run_underlying ht, run_underlying hk, sizeOf, typeInfo, hi, hs.len, hs.cells]
    · have hr := run_append_grow_src (P := P) w t tx ty e i z ht hi hz none 0 0 [] (run_firstCells_none w.drew i.size 0 0 0) x m news hs (by omega) (by omega) (growslice_fits (by omega) hbytes)
      have hgr := grow 0 (by omega) (Value.ownBlock (.slice none 0 0))
      exact ⟨_, _, _, _, hr, hgr.1, hgr.2, .inr rfl⟩
  · by_cases hroom : n + m ≤ cap
    · have hfit : n * i.size + news.length ≤ cur.size := by rw [hs.newsLen, hcs, ← Nat.add_mul]; exact Nat.mul_le_mul_right _ hroom
      have hst := run_storeCells_at P g (n * i.size) e news 0 cur w hg (by simpa using hfit) hs.one
      simp only [Nat.add_zero] at hst
      have hr : (Builtin.append_ #[t, tx] ty #[.slice (some ⟨g, 0, none⟩) n cap, x]).run P w =
          .ok (.slice (some ⟨g, 0, none⟩) (n + m) cap) (w.setRow g (cur.toList.take (n * i.size) ++ news ++ cur.toList.drop (n * i.size + news.length)).toArray) := by
        rcases hs.kind with ⟨e', hk⟩ | hk <;> simp [Builtin.append_, run_underlying ht, run_underlying hk, sizeOf, typeInfo, hi, hs.len, hs.cells, hroom, Addr.add_lit, hst]
      refine ⟨_, _, _, _, hr, ⟨hlen, .inr ⟨g, cap, _, rfl, hb0, setRow_heap w g cur _ e _ hg, hroom, hcm, ?_, ?_⟩⟩, ⟨rfl, rfl, rfl, by simp, fun k _ hk => setRow_other w g k _ (fun e => hk (by simp [Value.ownBlock, e]))⟩, .inl rfl⟩
      · simp only [List.size_toArray, List.length_append, List.length_take, List.length_drop, Array.length_toList]
        omega
      · rw [htake, ← hlen]
        exact List.take_left
    · have hold : (Builtin.firstCells i.size n (.slice (some ⟨g, 0, none⟩) n cap)).run P w.drew = .ok xs.toArray w.drew :=
        run_firstCells_some (P := P) w.drew i.size n ⟨g, 0, none⟩ n cap xs hown.1 (hown.cells (g := g) rfl)
      have hr := run_append_grow_src (P := P) w t tx ty e i z ht hi hz (some ⟨g, 0, none⟩) n cap xs hold x m news hs (by omega) (by omega) (growslice_fits (by omega) hbytes)
      have hgr := grow cap (by omega) (Value.ownBlock (.slice (some ⟨g, 0, none⟩) n cap))
      exact ⟨_, _, _, _, hr, hgr.1, hgr.2, .inr rfl⟩

theorem u8_info : (Try.prog.info? 5).map (fun i => (i.zero, i.size, i.bytes)) = some (some (.int .u8 0), 1, 1) := by kernel_rfl

/-- What is appended to bytes yields the bytes l. -/
def Yields (w : World) (tx : TypeId) (x : Value) (l : List UInt8) : Prop := Src Try.prog 1 tx x l.length (l.map bv) w

theorem bv_one (l : List UInt8) : ∀ u ∈ l.map bv, u.oneCell' = true := by
  intro u hu
  obtain ⟨b, _, rfl⟩ := List.mem_map.1 hu
  rfl

theorem yields_string (w : World) (s : ByteArray) : Yields w 9 (.string s) s.data.toList := by
  have h := Src.ofString (P := Try.prog) w (tx := 9) Try.underlying9 s
  have e : s.data.toList.length = s.size := by rw [Array.length_toList]; rfl
  unfold Yields
  rw [e]
  exact h

end Go.Proofs.Ytklpmajaihmmfaa

/-
  Slices of elements of any size: what they hold, wherever they lie; rows of a call's own; append. No type is named here.
-/
namespace Go.Proofs.Ytklpmajaihmmfaa
open Go.RowKit

/-- How an element stands in memory: its cells. -/
structure El (T : Type) where
  sz : Nat
  enc : T → List Value
  len : ∀ t, (enc t).length = sz
  one : ∀ t, ∀ u ∈ enc t, u.oneCell' = true

section
variable {T : Type} (E : El T)
/-- All cells of elements. -/
def El.flat (l : List T) : List Value := l.flatMap E.enc
theorem El.flat_nil : E.flat [] = [] := rfl
theorem El.flat_cons (t : T) (l : List T) : E.flat (t :: l) = E.enc t ++ E.flat l := rfl
theorem El.flat_append (l m : List T) : E.flat (l ++ m) = E.flat l ++ E.flat m := List.flatMap_append
theorem El.flat_len (l : List T) : (E.flat l).length = l.length * E.sz := by
  induction l with
  | nil => simp [El.flat]
  | cons t l ih => rw [El.flat_cons, List.length_append, ih, E.len, List.length_cons, Nat.add_mul, Nat.one_mul, Nat.add_comm]
theorem El.flat_one (l : List T) : ∀ u ∈ E.flat l, u.oneCell' = true := fun u hu => by
  obtain ⟨t, _, h⟩ := List.mem_flatMap.1 hu
  exact E.one t u h
theorem El.flat_at {l : List T} {j : Nat} {t : T} (hj : l[j]? = some t) {i : Nat} (hi : i < E.sz) : (E.flat l)[j * E.sz + i]? = (E.enc t)[i]? := by
  induction l generalizing j with
  | nil => cases hj
  | cons x l ih =>
    rw [El.flat_cons]
    cases j with
    | zero =>
      cases hj
      rw [Nat.zero_mul, Nat.zero_add, List.getElem?_append_left (by rw [E.len]; exact hi)]
    | succ j =>
      rw [List.getElem?_append_right (by rw [E.len, Nat.succ_mul]; omega), E.len, show (j + 1) * E.sz + i - E.sz = j * E.sz + i by rw [Nat.succ_mul]; omega]
      exact ih hj
theorem El.flat_take (l : List T) (n : Nat) : E.flat (l.take n) = (E.flat l).take (n * E.sz) := by
  induction l generalizing n with
  | nil => simp [El.flat]
  | cons x l ih =>
    cases n with
    | zero => simp [El.flat]
    | succ n =>
      rw [List.take_succ_cons, El.flat_cons, El.flat_cons, ih, List.take_append, E.len, Nat.succ_mul, Nat.add_sub_cancel, List.take_of_length_le (l := E.enc x) (by rw [E.len]; omega)]
theorem El.flat_drop (l : List T) (n : Nat) : E.flat (l.drop n) = (E.flat l).drop (n * E.sz) := by
  induction l generalizing n with
  | nil => simp [El.flat]
  | cons x l ih =>
    cases n with
    | zero => simp [El.flat]
    | succ n =>
      rw [List.drop_succ_cons, ih, El.flat_cons, List.drop_append, E.len, Nat.succ_mul, Nat.add_sub_cancel, List.drop_of_length_le (l := E.enc x) (by rw [E.len]; omega), List.nil_append]

/-- A slice value, wherever it lies: its elements are l. -/
def RdE (w : World) (v : Value) (l : List T) : Prop :=
  ∃ A c, v = .slice A l.length c ∧ (l.length ≤ c ∧ c ≤ maxLen) ∧ (A = none → l = [] ∧ c = 0) ∧ ∀ ad, A = some ad → ∀ i u, (E.flat l)[i]? = some u → w.cell? (ad.add i) = some u
end

section
variable {T : Type} {E : El T} {w w' : World} {v : Value} {l : List T}
theorem eadd_block (a : Addr) (n : Nat) : (a.add n).block = a.block := by unfold Addr.add; split <;> rfl
theorem eadd_add (a : Addr) (i j : Nat) : (a.add i).add j = a.add (i + j) := by
  unfold Addr.add
  by_cases hi : i = 0 <;> by_cases hj : j = 0 <;> simp [hi, hj, Nat.add_assoc]
theorem RdE.nil (w : World) : RdE E w (.slice none 0 0) [] := ⟨none, 0, rfl, ⟨Nat.le_refl _, Nat.zero_le _⟩, fun _ => ⟨rfl, rfl⟩, fun _ e => by cases e⟩
theorem RdE.turn {S : Nat → Prop} (h : RdE E w v l) (ht : Turn S w w') (hs : ∀ b, v.ownBlock = some b → ¬ S b) : RdE E w' v l := by
  obtain ⟨A, c, rfl, hk, hn, hc⟩ := h
  refine ⟨A, c, rfl, hk, hn, fun ad e i u hi => ?_⟩
  have h1 := hc ad e i u hi
  have hlt := World.block_lt_of_cell? w _ h1
  rw [ht.cell hlt (by subst e; rw [eadd_block]; exact hs _ rfl)]
  exact h1
theorem RdE.later (h : RdE E w v l) (ht : Turn (fun _ => False) w w') : RdE E w' v l := h.turn ht (fun _ _ f => f)
theorem RdE.shape (h : RdE E w v l) : ∃ A c, v = .slice A l.length c := by
  obtain ⟨A, c, e, _⟩ := h
  exact ⟨A, c, e⟩
theorem RdE.cells {A : Option Addr} {n c : Nat} (h : RdE E w (.slice A n c) l) {j : Nat} {t : T} (hj : l[j]? = some t) :
    ∃ ad, A = some ad ∧ ∀ i u, (E.enc t)[i]? = some u → w.cell? (ad.add (j * E.sz + i)) = some u := by
  obtain ⟨A', c', hv, _, hn, hc⟩ := h
  injection hv with h1 h2 h3
  subst h1
  cases A with
  | none =>
    obtain ⟨rfl, _⟩ := hn rfl
    cases hj
  | some ad =>
    refine ⟨ad, rfl, fun i u hu => hc ad rfl _ u ?_⟩
    have hi : i < E.sz := by
      have := (List.getElem?_eq_some_iff.1 hu).1
      rwa [E.len] at this
    rw [E.flat_at hj hi]
    exact hu
theorem RdE.fits {A : Option Addr} {n c : Nat} (h : RdE E w (.slice A n c) l) : n = l.length ∧ l.length ≤ c ∧ c ≤ maxLen ∧ (A = none → l = [] ∧ c = 0) := by
  obtain ⟨A', c', hv, hc, hn, _⟩ := h
  injection hv with h1 h2 h3
  subst h3 h1
  exact ⟨h2, hc.1, hc.2, hn⟩
theorem RdE.front {A : Option Addr} {n c : Nat} (h : RdE E w (.slice A n c) l) (m : Nat) (hm : m ≤ n) : RdE E w (.slice A m c) (l.take m) := by
  obtain ⟨A', c', hv, hc, hn, hx⟩ := h
  injection hv with h1 h2 h3
  subst h1 h2 h3
  have e : (l.take m).length = m := by rw [List.length_take]; omega
  refine ⟨A, c, by rw [e], ⟨by omega, hc.2⟩, (fun e => by rw [(hn e).1]; exact ⟨List.take_nil, (hn e).2⟩), fun ad e2 i u hi => ?_⟩
  rw [E.flat_take, List.getElem?_take] at hi
  split at hi
  · exact hx ad e2 i u hi
  · cases hi
theorem RdE.back {ad : Addr} {n c : Nat} (h : RdE E w (.slice (some ad) n c) l) (m : Nat) (hm : m ≤ n) : RdE E w (.slice (some (ad.add (m * E.sz))) (n - m) (c - m)) (l.drop m) := by
  obtain ⟨A', c', hv, hc, hn, hx⟩ := h
  injection hv with h1 h2 h3
  subst h1 h2 h3
  refine ⟨some (ad.add (m * E.sz)), c - m, by rw [List.length_drop], ⟨by rw [List.length_drop]; omega, by omega⟩, (fun e => by cases e), fun ad' e2 i u hi => ?_⟩
  injection e2 with e2
  subst e2
  rw [E.flat_drop, List.getElem?_drop] at hi
  rw [eadd_add]
  exact hx ad rfl _ u hi
/-- Behind a slice's whole capacity: nothing, wherever it is said to lie. -/
theorem RdE.none_left (A : Option Addr) (hA : A ≠ none) (w : World) (c : Nat) (hc : c ≤ maxLen) : RdE E w (.slice A 0 c) [] :=
  ⟨A, c, rfl, ⟨Nat.zero_le _, hc⟩, (fun e => absurd e hA), fun _ _ i u hi => by simp [El.flat] at hi⟩
theorem RdE.src {P : Program} {tx e' : TypeId} (hk : P.underlying tx = some (.slice e')) (h : RdE E w v l) : Src P E.sz tx v l.length (E.flat l) w := by
  obtain ⟨A, c, rfl, hc, hn, hx⟩ := h
  cases A with
  | none =>
    obtain ⟨rfl, rfl⟩ := hn rfl
    exact Src.ofNil (P := P) w hk 0
  | some ad => exact Src.ofSlice (P := P) w hk ad l.length c _ (E.flat_len l) (fun j u hj => hx ad rfl j u hj) (E.flat_one l)

/-- Slice value v, at the head of a row of a call's own, or nil: its elements, of type e, are l. -/
def OwE (E : El T) (e : TypeId) (w : World) (v : Value) (l : List T) : Prop := w.ownsRow 0 e E.sz v l.length (E.flat l)
variable {e : TypeId}
theorem OwE.nil (w : World) : OwE E e w (.slice none 0 0) [] := World.ownsRow_nil w 0 _ _
theorem OwE.lt (h : OwE E e w v l) {k : Nat} (hk : v.ownBlock = some k) : k < w.heap.size := (World.ownsRow.lt h k hk).2
theorem OwE.turn {S : Nat → Prop} (h : OwE E e w v l) (ht : Turn S w w') (hn : ∀ k, v.ownBlock = some k → ¬ S k) : OwE E e w' v l := by
  refine ⟨h.1, ?_⟩
  rcases h.2 with h0 | ⟨g, cap, cur, rfl, hb, hg, rest⟩
  · exact .inl h0
  · exact .inr ⟨g, cap, cur, rfl, hb, (ht.block g (Array.getElem?_eq_some_iff.1 hg).1 (hn g rfl)).trans hg, rest⟩
theorem OwE.later (h : OwE E e w v l) (ht : Turn (fun _ => False) w w') : OwE E e w' v l := h.turn ht (fun _ _ f => f)
theorem OwE.form (h : OwE E e w v l) : (v = .slice none 0 0 ∧ l = []) ∨ ∃ g cap cur, v = .slice (some ⟨g, 0, none⟩) l.length cap ∧ Box w g e cur ∧ l.length ≤ cap ∧ cap ≤ maxLen ∧ cur.size = cap * E.sz ∧ cur.toList.take (l.length * E.sz) = E.flat l := by
  rcases h.2 with ⟨h0, h1⟩ | ⟨g, cap, cur, hv, _, hg, hn, hm, hs, ht⟩
  · exact .inl ⟨h0, List.eq_nil_of_length_eq_zero h1⟩
  · exact .inr ⟨g, cap, cur, hv, hg, hn, hm, hs, ht⟩
theorem own_add (g i : Nat) : (⟨g, 0, none⟩ : Addr).add i = ⟨g, i, none⟩ := by unfold Addr.add; split <;> simp_all
theorem OwE.rd (h : OwE E e w v l) : RdE E w v l := by
  rcases h.form with ⟨rfl, rfl⟩ | ⟨g, cap, cur, rfl, hb, h1, h2, h3, h4⟩
  · exact RdE.nil w
  · refine ⟨_, _, rfl, ⟨h1, h2⟩, (fun e => by cases e), fun ad e i u hi => ?_⟩
    cases e
    rw [own_add, hb.cell]
    rw [← h4, List.getElem?_take] at hi
    split at hi
    · simpa using hi
    · cases hi
theorem OwE.shape (h : OwE E e w v l) : ∃ A c, v = .slice A l.length c := h.rd.shape
theorem OwE.not_box {g : Nat} {t : TypeId} {cs : Array Value} (h : OwE E e w v l) (hb : Box w g t cs) (hne : e ≠ t) : v.ownBlock ≠ some g := by
  rcases h.form with ⟨rfl, _⟩ | ⟨g', cap, cur, rfl, hb', _⟩
  · simp [Value.ownBlock]
  · intro e1
    obtain rfl : g' = g := by simpa [Value.ownBlock] using e1
    have e2 := hb'.symm.trans hb
    injection e2 with e2
    injection e2 with _ e3
    exact hne e3
/-- A block that was just laid out whole. -/
theorem OwE.made (w : World) (l : List T) (hm : l.length ≤ maxLen) : OwE E e (w.alloc (.cells (E.flat l).toArray e)) (.slice (some ⟨w.heap.size, 0, none⟩) l.length l.length) l :=
  ⟨E.flat_len l, .inr ⟨w.heap.size, l.length, _, rfl, Nat.zero_le _, heap_alloc_new w _, Nat.le_refl _, hm, by rw [List.size_toArray, E.flat_len], by rw [List.take_of_length_le (by simp [E.flat_len])]⟩⟩
end

/-- append onto a row of one's own: at the operation, for the walk. -/
theorem wpList_appE {P : Program} {T : Type} {E : El T} {tS e : TypeId} {z : Value} {by' : Nat} (ht : P.underlying tS = some (.slice e)) (hi0 : (P.info? e).map (fun i => (i.zero, i.size, i.bytes)) = some (some z, E.sz, by')) (hz : z.cells.size = E.sz)
    (w : World) {ops : Array Oper} {rest : List Oper} {o : Oper} {a : Act} {Q : Exit → Act → World → Prop} (hgd : o.guard = none) (s x : Operand) (tx : TypeId)
    (ho : o.op = .call { callee := .builtin .append, args := #[s, x], argTypes := #[tS, tx] }) (v : Value) (l : List T) (hs : a.eval s = v) (hown : OwE E e w v l)
    (y : Value) (hx : a.eval x = y) (m : List T) (hy : Src P E.sz tx y m.length (E.flat m) w) (hl : l.length + m.length ≤ maxLen) (hb : (l.length + m.length) * by' ≤ 140737488355328)
    (h : ∀ A n c w', OwE E e w' (.slice A n c) (l ++ m) → Turn (fun k => v.ownBlock = some k) w w' → ((Value.slice A n c).ownBlock = v.ownBlock ∨ (Value.slice A n c).ownBlock = some w.heap.size) → wpList P ops Q rest (a.put o.dst (.slice A n c)) w') :
    wpList P ops Q (o :: rest) a w := by
  refine wpList_plain hgd fun K hK => ?_
  obtain ⟨i, hi, hz0, h1, h2⟩ := info_parts hi0
  unfold OwE at hown
  rw [← h1] at hown hy
  obtain ⟨A, n, c, w', hr, g1, g2, g3⟩ := run_app (P := P) w tS tx o.type e i z ht hi hz0 (by rw [h1]; exact hz) v l.length _ hown y m.length _ hy hl (by rw [h2]; exact hb)
  unfold Oper.wp execOp
  simp only [ho, resolve, invoke, builtin, Sem.run_bind, Sem.run_pure, Result.andThen_ok, List.map_toArray, List.map_cons, List.map_nil, hs, hx, hr]
  refine hK _ _ (h A n c w' ?_ ((Turn.refl _ w).grown g2 (fun k _ e => e)) g3)
  unfold OwE
  rw [List.length_append, E.flat_append, ← h1]
  exact g1

/-- The same as one step of a region that draws. -/
theorem step_appE {P : Program} {T : Type} {E : El T} {tS e : TypeId} {z : Value} {by' : Nat} (ht : P.underlying tS = some (.slice e)) (hi0 : (P.info? e).map (fun i => (i.zero, i.size, i.bytes)) = some (some z, E.sz, by')) (hz : z.cells.size = E.sz)
    (w : World) {ops : Array Oper} {o : Oper} {a : Act} {K : Act → World → Prop} {Q : Exit → Act → World → Prop} {F : Prop} (hgd : o.guard = none) (s x : Operand) (tx : TypeId)
    (ho : o.op = .call { callee := .builtin .append, args := #[s, x], argTypes := #[tS, tx] }) (v : Value) (l : List T) (hs : a.eval s = v) (hown : OwE E e w v l)
    (y : Value) (hx : a.eval x = y) (m : List T) (hy : Src P E.sz tx y m.length (E.flat m) w) (hl : l.length + m.length ≤ maxLen) (hb : (l.length + m.length) * by' ≤ 140737488355328)
    (h : ∀ A n c w', OwE E e w' (.slice A n c) (l ++ m) → Turn (fun k => v.ownBlock = some k) w w' → ((Value.slice A n c).ownBlock = v.ownBlock ∨ (Value.slice A n c).ownBlock = some w.heap.size) → K (a.put o.dst (.slice A n c)) w') :
    if Region.wanted o (yielded ops a.tmps) = true then Oper.wp P o a w K Q else F := by
  have hw : Region.wanted o (yielded ops a.tmps) = true := by simp [Region.wanted, hgd]
  rw [if_pos hw]
  obtain ⟨i, hi, hz0, h1, h2⟩ := info_parts hi0
  unfold OwE at hown
  rw [← h1] at hown hy
  obtain ⟨A, n, c, w', hr, g1, g2, g3⟩ := run_app (P := P) w tS tx o.type e i z ht hi hz0 (by rw [h1]; exact hz) v l.length _ hown y m.length _ hy hl (by rw [h2]; exact hb)
  unfold Oper.wp execOp
  simp only [ho, resolve, invoke, builtin, Sem.run_bind, Sem.run_pure, Result.andThen_ok, List.map_toArray, List.map_cons, List.map_nil, hs, hx, hr]
  refine h A n c w' ?_ ((Turn.refl _ w).grown g2 (fun k _ e => e)) g3
  unfold OwE
  rw [List.length_append, E.flat_append, ← h1]
  exact g1

end Go.Proofs.Ytklpmajaihmmfaa

/-
  Bytes: a slice that reads as bytes, wherever it lies; bytes that a call made. No function is named here.
-/
namespace Go.Proofs.Ytklpmajaihmmfaa
open Go.RowKit

theorem ret_int {k : IntKind} {a b : Int} (h : a = b) : Ending.returned (.int k a) = .returned (.int k b) := by rw [h]
theorem ret_bool {a b : Bool} (h : a = b) : Ending.returned (.bool a) = .returned (.bool b) := by rw [h]

theorem By.empty (w : World) : By (w.alloc (.cells #[] 5)) (.slice (some ⟨w.heap.size, 0, none⟩) 0 0) [] :=
  World.ownsRow_made w #[] 0 (Nat.zero_le _) (by simp [maxLen]) rfl

/-- A slice value, wherever it lies: its bytes are l. -/
def Rd (w : World) (v : Value) (l : List UInt8) : Prop :=
  ∃ A c, v = .slice A l.length c ∧ (l.length ≤ c ∧ c ≤ maxLen) ∧ (A = none → l = [] ∧ c = 0) ∧ ∀ ad, A = some ad → ∀ j b, l[j]? = some b → w.cell? (ad.add j) = some (bv b)

theorem add_block (a : Addr) (n : Nat) : (a.add n).block = a.block := by unfold Addr.add; split <;> rfl

section
variable {w w' : World} {v : Value} {l : List UInt8}
theorem By.rd (h : By w v l) : Rd w v l := by
  rcases h.form with ⟨rfl, rfl⟩ | ⟨g, cap, cur, rfl, hb, h1, h2, _, ht⟩
  · exact ⟨none, 0, rfl, ⟨Nat.le_refl _, Nat.zero_le _⟩, fun _ => ⟨rfl, rfl⟩, fun _ e => by cases e⟩
  · refine ⟨_, _, rfl, ⟨h1, h2⟩, (fun e => by cases e), fun ad e j b hj => ?_⟩
    cases e
    have := World.ownsRow.cells h (g := g) rfl j (bv b) (by simp [hj])
    exact this
theorem Rd.turn {S : Nat → Prop} (h : Rd w v l) (ht : Turn S w w') (hs : ∀ k, v.ownBlock = some k → ¬ S k) : Rd w' v l := by
  obtain ⟨A, c, rfl, hk, hn, hc⟩ := h
  refine ⟨A, c, rfl, hk, hn, fun ad e j b hj => ?_⟩
  have h1 := hc ad e j b hj
  have hlt := World.block_lt_of_cell? w _ h1
  rw [ht.cell hlt (by subst e; rw [add_block]; exact hs _ rfl)]
  exact h1
theorem Rd.later (h : Rd w v l) (ht : Turn (fun _ => False) w w') : Rd w' v l := h.turn ht (fun _ _ f => f)
theorem Rd.at {A : Option Addr} {n c : Nat} (h : Rd w (.slice A n c) l) {k : Nat} {b : UInt8} (hk : l[k]? = some b) : ∃ ad, A = some ad ∧ w.cell? (ad.add k) = some (.int .u8 (b.toNat : Int)) := by
  obtain ⟨A', c', hv, _, hn, hc⟩ := h
  injection hv with h1 h2 h3
  subst h1
  cases A with
  | none =>
    obtain ⟨rfl, _⟩ := hn rfl
    cases hk
  | some ad => exact ⟨ad, rfl, hc ad rfl k b hk⟩
end

section
variable {w : World} {ad : Addr} {n c : Nat} {l : List UInt8}
theorem add_of_add (a : Addr) (i j : Nat) : (a.add i).add j = a.add (i + j) := by
  unfold Addr.add
  by_cases hi : i = 0 <;> by_cases hj : j = 0 <;> simp [hi, hj, Nat.add_assoc]
theorem Rd.front {A : Option Addr} (h : Rd w (.slice A n c) l) (k : Nat) (hk : k ≤ n) : Rd w (.slice A k c) (l.take k) := by
  obtain ⟨A', c', hv, hc, hn, hx⟩ := h
  injection hv with h1 h2 h3
  subst h1 h2 h3
  have e : (l.take k).length = k := by rw [List.length_take]; omega
  refine ⟨A, c, by rw [e], ⟨by omega, hc.2⟩, (fun e => by rw [(hn e).1]; exact ⟨List.take_nil, (hn e).2⟩), fun ad e2 j b hj => ?_⟩
  rw [List.getElem?_take] at hj
  split at hj
  · exact hx ad e2 j b hj
  · cases hj
theorem Rd.back (h : Rd w (.slice (some ad) n c) l) (k : Nat) (hk : k ≤ n) : Rd w (.slice (some (ad.add k)) (n - k) (c - k)) (l.drop k) := by
  obtain ⟨A', c', hv, hc, hn, hx⟩ := h
  injection hv with h1 h2 h3
  subst h1 h2 h3
  refine ⟨some (ad.add k), c - k, by rw [List.length_drop], ⟨by rw [List.length_drop]; omega, by omega⟩, (fun e => by cases e), fun ad' e2 j b hj => ?_⟩
  injection e2 with e2
  subst e2
  rw [List.getElem?_drop] at hj
  rw [add_of_add]
  exact hx ad rfl _ b hj
theorem Rd.some_at {A : Option Addr} (h : Rd w (.slice A n c) l) (h0 : 0 < l.length) : ∃ ad, A = some ad := by
  obtain ⟨b, hb⟩ : ∃ b, l[0]? = some b := ⟨_, List.getElem?_eq_getElem h0⟩
  obtain ⟨ad, e, _⟩ := h.at hb
  exact ⟨ad, e⟩
theorem Rd.fits {A : Option Addr} (h : Rd w (.slice A n c) l) : n = l.length ∧ l.length ≤ c ∧ c ≤ maxLen := by
  obtain ⟨A', c', hv, hc, _⟩ := h
  injection hv with h1 h2 h3
  subst h3
  exact ⟨h2, hc⟩
end

section
open Go.ChangeShapes Go.WideShapes Go.Deep
end

theorem By.made (w : World) (l : List UInt8) (hl : l.length ≤ maxLen) : By (w.alloc (.cells (l.map bv).toArray 5)) (.slice (some ⟨w.heap.size, 0, none⟩) l.length l.length) l := by
  refine ⟨by simp, .inr ⟨w.heap.size, l.length, (l.map bv).toArray, rfl, Nat.zero_le _, heap_alloc_new w _, Nat.le_refl _, hl, by simp, by simp; exact List.take_of_length_le (by simp)⟩⟩

/-- Behind a call that makes bytes of its own. -/
def Made (w w' : World) (v : Value) (l : List UInt8) : Prop := By w' v l ∧ Turn (fun _ => False) w w' ∧ ∀ k, v.ownBlock = some k → w.heap.size ≤ k

theorem Below.turned {w w' : World} (h : Below w.heap.size w w') : Turn (fun _ => False) w w' := ⟨h.os, h.tape, h.output, h.size, fun k hk _ => h.block k hk⟩

/-- A row of bytes l, with room for n more, of which k are put. -/
def room (l m : List UInt8) (k : Nat) : Array Value := ((l ++ (m.take k ++ List.replicate (m.length - k) 0)).map bv).toArray

theorem room_set (l m : List UInt8) (k : Nat) (x : UInt8) (hx : m[k]? = some x) : (room l m k).setIfInBounds (l.length + k) (.int .u8 (x.toNat : Int)) = room l m (k + 1) := by
  obtain ⟨hk, e⟩ := List.getElem?_eq_some_iff.1 hx
  have e1 : m.length - k = (m.length - (k + 1)) + 1 := by omega
  have e2 : m.take (k + 1) ++ List.replicate (m.length - (k + 1)) 0 = (m.take k ++ List.replicate (m.length - k) 0).set k x := by
    rw [List.take_succ_eq_append_getElem hk, e, e1, List.replicate_succ, List.set_append_right _ _ (by rw [List.length_take]; omega), List.length_take, Nat.min_eq_left (by omega), Nat.sub_self, List.set_cons_zero, List.append_assoc]
    rfl
  unfold room
  rw [e2]
  have e3 : (l ++ (m.take k ++ List.replicate (m.length - k) 0)).set (l.length + k) x = l ++ (m.take k ++ List.replicate (m.length - k) 0).set k x := by
    rw [List.set_append_right _ _ (by omega), Nat.add_sub_cancel_left]
  rw [← e3, List.map_set, List.setIfInBounds_toArray]
  rfl
theorem room_at (l m : List UInt8) (k : Nat) (h : k < m.length) : (room l m k)[l.length + k]? = some (.int .u8 0) := by
  unfold room
  rw [List.getElem?_toArray, List.getElem?_map, List.getElem?_append_right (by omega), Nat.add_sub_cancel_left, List.getElem?_append_right (by rw [List.length_take]; omega), List.length_take, Nat.min_eq_left (by omega), Nat.sub_self,
    List.getElem?_replicate, if_pos (by omega)]
  rfl
theorem room_zero (l m : List UInt8) : (splice (madeCells #[.int .u8 0] (l.length + m.length)).toList 0 (l.map bv)).toArray = room l m 0 := by
  unfold splice room
  rw [toList_madeCells_one]
  simp [bv]
theorem room_all (l m : List UInt8) : room l m m.length = ((l ++ m).map bv).toArray := by
  unfold room
  simp
theorem Box.by {w : World} {g : Nat} {l : List UInt8} (h : Box w g 5 (l.map bv).toArray) (hl : l.length ≤ maxLen) : By w (.slice (some ⟨g, 0, none⟩) l.length l.length) l :=
  ⟨by simp, .inr ⟨g, l.length, (l.map bv).toArray, rfl, Nat.zero_le _, h, Nat.le_refl _, hl, by simp, by simp; exact List.take_of_length_le (by simp)⟩⟩

theorem u8_size : (Try.prog.info? 5).map (·.size) = some 1 := by kernel_rfl

theorem copy_src {w : World} {A : Option Addr} {n c : Nat} {l : List UInt8} {X : List Value} {B : Obj} (h : Rd w (.slice A n c) l) (hX : X = l.map bv) (h0 : 0 < l.length) :
    ∃ ad, A = some ad ∧ ∀ j v, X[j]? = some v → (w.alloc B).cell? (ad.add j) = some v := by
  obtain ⟨A', c', hv, _, hn, hc⟩ := h
  injection hv with h1 h2 h3
  subst h1
  cases A with
  | none =>
    obtain ⟨rfl, _⟩ := hn rfl
    exact absurd h0 (by simp)
  | some ad =>
    refine ⟨ad, rfl, fun j v hj => ?_⟩
    rw [hX, List.getElem?_map] at hj
    cases hb : l[j]? with
    | none => rw [hb] at hj; cases hj
    | some b =>
      rw [hb] at hj
      cases hj
      have h1 := hc ad rfl j b hb
      rw [World.cell?_alloc_lt w B _ (World.block_lt_of_cell? w _ h1)]
      exact h1

theorem Made.rd {w w' : World} {v : Value} {l : List UInt8} (h : Made w w' v l) : Rd w' v l := h.1.rd

theorem made_app {w w1 w2 w3 : World} {A A' : Option Addr} {n c n' c' B : Nat} {l m : List UInt8} (h : Made w w1 (.slice A n c) l) (ht : Turn (fun _ => False) w1 w2) (hb : By w3 (.slice A' n' c') m)
    (hg : w2.grownBy w3 (Value.slice A n c).ownBlock) (ha : (Value.slice A' n' c').ownBlock = (Value.slice A n c).ownBlock ∨ (Value.slice A' n' c').ownBlock = some B) (hB : w2.heap.size = B) : Made w w3 (.slice A' n' c') m := by
  have h1 : Turn (fun _ => False) w w2 := h.2.1.trans ht (fun _ _ f => f)
  refine ⟨hb, h1.grown hg (fun k hk e => ?_), fun k hk => ?_⟩
  · have := h.2.2 k e
    omega
  · rcases ha with e | e
    · exact h.2.2 k (by rw [← e]; exact hk)
    · rw [e] at hk
      have := h1.size
      injection hk with hk
      omega
theorem By.shape {w : World} {v : Value} {l : List UInt8} (h : By w v l) : ∃ A c, v = .slice A l.length c := by
  rcases h.form with ⟨rfl, rfl⟩ | ⟨g, cap, cur, rfl, _⟩
  · exact ⟨_, _, rfl⟩
  · exact ⟨_, _, rfl⟩
theorem made_empty (w : World) : Made w (w.alloc (.cells #[] 5)) (.slice (some ⟨w.heap.size, 0, none⟩) 0 0) [] :=
  ⟨By.empty w, (Turn.refl _ w).alloc _, fun k hk => by
    have : w.heap.size = k := by simpa [Value.ownBlock] using hk
    omega⟩

theorem Rd.none (w : World) : Rd w (.slice none 0 0) [] := (By.nil w).rd
theorem Rd.drewN {w : World} {v : Value} {l : List UInt8} (h : Rd w v l) (k : Nat) : Rd (w.drewN k) v l := h.later ((Turn.refl _ w).drewN k)
theorem Rd.drew {w : World} {v : Value} {l : List UInt8} (h : Rd w v l) : Rd w.drew v l := h.later (Turn.refl _ w).drew
theorem quiet_left {P : Program} {f : FuncId} {args : Array Value} {w : World} {n : Nat} {v : Value}
    (h : Calls P f args (w.drewN n) fun e w' => e = .returned v ∧ w.drewN n = w') : Calls P f args (w.drewN n) fun e w'' => e = .returned v ∧ ∃ m, w'' = w.drewN m :=
  h.mono fun _ _ ⟨he, hm⟩ => ⟨he, n, hm.symm⟩

theorem splice_full {M X : List Value} (h : M.length = X.length) : splice M 0 X = X := by
  unfold splice
  rw [List.take_zero, List.nil_append, Nat.zero_add, ← h, List.drop_length, List.append_nil]

theorem Rd.shape {w : World} {v : Value} {l : List UInt8} (h : Rd w v l) : ∃ A c, v = .slice A l.length c := by
  obtain ⟨A, c, e, _⟩ := h
  exact ⟨A, c, e⟩
/-- A call that turns only what is new since w. -/
theorem Turn.fresh {S : Nat → Prop} {w w1 w2 : World} (h : Turn (fun _ => False) w w1) (g : Turn S w1 w2) (hs : ∀ k, S k → w.heap.size ≤ k) : Turn (fun _ => False) w w2 :=
  h.trans g (fun k hk s => by have := hs k s; omega)

theorem By.set {w : World} {g n c : Nat} {l : List UInt8} (h : By w (.slice (some ⟨g, 0, none⟩) n c) l) (i : Nat) (y : UInt8) : By (w.setCell ⟨g, i, none⟩ (bv y)) (.slice (some ⟨g, 0, none⟩) n c) (l.set i y) := by
  rcases h.form with ⟨e, _⟩ | ⟨g', cap, cur, e, hb, h1, h2, h3, h4⟩
  · cases e
  · injection e with e1 e2 e3
    injection e1 with e1
    injection e1 with e1
    subst e1 e2 e3
    refine ⟨by simp, .inr ⟨g, c, cur.setIfInBounds i (bv y), by rw [List.length_set], Nat.zero_le _, hb.set i (bv y), by rw [List.length_set]; exact h1, h2, by simpa using h3, ?_⟩⟩
    rw [List.length_set, Nat.mul_one, Array.toList_setIfInBounds, List.take_set, h4, List.map_set]
theorem By.cells {w : World} {g n c : Nat} {l : List UInt8} (h : By w (.slice (some ⟨g, 0, none⟩) n c) l) {i : Nat} {x : UInt8} (hx : l[i]? = some x) : w.cell? ⟨g, i, none⟩ = some (.int .u8 (x.toNat : Int)) := by
  obtain ⟨ad, e, hc⟩ := h.rd.at hx
  cases e
  have e1 : (⟨g, 0, none⟩ : Addr).add i = ⟨g, i, none⟩ := by unfold Addr.add; split <;> simp_all
  rw [e1] at hc
  exact hc
theorem By.free {w : World} {g n c : Nat} {l : List UInt8} (h : By w (.slice (some ⟨g, 0, none⟩) n c) l) (i : Nat) : w.frozen? ⟨g, i, none⟩ = false := by
  rcases h.form with ⟨e, _⟩ | ⟨g', cap, cur, e, hb, _⟩
  · cases e
  · injection e with e1 e2 e3
    injection e1 with e1
    injection e1 with e1
    subst e1
    exact hb.free i
theorem By.block {w : World} {A : Option Addr} {n c : Nat} {l : List UInt8} (h : By w (.slice A n c) l) (h0 : 0 < l.length) : ∃ g, A = some ⟨g, 0, none⟩ := by
  rcases h.form with ⟨_, rfl⟩ | ⟨g', cap, cur, e, _⟩
  · cases h0
  · injection e with e1
    exact ⟨g', e1⟩

end Go.Proofs.Ytklpmajaihmmfaa

/-
  Rows of elements of any size, new since a world; tails of slices of any size. No type is named here.
-/
namespace Go.Proofs.Ytklpmajaihmmfaa
open Go.RowKit

section
variable {T : Type} {E : El T} {e : TypeId}
/-- The tail of a slice from place U on, in whatever shape it is cut. -/
def TailE (E : El T) (A : Option Addr) (n c U : Nat) (v : Value) : Prop :=
  (A = none ∧ v = .slice none 0 0) ∨ (∃ ad, A = some ad ∧ ¬ c ≤ U ∧ v = .slice (some (ad.add (U * E.sz))) (n - U) (c - U)) ∨ (∃ ad, A = some ad ∧ c ≤ U ∧ v = .slice (some ad) (n - U) 0)
theorem tailE_rd {w : World} {A : Option Addr} {c U : Nat} {L : List T} (h : RdE E w (.slice A L.length c) L) (hU : U ≤ L.length) (w' : World) (ht : Turn (fun _ => False) w w') {v : Value}
    (hv : TailE E A L.length c U v) : RdE E w' v (L.drop U) := by
  have hf := h.fits
  rcases hv with ⟨rfl, rfl⟩ | ⟨ad, rfl, _, rfl⟩ | ⟨ad, rfl, hc, rfl⟩
  · rw [(hf.2.2.2 rfl).1, List.drop_nil]
    exact RdE.nil w'
  · exact (h.back U hU).later ht
  · have e : L.drop U = [] := List.eq_nil_of_length_eq_zero (by rw [List.length_drop]; omega)
    rw [e, show L.length - U = 0 by omega]
    exact RdE.none_left _ (by simp) w' 0 (Nat.zero_le _)
theorem frontE_rd {w : World} {A : Option Addr} {c P : Nat} {L : List T} (h : RdE E w (.slice A L.length c) L) (hP : P ≤ L.length) (w' : World) (ht : Turn (fun _ => False) w w') :
    RdE E w' (.slice A P c) (L.take P) := (h.front P hP).later ht
/-- A row of a call's own, new since w. -/
structure NewE (E : El T) (e : TypeId) (w w' : World) (v : Value) (L : List T) : Prop where
  own : OwE E e w' v L
  new : ∀ k, v.ownBlock = some k → w.heap.size ≤ k
  turn : Turn (fun _ => False) w w'
theorem NewE.start (w : World) (n : Nat) : NewE E e w (w.drewN n) (.slice none 0 0) [] := ⟨OwE.nil _, (fun k e => by simp [Value.ownBlock] at e), (Turn.refl _ w).drewN n⟩
theorem NewE.empty (w w0 : World) (h : Turn (fun _ => False) w w0) : NewE E e w (w0.alloc (.cells #[] e)) (.slice (some ⟨w0.heap.size, 0, none⟩) 0 0) [] :=
  ⟨OwE.made (E := E) w0 [] (Nat.zero_le _), (fun k e => Nat.le_trans h.size (Nat.le_of_eq (by simpa [Value.ownBlock] using e))), h.alloc _⟩
theorem NewE.step {w w1 w2 : World} {v v2 : Value} {L M : List T} (h : NewE E e w w1 v L) (ho : OwE E e w2 v2 M) (ht : Turn (fun k => v.ownBlock = some k) w1 w2) (hn : v2.ownBlock = v.ownBlock ∨ v2.ownBlock = some w1.heap.size) : NewE E e w w2 v2 M := by
  refine ⟨ho, fun k hk => ?_, h.turn.trans ht (fun k hk e => ?_)⟩
  · rcases hn with e | e
    · exact h.new k (by rw [← e]; exact hk)
    · rw [hk] at e
      cases e
      exact h.turn.size
  · have := h.new k e
    omega
theorem NewE.alloc {w w1 : World} {v : Value} {L : List T} (h : NewE E e w w1 v L) (o : Obj) : NewE E e w (w1.alloc o) v L :=
  ⟨h.own.later ((Turn.refl _ w1).alloc o), h.new, h.turn.alloc o⟩
theorem NewE.later {w w1 w2 : World} {v : Value} {L : List T} (h : NewE E e w w1 v L) (ht : Turn (fun _ => False) w1 w2) : NewE E e w w2 v L :=
  ⟨h.own.later ht, h.new, h.turn.trans ht (fun _ _ f => f)⟩
end

end Go.Proofs.Ytklpmajaihmmfaa

/-
  A region that draws its order and some of whose operations, the late ones (stores), wait for all that read: a condition on the world holds till then. No type is named here.
-/
namespace Go.Proofs.Ytklpmajaihmmfaa
open Go.RowKit

section
variable {P : Program} {ops : Array Oper} {Q : Exit → Act → World → Prop} {md : Region.Mode} {S : World → Prop} {zs : List Nat}

/-- What is listed has all listed that it waits for. -/
def Shutd (md : Region.Mode) (ops : Array Oper) (listed : Array Bool) : Prop :=
  ∀ k o, ops[k]? = some o → listed.getD k false = true → ∀ e ∈ o.after, Region.binds md e = true → listed.getD e.on false = true
theorem Shutd.start : Shutd md ops (Array.replicate ops.size false) := fun k o ho h => by
  have hk := (Array.getElem?_eq_some_iff.1 ho).1
  simp [hk] at h
theorem Shutd.step {listed : Array Bool} {i : Nat} (h : Shutd md ops listed) (hi : i ∈ Region.ready md ops listed) : Shutd md ops (listed.setIfInBounds i true) := fun k o ho hk e he hb => by
  by_cases e1 : i = k
  · subst e1
    obtain ⟨_, o', ho', hall⟩ := mem_ready.1 hi
    rw [ho] at ho'
    cases ho'
    exact getD_set_true (hall e he hb)
  · rw [getD_set_ne false e1] at hk
    exact getD_set_true (h k o ho hk e he hb)
/-- Operation k waits for i, in so many steps at most. -/
def waitsB (md : Region.Mode) (ops : Array Oper) : Nat → Nat → Nat → Bool
  | 0, _, _ => false
  | f + 1, k, i => match ops[k]? with
    | none => false
    | some o => o.after.any fun e => Region.binds md e && (e.on == i || waitsB md ops f e.on i)
theorem waits_listed {listed : Array Bool} (h : Shutd md ops listed) : ∀ (f k i : Nat), waitsB md ops f k i = true →
    (∃ o, ops[k]? = some o ∧ ∀ e ∈ o.after, Region.binds md e = true → listed.getD e.on false = true) → listed.getD i false = true
  | 0, _, _, hw, _ => by simp [waitsB] at hw
  | f + 1, k, i, hw, ⟨o, ho, hall⟩ => by
    simp only [waitsB, ho] at hw
    obtain ⟨e, he, hb⟩ := Array.any_eq_true'.1 hw
    simp only [Bool.and_eq_true, Bool.or_eq_true, beq_iff_eq] at hb
    have hl := hall e he hb.1
    rcases hb.2 with e1 | e1
    · rw [← e1]; exact hl
    · refine waits_listed h f e.on i e1 ?_
      cases ho2 : ops[e.on]? with
      | none =>
        cases f with
        | zero => simp [waitsB] at e1
        | succ f => simp [waitsB, ho2] at e1
      | some o2 => exact ⟨o2, rfl, fun e2 h2 b2 => h _ o2 ho2 hl e2 h2 b2⟩
theorem not_before {listed : Array Bool} {f i z : Nat} (h : Shutd md ops listed) (hw : waitsB md ops f z i = true) (hi : i ∈ Region.ready md ops listed) : z ∉ Region.ready md ops listed := fun hz => by
  obtain ⟨_, o, ho, hall⟩ := mem_ready.1 hz
  have h1 := waits_listed h f z i hw ⟨o, ho, hall⟩
  have h0 := (mem_ready.1 hi).1
  rcases Nat.lt_or_ge i listed.size with h' | h'
  · simp [h'] at h0 h1; rw [h0] at h1; cases h1
  · simp [Array.getElem?_eq_none h'] at h1

/-- No late operation is listed. -/
def freshB (zs : List Nat) (listed : Array Bool) : Bool := zs.all fun z => !listed.getD z false
theorem fresh_set {listed : Array Bool} {i : Nat} (hi : zs.contains i = false) : freshB zs (listed.setIfInBounds i true) = freshB zs listed := by
  unfold freshB
  rw [Bool.eq_iff_iff, List.all_eq_true, List.all_eq_true]
  refine forall_congr' fun z => forall_congr' fun hz => ?_
  have hne : i ≠ z := fun e => by subst e; simp at hi; exact hi hz
  rw [getD_set_ne false hne]
theorem fresh_of {listed : Array Bool} {i f : Nat} (h : Shutd md ops listed) (hw : zs.all (fun z => waitsB md ops f z i) = true) (hi : listed.getD i true = false) : freshB zs listed = true := by
  unfold freshB
  rw [List.all_eq_true]
  intro z hz
  have hwz := List.all_eq_true.1 hw z hz
  cases hl : listed.getD z false with
  | false => rfl
  | true =>
    have hk : ∃ o, ops[z]? = some o := by
      cases ho : ops[z]? with
      | none => cases f with
        | zero => simp [waitsB] at hwz
        | succ f => simp [waitsB, ho] at hwz
      | some o => exact ⟨o, rfl⟩
    obtain ⟨o, ho⟩ := hk
    have h1 := waits_listed h f z i hwz ⟨o, ho, fun e he hb => h z o ho hl e he hb⟩
    rcases Nat.lt_or_ge i listed.size with h' | h'
    · simp [h'] at hi h1; rw [hi] at h1; cases h1
    · simp [Array.getElem?_eq_none h'] at h1

/-- Whatever order is picked from here on, and S holds as long as no late operation is listed. -/
def wpAnyG (P : Program) (md : Region.Mode) (ops : Array Oper) (Q : Exit → Act → World → Prop) (S : World → Prop) (zs : List Nat) : Nat → Array Bool → Act → World → Prop
  | 0, listed, a, w => Region.ready md ops listed = [] ∧ Q .normal a w
  | fuel + 1, listed, a, w =>
    (Region.ready md ops listed = [] → Q .normal a w) ∧
    ∀ i ∈ Region.ready md ops listed, wpOp P ops Q i (fun a' w' => (freshB zs (listed.setIfInBounds i true) = true → S w') ∧ wpAnyG P md ops Q S zs fuel (listed.setIfInBounds i true) a' w') a w
theorem wpAny_ofG : ∀ (fuel : Nat) (listed : Array Bool) (a : Act) (w : World), wpAnyG P md ops Q S zs fuel listed a w → wpAny P md ops Q fuel listed a w
  | 0, _, _, _, h => h
  | fuel + 1, _, _, _, h => ⟨h.1, fun i hi => wpOp_mono (fun a' w' h' => wpAny_ofG fuel _ a' w' h'.2) (h.2 i hi)⟩

/-- An operation that yields, where S holds, comes first: T is what it wants of a world. -/
theorem wpAnyG_first {i : Nat} {oi : Oper} {v : Value} (hi : ops[i]? = some oi) (hsel : ∀ (j : Nat) (o : Oper) cs b, ops[j]? = some o → o.op ≠ .select cs b)
    (hQ : ∀ c a w, Q (.panic c) (a.put oi.dst v) w → Q (.panic c) a w) (hiz : zs.contains i = false) (T : World → Prop)
    (hR : ∀ listed w, Shutd md ops listed → i ∈ Region.ready md ops listed → (freshB zs listed = true → S w) → T w) :
    ∀ (fuel : Nat) (listed : Array Bool) (a : Act) (w : World), Shutd md ops listed →
      (∀ j oj, ops[j]? = some oj → j ≠ i → listed.getD j true = false → (∀ e ∈ oj.after, Region.binds md e = true → e.on ≠ i) → oi.apart ops oj = true) →
      i ∈ Region.ready md ops listed → YieldsIf P ops T oi v a → (freshB zs listed = true → S w) →
      wpAnyG P md ops Q S zs fuel (listed.setIfInBounds i true) (a.put oi.dst v) w → wpAnyG P md ops Q S zs (fuel + 1) listed a w := by
  intro fuel
  induction fuel with
  | zero =>
    intro listed a w hsh _ hr hy hS H
    refine ⟨fun h => (by rw [h] at hr; cases hr), fun j hj => ?_⟩
    by_cases hji : j = i
    · subst hji; exact hy.wpOp hi (hR _ w hsh hr hS) ⟨fun hf => hS (by rwa [fresh_set hiz] at hf), H⟩
    · have := ready_mono hj hji
      rw [H.1] at this
      cases this
  | succ fuel ih =>
    intro listed a w hsh hfree hr hy hS H
    refine ⟨fun h => (by rw [h] at hr; cases hr), fun j hj => ?_⟩
    by_cases hji : j = i
    · subst hji; exact hy.wpOp hi (hR _ w hsh hr hS) ⟨fun hf => hS (by rwa [fresh_set hiz] at hf), H⟩
    · have h1 := H.2 j (ready_mono hj hji)
      obtain ⟨hjun, oj, hoj, hall⟩ := mem_ready.1 hj
      have hnot : ∀ e ∈ oj.after, Region.binds md e = true → e.on ≠ i := fun e he hb heq => by
        have h1 := hall e he hb
        have h0 := (mem_ready.1 hr).1
        rw [heq] at h1
        rcases Nat.lt_or_ge i listed.size with h' | h'
        · simp [h'] at h0 h1; rw [h0] at h1; cases h1
        · simp [Array.getElem?_eq_none h'] at h1
      have h2 := wpOp_putIf hoj (hfree j oj hoj hji hjun hnot) (fun cs b => hsel i oi cs b hi) (fun cs b => hsel j oj cs b hoj) hQ hy h1
      have hfree' : ∀ k ok, ops[k]? = some ok → k ≠ i → (listed.setIfInBounds j true).getD k true = false →
          (∀ e ∈ ok.after, Region.binds md e = true → e.on ≠ i) → oi.apart ops ok = true := fun k ok hk hki hun hno => by
        refine hfree k ok hk hki ?_ hno
        by_cases hjk : j = k
        · subst hjk; exact hjun
        · rw [getD_set_ne true hjk] at hun; exact hun
      have hsw : ∀ w', (freshB zs ((listed.setIfInBounds i true).setIfInBounds j true) = true → S w') → freshB zs (listed.setIfInBounds j true) = true → S w' := fun w' h hf => by
        rw [Array.setIfInBounds_comm _ _ (Ne.symm hji), fresh_set hiz] at h
        exact h hf
      refine wpOp_mono (fun a' w' h3 => ⟨hsw w' h3.2.1, ih (listed.setIfInBounds j true) a' w' (hsh.step hj) hfree' (ready_mono hr (Ne.symm hji)) h3.1 (hsw w' h3.2.1) ?_⟩) h2
      rw [Array.setIfInBounds_comm _ _ hji]
      exact h3.2.2

/-- An operation of a region that is written out, as it is written. -/
def nthL {A : Type} : List A → Nat → Option A
  | [], _ => none
  | x :: _, 0 => some x
  | _ :: l, n + 1 => nthL l n
theorem nthL_eq {A : Type} : ∀ (l : List A) (n : Nat), nthL l n = l[n]?
  | [], n => by simp [nthL]
  | x :: l, 0 => rfl
  | x :: l, n + 1 => by rw [nthL, nthL_eq l n, List.getElem?_cons_succ]
theorem nth_at {ops : Array Oper} {i : Nat} {o : Oper} (h : nthL ops.toList i = some o) : ops[i]? = some o := by
  rw [nthL_eq] at h
  simpa using h

/-- The walk: a region behind some operations. -/
def Drawn (P : Program) (ops : Array Oper) (Q : Exit → Act → World → Prop) (S : World → Prop) (zs : List Nat) (fuel : Nat) (listed : Array Bool) (ts : Array Value) (ds : List Deferred) (w : World) : Prop :=
  Shutd .any ops listed → wpAnyG P .any ops Q S zs fuel listed { tmps := ts, defers := ds } w
theorem drawn_region (S : World → Prop) (zs : List Nat) {id : Nat} {ts : Array Value} {ds : List Deferred} {w : World} (hm : P.follows .mixedOrders = true) (h : Drawn P ops Q S zs ops.size (Array.replicate ops.size false) ts ds w.drew) : (Code.region id ops true).wp P Q { tmps := ts, defers := ds } w :=
  wp_region_any hm (wpAny_ofG _ _ _ _ (h Shutd.start))
/-- An operation that reads: late ones wait for it. -/
theorem drawn_take (i d : Nat) {oi : Oper} (v : Value) {fuel : Nat} {listed : Array Bool} {ts : Array Value} {ds : List Deferred} {w : World} (hi0 : nthL ops.toList i = some oi) (hd : oi.dst = some d)
    (hs : Region.noSelect ops = true) (hf : Region.free .any ops listed i = true) (hr : (Region.ready .any ops listed).contains i = true) (hz : (!zs.contains i && zs.all (fun z => waitsB .any ops ops.size z i)) = true)
    (hQ : ∀ c (a : Act) w, Q (.panic c) (a.put oi.dst v) w → Q (.panic c) a w) (hw : Region.wanted oi (yielded ops ts) = true) (hS : S w) (hy : ∀ w, S w → (execOp ({ tmps := ts, defers := ds } : Act).eval oi).run P w = .ok (.value v) w)
    (h : Drawn P ops Q S zs fuel (listed.setIfInBounds i true) (ts.setIfInBounds d v) ds w) : Drawn P ops Q S zs (fuel + 1) listed ts ds w := fun hc => by
  have hi := nth_at hi0
  have hm : i ∈ Region.ready .any ops listed := by simpa using hr
  obtain ⟨hz1, hz2⟩ := Bool.and_eq_true_iff.1 hz
  refine wpAnyG_first hi (Region.noSelect_spec hs) hQ (by simpa using hz1) S (fun l w hsh hir h => h (fresh_of hsh hz2 (mem_ready.1 hir).1)) fuel listed _ w hc (Region.free_spec hi hf) hm (.inl ⟨hw, hy⟩) (fun _ => hS) ?_
  have h2 := h (hc.step hm)
  rw [hd]
  exact h2
/-- An operation that yields in whatever world. -/
theorem drawn_move (i d : Nat) {oi : Oper} (v : Value) {fuel : Nat} {listed : Array Bool} {ts : Array Value} {ds : List Deferred} {w : World} (hi0 : nthL ops.toList i = some oi) (hd : oi.dst = some d)
    (hs : Region.noSelect ops = true) (hf : Region.free .any ops listed i = true) (hr : (Region.ready .any ops listed).contains i = true) (hz : (!zs.contains i) = true)
    (hQ : ∀ c (a : Act) w, Q (.panic c) (a.put oi.dst v) w → Q (.panic c) a w) (hw : Region.wanted oi (yielded ops ts) = true) (hS : freshB zs listed = true → S w) (hy : ∀ w, (execOp ({ tmps := ts, defers := ds } : Act).eval oi).run P w = .ok (.value v) w)
    (h : Drawn P ops Q S zs fuel (listed.setIfInBounds i true) (ts.setIfInBounds d v) ds w) : Drawn P ops Q S zs (fuel + 1) listed ts ds w := fun hc => by
  have hi := nth_at hi0
  have hm : i ∈ Region.ready .any ops listed := by simpa using hr
  refine wpAnyG_first hi (Region.noSelect_spec hs) hQ (by simpa using hz) (fun _ => True) (fun _ _ _ _ _ => trivial) fuel listed _ w hc (Region.free_spec hi hf) hm (.inl ⟨hw, fun w _ => hy w⟩) hS ?_
  have h2 := h (hc.step hm)
  rw [hd]
  exact h2
/-- Whichever of some comes up. -/
def DrawnAll (P : Program) (ops : Array Oper) (Q : Exit → Act → World → Prop) (S : World → Prop) (zs : List Nat) (fuel : Nat) (listed : Array Bool) (ts : Array Value) (ds : List Deferred) (w : World) (rs : List Nat) : Prop :=
  Shutd .any ops listed → ∀ i ∈ rs, i ∈ Region.ready .any ops listed → wpOp P ops Q i (fun a' w' => (freshB zs (listed.setIfInBounds i true) = true → S w') ∧ wpAnyG P .any ops Q S zs fuel (listed.setIfInBounds i true) a' w') { tmps := ts, defers := ds } w
theorem drawn_any (rs : List Nat) {fuel : Nat} {listed : Array Bool} {ts : Array Value} {ds : List Deferred} {w : World} (hr : Region.ready .any ops listed = rs) (hne : rs ≠ []) (h : DrawnAll P ops Q S zs fuel listed ts ds w rs) : Drawn P ops Q S zs (fuel + 1) listed ts ds w :=
  fun hc => ⟨fun h0 => absurd (hr ▸ h0) hne, fun i hi => h hc i (hr ▸ hi) hi⟩
theorem drawn_nil {fuel : Nat} {listed : Array Bool} {ts : Array Value} {ds : List Deferred} {w : World} : DrawnAll P ops Q S zs fuel listed ts ds w [] := fun _ _ h => by cases h
/-- One that is not late: S is shown behind it. -/
theorem drawn_cons {fuel : Nat} {listed : Array Bool} {ts : Array Value} {ds : List Deferred} {w : World} {i : Nat} {o : Oper} {rs : List Nat} (ho0 : nthL ops.toList i = some o)
    (h : ∀ K : Act → World → Prop, Shut (∀ (ts : Array Value) (ds : List Deferred) w, S w → Drawn P ops Q S zs fuel (listed.setIfInBounds i true) ts ds w → K { tmps := ts, defers := ds } w) → if Region.wanted o (yielded ops ts) = true then Oper.wp P o { tmps := ts, defers := ds } w K Q else K (({ tmps := ts, defers := ds } : Act).put o.dst undef) w)
    (hs : DrawnAll P ops Q S zs fuel listed ts ds w rs) : DrawnAll P ops Q S zs fuel listed ts ds w (i :: rs) := fun hc j hj hr => by
  rcases List.mem_cons.1 hj with rfl | hj
  · exact wpOp_step (nth_at ho0) (fun K' hK => h K' (fun ts ds w hS hW => hK { tmps := ts, defers := ds } w ⟨fun _ => hS, hW (hc.step hr)⟩))
  · exact hs hc j hj hr
/-- One that is late, or behind a late one, with more to come. -/
theorem drawn_late {fuel : Nat} {listed : Array Bool} {ts : Array Value} {ds : List Deferred} {w : World} {i : Nat} {o : Oper} {rs : List Nat} (ho0 : nthL ops.toList i = some o) (hl : freshB zs (listed.setIfInBounds i true) = false)
    (h : ∀ K : Act → World → Prop, Shut (∀ (ts : Array Value) (ds : List Deferred) w, Drawn P ops Q S zs fuel (listed.setIfInBounds i true) ts ds w → K { tmps := ts, defers := ds } w) → if Region.wanted o (yielded ops ts) = true then Oper.wp P o { tmps := ts, defers := ds } w K Q else K (({ tmps := ts, defers := ds } : Act).put o.dst undef) w)
    (hs : DrawnAll P ops Q S zs fuel listed ts ds w rs) : DrawnAll P ops Q S zs fuel listed ts ds w (i :: rs) := fun hc j hj hr => by
  rcases List.mem_cons.1 hj with rfl | hj
  · exact wpOp_step (nth_at ho0) (fun K' hK => h K' (fun ts ds w hW => hK { tmps := ts, defers := ds } w ⟨fun hf => by rw [hl] at hf; (cases hf), hW (hc.step hr)⟩))
  · exact hs hc j hj hr
/-- The last. -/
theorem drawn_last {z fuel : Nat} {listed : Array Bool} {ts : Array Value} {ds : List Deferred} {w : World} {o : Oper} (ho0 : nthL ops.toList z = some o) (hr : Region.ready .any ops listed = [z]) (hr2 : Region.ready .any ops (listed.setIfInBounds z true) = []) (hl : freshB zs (listed.setIfInBounds z true) = false)
    (h : ∀ K : Act → World → Prop, Shut (∀ a w, Q .normal a w → K a w) → if Region.wanted o (yielded ops ts) = true then Oper.wp P o { tmps := ts, defers := ds } w K Q else K (({ tmps := ts, defers := ds } : Act).put o.dst undef) w) :
    Drawn P ops Q S zs (fuel + 1) listed ts ds w := fun _ => by
  refine ⟨fun h0 => (by rw [h0] at hr; cases hr), fun i hi => ?_⟩
  rw [hr] at hi
  obtain rfl := List.mem_singleton.1 hi
  refine wpOp_step (nth_at ho0) (fun K' hK => h K' (fun a w hq => hK a w ⟨fun hf => by rw [hl] at hf; (cases hf), ?_⟩))
  cases fuel with
  | zero => exact ⟨hr2, hq⟩
  | succ n => exact ⟨fun _ => hq, by rw [hr2]; simp⟩
/-- The last, one that yields in whatever world. -/
theorem drawn_last1 (z d : Nat) {o : Oper} (v : Value) {fuel : Nat} {listed : Array Bool} {ts : Array Value} {ds : List Deferred} {w : World} (ho0 : nthL ops.toList z = some o) (hd : o.dst = some d) (hr : Region.ready .any ops listed = [z]) (hr2 : Region.ready .any ops (listed.setIfInBounds z true) = [])
    (hw : Region.wanted o (yielded ops ts) = true) (hy : ∀ w, (execOp ({ tmps := ts, defers := ds } : Act).eval o).run P w = .ok (.value v) w) (hS : S w)
    (h : Q .normal { tmps := ts.setIfInBounds d v, defers := ds } w) : Drawn P ops Q S zs (fuel + 1) listed ts ds w := fun _ => by
  refine ⟨fun h0 => (by rw [h0] at hr; cases hr), fun i hi => ?_⟩
  rw [hr] at hi
  obtain rfl := List.mem_singleton.1 hi
  have hi := nth_at ho0
  have key : Q .normal ((({ tmps := ts, defers := ds } : Act)).put o.dst v) w := by rw [hd]; exact h
  refine Yields.wpOp hi (.inl ⟨hw, hy⟩) ⟨fun _ => hS, ?_⟩
  cases fuel with
  | zero => exact ⟨hr2, key⟩
  | succ n => exact ⟨fun _ => key, by rw [hr2]; simp⟩
end

end Go.Proofs.Ytklpmajaihmmfaa
