
/-
  Stage 13, plain: four things; queries, what is right, what matches, groups, cuts.
-/
import Derived.Test.YtieffpngknglpaaZp
import Derived.Test.YtieffpngknglpaaOi
namespace Go.Proofs.Ytieffpngknglpaa
open Go.RowKit

/-- Four things. -/
structure V4 (A : Type) where
  a : A
  b : A
  c : A
  d : A
deriving DecidableEq
def V4.nth {A : Type} (v : V4 A) : Nat → A
  | 0 => v.a
  | 1 => v.b
  | 2 => v.c
  | _ => v.d
def V4.put {A : Type} (v : V4 A) (i : Nat) (x : A) : V4 A :=
  match i with
  | 0 => { v with a := x }
  | 1 => { v with b := x }
  | 2 => { v with c := x }
  | _ => { v with d := x }
def V4.fill {A : Type} (x : A) : V4 A := ⟨x, x, x, x⟩
section
variable {A : Type} {v u : V4 A} {x : A}
theorem V4.same (h : ∀ i, i < 4 → v.nth i = u.nth i) : v = u := by
  have e0 := h 0 (by omega)
  have e1 := h 1 (by omega)
  have e2 := h 2 (by omega)
  have e3 := h 3 (by omega)
  cases v; cases u
  simp only [V4.nth] at e0 e1 e2 e3
  rw [e0, e1, e2, e3]
theorem V4.iff : v = u ↔ ∀ i, i < 4 → v.nth i = u.nth i := ⟨fun e _ _ => by rw [e], V4.same⟩
theorem V4.nth_put {i j : Nat} (hi : i < 4) (hj : j < 4) : (v.put i x).nth j = if i = j then x else v.nth j := by
  match i, hi, j, hj with
  | 0, _, 0, _ => rfl
  | 0, _, 1, _ => rfl
  | 0, _, 2, _ => rfl
  | 0, _, 3, _ => rfl
  | 1, _, 0, _ => rfl
  | 1, _, 1, _ => rfl
  | 1, _, 2, _ => rfl
  | 1, _, 3, _ => rfl
  | 2, _, 0, _ => rfl
  | 2, _, 1, _ => rfl
  | 2, _, 2, _ => rfl
  | 2, _, 3, _ => rfl
  | 3, _, 0, _ => rfl
  | 3, _, 1, _ => rfl
  | 3, _, 2, _ => rfl
  | 3, _, 3, _ => rfl
theorem V4.nth_fill (i : Nat) : (V4.fill x).nth i = x := by
  unfold V4.nth
  split <;> rfl
end

/-- What stands in those dimensions, and nothing in the others; so far as it has been laid. -/
def onlyP {A : Type} (z : A) (t : V4 A) (w : V4 Bool) : V4 A := ⟨if w.a then t.a else z, if w.b then t.b else z, if w.c then t.c else z, if w.d then t.d else z⟩
def onlyN {A : Type} (z : A) (t : V4 A) (w : V4 Bool) : Nat → V4 A
  | 0 => V4.fill z
  | i + 1 => if w.nth i then (onlyN z t w i).put i (t.nth i) else onlyN z t w i
theorem only_nth {A : Type} (z : A) (t : V4 A) (w : V4 Bool) {i : Nat} (hi : i < 4) : (onlyP z t w).nth i = if w.nth i then t.nth i else z := by
  match i, hi with
  | 0, _ => rfl
  | 1, _ => rfl
  | 2, _ => rfl
  | 3, _ => rfl
theorem onlyN_four {A : Type} (z : A) (t : V4 A) (w : V4 Bool) : onlyN z t w 4 = onlyP z t w := by
  obtain ⟨a, b, c, d⟩ := w
  cases a <;> cases b <;> cases c <;> cases d <;> rfl
/-- The first dimensions, so many of them. -/
def firstN : Nat → V4 Bool
  | 0 => V4.fill false
  | i + 1 => (firstN i).put i true
theorem first_nth {n i : Nat} (hn : n ≤ 4) (hi : i < 4) : (firstN n).nth i = decide (i < n) := by
  induction n with
  | zero => rw [firstN, V4.nth_fill]; simp
  | succ n ih =>
    rw [firstN, V4.nth_put (by omega) hi, ih (by omega)]
    by_cases e : n = i
    · subst e; simp
    · rw [if_neg e]
      by_cases h : i < n
      · rw [decide_eq_true h, decide_eq_true (show i < n + 1 by omega)]
      · rw [decide_eq_false h, decide_eq_false (show ¬ i < n + 1 by omega)]

/-- A query. -/
structure Q13 where
  lo : Int
  hi : Int
  g : V4 Bool
  h : V4 Bool
  f : V4 (List UInt8)
deriving DecidableEq
def zeroQ : Q13 := ⟨0, 0, V4.fill false, V4.fill false, V4.fill []⟩
/-- Texts as a key's, and a key's texts. -/
def kOf (t : V4 (List UInt8)) : K9 := ⟨0, t.a, t.b, t.c, t.d⟩
def txOf (k : K9) : V4 (List UInt8) := ⟨k.a, k.b, k.c, k.d⟩
theorem kOf_dim (t : V4 (List UInt8)) : ∀ i : Nat, (kOf t).dim i = t.nth i
  | 0 => rfl
  | 1 => rfl
  | 2 => rfl
  | _ + 3 => rfl
theorem txOf_nth (k : K9) : ∀ i : Nat, (txOf k).nth i = k.dim i
  | 0 => rfl
  | 1 => rfl
  | 2 => rfl
  | _ + 3 => rfl
theorem kOf_put (t : V4 (List UInt8)) (x : List UInt8) : ∀ i : Nat, (kOf t).put i x = kOf (t.put i x)
  | 0 => rfl
  | 1 => rfl
  | 2 => rfl
  | _ + 3 => rfl

/-- What is right in a dimension. -/
def okD (n : Int) (i : Nat) (g h : Bool) (t : List UInt8) : Bool := !((decide (n ≤ (i : Int)) && (g || h || !t.isEmpty)) || decide (16 < t.length) || (!h && !t.isEmpty))
def okQ (n : Int) (q : Q13) : Bool := okD n 0 q.g.a q.h.a q.f.a && okD n 1 q.g.b q.h.b q.f.b && okD n 2 q.g.c q.h.c q.f.c && okD n 3 q.g.d q.h.d q.f.d
def chkQ (q : Q13) (n : Int) : Int :=
  if okDims n then if 0 ≤ q.lo ∧ q.lo ≤ q.hi ∧ q.hi ≤ 16777217 then if okQ n q then 0 else 4 else 2 else 1
theorem okQ_iff {n : Int} {q : Q13} : okQ n q = true ↔ ∀ i, i < 4 → okD n i (q.g.nth i) (q.h.nth i) (q.f.nth i) = true := by
  refine ⟨fun h i hi => ?_, fun h => ?_⟩
  · simp only [okQ, Bool.and_eq_true] at h
    match i, hi with
    | 0, _ => exact h.1.1.1
    | 1, _ => exact h.1.1.2
    | 2, _ => exact h.1.2
    | 3, _ => exact h.2
  · have e0 := h 0 (by omega)
    have e1 := h 1 (by omega)
    have e2 := h 2 (by omega)
    have e3 := h 3 (by omega)
    simp only [V4.nth] at e0 e1 e2 e3
    simp [okQ, e0, e1, e2, e3]
theorem okQ_not {n : Int} {q : Q13} {i : Nat} (hi : i < 4) (h : okD n i (q.g.nth i) (q.h.nth i) (q.f.nth i) = false) : okQ n q = false := by
  cases e : okQ n q with
  | false => rfl
  | true => rw [okQ_iff.1 e i hi] at h; cases h
theorem okTexts_iff {n : Int} {k : K9} : okTexts n k = true ↔ ∀ i, i < 4 → okText n i (k.dim i) = true := by
  refine ⟨fun h i hi => ?_, okTexts_all⟩
  cases e : okText n i (k.dim i) with
  | true => rfl
  | false => rw [okTexts_not hi e] at h; cases h
theorem okD_parts {n : Nat} {i : Nat} {g h : Bool} {t : List UInt8} : okD n i g h t = true ↔ g = (if decide (i < n) then g else false) ∧ h = (if decide (i < n) then h else false) ∧ t = (if h then t else []) ∧ okText n i t = true := by
  by_cases hi : i < n
  · have h1 : ¬ ((n : Int) ≤ (i : Int)) := by omega
    have h2 : (i : Int) < n := by omega
    cases h <;> cases t <;> simp [okD, okText, hi, h1, h2]
  · have h1 : (n : Int) ≤ (i : Int) := by omega
    have h2 : ¬ ((i : Int) < n) := by omega
    cases g <;> cases h <;> cases t <;> simp [okD, okText, hi, h1, h2]
theorem okQ_parts {n : Nat} (hn : n ≤ 4) {q : Q13} : okQ n q = (decide (q.g = onlyP false q.g (firstN n)) && decide (q.h = onlyP false q.h (firstN n)) && decide (q.f = onlyP [] q.f q.h) && okTexts n (kOf q.f)) := by
  rw [Bool.eq_iff_iff]
  simp only [Bool.and_eq_true, decide_eq_true_iff, okTexts_iff, okQ_iff]
  rw [V4.iff (v := q.g), V4.iff (v := q.h), V4.iff (v := q.f)]
  refine ⟨fun h => ⟨⟨⟨fun i hi => ?_, fun i hi => ?_⟩, fun i hi => ?_⟩, fun i hi => ?_⟩, fun h i hi => ?_⟩
  · rw [only_nth _ _ _ hi, first_nth hn hi]; exact (okD_parts.1 (h i hi)).1
  · rw [only_nth _ _ _ hi, first_nth hn hi]; exact (okD_parts.1 (h i hi)).2.1
  · rw [only_nth _ _ _ hi]; exact (okD_parts.1 (h i hi)).2.2.1
  · rw [kOf_dim]; exact (okD_parts.1 (h i hi)).2.2.2
  · have h1 := h.1.1.1 i hi
    have h2 := h.1.1.2 i hi
    have h3 := h.1.2 i hi
    have h4 := h.2 i hi
    rw [only_nth _ _ _ hi, first_nth hn hi] at h1 h2
    rw [only_nth _ _ _ hi] at h3
    rw [kOf_dim] at h4
    exact okD_parts.2 ⟨h1, h2, h3, h4⟩
theorem okDims_nat {n : Int} (h : 1 ≤ n ∧ n ≤ 4) : okDims n = true := by simp [okDims, h]
theorem okDims_no {n : Int} (h : ¬ (1 ≤ n ∧ n ≤ 4)) : okDims n = false := by unfold okDims; simpa using h
theorem chkQ_dims {q : Q13} {n : Int} (h : ¬ (1 ≤ n ∧ n ≤ 4)) : chkQ q n = 1 := by unfold chkQ; rw [okDims_no h]; rfl
theorem chkQ_range {q : Q13} {n : Int} (h : 1 ≤ n ∧ n ≤ 4) (hr : ¬ (0 ≤ q.lo ∧ q.lo ≤ q.hi ∧ q.hi ≤ 16777217)) : chkQ q n = 2 := by unfold chkQ; rw [okDims_nat h, if_pos rfl, if_neg hr]
theorem chkQ_text {q : Q13} {n : Int} (h : 1 ≤ n ∧ n ≤ 4) (hr : 0 ≤ q.lo ∧ q.lo ≤ q.hi ∧ q.hi ≤ 16777217) (ho : okQ n q = false) : chkQ q n = 4 := by unfold chkQ; rw [okDims_nat h, if_pos rfl, if_pos hr, ho]; rfl
theorem chkQ_ok {q : Q13} {n : Int} (h : 1 ≤ n ∧ n ≤ 4) (hr : 0 ≤ q.lo ∧ q.lo ≤ q.hi ∧ q.hi ≤ 16777217) (ho : okQ n q = true) : chkQ q n = 0 := by unfold chkQ; rw [okDims_nat h, if_pos rfl, if_pos hr, ho]; rfl
theorem chkQ_good {q : Q13} {n : Int} (h : chkQ q n = 0) : (1 ≤ n ∧ n ≤ 4) ∧ (0 ≤ q.lo ∧ q.lo ≤ q.hi ∧ q.hi ≤ 16777217) ∧ okQ n q = true := by
  by_cases h1 : 1 ≤ n ∧ n ≤ 4
  · by_cases h2 : 0 ≤ q.lo ∧ q.lo ≤ q.hi ∧ q.hi ≤ 16777217
    · cases h3 : okQ n q with
      | true => exact ⟨h1, h2, rfl⟩
      | false => rw [chkQ_text h1 h2 h3] at h; cases h
    · rw [chkQ_range h1 h2] at h; cases h
  · rw [chkQ_dims h1] at h; cases h

/-- Does a key match; its group; what is cut. -/
def matchB (q : Q13) (k : K9) : Bool := decide (q.lo ≤ k.h) && decide (k.h < q.hi) && decide (onlyP [] (txOf k) q.h = onlyP [] q.f q.h)
def groupK (q : Q13) (k : K9) : K9 := kOf (onlyP [] (txOf k) q.g)
def cutQ (q : Q13) (x : Int) : Q13 := { q with lo := max q.lo x, hi := max q.hi (max q.lo x) }
theorem match_iff {q : Q13} {k : K9} : onlyP [] (txOf k) q.h = onlyP [] q.f q.h ↔ ∀ i, i < 4 → q.h.nth i = true → q.f.nth i = k.dim i := by
  rw [V4.iff]
  refine ⟨fun h i hi ht => ?_, fun h i hi => ?_⟩
  · have := h i hi
    rw [only_nth _ _ _ hi, only_nth _ _ _ hi, ht, txOf_nth] at this
    exact this.symm
  · rw [only_nth _ _ _ hi, only_nth _ _ _ hi, txOf_nth]
    cases ht : q.h.nth i with
    | false => rfl
    | true => simp [h i hi ht]
theorem match_cut (q : Q13) (k : K9) (x : Int) : matchB (cutQ q x) k = (matchB q k && decide (x ≤ k.h)) := by
  have e : (max q.lo x ≤ k.h ∧ k.h < max q.hi (max q.lo x)) ↔ (q.lo ≤ k.h ∧ k.h < q.hi) ∧ x ≤ k.h := by omega
  have e1 : matchB (cutQ q x) k = (decide (max q.lo x ≤ k.h) && decide (k.h < max q.hi (max q.lo x)) && decide (onlyP [] (txOf k) q.h = onlyP [] q.f q.h)) := rfl
  rw [e1, Bool.eq_iff_iff]
  unfold matchB
  simp only [Bool.and_eq_true, decide_eq_true_iff]
  constructor
  · rintro ⟨h1, h2⟩
    have := e.1 h1
    exact ⟨⟨this.1, h2⟩, this.2⟩
  · rintro ⟨⟨h1, h2⟩, h3⟩
    exact ⟨e.2 ⟨h1, h3⟩, h2⟩

end Go.Proofs.Ytieffpngknglpaa
