
/-
  Cells, plain: what values come to, merged from the first on; that values that weigh not too much have a cell, the same in whatever parts.
-/
import Derived.WalkKit
import Derived.WalkSmall
namespace Go.Proofs.Ytejilonhdgfkbaa
open Go.RowKit

/-- A cell: Count, Sum, Min, Max. -/
structure Cl where
  n : Int
  s : Int
  lo : Int
  hi : Int
  deriving DecidableEq
def Cl.zero : Cl := ⟨0, 0, 0, 0⟩
def Cl.of (v : Int) : Cl := ⟨1, v, v, v⟩
/-- A number that an int64 holds. -/
def fit (x : Int) : Bool := decide (-9223372036854775808 ≤ x) && decide (x ≤ 9223372036854775807)
theorem fit_iff (x : Int) : fit x = true ↔ -9223372036854775808 ≤ x ∧ x ≤ 9223372036854775807 := by simp [fit]
/-- Two cells together, if that may be. -/
def mergeC (a b : Cl) : Option Cl :=
  if a.n = 0 then some b else if b.n = 0 then some a else if fit (a.n + b.n) && fit (a.s + b.s) then some ⟨a.n + b.n, a.s + b.s, min a.lo b.lo, max a.hi b.hi⟩ else none
/-- Values behind a cell; all values. -/
def moreC : Cl → List Int → Option Cl
  | c, [] => some c
  | c, x :: l => match mergeC c (Cl.of x) with
    | some d => moreC d l
    | none => none
def allC (l : List Int) : Option Cl := moreC Cl.zero l
theorem moreC_append (c : Cl) (l m : List Int) : moreC c (l ++ m) = (moreC c l).bind fun d => moreC d m := by
  induction l generalizing c with
  | nil => rfl
  | cons x l ih =>
    show (match mergeC c (Cl.of x) with | some d => moreC d (l ++ m) | none => none) = (match mergeC c (Cl.of x) with | some d => moreC d l | none => none).bind _
    cases mergeC c (Cl.of x) with
    | none => rfl
    | some d => exact ih d
theorem allC_take {l : List Int} {k : Nat} {x : Int} (h : l[k]? = some x) : allC (l.take (k + 1)) = (allC (l.take k)).bind fun d => mergeC d (Cl.of x) := by
  obtain ⟨hk, e⟩ := List.getElem?_eq_some_iff.1 h
  unfold allC
  rw [List.take_succ_eq_append_getElem hk, e, moreC_append]
  congr 1
  funext d
  show (match mergeC d (Cl.of x) with | some e => some e | none => none) = _
  cases mergeC d (Cl.of x) <;> rfl
theorem allC_none {l : List Int} {k : Nat} (h : allC (l.take k) = none) : allC l = none := by
  unfold allC at *
  rw [← List.take_append_drop k l, moreC_append, h]
  rfl

/-- The weight of values, that of one as far as it counts. -/
def weighN (l : List Int) : Nat := (l.map Int.natAbs).sum
theorem weighN_append (l m : List Int) : weighN (l ++ m) = weighN l + weighN m := by simp [weighN]
theorem weighN_take {l : List Int} {k : Nat} {x : Int} (h : l[k]? = some x) : weighN (l.take (k + 1)) = weighN (l.take k) + x.natAbs := by
  obtain ⟨hk, e⟩ := List.getElem?_eq_some_iff.1 h
  rw [List.take_succ_eq_append_getElem hk, e, weighN_append]
  simp [weighN]
theorem weighN_le_take (l : List Int) (k : Nat) : weighN (l.take k) ≤ weighN l := by
  have := weighN_append (l.take k) (l.drop k)
  rw [List.take_append_drop] at this
  omega
theorem sum_abs (l : List Int) : l.sum.natAbs ≤ weighN l := by
  induction l with
  | nil => exact Nat.le_refl _
  | cons x l ih =>
    show (x + l.sum).natAbs ≤ ((x :: l).map Int.natAbs).sum
    have : ((x :: l).map Int.natAbs).sum = x.natAbs + weighN l := by simp [weighN]
    rw [this]
    omega

/-- The cell of values, told at once. -/
def cellL : List Int → Cl
  | [] => Cl.zero
  | x :: l => ⟨(l.length + 1 : Nat), (x :: l).sum, l.foldl min x, l.foldl max x⟩
theorem cellL_n (l : List Int) : (cellL l).n = l.length := by cases l <;> rfl
theorem cellL_s (l : List Int) : (cellL l).s = l.sum := by cases l <;> rfl
theorem cellL_one (x : Int) : cellL [x] = Cl.of x := by simp [cellL, Cl.of]
theorem foldl_min (l : List Int) (a b : Int) : l.foldl min (min a b) = min a (l.foldl min b) := by
  induction l generalizing a b with
  | nil => rfl
  | cons x l ih =>
    show l.foldl min (min (min a b) x) = min a (l.foldl min (min b x))
    rw [← ih]
    congr 1
    omega
theorem foldl_max (l : List Int) (a b : Int) : l.foldl max (max a b) = max a (l.foldl max b) := by
  induction l generalizing a b with
  | nil => rfl
  | cons x l ih =>
    show l.foldl max (max (max a b) x) = max a (l.foldl max (max b x))
    rw [← ih]
    congr 1
    omega
/-- In whatever parts, in either order. -/
theorem merge_parts (a b : List Int) (h : weighN a + weighN b ≤ 4611686018427387904) (hn : a.length + b.length ≤ 1000000) : mergeC (cellL a) (cellL b) = some (cellL (a ++ b)) := by
  cases a with
  | nil => rfl
  | cons x a =>
    cases b with
    | nil =>
      rw [List.append_nil]
      unfold mergeC
      rw [if_neg (by rw [cellL_n]; simp; omega), if_pos (show (cellL []).n = 0 from rfl)]
    | cons y b =>
      have ha := sum_abs (x :: a)
      have hb := sum_abs (y :: b)
      unfold mergeC
      rw [if_neg (by rw [cellL_n]; simp; omega), if_neg (by rw [cellL_n]; simp; omega), if_pos]
      · have e1 : (cellL (x :: a)).n + (cellL (y :: b)).n = (cellL ((x :: a) ++ (y :: b))).n := by
          rw [cellL_n, cellL_n, cellL_n, List.length_append]
          omega
        have e2 : (cellL (x :: a)).s + (cellL (y :: b)).s = (cellL ((x :: a) ++ (y :: b))).s := by
          rw [cellL_s, cellL_s, cellL_s, List.sum_append]
        have e3 : min (cellL (x :: a)).lo (cellL (y :: b)).lo = (cellL ((x :: a) ++ (y :: b))).lo := by
          show min (a.foldl min x) (b.foldl min y) = (a ++ (y :: b)).foldl min x
          rw [List.foldl_append]
          show _ = b.foldl min (min (a.foldl min x) y)
          rw [foldl_min]
        have e4 : max (cellL (x :: a)).hi (cellL (y :: b)).hi = (cellL ((x :: a) ++ (y :: b))).hi := by
          show max (a.foldl max x) (b.foldl max y) = (a ++ (y :: b)).foldl max x
          rw [List.foldl_append]
          show _ = b.foldl max (max (a.foldl max x) y)
          rw [foldl_max]
        rw [e1, e2, e3, e4]
      · rw [Bool.and_eq_true, fit_iff, fit_iff, cellL_n, cellL_n, cellL_s, cellL_s]
        simp only [List.length_cons] at *
        omega
theorem merge_swap (a b : Cl) (h : a.n ≠ 0 ∨ b.n ≠ 0 ∨ a = b) : mergeC a b = mergeC b a := by
  unfold mergeC
  by_cases ha : a.n = 0
  · by_cases hb : b.n = 0
    · rcases h with h | h | h
      · exact absurd ha h
      · exact absurd hb h
      · rw [h]
    · rw [if_pos ha, if_neg hb, if_pos ha]
  · by_cases hb : b.n = 0
    · rw [if_neg ha, if_pos hb, if_pos hb]
    · rw [if_neg ha, if_neg hb, if_neg hb, if_neg ha, Int.add_comm a.n b.n, Int.add_comm a.s b.s]
      have e1 : min a.lo b.lo = min b.lo a.lo := by omega
      have e2 : max a.hi b.hi = max b.hi a.hi := by omega
      rw [e1, e2]
/-- What weighs not too much has a cell. -/
theorem all_light (l : List Int) (h : weighN l ≤ 4611686018427387904) (hn : l.length ≤ 1000000) : allC l = some (cellL l) := by
  suffices g : ∀ k, k ≤ l.length → allC (l.take k) = some (cellL (l.take k)) by
    have := g l.length (Nat.le_refl _)
    rw [List.take_length] at this
    exact this
  intro k
  induction k with
  | zero => intro _; rfl
  | succ k ih =>
    intro hk
    obtain ⟨x, hx⟩ : ∃ x, l[k]? = some x := ⟨_, List.getElem?_eq_getElem (by omega)⟩
    rw [allC_take hx, ih (by omega)]
    show mergeC (cellL (l.take k)) (Cl.of x) = _
    rw [← cellL_one]
    have hw := weighN_take hx
    have hl := weighN_le_take l (k + 1)
    have h1 : weighN [x] = x.natAbs := by simp [weighN]
    rw [merge_parts (l.take k) [x] (by rw [h1]; omega) (by rw [List.length_take, List.length_singleton]; omega)]
    obtain ⟨hk', e⟩ := List.getElem?_eq_some_iff.1 hx
    rw [List.take_succ_eq_append_getElem hk', e]

/-- A right cell. -/
def rightC (c : Cl) : Bool := if c.n = 0 then decide (c = Cl.zero) else decide (0 < c.n) && (decide (c.lo ≤ c.hi) && (decide (1 < c.n) || (decide (c.s = c.lo) && decide (c.s = c.hi))))
theorem foldl_le (l : List Int) (x : Int) : l.foldl min x ≤ x ∧ x ≤ l.foldl max x := by
  induction l generalizing x with
  | nil => exact ⟨Int.le_refl _, Int.le_refl _⟩
  | cons y l ih =>
    have h1 := (ih (min x y)).1
    have h2 := (ih (max x y)).2
    show l.foldl min (min x y) ≤ x ∧ x ≤ l.foldl max (max x y)
    omega
theorem right_cell (l : List Int) : rightC (cellL l) = true := by
  cases l with
  | nil => rfl
  | cons x l =>
    unfold rightC
    rw [if_neg (by rw [cellL_n]; simp; omega)]
    have h := foldl_le l x
    cases l with
    | nil => simp [cellL]
    | cons y l =>
      have e1 : (cellL (x :: y :: l)).n = (l.length + 2 : Nat) := rfl
      have e2 : (cellL (x :: y :: l)).lo = (y :: l).foldl min x := rfl
      have e3 : (cellL (x :: y :: l)).hi = (y :: l).foldl max x := rfl
      rw [e1, e2, e3]
      have a1 : decide ((0 : Int) < (l.length + 2 : Nat)) = true := by rw [decide_eq_true_iff]; omega
      have a2 : decide ((1 : Int) < (l.length + 2 : Nat)) = true := by rw [decide_eq_true_iff]; omega
      have a3 : decide ((y :: l).foldl min x ≤ (y :: l).foldl max x) = true := by rw [decide_eq_true_iff]; omega
      rw [a1, a2, a3]
      rfl

/-- What Weight answers: n, and whether. -/
def weighO (l : List Int) : Nat × Bool := if weighN l ≤ 4611686018427387904 then (weighN l, true) else (0, false)
theorem weighO_yes {l : List Int} (h : weighN l ≤ 4611686018427387904) : weighO l = (weighN l, true) := by unfold weighO; rw [if_pos h]
theorem weighO_no {l : List Int} {k : Nat} (h : ¬ weighN (l.take k) ≤ 4611686018427387904) : weighO l = (0, false) := by
  have := weighN_le_take l k
  unfold weighO
  rw [if_neg (by omega)]
/-- A number without its sign, cut behind what may be. -/
def sizeC (x : Int) : Nat := if x.natAbs ≤ 4611686018427387904 then x.natAbs else 4611686018427387905
theorem sizeC_over {x : Int} {n : Nat} (hn : n ≤ 4611686018427387904) : (sizeC x : Int) > 4611686018427387904 - (n : Int) ↔ ¬ n + x.natAbs ≤ 4611686018427387904 := by
  unfold sizeC
  split <;> omega
theorem sizeC_small {x : Int} {n : Nat} (h : n + x.natAbs ≤ 4611686018427387904) : sizeC x = x.natAbs := by
  unfold sizeC
  rw [if_pos (by omega)]
/-- A mean, rounded down, by a division that goes towards 0. -/
theorem floor_of (s n : Int) (hn : 0 < n) : (if Int.tmod s n < 0 then Int.tdiv s n - 1 else Int.tdiv s n) = s / n := by
  have h := Int.mul_tdiv_add_tmod s n
  have h1 := Int.tmod_lt_of_pos s hn
  have h2 : -n < Int.tmod s n := Int.lt_tmod_of_pos s hn
  split
  · rename_i hm
    have e : s = n * (s.tdiv n - 1) + (s.tmod n + n) := by rw [Int.mul_sub]; omega
    have := Int.ediv_emod_unique (a := s) (b := n) (q := s.tdiv n - 1) (r := s.tmod n + n) hn
    exact (this.2 ⟨by omega, by omega, by omega⟩).1.symm
  · rename_i hm
    have := Int.ediv_emod_unique (a := s) (b := n) (q := s.tdiv n) (r := s.tmod n) hn
    exact (this.2 ⟨by omega, by omega, by omega⟩).1.symm

end Go.Proofs.Ytejilonhdgfkbaa
