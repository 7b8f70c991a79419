/-
  Texts laid one behind the other: La Sa Ma Mb Mc Sc Sd Md.
-/
import Derived.WalkKit
import Derived.WalkSmall
import Derived.Test.YtklpmajaihmmfaaJocaa
import Derived.Test.YtklpmajaihmmfaaJocab
import Derived.BigQuiet
import Derived.Laws.ResultCell
import Derived.Laws.StructEq
import Derived.Deep.RegionWith
import Derived.Test.YtklpmajaihmmfaaJocae
import Derived.Deep.RegionHeld3

/-
  Cells, plain: what values come to, merged from the first on; that values that weigh not too much have a cell, the same in whatever parts.
-/
namespace Go.Proofs.Ytklpmajaihmmfaa
open Go.RowKit

/-- A cell: Count, Sum, Min, Max. -/
structure Cl where
  n : Int
  s : Int
  lo : Int
  hi : Int
  deriving DecidableEq
def Cl.zero : Cl := ⟨0, 0, 0, 0⟩
def Cl.of (v : Int) : Cl := ⟨1, v, v, v⟩
/-- A number that an int64 holds. -/
def fit (x : Int) : Bool := decide (-9223372036854775808 ≤ x) && decide (x ≤ 9223372036854775807)
theorem fit_iff (x : Int) : fit x = true ↔ -9223372036854775808 ≤ x ∧ x ≤ 9223372036854775807 := by simp [fit]
/-- Two cells together, if that may be. -/
def mergeC (a b : Cl) : Option Cl :=
  if a.n = 0 then some b else if b.n = 0 then some a else if fit (a.n + b.n) && fit (a.s + b.s) then some ⟨a.n + b.n, a.s + b.s, min a.lo b.lo, max a.hi b.hi⟩ else none
/-- Values behind a cell; all values. -/
def moreC : Cl → List Int → Option Cl
  | c, [] => some c
  | c, x :: l => match mergeC c (Cl.of x) with
    | some d => moreC d l
    | none => none
def allC (l : List Int) : Option Cl := moreC Cl.zero l
theorem moreC_append (c : Cl) (l m : List Int) : moreC c (l ++ m) = (moreC c l).bind fun d => moreC d m := by
  induction l generalizing c with
  | nil => rfl
  | cons x l ih =>
    show (match mergeC c (Cl.of x) with | some d => moreC d (l ++ m) | none => none) = (match mergeC c (Cl.of x) with | some d => moreC d l | none => none).bind _
    cases mergeC c (Cl.of x) with
    | none => rfl
    | some d => exact ih d
theorem allC_take {l : List Int} {k : Nat} {x : Int} (h : l[k]? = some x) : allC (l.take (k + 1)) = (allC (l.take k)).bind fun d => mergeC d (Cl.of x) := by
  obtain ⟨hk, e⟩ := List.getElem?_eq_some_iff.1 h
  unfold allC
  rw [List.take_succ_eq_append_getElem hk, e, moreC_append]
  congr 1
  funext d
  show (match mergeC d (Cl.of x) with | some e => some e | none => none) = _
  cases mergeC d (Cl.of x) <;> rfl
theorem allC_none {l : List Int} {k : Nat} (h : allC (l.take k) = none) : allC l = none := by
  unfold allC at *
  rw [← List.take_append_drop k l, moreC_append, h]
  rfl

/-- The weight of values, that of one as far as it counts. -/
def weighN (l : List Int) : Nat := (l.map Int.natAbs).sum
theorem weighN_append (l m : List Int) : weighN (l ++ m) = weighN l + weighN m := by simp [weighN]
theorem weighN_take {l : List Int} {k : Nat} {x : Int} (h : l[k]? = some x) : weighN (l.take (k + 1)) = weighN (l.take k) + x.natAbs := by
  obtain ⟨hk, e⟩ := List.getElem?_eq_some_iff.1 h
  rw [List.take_succ_eq_append_getElem hk, e, weighN_append]
  simp [weighN]
theorem weighN_le_take (l : List Int) (k : Nat) : weighN (l.take k) ≤ weighN l := by
  have := weighN_append (l.take k) (l.drop k)
  rw [List.take_append_drop] at this
  omega
theorem sum_abs (l : List Int) : l.sum.natAbs ≤ weighN l := by
  induction l with
  | nil => exact Nat.le_refl _
  | cons x l ih =>
    show (x + l.sum).natAbs ≤ ((x :: l).map Int.natAbs).sum
    have : ((x :: l).map Int.natAbs).sum = x.natAbs + weighN l := by simp [weighN]
    rw [this]
    omega

/-- The cell of values, told at once. -/
def cellL : List Int → Cl
  | [] => Cl.zero
  | x :: l => ⟨(l.length + 1 : Nat), (x :: l).sum, l.foldl min x, l.foldl max x⟩
theorem cellL_n (l : List Int) : (cellL l).n = l.length := by cases l <;> rfl
theorem cellL_s (l : List Int) : (cellL l).s = l.sum := by cases l <;> rfl
theorem cellL_one (x : Int) : cellL [x] = Cl.of x := by simp [cellL, Cl.of]
theorem foldl_min (l : List Int) (a b : Int) : l.foldl min (min a b) = min a (l.foldl min b) := by
  induction l generalizing a b with
  | nil => rfl
  | cons x l ih =>
    show l.foldl min (min (min a b) x) = min a (l.foldl min (min b x))
    rw [← ih]
    congr 1
    omega
theorem foldl_max (l : List Int) (a b : Int) : l.foldl max (max a b) = max a (l.foldl max b) := by
  induction l generalizing a b with
  | nil => rfl
  | cons x l ih =>
    show l.foldl max (max (max a b) x) = max a (l.foldl max (max b x))
    rw [← ih]
    congr 1
    omega
/-- In whatever parts, in either order. -/
theorem merge_parts (a b : List Int) (h : weighN a + weighN b ≤ 4611686018427387904) (hn : a.length + b.length ≤ 1000000) : mergeC (cellL a) (cellL b) = some (cellL (a ++ b)) := by
  cases a with
  | nil => rfl
  | cons x a =>
    cases b with
    | nil =>
      rw [List.append_nil]
      unfold mergeC
      rw [if_neg (by rw [cellL_n]; simp; omega), if_pos (show (cellL []).n = 0 from rfl)]
    | cons y b =>
      have ha := sum_abs (x :: a)
      have hb := sum_abs (y :: b)
      unfold mergeC
      rw [if_neg (by rw [cellL_n]; simp; omega), if_neg (by rw [cellL_n]; simp; omega), if_pos]
      · have e1 : (cellL (x :: a)).n + (cellL (y :: b)).n = (cellL ((x :: a) ++ (y :: b))).n := by
          rw [cellL_n, cellL_n, cellL_n, List.length_append]
          omega
        have e2 : (cellL (x :: a)).s + (cellL (y :: b)).s = (cellL ((x :: a) ++ (y :: b))).s := by
          rw [cellL_s, cellL_s, cellL_s, List.sum_append]
        have e3 : min (cellL (x :: a)).lo (cellL (y :: b)).lo = (cellL ((x :: a) ++ (y :: b))).lo := by
          show min (a.foldl min x) (b.foldl min y) = (a ++ (y :: b)).foldl min x
          rw [List.foldl_append]
          show _ = b.foldl min (min (a.foldl min x) y)
          rw [foldl_min]
        have e4 : max (cellL (x :: a)).hi (cellL (y :: b)).hi = (cellL ((x :: a) ++ (y :: b))).hi := by
          show max (a.foldl max x) (b.foldl max y) = (a ++ (y :: b)).foldl max x
          rw [List.foldl_append]
          show _ = b.foldl max (max (a.foldl max x) y)
          rw [foldl_max]
        rw [e1, e2, e3, e4]
      · rw [Bool.and_eq_true, fit_iff, fit_iff, cellL_n, cellL_n, cellL_s, cellL_s]
        simp only [List.length_cons] at *
        omega
theorem merge_swap (a b : Cl) (h : a.n ≠ 0 ∨ b.n ≠ 0 ∨ a = b) : mergeC a b = mergeC b a := by
  unfold mergeC
  by_cases ha : a.n = 0
  · by_cases hb : b.n = 0
    · rcases h with h | h | h
      · exact absurd ha h
      · exact absurd hb h
      · rw [h]
    · rw [if_pos ha, if_neg hb, if_pos ha]
  · by_cases hb : b.n = 0
    · rw [if_neg ha, if_pos hb, if_pos hb]
    · rw [if_neg ha, if_neg hb, if_neg hb, if_neg ha, Int.add_comm a.n b.n, Int.add_comm a.s b.s]
      have e1 : min a.lo b.lo = min b.lo a.lo := by omega
      have e2 : max a.hi b.hi = max b.hi a.hi := by omega
      rw [e1, e2]
/-- What weighs not too much has a cell. -/
theorem all_light (l : List Int) (h : weighN l ≤ 4611686018427387904) (hn : l.length ≤ 1000000) : allC l = some (cellL l) := by
  suffices g : ∀ k, k ≤ l.length → allC (l.take k) = some (cellL (l.take k)) by
    have := g l.length (Nat.le_refl _)
    rw [List.take_length] at this
    exact this
  intro k
  induction k with
  | zero => intro _; rfl
  | succ k ih =>
    intro hk
    obtain ⟨x, hx⟩ : ∃ x, l[k]? = some x := ⟨_, List.getElem?_eq_getElem (by omega)⟩
    rw [allC_take hx, ih (by omega)]
    show mergeC (cellL (l.take k)) (Cl.of x) = _
    rw [← cellL_one]
    have hw := weighN_take hx
    have hl := weighN_le_take l (k + 1)
    have h1 : weighN [x] = x.natAbs := by simp [weighN]
    rw [merge_parts (l.take k) [x] (by rw [h1]; omega) (by rw [List.length_take, List.length_singleton]; omega)]
    obtain ⟨hk', e⟩ := List.getElem?_eq_some_iff.1 hx
    rw [List.take_succ_eq_append_getElem hk', e]

/-- A right cell. -/
def rightC (c : Cl) : Bool := if c.n = 0 then decide (c = Cl.zero) else decide (0 < c.n) && (decide (c.lo ≤ c.hi) && (decide (1 < c.n) || (decide (c.s = c.lo) && decide (c.s = c.hi))))
theorem foldl_le (l : List Int) (x : Int) : l.foldl min x ≤ x ∧ x ≤ l.foldl max x := by
  induction l generalizing x with
  | nil => exact ⟨Int.le_refl _, Int.le_refl _⟩
  | cons y l ih =>
    have h1 := (ih (min x y)).1
    have h2 := (ih (max x y)).2
    show l.foldl min (min x y) ≤ x ∧ x ≤ l.foldl max (max x y)
    omega
theorem right_cell (l : List Int) : rightC (cellL l) = true := by
  cases l with
  | nil => rfl
  | cons x l =>
    unfold rightC
    rw [if_neg (by rw [cellL_n]; simp; omega)]
    have h := foldl_le l x
    cases l with
    | nil => simp [cellL]
    | cons y l =>
      have e1 : (cellL (x :: y :: l)).n = (l.length + 2 : Nat) := rfl
      have e2 : (cellL (x :: y :: l)).lo = (y :: l).foldl min x := rfl
      have e3 : (cellL (x :: y :: l)).hi = (y :: l).foldl max x := rfl
      rw [e1, e2, e3]
      have a1 : decide ((0 : Int) < (l.length + 2 : Nat)) = true := by rw [decide_eq_true_iff]; omega
      have a2 : decide ((1 : Int) < (l.length + 2 : Nat)) = true := by rw [decide_eq_true_iff]; omega
      have a3 : decide ((y :: l).foldl min x ≤ (y :: l).foldl max x) = true := by rw [decide_eq_true_iff]; omega
      rw [a1, a2, a3]
      rfl

/-- What Weight answers: n, and whether. -/
def weighO (l : List Int) : Nat × Bool := if weighN l ≤ 4611686018427387904 then (weighN l, true) else (0, false)
theorem weighO_yes {l : List Int} (h : weighN l ≤ 4611686018427387904) : weighO l = (weighN l, true) := by unfold weighO; rw [if_pos h]
theorem weighO_no {l : List Int} {k : Nat} (h : ¬ weighN (l.take k) ≤ 4611686018427387904) : weighO l = (0, false) := by
  have := weighN_le_take l k
  unfold weighO
  rw [if_neg (by omega)]
/-- A number without its sign, cut behind what may be. -/
def sizeC (x : Int) : Nat := if x.natAbs ≤ 4611686018427387904 then x.natAbs else 4611686018427387905
theorem sizeC_over {x : Int} {n : Nat} (hn : n ≤ 4611686018427387904) : (sizeC x : Int) > 4611686018427387904 - (n : Int) ↔ ¬ n + x.natAbs ≤ 4611686018427387904 := by
  unfold sizeC
  split <;> omega
theorem sizeC_small {x : Int} {n : Nat} (h : n + x.natAbs ≤ 4611686018427387904) : sizeC x = x.natAbs := by
  unfold sizeC
  rw [if_pos (by omega)]
/-- A mean, rounded down, by a division that goes towards 0. -/
theorem floor_of (s n : Int) (hn : 0 < n) : (if Int.tmod s n < 0 then Int.tdiv s n - 1 else Int.tdiv s n) = s / n := by
  have h := Int.mul_tdiv_add_tmod s n
  have h1 := Int.tmod_lt_of_pos s hn
  have h2 : -n < Int.tmod s n := Int.lt_tmod_of_pos s hn
  split
  · rename_i hm
    have e : s = n * (s.tdiv n - 1) + (s.tmod n + n) := by rw [Int.mul_sub]; omega
    have := Int.ediv_emod_unique (a := s) (b := n) (q := s.tdiv n - 1) (r := s.tmod n + n) hn
    exact (this.2 ⟨by omega, by omega, by omega⟩).1.symm
  · rename_i hm
    have := Int.ediv_emod_unique (a := s) (b := n) (q := s.tdiv n) (r := s.tmod n) hn
    exact (this.2 ⟨by omega, by omega, by omega⟩).1.symm

end Go.Proofs.Ytklpmajaihmmfaa

/-
  Stage 11, plain: rows by their keys; what facts, and segments, come to.
-/
namespace Go.Proofs.Ytklpmajaihmmfaa
open Go.RowKit

/-- A row: a key, a cell. -/
structure R11 where
  k : K9
  c : Cl
deriving DecidableEq
instance : Inhabited R11 := ⟨⟨⟨0, [], [], [], []⟩, Cl.zero⟩⟩
/-- A row put into rows, by its key, merged with what is there; none: it can't be. -/
def putR (x : R11) : List R11 → Option (List R11)
  | [] => some [x]
  | r :: t => if keyLt r.k x.k then (putR x t).map (r :: ·) else if r.k = x.k then (mergeC r.c x.c).map (⟨x.k, ·⟩ :: t) else some (x :: r :: t)
/-- Rows put one behind the other. -/
def putsR : List R11 → List R11 → Option (List R11)
  | acc, [] => some acc
  | acc, x :: l => (putR x acc).bind fun a => putsR a l
def rowF (f : F9) : R11 := ⟨f.k, Cl.of f.v⟩
def ofR (l : List F9) : Option (List R11) := putsR [] (l.map rowF)
def mergeR (ls : List (List R11)) : Option (List R11) := putsR [] ls.flatten
def RiseR (l : List R11) : Prop := l.Pairwise fun a b => keyLt a.k b.k = true
/-- A key's cell. -/
def findR (k : K9) : List R11 → Option Cl
  | [] => none
  | r :: t => if r.k = k then some r.c else findR k t
/-- A cell put to what is there, if anything is. -/
def addO (o : Option Cl) (c : Cl) : Option Cl :=
  match o with
  | none => some c
  | some d => mergeC d c
theorem key_irr (k : K9) : keyLt k k = false := rises_key.irr k
theorem key_tr {a b c : K9} (h : keyLt a b = true) (g : keyLt b c = true) : keyLt a c = true := rises_key.tr a b c h g
theorem find_above {k : K9} : ∀ {l : List R11}, (∀ r ∈ l, keyLt k r.k = true) → findR k l = none
  | [], _ => rfl
  | r :: t, h => by
    unfold findR
    rw [if_neg (fun e => by have h1 := h r (List.mem_cons_self ..); rw [e, key_irr] at h1; cases h1)]
    exact find_above (fun y hy => h y (List.mem_cons_of_mem _ hy))
theorem find_mem {k : K9} {c : Cl} : ∀ {l : List R11}, findR k l = some c → (⟨k, c⟩ : R11) ∈ l
  | [], h => by cases h
  | r :: t, h => by
    unfold findR at h
    split at h
    · rename_i e
      cases h
      subst e
      exact List.mem_cons_self ..
    · exact List.mem_cons_of_mem _ (find_mem h)
theorem find_of {r : R11} : ∀ {l : List R11}, RiseR l → r ∈ l → findR r.k l = some r.c
  | x :: t, h, hr => by
    unfold findR
    rcases List.mem_cons.1 hr with rfl | hr
    · rw [if_pos rfl]
    · rw [if_neg (fun e => by have h1 := (List.pairwise_cons.1 h).1 r hr; rw [e, key_irr] at h1; cases h1)]
      exact find_of (List.pairwise_cons.1 h).2 hr
/-- Put tells the keys' cells. -/
theorem putR_some {x : R11} : ∀ {l : List R11} {c : Cl}, RiseR l → addO (findR x.k l) x.c = some c →
    ∃ m, putR x l = some m ∧ RiseR m ∧ findR x.k m = some c ∧ (∀ k, k ≠ x.k → findR k m = findR k l) ∧ ∀ r ∈ m, r.k = x.k ∨ r ∈ l
  | [], c, _, hc => by
    simp only [findR, addO, Option.some.injEq] at hc
    subst hc
    exact ⟨[x], rfl, List.pairwise_singleton _ _, by simp [findR], (fun k hk => by simp only [findR]; rw [if_neg (Ne.symm hk)]), (fun r hr => .inl (by rw [List.mem_singleton.1 hr]))⟩
  | r :: t, c, h, hc => by
    obtain ⟨h1, h2⟩ := List.pairwise_cons.1 h
    unfold putR
    by_cases hlt : keyLt r.k x.k = true
    · rw [if_pos hlt]
      have hne : r.k ≠ x.k := fun e => by rw [e, key_irr] at hlt; cases hlt
      have hf : findR x.k (r :: t) = findR x.k t := by
        show (if r.k = x.k then _ else _) = _
        rw [if_neg hne]
      rw [hf] at hc
      obtain ⟨m, e1, e2, e3, e4, e5⟩ := putR_some h2 hc
      refine ⟨r :: m, by rw [e1]; rfl, List.pairwise_cons.2 ⟨fun y hy => ?_, e2⟩, ?_, fun k hk => ?_, fun y hy => ?_⟩
      · rcases e5 y hy with e | hy
        · rw [e]; exact hlt
        · exact h1 y hy
      · show (if r.k = x.k then _ else _) = _
        rw [if_neg hne]
        exact e3
      · show (if r.k = k then _ else _) = (if r.k = k then _ else _)
        rw [e4 k hk]
      · rcases List.mem_cons.1 hy with rfl | hy
        · exact .inr (List.mem_cons_self ..)
        · exact (e5 y hy).imp id (List.mem_cons_of_mem _)
    · rw [if_neg hlt]
      by_cases he : r.k = x.k
      · rw [if_pos he]
        have hf : findR x.k (r :: t) = some r.c := by
          show (if r.k = x.k then _ else _) = _
          rw [if_pos he]
        rw [hf] at hc
        have hc2 : mergeC r.c x.c = some c := hc
        refine ⟨⟨x.k, c⟩ :: t, by rw [hc2]; rfl, List.pairwise_cons.2 ⟨fun y hy => by rw [← he]; exact h1 y hy, h2⟩, ?_, fun k hk => ?_, fun y hy => ?_⟩
        · show (if x.k = x.k then _ else _) = _
          rw [if_pos rfl]
        · show (if x.k = k then _ else _) = (if r.k = k then _ else _)
          rw [if_neg (Ne.symm hk), if_neg (by rw [he]; exact Ne.symm hk)]
        · rcases List.mem_cons.1 hy with rfl | hy
          · exact .inl rfl
          · exact .inr (List.mem_cons_of_mem _ hy)
      · rw [if_neg he]
        have hxr : keyLt x.k r.k = true := rises_key.tot _ _ he (by simpa using hlt)
        have hab : ∀ y ∈ r :: t, keyLt x.k y.k = true := fun y hy => by
          rcases List.mem_cons.1 hy with rfl | hy
          · exact hxr
          · exact key_tr hxr (h1 y hy)
        rw [find_above hab] at hc
        cases hc
        refine ⟨x :: r :: t, rfl, List.pairwise_cons.2 ⟨hab, h⟩, ?_, fun k hk => ?_, fun y hy => ?_⟩
        · show (if x.k = x.k then _ else _) = _
          rw [if_pos rfl]
        · show (if x.k = k then _ else _) = _
          rw [if_neg (Ne.symm hk)]
        · rcases List.mem_cons.1 hy with rfl | hy
          · exact .inl rfl
          · exact .inr hy
theorem putR_none {x : R11} : ∀ {l : List R11}, RiseR l → addO (findR x.k l) x.c = none → putR x l = none
  | [], _, hc => by cases hc
  | r :: t, h, hc => by
    obtain ⟨h1, h2⟩ := List.pairwise_cons.1 h
    unfold putR
    by_cases hlt : keyLt r.k x.k = true
    · rw [if_pos hlt]
      have hne : r.k ≠ x.k := fun e => by rw [e, key_irr] at hlt; cases hlt
      have hf : findR x.k (r :: t) = findR x.k t := by
        show (if r.k = x.k then _ else _) = _
        rw [if_neg hne]
      rw [hf] at hc
      rw [putR_none h2 hc]
      rfl
    · rw [if_neg hlt]
      by_cases he : r.k = x.k
      · rw [if_pos he]
        have hf : findR x.k (r :: t) = some r.c := by
          show (if r.k = x.k then _ else _) = _
          rw [if_pos he]
        rw [hf] at hc
        have hc2 : mergeC r.c x.c = none := hc
        rw [hc2]
        rfl
      · have hxr : keyLt x.k r.k = true := rises_key.tot _ _ he (by simpa using hlt)
        have hab : ∀ y ∈ r :: t, keyLt x.k y.k = true := fun y hy => by
          rcases List.mem_cons.1 hy with rfl | hy
          · exact hxr
          · exact key_tr hxr (h1 y hy)
        rw [find_above hab] at hc
        cases hc
/-- Rows with the same cells are the same. -/
theorem rows_one : ∀ {l m : List R11}, RiseR l → RiseR m → (∀ k, findR k l = findR k m) → l = m
  | [], [], _, _, _ => rfl
  | [], r :: t, _, _, h => by
    have h1 := h r.k
    simp [findR] at h1
  | r :: t, [], _, _, h => by
    have h1 := h r.k
    simp [findR] at h1
  | r :: t, s :: u, hl, hm, h => by
    obtain ⟨h1, h2⟩ := List.pairwise_cons.1 hl
    obtain ⟨g1, g2⟩ := List.pairwise_cons.1 hm
    have hrs : r = s := by
      have e1 : findR r.k (r :: t) = some r.c := by simp [findR]
      have e2 : findR s.k (s :: u) = some s.c := by simp [findR]
      have m1 := find_mem ((h r.k).symm.trans e1)
      have m2 := find_mem ((h s.k).trans e2)
      rcases List.mem_cons.1 m1 with e | m1
      · exact e
      · rcases List.mem_cons.1 m2 with e | m2
        · exact e.symm
        · have a1 := g1 _ m1
          have a2 := h1 _ m2
          have := key_tr a1 a2
          rw [key_irr] at this
          cases this
    subst hrs
    congr 1
    refine rows_one h2 g2 fun k => ?_
    by_cases e : r.k = k
    · subst e
      rw [find_above h1, find_above g1]
    · have := h k
      simpa [findR, e] using this
/-- The cells of a key's rows, in their order; put one to the other. -/
def cellsOf (k : K9) : List R11 → List Cl
  | [] => []
  | r :: t => if r.k = k then r.c :: cellsOf k t else cellsOf k t
def moreO : Option Cl → List Cl → Option (Option Cl)
  | o, [] => some o
  | o, c :: l => match addO o c with
    | some d => moreO (some d) l
    | none => none
theorem cellsOf_append (k : K9) (l m : List R11) : cellsOf k (l ++ m) = cellsOf k l ++ cellsOf k m := by
  induction l with
  | nil => rfl
  | cons r t ih =>
    show (if r.k = k then r.c :: cellsOf k (t ++ m) else cellsOf k (t ++ m)) = (if r.k = k then r.c :: cellsOf k t else cellsOf k t) ++ cellsOf k m
    split
    · rw [ih]; rfl
    · exact ih
theorem puts_some : ∀ {l acc : List R11}, RiseR acc → (∀ k, moreO (findR k acc) (cellsOf k l) ≠ none) → ∃ r, putsR acc l = some r ∧ RiseR r ∧ ∀ k, moreO (findR k acc) (cellsOf k l) = some (findR k r)
  | [], acc, h, _ => ⟨acc, rfl, h, fun _ => rfl⟩
  | x :: l, acc, h, hk => by
    have hx := hk x.k
    have e : cellsOf x.k (x :: l) = x.c :: cellsOf x.k l := by simp [cellsOf]
    rw [e] at hx
    cases hc : addO (findR x.k acc) x.c with
    | none =>
      simp only [moreO, hc] at hx
      exact absurd rfl hx
    | some c =>
      obtain ⟨m, e1, e2, e3, e4, _⟩ := putR_some h hc
      have key : ∀ k, moreO (findR k acc) (cellsOf k (x :: l)) = moreO (findR k m) (cellsOf k l) := fun k => by
        by_cases ek : k = x.k
        · subst ek
          rw [e, e3]
          simp only [moreO, hc]
        · have e5 : cellsOf k (x :: l) = cellsOf k l := by
            show (if x.k = k then _ else _) = _
            rw [if_neg (Ne.symm ek)]
          rw [e5, e4 k ek]
      obtain ⟨r, r1, r2, r3⟩ := puts_some (l := l) e2 (fun k => by rw [← key k]; exact hk k)
      exact ⟨r, by unfold putsR; rw [e1]; exact r1, r2, fun k => by rw [key k]; exact r3 k⟩
theorem puts_none : ∀ {l acc : List R11}, RiseR acc → (∃ k, moreO (findR k acc) (cellsOf k l) = none) → putsR acc l = none
  | [], acc, _, ⟨k, hk⟩ => by cases hk
  | x :: l, acc, h, ⟨k, hk⟩ => by
    unfold putsR
    cases hc : addO (findR x.k acc) x.c with
    | none => rw [putR_none h hc]; rfl
    | some c =>
      obtain ⟨m, e1, e2, e3, e4, _⟩ := putR_some h hc
      rw [e1]
      refine puts_none e2 ⟨k, ?_⟩
      by_cases ek : k = x.k
      · subst ek
        have e : cellsOf x.k (x :: l) = x.c :: cellsOf x.k l := by simp [cellsOf]
        rw [e] at hk
        simp only [moreO, hc] at hk
        rw [e3]
        exact hk
      · have e5 : cellsOf k (x :: l) = cellsOf k l := by
          show (if x.k = k then _ else _) = _
          rw [if_neg (Ne.symm ek)]
        rw [e5] at hk
        rw [e4 k ek]
        exact hk
/-- Whatever has each key's cells, rising, is what putting them comes to. -/
theorem puts_is {l r : List R11} (hr : RiseR r) (h : ∀ k, moreO none (cellsOf k l) = some (findR k r)) : putsR [] l = some r := by
  obtain ⟨m, e1, e2, e3⟩ := puts_some (l := l) (acc := []) List.Pairwise.nil (fun k => by show moreO none _ ≠ _; rw [h k]; simp)
  rw [e1, rows_one e2 hr fun k => by have a := e3 k; rw [show findR k [] = none from rfl, h k] at a; exact (Option.some.inj a).symm]
theorem puts_not {l : List R11} {k : K9} (h : moreO none (cellsOf k l) = none) : putsR [] l = none := puts_none (acc := []) List.Pairwise.nil ⟨k, h⟩
theorem puts_rise {l r : List R11} (h : putsR [] l = some r) : RiseR r ∧ ∀ k, moreO none (cellsOf k l) = some (findR k r) := by
  by_cases hk : ∀ k, moreO none (cellsOf k l) ≠ none
  · obtain ⟨m, e1, e2, e3⟩ := puts_some (l := l) (acc := []) List.Pairwise.nil hk
    rw [h] at e1
    cases e1
    exact ⟨e2, e3⟩
  · obtain ⟨k, e⟩ : ∃ k, moreO none (cellsOf k l) = none := by
      refine Classical.byContradiction fun hn => hk fun k e => hn ⟨k, e⟩
    rw [puts_not e] at h
    cases h
theorem putsR_append (acc l m : List R11) : putsR acc (l ++ m) = (putsR acc l).bind fun a => putsR a m := by
  induction l generalizing acc with
  | nil => rfl
  | cons x l ih =>
    show (putR x acc).bind _ = ((putR x acc).bind _).bind _
    cases putR x acc with
    | none => rfl
    | some a => exact ih a
/-- The place of a key. -/
def posR (k : K9) : List R11 → Nat
  | [] => 0
  | r :: t => if keyLt r.k k then posR k t + 1 else 0
theorem posR_le (k : K9) : ∀ l, posR k l ≤ l.length
  | [] => Nat.le_refl _
  | r :: t => by
    unfold posR
    split
    · have := posR_le k t; simp only [List.length_cons]; omega
    · exact Nat.zero_le _
theorem posR_at (k : K9) : ∀ (l : List R11) (i : Nat) (r : R11), l[i]? = some r → i < posR k l → keyLt r.k k = true
  | [], i, _, h, _ => by simp at h
  | x :: t, i, r, h, hi => by
    unfold posR at hi
    split at hi
    · rename_i hx
      cases i with
      | zero => cases h; exact hx
      | succ i => exact posR_at k t i r (by simpa using h) (by omega)
    · omega
theorem posR_end (k : K9) : ∀ (l : List R11) (r : R11), l[posR k l]? = some r → keyLt r.k k = false
  | [], _, h => by simp at h
  | x :: t, r, h => by
    unfold posR at h
    split at h
    · exact posR_end k t r (by simpa using h)
    · rename_i hx
      have : x = r := by simpa using h
      rw [← this]
      simpa using hx
theorem putR_at (x : R11) : ∀ l, putR x l = match l[posR x.k l]? with
    | some r => if r.k = x.k then (mergeC r.c x.c).map (fun c => l.take (posR x.k l) ++ ⟨x.k, c⟩ :: l.drop (posR x.k l + 1)) else some (l.take (posR x.k l) ++ x :: l.drop (posR x.k l))
    | none => some (l.take (posR x.k l) ++ x :: l.drop (posR x.k l))
  | [] => rfl
  | r :: t => by
    unfold putR posR
    by_cases h : keyLt r.k x.k = true
    · rw [if_pos h, if_pos h, putR_at x t]
      simp only [List.getElem?_cons_succ, List.take_succ_cons, List.drop_succ_cons, List.cons_append]
      cases t[posR x.k t]? with
      | none => rfl
      | some s =>
        dsimp only
        split
        · cases mergeC s.c x.c <;> rfl
        · rfl
    · rw [if_neg h, if_neg h]
      simp only [List.getElem?_cons_zero, List.take_zero, List.nil_append, List.drop_zero, List.drop_succ_cons]

end Go.Proofs.Ytklpmajaihmmfaa

/-
  Numbers of cells: a number's sign, its size, two numbers together, by the program and by the document.
-/
namespace Go.Proofs.Ytklpmajaihmmfaa
open Go.RowKit

theorem u64_of {x : Int} (h : fit x = true) : IntKind.u64.wrap x = if x < 0 then x + 18446744073709551616 else x := by
  rw [fit_iff] at h
  rw [IntKind.wrap_u64]
  split <;> omega

set_option maxRecDepth 100000 in
set_option maxHeartbeats 400000 in
theorem sign_any (x : Int) (w : World) (h : Hid (fit x = true)) :
    Calls Try.prog 60 #[.int .i64 x] w fun e w' => e = .returned (.int .u64 (if x < 0 then 1 else 0)) ∧ w = w' := by
  have HB : Hid (IntKind.u64.wrap x / 9223372036854775808 = if x < 0 then 1 else 0) := by
    show _ = _
    rw [u64_of h.out]
    have := (fit_iff x).1 h.out
    split <;> omega
  generalize hs : (if x < 0 then (1 : Int) else 0) = s at *
  clear hs
  go_enter Try.func60, Try.ntmps60
  go_wp2
  go_ret
  exact ⟨ret_int HB.out, rfl⟩
theorem sign_at (x s : Int) (h : Hid (fit x = true)) (hs : s = if x < 0 then 1 else 0) (w : World) :
    Calls Try.prog 60 #[.int .i64 x] w fun e w' => e = .returned (.int .u64 s) ∧ w = w' := by
  rw [hs]
  exact sign_any x w h

theorem size_a {x : Int} (h : 4611686018427387904 < x ∨ x < -4611686018427387904) : 4611686018427387905 = (sizeC x : Int) := by
  unfold sizeC
  rw [if_neg (by omega)]
  rfl
theorem size_b {x : Int} (h : x ≤ 4611686018427387904 ∧ -4611686018427387904 ≤ x) (g : x < 0) : -x = (sizeC x : Int) := by
  unfold sizeC
  rw [if_pos (by omega)]
  omega
theorem size_c {x : Int} (h : x ≤ 4611686018427387904 ∧ -4611686018427387904 ≤ x) (g : 0 ≤ x) : x = (sizeC x : Int) := by
  unfold sizeC
  rw [if_pos (by omega)]
  omega

theorem wrap_par (z : Nat) : IntKind.i64.wrap (z : Int) % 2 = ((z % 2 : Nat) : Int) := by
  rw [IntKind.wrap_i64]
  have h := Int.emod_emod_of_dvd ((z : Int) + 9223372036854775808) (show (2 : Int) ∣ 18446744073709551616 from ⟨9223372036854775808, by decide⟩)
  generalize ((z : Int) + 9223372036854775808) % 18446744073709551616 = r at *
  omega

/-- The lowest bit of two numbers' common ones. -/
def low2 (x y : Int) : Int := if x % 2 = 1 ∧ y % 2 = 1 then 1 else 0
theorem low_and (x y : Int) : bits BinOp.and IntKind.i64 (bits BinOp.and IntKind.i64 x y) 1 = low2 x y := by
  have e1 : ∀ u : Int, bits BinOp.and IntKind.i64 u 1 = u % 2 := fun u => by
    show IntKind.i64.wrap ((BitVec.ofInt 64 u &&& BitVec.ofInt 64 1).toNat : Int) = _
    rw [BitVec.toNat_and, show (BitVec.ofInt 64 1).toNat = 1 from rfl, Nat.and_one_is_mod, BitVec.toNat_ofInt]
    have := Int.emod_nonneg u (b := 2 ^ 64) (by decide)
    have e : ((2 ^ 64 : Nat) : Int) = 18446744073709551616 := rfl
    rw [e]
    rw [IntWalk.i64_in _ (by omega)]
    omega
  rw [e1]
  have hx : (BitVec.ofInt 64 x).toNat % 2 = (x % 2).toNat := by rw [BitVec.toNat_ofInt, show ((2 ^ 64 : Nat) : Int) = 18446744073709551616 from rfl]; omega
  have hy : (BitVec.ofInt 64 y).toNat % 2 = (y % 2).toNat := by rw [BitVec.toNat_ofInt, show ((2 ^ 64 : Nat) : Int) = 18446744073709551616 from rfl]; omega
  have h2 : ((BitVec.ofInt 64 x).toNat &&& (BitVec.ofInt 64 y).toNat) % 2 = (x % 2).toNat &&& (y % 2).toNat := by
    have := Nat.and_mod_two_pow (a := (BitVec.ofInt 64 x).toNat) (b := (BitVec.ofInt 64 y).toNat) (n := 1)
    rw [Nat.pow_one, hx, hy] at this
    exact this
  show IntKind.i64.wrap ((BitVec.ofInt 64 x &&& BitVec.ofInt 64 y).toNat : Int) % 2 = low2 x y
  rw [BitVec.toNat_and]
  generalize (BitVec.ofInt 64 x).toNat &&& (BitVec.ofInt 64 y).toNat = z at *
  rw [wrap_par, h2]
  unfold low2
  rcases (show x % 2 = 0 ∨ x % 2 = 1 by omega) with a | a <;> rcases (show y % 2 = 0 ∨ y % 2 = 1 by omega) with b | b <;> rw [a, b] <;> rfl

theorem sign_same {g q : Int} (h : fit g = true) (hq : q = wrap64 (g * 2)) {z : Int} (hg : g = z / 2) : ((if g < 0 then 1 else 0 : Int) = if q < 0 then 1 else 0) ↔ fit z = true := by
  rw [fit_iff] at *
  unfold wrap64 at hq
  subst hq
  split <;> split <;> omega

theorem ret_pair {a b : Int} {k : IntKind} {c : Bool} (h : a = b) : Ending.returned (.tuple #[.int k a, .bool c]) = .returned (.tuple #[.int k b, .bool c]) := by rw [h]

/-- What two numbers come to, and whether. -/
def sumV (x y : Int) : Value := .tuple #[.int .i64 (if fit (x + y) then x + y else 0), .bool (fit (x + y))]
theorem sumV_yes {x y : Int} (h : fit (x + y) = true) : sumV x y = .tuple #[.int .i64 (x + y), .bool true] := by unfold sumV; rw [h]; rfl
theorem sumV_no {x y : Int} (h : fit (x + y) = false) : sumV x y = .tuple #[.int .i64 0, .bool false] := by unfold sumV; rw [h]; rfl

set_option maxRecDepth 100000 in
set_option maxHeartbeats 400000 in
theorem sum_any (x y : Int) (w : World) (hx : Hid (fit x = true)) (hy : Hid (fit y = true)) :
    Calls Try.prog 49 #[.int .i64 x, .int .i64 y] w fun e w' => e = .returned (sumV x y) ∧ w = w' := by
  have e2 := low_and x y
  have h1 := (fit_iff x).1 hx.out
  have h2 := (fit_iff y).1 hy.out
  have hl : x / 2 + y / 2 + low2 x y = (x + y) / 2 := by unfold low2; split <;> omega
  have e1 : wrap64 (x / 2 + y / 2) = x / 2 + y / 2 := by unfold wrap64; omega
  have e3 : wrap64 (x / 2 + y / 2 + low2 x y) = (x + y) / 2 := by rw [hl]; unfold wrap64; omega
  obtain ⟨g, hg⟩ : ∃ g, g = (x + y) / 2 := ⟨_, rfl⟩
  have hgf : fit g = true := by rw [fit_iff]; omega
  obtain ⟨q, hq⟩ : ∃ q, q = wrap64 (g * 2) := ⟨_, rfl⟩
  have hqf : fit q = true := by rw [fit_iff, hq]; unfold wrap64; omega
  obtain ⟨s, hs⟩ : ∃ s : Int, s = if g < 0 then 1 else 0 := ⟨_, rfl⟩
  obtain ⟨t, ht⟩ : ∃ s : Int, s = if q < 0 then 1 else 0 := ⟨_, rfl⟩
  have hsame := sign_same hgf hq hg
  rw [← hs, ← ht] at hsame
  have HS := Lib.hid (sign_at g s (Lib.hid hgf) hs)
  have HT := Lib.hid (sign_at q t (Lib.hid hqf) ht)
  have hz : fit (x + y) = true → wrap64 (x + y) = x + y := fun h => by rw [fit_iff] at h; unfold wrap64; omega
  rw [← hg] at e3
  have e4 := hq.symm
  clear hg hgf hqf hs ht hl h1 h2 hq
  generalize low2 x y = c at *
  by_cases hst : s = t
  · have hf := hsame.1 hst
    have e5 := hz hf
    rw [sumV_yes hf]
    subst hst
    clear hsame hz hf
    have HX := Lib.hid hx; have HY := Lib.hid hy
    clear hx hy
    go_enter Try.func49, Try.ntmps49
    go_wp2_with (first
      | (go_at_call 60; (with_reducible refine (HS.out _).mono ?_); rintro e w' ⟨rfl, rfl⟩)
      | (go_at_call 60; (with_reducible refine (HT.out _).mono ?_); rintro e w' ⟨rfl, rfl⟩))
    go_ret2
    exact ⟨ret_pair e5, rfl⟩
  · have hf : fit (x + y) = false := by
      cases h : fit (x + y) with
      | true => exact absurd (hsame.2 h) hst
      | false => rfl
    rw [sumV_no hf]
    clear hsame hz hf
    have hst' : (s != t) = true := by rw [bne_iff_ne]; exact hst
    clear hst
    go_enter Try.func49, Try.ntmps49
    go_wp2_with (first
      | (go_at_call 60; (with_reducible refine (HS.out _).mono ?_); rintro e w' ⟨rfl, rfl⟩)
      | (go_at_call 60; (with_reducible refine (HT.out _).mono ?_); rintro e w' ⟨rfl, rfl⟩))
    go_ret2
    exact ⟨rfl, rfl⟩

section
variable {x y : Int}
theorem add_a (hx : fit x = true) (hy : fit y = true) (h : 0 ≤ y) (g : x ≤ wrap64 (9223372036854775807 - y)) : Ending.returned (.tuple #[.int .i64 (wrap64 (x + y)), .bool true]) = .returned (sumV x y) := by
  rw [fit_iff] at *
  have e : wrap64 (9223372036854775807 - y) = 9223372036854775807 - y := by unfold wrap64; omega
  rw [e] at g
  rw [sumV_yes ((fit_iff _).2 ⟨by omega, by omega⟩)]
  exact ret_pair (by unfold wrap64; omega)
theorem add_b (hy : fit y = true) (h : 0 ≤ y) (g : wrap64 (9223372036854775807 - y) < x) : Ending.returned (.tuple #[.int .i64 0, .bool false]) = .returned (sumV x y) := by
  rw [fit_iff] at *
  have e : wrap64 (9223372036854775807 - y) = 9223372036854775807 - y := by unfold wrap64; omega
  rw [e] at g
  rw [sumV_no]
  rw [Bool.eq_false_iff, ne_eq, fit_iff]
  omega
theorem add_c (hy : fit y = true) (h : y < 0) (g : x < wrap64 (-9223372036854775808 - y)) : Ending.returned (.tuple #[.int .i64 0, .bool false]) = .returned (sumV x y) := by
  rw [fit_iff] at *
  have e : wrap64 (-9223372036854775808 - y) = -9223372036854775808 - y := by unfold wrap64; omega
  rw [e] at g
  rw [sumV_no]
  rw [Bool.eq_false_iff, ne_eq, fit_iff]
  omega
theorem add_d (hx : fit x = true) (hy : fit y = true) (h : y < 0) (g : wrap64 (-9223372036854775808 - y) ≤ x) : Ending.returned (.tuple #[.int .i64 (wrap64 (x + y)), .bool true]) = .returned (sumV x y) := by
  rw [fit_iff] at *
  have e : wrap64 (-9223372036854775808 - y) = -9223372036854775808 - y := by unfold wrap64; omega
  rw [e] at g
  rw [sumV_yes ((fit_iff _).2 ⟨by omega, by omega⟩)]
  exact ret_pair (by unfold wrap64; omega)
end

set_option maxRecDepth 100000 in
set_option maxHeartbeats 400000 in
theorem ref_add (x y : Int) (w : World) (hx : Hid (fit x = true)) (hy : Hid (fit y = true)) :
    Calls Try.prog 59 #[.int .i64 x, .int .i64 y] w fun e w' => e = .returned (sumV x y) ∧ w = w' := by
  go_enter Try.func59, Try.ntmps59
  go_wp2
  · go_ret2
    exact ⟨(add_a hx.out hy.out (by assumption) (by assumption)), rfl⟩
  · go_ret2
    exact ⟨(add_b hy.out (by assumption) (by assumption)), rfl⟩
  · go_ret2
    exact ⟨(add_c hy.out (by assumption) (by assumption)), rfl⟩
  · go_ret2
    exact ⟨(add_d hx.out hy.out (by assumption) (by assumption)), rfl⟩

end Go.Proofs.Ytklpmajaihmmfaa

/-
  Cells by the program and by the document: one value's cell, a mean, which are right.
-/
namespace Go.Proofs.Ytklpmajaihmmfaa
open Go.RowKit

theorem results_cell {fn : Func} {p : Tmp} {ty : TypeId} (h : fn.results = #[.cell p ty]) (tmps : Array Value) (P : Program) (w : World) :
    (results fn tmps).run P w = ((asAddr (tmps.getD p undef)).run P w).andThen fun a w₁ => (loadVar ty a).run P w₁ := by
  simp only [results, h]
  simp [Sem.run_bind, Result.andThen]

/-- A cell, as a value. -/
def cv (c : Cl) : Value := .agg #[.int .i64 c.n, .int .i64 c.s, .int .i64 c.lo, .int .i64 c.hi]
/-- Numbers that an int64 holds. -/
def okC (c : Cl) : Prop := fit c.n = true ∧ fit c.s = true ∧ fit c.lo = true ∧ fit c.hi = true

set_option maxRecDepth 100000 in
set_option maxHeartbeats 400000 in
theorem of_any (v : Int) (w : World) :
    Calls Try.prog 34 #[.int .i64 v] w fun e w' => e = .returned (.agg #[.int .i64 1, .int .i64 v, .int .i64 v, .int .i64 v]) ∧ w' = w.alloc (.cells #[.int .i64 1, .int .i64 v, .int .i64 v, .int .i64 v] 53) := by
  go_enter Try.func34, Try.ntmps34
  go_wp2
  refine bodyPost_ret (v := .agg #[.int .i64 1, .int .i64 v, .int .i64 v, .int .i64 v]) ?_ rfl ⟨rfl, rfl⟩
  rw [results_cell rfl]
  go_simp
set_option maxRecDepth 100000 in
set_option maxHeartbeats 400000 in
theorem ref_of (v : Int) (w : World) :
    Calls Try.prog 31 #[.int .i64 v] w fun e w' => e = .returned (.agg #[.int .i64 1, .int .i64 v, .int .i64 v, .int .i64 v]) ∧ w' = w.alloc (.cells #[.int .i64 1, .int .i64 v, .int .i64 v, .int .i64 v] 53) := by
  go_enter Try.func31, Try.ntmps31
  go_wp2
  refine bodyPost_ret (v := .agg #[.int .i64 1, .int .i64 v, .int .i64 v, .int .i64 v]) ?_ rfl ⟨rfl, rfl⟩
  rw [results_cell rfl]
  go_simp

/-- What Mean answers. -/
def meanV (n s : Int) : Value := if n < 1 then .tuple #[.int .i64 0, .bool false] else .tuple #[.int .i64 (s / n), .bool true]
theorem meanV_shape (n s : Int) : ∃ x b, meanV n s = .tuple #[.int .i64 x, .bool b] := by
  unfold meanV
  split <;> exact ⟨_, _, rfl⟩
theorem mean_no {n s : Int} (h : n < 1) : Ending.returned (.tuple #[.int .i64 0, .bool false]) = .returned (meanV n s) := by
  unfold meanV
  rw [if_pos h]
theorem mean_div {n s : Int} (hs : fit s = true) (h : 1 ≤ n) : wrap64 (s.tdiv n) = s.tdiv n := by
  rw [fit_iff] at hs
  have h1 : (s.tdiv n).natAbs ≤ s.natAbs := by rw [Int.natAbs_tdiv]; exact Nat.div_le_self _ _
  unfold wrap64
  generalize hq : s.tdiv n = q at *
  by_cases h0 : 0 ≤ s
  · have : 0 ≤ q := by rw [← hq]; exact Int.tdiv_nonneg h0 (by omega)
    omega
  · have h2 : 0 ≤ (-s).tdiv n := Int.tdiv_nonneg (by omega) (by omega)
    rw [Int.neg_tdiv, hq] at h2
    omega
theorem mean_a {n s : Int} (hs : fit s = true) (h : 1 ≤ n) (g : s.tmod n < 0) : Ending.returned (.tuple #[.int .i64 (wrap64 (wrap64 (s.tdiv n) - 1)), .bool true]) = .returned (meanV n s) := by
  have hf := floor_of s n (by omega)
  rw [if_pos g] at hf
  rw [mean_div hs h, hf]
  unfold meanV
  rw [if_neg (by omega)]
  refine ret_pair ?_
  rw [fit_iff] at hs
  have h1 := Int.ediv_mul_le s (b := n) (by omega)
  have h2 := Int.lt_ediv_add_one_mul_self s (b := n) (by omega)
  have h3 : -9223372036854775808 ≤ s / n := by
    rw [Int.le_ediv_iff_mul_le (by omega)]
    have : (-9223372036854775808 : Int) * n ≤ -9223372036854775808 * 1 := by omega
    omega
  have h4 : s / n ≤ 9223372036854775807 := by
    have h5 : s / n < 9223372036854775808 := by
      rw [Int.ediv_lt_iff_lt_mul (by omega)]
      omega
    omega
  unfold wrap64
  omega
theorem mean_b {n s : Int} (hs : fit s = true) (h : 1 ≤ n) (g : 0 ≤ s.tmod n) : Ending.returned (.tuple #[.int .i64 (wrap64 (s.tdiv n)), .bool true]) = .returned (meanV n s) := by
  have hf := floor_of s n (by omega)
  rw [if_neg (by omega)] at hf
  rw [mean_div hs h, hf]
  unfold meanV
  rw [if_neg (by omega)]

theorem rightC_eq (n s lo hi : Int) : rightC ⟨n, s, lo, hi⟩ = true ↔ (n = 0 ∧ s = 0 ∧ lo = 0 ∧ hi = 0) ∨ (0 < n ∧ lo ≤ hi ∧ (1 < n ∨ (s = lo ∧ s = hi))) := by
  unfold rightC
  by_cases h : n = 0
  · subst h
    simp [Cl.zero]
  · simp only [if_neg h, Bool.and_eq_true, Bool.or_eq_true, decide_eq_true_iff]
    constructor
    · exact fun g => .inr g
    · rintro (g | g)
      · exact absurd g.1 h
      · exact g
theorem right_is {n s lo hi : Int} {b : Bool} (h : b = true ↔ (n = 0 ∧ s = 0 ∧ lo = 0 ∧ hi = 0) ∨ (0 < n ∧ lo ≤ hi ∧ (1 < n ∨ (s = lo ∧ s = hi)))) : b = rightC ⟨n, s, lo, hi⟩ := by
  rw [Bool.eq_iff_iff, rightC_eq]
  exact h

theorem right_t {n s lo hi : Int} (h : (n = 0 ∧ s = 0 ∧ lo = 0 ∧ hi = 0) ∨ (0 < n ∧ lo ≤ hi ∧ (1 < n ∨ (s = lo ∧ s = hi)))) : true = rightC ⟨n, s, lo, hi⟩ := right_is ⟨fun _ => h, fun _ => rfl⟩
theorem right_f {n s lo hi : Int} (h : ¬ ((n = 0 ∧ s = 0 ∧ lo = 0 ∧ hi = 0) ∨ (0 < n ∧ lo ≤ hi ∧ (1 < n ∨ (s = lo ∧ s = hi))))) : false = rightC ⟨n, s, lo, hi⟩ := right_is ⟨fun e => (by cases e), fun g => absurd g h⟩
theorem right_d {n s lo hi : Int} {q : Prop} [Decidable q] (h : q ↔ ((n = 0 ∧ s = 0 ∧ lo = 0 ∧ hi = 0) ∨ (0 < n ∧ lo ≤ hi ∧ (1 < n ∨ (s = lo ∧ s = hi))))) : decide q = rightC ⟨n, s, lo, hi⟩ := right_is (by rw [decide_eq_true_iff]; exact h)
theorem right_b {n s lo hi a b : Int} (h : a = b ↔ ((n = 0 ∧ s = 0 ∧ lo = 0 ∧ hi = 0) ∨ (0 < n ∧ lo ≤ hi ∧ (1 < n ∨ (s = lo ∧ s = hi))))) : (a == b) = rightC ⟨n, s, lo, hi⟩ := right_is (by rw [beq_iff_eq]; exact h)

theorem right_o {n s lo hi a b : Int} {q : Prop} [Decidable q] (h : (q ∨ a = b) ↔ ((n = 0 ∧ s = 0 ∧ lo = 0 ∧ hi = 0) ∨ (0 < n ∧ lo ≤ hi ∧ (1 < n ∨ (s = lo ∧ s = hi))))) : (decide q || a == b) = rightC ⟨n, s, lo, hi⟩ := right_is (by rw [Bool.or_eq_true, decide_eq_true_iff, beq_iff_eq]; exact h)

set_option maxRecDepth 100000 in
set_option maxHeartbeats 1000000 in
theorem right_any (n s lo hi : Int) (w : World) :
    Calls Try.prog 21 #[.agg #[.int .i64 n, .int .i64 s, .int .i64 lo, .int .i64 hi]] w fun e w' => e = .returned (.bool (rightC ⟨n, s, lo, hi⟩)) ∧ Turn (fun _ => False) w w' := by
  by_cases hn : n = 1
  · subst hn
    by_cases h1 : lo = s
    · by_cases h2 : hi = s
      · subst h1 h2
        go_enter Try.func21, Try.ntmps21
        go_wp2_with fail
        go_region_with (go_at_call 34; refine (of_any _ _).mono ?_; rintro e w' ⟨rfl, rfl⟩)
        all_goals go_wp2
        all_goals go_ret
        all_goals exact ⟨ret_bool (right_is (by simp)), ((Turn.refl _ w).alloc _).drew.alloc _⟩
      · have h2' : ¬ s = hi := fun e => h2 e.symm
        go_enter Try.func21, Try.ntmps21
        go_wp2_with fail
        go_region_with (go_at_call 34; refine (of_any _ _).mono ?_; rintro e w' ⟨rfl, rfl⟩)
        all_goals go_wp2
        all_goals go_ret
        all_goals exact ⟨ret_bool (right_is (by simp; omega)), ((Turn.refl _ w).alloc _).drew.alloc _⟩
    · have h1' : ¬ s = lo := fun e => h1 e.symm
      go_enter Try.func21, Try.ntmps21
      go_wp2_with fail
      go_region_with (go_at_call 34; refine (of_any _ _).mono ?_; rintro e w' ⟨rfl, rfl⟩)
      all_goals go_wp2
      all_goals go_ret
      all_goals exact ⟨ret_bool (right_is (by simp; omega)), ((Turn.refl _ w).alloc _).drew.alloc _⟩
  · have hn1 : (n == 1) = false := by rw [beq_eq_false_iff_ne]; exact hn
    go_enter Try.func21, Try.ntmps21
    go_wp2
    all_goals go_ret
    all_goals
      simp only [beq_iff_eq, beq_eq_false_iff_ne, ne_eq] at *
      first
        | exact ⟨ret_bool (right_t (by omega)), (Turn.refl _ w).alloc _⟩
        | exact ⟨ret_bool (right_f (by omega)), (Turn.refl _ w).alloc _⟩
        | exact ⟨ret_bool (right_d (by omega)), (Turn.refl _ w).alloc _⟩
        | exact ⟨ret_bool (right_b (by omega)), (Turn.refl _ w).alloc _⟩

set_option maxRecDepth 100000 in
set_option maxHeartbeats 1000000 in
theorem ref_right (n s lo hi : Int) (w : World) :
    Calls Try.prog 20 #[.agg #[.int .i64 n, .int .i64 s, .int .i64 lo, .int .i64 hi]] w fun e w' => e = .returned (.bool (rightC ⟨n, s, lo, hi⟩)) ∧ Turn (fun _ => False) w w' := by
  go_enter Try.func20, Try.ntmps20
  go_wp2
  all_goals go_ret
  all_goals
    simp only [beq_iff_eq, beq_eq_false_iff_ne, ne_eq] at *
    first
      | exact ⟨ret_bool (right_t (by omega)), (Turn.refl _ w).alloc _⟩
      | exact ⟨ret_bool (right_f (by omega)), (Turn.refl _ w).alloc _⟩
      | exact ⟨ret_bool (right_d (by omega)), (Turn.refl _ w).alloc _⟩
      | exact ⟨ret_bool (right_b (by omega)), (Turn.refl _ w).alloc _⟩
      | exact ⟨ret_bool (right_o (by omega)), (Turn.refl _ w).alloc _⟩

end Go.Proofs.Ytklpmajaihmmfaa

/-
  Two cells together, by the program and by the document.
-/
namespace Go.Proofs.Ytklpmajaihmmfaa
open Go.RowKit

/-- What a call that makes a cell answers. -/
def outC : Option Cl → Value
  | some c => .tuple #[cv c, .bool true]
  | none => .tuple #[cv Cl.zero, .bool false]
theorem okC_zero : okC Cl.zero := ⟨rfl, rfl, rfl, rfl⟩
theorem okC_of {v : Int} (h : fit v = true) : okC (Cl.of v) := ⟨rfl, h, h, h⟩
theorem okC_merge {a b c : Cl} (ha : okC a) (hb : okC b) (h : mergeC a b = some c) : okC c := by
  unfold mergeC at h
  split at h
  · cases h
    exact hb
  · split at h
    · cases h
      exact ha
    · split at h
      · rename_i g
        rw [Bool.and_eq_true] at g
        cases h
        obtain ⟨_, _, a3, a4⟩ := ha
        obtain ⟨_, _, b3, b4⟩ := hb
        refine ⟨g.1, g.2, ?_, ?_⟩
        · show fit (min a.lo b.lo) = true
          rw [fit_iff] at *
          omega
        · show fit (max a.hi b.hi) = true
          rw [fit_iff] at *
          omega
      · cases h
theorem merge_l {n : Int} (s lo hi : Int) (b : Cl) (h : n = 0) : Ending.returned (.tuple #[cv b, .bool true]) = .returned (outC (mergeC ⟨n, s, lo, hi⟩ b)) := by
  unfold mergeC
  rw [if_pos h]
  rfl
theorem merge_r {m : Int} (t lo' hi' : Int) (a : Cl) (h : ¬ a.n = 0) (g : m = 0) : Ending.returned (.tuple #[cv a, .bool true]) = .returned (outC (mergeC a ⟨m, t, lo', hi'⟩)) := by
  unfold mergeC
  rw [if_neg h, if_pos g]
  rfl
theorem merge_no {a b : Cl} (h0 : ¬ a.n = 0) (h1 : ¬ b.n = 0) (h : fit (a.n + b.n) = false ∨ fit (a.s + b.s) = false) : Ending.returned (.tuple #[cv Cl.zero, .bool false]) = .returned (outC (mergeC a b)) := by
  unfold mergeC
  rw [if_neg h0, if_neg h1, if_neg (by rcases h with h | h <;> rw [h] <;> simp)]
  rfl
theorem merge_yes {a b : Cl} (h0 : ¬ a.n = 0) (h1 : ¬ b.n = 0) (ha : fit (a.n + b.n) = true) (hb : fit (a.s + b.s) = true) {LO HI : Int} (g1 : LO = min a.lo b.lo) (g2 : HI = max a.hi b.hi) :
    Ending.returned (.tuple #[.agg #[.int .i64 (a.n + b.n), .int .i64 (a.s + b.s), .int .i64 LO, .int .i64 HI], .bool true]) = .returned (outC (mergeC a b)) := by
  subst g1 g2
  unfold mergeC
  rw [if_neg h0, if_neg h1, if_pos (by rw [ha, hb]; rfl)]
  rfl

set_option maxRecDepth 100000 in
set_option maxHeartbeats 2000000 in
theorem merge_any (n s lo hi m t lo' hi' : Int) (w : World) (hn : Hid (okC ⟨n, s, lo, hi⟩)) (hm : Hid (okC ⟨m, t, lo', hi'⟩)) :
    Calls Try.prog 33 #[.agg #[.int .i64 n, .int .i64 s, .int .i64 lo, .int .i64 hi], .agg #[.int .i64 m, .int .i64 t, .int .i64 lo', .int .i64 hi']] w fun e w' => e = .returned (outC (mergeC ⟨n, s, lo, hi⟩ ⟨m, t, lo', hi'⟩)) ∧ Turn (fun _ => False) w w' := by
  have HS := Lib.hid (sum_any n m · (Lib.hid hn.out.1) (Lib.hid hm.out.1))
  have HT := Lib.hid (sum_any s t · (Lib.hid hn.out.2.1) (Lib.hid hm.out.2.1))
  clear hn hm
  by_cases h0 : n = 0
  · have hr := Lib.hid (merge_l s lo hi (⟨m, t, lo', hi'⟩ : Cl) h0)
    subst h0
    go_enter Try.func33, Try.ntmps33
    go_wp2
    refine bodyPost_ret (v := .tuple #[.agg #[.int .i64 m, .int .i64 t, .int .i64 lo', .int .i64 hi'], .bool true]) ?_ rfl ⟨hr.out, (((Turn.refl _ w).alloc _).alloc _).alloc _⟩
    rw [results_cell_tmp rfl]
    go_simp
  have h0' : (n == 0) = false := by rw [beq_eq_false_iff_ne]; exact h0
  by_cases h1 : m = 0
  · have hr := Lib.hid (merge_r t lo' hi' (⟨n, s, lo, hi⟩ : Cl) h0 h1)
    subst h1
    go_enter Try.func33, Try.ntmps33
    go_wp2
    refine bodyPost_ret (v := .tuple #[.agg #[.int .i64 n, .int .i64 s, .int .i64 lo, .int .i64 hi], .bool true]) ?_ rfl ⟨hr.out, (((Turn.refl _ w).alloc _).alloc _).alloc _⟩
    rw [results_cell_tmp rfl]
    go_simp
  have h1' : (m == 0) = false := by rw [beq_eq_false_iff_ne]; exact h1
  cases ha : fit (n + m)
  · rw [sumV_no ha] at HS
    have hr := Lib.hid (merge_no (a := ⟨n, s, lo, hi⟩) (b := ⟨m, t, lo', hi'⟩) h0 h1 (.inl ha))
    cases hb : fit (s + t)
    · rw [sumV_no hb] at HT
      have HA := Lib.hid ha; have HB := Lib.hid hb; clear ha hb
      go_enter Try.func33, Try.ntmps33
      go_wp2_with (first
        | (go_at_call 49; (with_reducible refine (HS.out _).mono ?_); rintro e w' ⟨rfl, rfl⟩)
        | (go_at_call 49; (with_reducible refine (HT.out _).mono ?_); rintro e w' ⟨rfl, rfl⟩))
      refine bodyPost_ret (v := .tuple #[.agg #[.int .i64 0, .int .i64 0, .int .i64 0, .int .i64 0], .bool false]) ?_ rfl ⟨hr.out, (((Turn.refl _ w).alloc _).alloc _).alloc _⟩
      rw [results_cell_tmp rfl]
      go_simp
    · rw [sumV_yes hb] at HT
      have HA := Lib.hid ha; have HB := Lib.hid hb; clear ha hb
      go_enter Try.func33, Try.ntmps33
      go_wp2_with (first
        | (go_at_call 49; (with_reducible refine (HS.out _).mono ?_); rintro e w' ⟨rfl, rfl⟩)
        | (go_at_call 49; (with_reducible refine (HT.out _).mono ?_); rintro e w' ⟨rfl, rfl⟩))
      refine bodyPost_ret (v := .tuple #[.agg #[.int .i64 0, .int .i64 0, .int .i64 0, .int .i64 0], .bool false]) ?_ rfl ⟨hr.out, (((Turn.refl _ w).alloc _).alloc _).alloc _⟩
      rw [results_cell_tmp rfl]
      go_simp
  · rw [sumV_yes ha] at HS
    cases hb : fit (s + t)
    · rw [sumV_no hb] at HT
      have hr := Lib.hid (merge_no (a := ⟨n, s, lo, hi⟩) (b := ⟨m, t, lo', hi'⟩) h0 h1 (.inr hb))
      have HA := Lib.hid ha; have HB := Lib.hid hb; clear ha hb
      go_enter Try.func33, Try.ntmps33
      go_wp2_with (first
        | (go_at_call 49; (with_reducible refine (HS.out _).mono ?_); rintro e w' ⟨rfl, rfl⟩)
        | (go_at_call 49; (with_reducible refine (HT.out _).mono ?_); rintro e w' ⟨rfl, rfl⟩))
      refine bodyPost_ret (v := .tuple #[.agg #[.int .i64 0, .int .i64 0, .int .i64 0, .int .i64 0], .bool false]) ?_ rfl ⟨hr.out, (((Turn.refl _ w).alloc _).alloc _).alloc _⟩
      rw [results_cell_tmp rfl]
      go_simp
    · rw [sumV_yes hb] at HT
      have hr := fun LO HI (g1 : LO = min lo lo') (g2 : HI = max hi hi') => merge_yes (a := ⟨n, s, lo, hi⟩) (b := ⟨m, t, lo', hi'⟩) h0 h1 ha hb g1 g2
      have HR := Lib.hid hr; clear hr
      have HA := Lib.hid ha; have HB := Lib.hid hb; clear ha hb
      go_enter Try.func33, Try.ntmps33
      go_wp2_with (first
        | (go_at_call 49; (with_reducible refine (HS.out _).mono ?_); rintro e w' ⟨rfl, rfl⟩)
        | (go_at_call 49; (with_reducible refine (HT.out _).mono ?_); rintro e w' ⟨rfl, rfl⟩))
      all_goals refine bodyPost_ret (v := .tuple #[.agg #[.int .i64 (n + m), .int .i64 (s + t), .int .i64 (min lo lo'), .int .i64 (max hi hi')], .bool true]) ?_ rfl ⟨HR.out _ _ rfl rfl, (((Turn.refl _ w).alloc _).alloc _).alloc _⟩
      · rw [results_cell_tmp rfl, show min lo lo' = lo' by omega, show max hi hi' = hi' by omega]
        go_simp
      · rw [results_cell_tmp rfl, show min lo lo' = lo' by omega, show max hi hi' = hi by omega]
        go_simp
      · rw [results_cell_tmp rfl, show min lo lo' = lo by omega, show max hi hi' = hi' by omega]
        go_simp
      · rw [results_cell_tmp rfl, show min lo lo' = lo by omega, show max hi hi' = hi by omega]
        go_simp

set_option maxRecDepth 100000 in
set_option maxHeartbeats 2000000 in
theorem ref_merge (n s lo hi m t lo' hi' : Int) (w : World) (hn : Hid (okC ⟨n, s, lo, hi⟩)) (hm : Hid (okC ⟨m, t, lo', hi'⟩)) :
    Calls Try.prog 46 #[.agg #[.int .i64 n, .int .i64 s, .int .i64 lo, .int .i64 hi], .agg #[.int .i64 m, .int .i64 t, .int .i64 lo', .int .i64 hi']] w fun e w' => e = .returned (outC (mergeC ⟨n, s, lo, hi⟩ ⟨m, t, lo', hi'⟩)) ∧ Turn (fun _ => False) w w' := by
  have HS := Lib.hid (ref_add n m · (Lib.hid hn.out.1) (Lib.hid hm.out.1))
  have HT := Lib.hid (ref_add s t · (Lib.hid hn.out.2.1) (Lib.hid hm.out.2.1))
  clear hn hm
  by_cases h0 : n = 0
  · have hr := Lib.hid (merge_l s lo hi (⟨m, t, lo', hi'⟩ : Cl) h0)
    subst h0
    go_enter Try.func46, Try.ntmps46
    go_wp2
    refine bodyPost_ret (v := .tuple #[.agg #[.int .i64 m, .int .i64 t, .int .i64 lo', .int .i64 hi'], .bool true]) ?_ rfl ⟨hr.out, (((Turn.refl _ w).alloc _).alloc _).alloc _⟩
    rw [results_cell_tmp rfl]
    go_simp
  have h0' : (n == 0) = false := by rw [beq_eq_false_iff_ne]; exact h0
  by_cases h1 : m = 0
  · have hr := Lib.hid (merge_r t lo' hi' (⟨n, s, lo, hi⟩ : Cl) h0 h1)
    subst h1
    go_enter Try.func46, Try.ntmps46
    go_wp2
    refine bodyPost_ret (v := .tuple #[.agg #[.int .i64 n, .int .i64 s, .int .i64 lo, .int .i64 hi], .bool true]) ?_ rfl ⟨hr.out, (((Turn.refl _ w).alloc _).alloc _).alloc _⟩
    rw [results_cell_tmp rfl]
    go_simp
  have h1' : (m == 0) = false := by rw [beq_eq_false_iff_ne]; exact h1
  cases ha : fit (n + m)
  · rw [sumV_no ha] at HS
    have hr := Lib.hid (merge_no (a := ⟨n, s, lo, hi⟩) (b := ⟨m, t, lo', hi'⟩) h0 h1 (.inl ha))
    cases hb : fit (s + t)
    · rw [sumV_no hb] at HT
      have HA := Lib.hid ha; have HB := Lib.hid hb; clear ha hb
      go_enter Try.func46, Try.ntmps46
      go_wp2_with (first
        | (go_at_call 59; (with_reducible refine (HS.out _).mono ?_); rintro e w' ⟨rfl, rfl⟩)
        | (go_at_call 59; (with_reducible refine (HT.out _).mono ?_); rintro e w' ⟨rfl, rfl⟩))
      refine bodyPost_ret (v := .tuple #[.agg #[.int .i64 0, .int .i64 0, .int .i64 0, .int .i64 0], .bool false]) ?_ rfl ⟨hr.out, (((Turn.refl _ w).alloc _).alloc _).alloc _⟩
      rw [results_cell_tmp rfl]
      go_simp
    · rw [sumV_yes hb] at HT
      have HA := Lib.hid ha; have HB := Lib.hid hb; clear ha hb
      go_enter Try.func46, Try.ntmps46
      go_wp2_with (first
        | (go_at_call 59; (with_reducible refine (HS.out _).mono ?_); rintro e w' ⟨rfl, rfl⟩)
        | (go_at_call 59; (with_reducible refine (HT.out _).mono ?_); rintro e w' ⟨rfl, rfl⟩))
      refine bodyPost_ret (v := .tuple #[.agg #[.int .i64 0, .int .i64 0, .int .i64 0, .int .i64 0], .bool false]) ?_ rfl ⟨hr.out, (((Turn.refl _ w).alloc _).alloc _).alloc _⟩
      rw [results_cell_tmp rfl]
      go_simp
  · rw [sumV_yes ha] at HS
    cases hb : fit (s + t)
    · rw [sumV_no hb] at HT
      have hr := Lib.hid (merge_no (a := ⟨n, s, lo, hi⟩) (b := ⟨m, t, lo', hi'⟩) h0 h1 (.inr hb))
      have HA := Lib.hid ha; have HB := Lib.hid hb; clear ha hb
      go_enter Try.func46, Try.ntmps46
      go_wp2_with (first
        | (go_at_call 59; (with_reducible refine (HS.out _).mono ?_); rintro e w' ⟨rfl, rfl⟩)
        | (go_at_call 59; (with_reducible refine (HT.out _).mono ?_); rintro e w' ⟨rfl, rfl⟩))
      refine bodyPost_ret (v := .tuple #[.agg #[.int .i64 0, .int .i64 0, .int .i64 0, .int .i64 0], .bool false]) ?_ rfl ⟨hr.out, (((Turn.refl _ w).alloc _).alloc _).alloc _⟩
      rw [results_cell_tmp rfl]
      go_simp
    · rw [sumV_yes hb] at HT
      have hr := fun LO HI (g1 : LO = min lo lo') (g2 : HI = max hi hi') => merge_yes (a := ⟨n, s, lo, hi⟩) (b := ⟨m, t, lo', hi'⟩) h0 h1 ha hb g1 g2
      have HR := Lib.hid hr; clear hr
      have HA := Lib.hid ha; have HB := Lib.hid hb; clear ha hb
      go_enter Try.func46, Try.ntmps46
      go_wp2_with (first
        | (go_at_call 59; (with_reducible refine (HS.out _).mono ?_); rintro e w' ⟨rfl, rfl⟩)
        | (go_at_call 59; (with_reducible refine (HT.out _).mono ?_); rintro e w' ⟨rfl, rfl⟩))
      all_goals refine bodyPost_ret (v := .tuple #[.agg #[.int .i64 (n + m), .int .i64 (s + t), .int .i64 (min lo lo'), .int .i64 (max hi hi')], .bool true]) ?_ rfl ⟨HR.out _ _ rfl rfl, (((Turn.refl _ w).alloc _).alloc _).alloc _⟩
      · rw [results_cell_tmp rfl, show min lo lo' = lo' by omega, show max hi hi' = hi' by omega]
        go_simp
      · rw [results_cell_tmp rfl, show min lo lo' = lo' by omega, show max hi hi' = hi by omega]
        go_simp
      · rw [results_cell_tmp rfl, show min lo lo' = lo by omega, show max hi hi' = hi' by omega]
        go_simp
      · rw [results_cell_tmp rfl, show min lo lo' = lo by omega, show max hi hi' = hi by omega]
        go_simp

end Go.Proofs.Ytklpmajaihmmfaa

/-
  Stage 11: rows in memory; rows held against each other by ==.
-/
namespace Go.Proofs.Ytklpmajaihmmfaa
open Go.RowKit

set_option maxRecDepth 100000

/-- A row's cells. -/
def ER : El R11 where
  sz := 9
  enc r := [.int .i64 r.k.h, sv9 r.k.a, sv9 r.k.b, sv9 r.k.c, sv9 r.k.d, .int .i64 r.c.n, .int .i64 r.c.s, .int .i64 r.c.lo, .int .i64 r.c.hi]
  len _ := rfl
  one r u hu := by
    simp only [List.mem_cons, List.not_mem_nil, or_false] at hu
    rcases hu with rfl | rfl | rfl | rfl | rfl | rfl | rfl | rfl | rfl <;> rfl
abbrev cells11 (r : R11) : Array Value := #[.int .i64 r.k.h, sv9 r.k.a, sv9 r.k.b, sv9 r.k.c, sv9 r.k.d, .int .i64 r.c.n, .int .i64 r.c.s, .int .i64 r.c.lo, .int .i64 r.c.hi]
abbrev rv11 (r : R11) : Value := .agg (cells11 r)
abbrev zv11 : Value := .agg #[.int .i64 0, .string ⟨#[]⟩, .string ⟨#[]⟩, .string ⟨#[]⟩, .string ⟨#[]⟩, .int .i64 0, .int .i64 0, .int .i64 0, .int .i64 0]
theorem row_info11 : (Try.prog.info? 55).map (fun i => (i.zero, i.size, i.bytes)) = some (some zv11, ER.sz, 104) := by kernel_rfl
theorem row_zero11 : (Value.cells zv11).size = ER.sz := rfl
theorem row_size11 : (Try.prog.info? 55).map (·.size) = some ER.sz := by kernel_rfl
/-- A row in memory, cell by cell. -/
def RowAt (W : World) (ad : Addr) (r : R11) : Prop :=
  W.cell? ad = some (.int .i64 r.k.h) ∧ W.cell? ⟨ad.block, ad.off + 1, none⟩ = some (sv9 r.k.a) ∧ W.cell? ⟨ad.block, ad.off + 2, none⟩ = some (sv9 r.k.b) ∧ W.cell? ⟨ad.block, ad.off + 3, none⟩ = some (sv9 r.k.c) ∧ W.cell? ⟨ad.block, ad.off + 4, none⟩ = some (sv9 r.k.d) ∧
  W.cell? ⟨ad.block, ad.off + 5, none⟩ = some (.int .i64 r.c.n) ∧ W.cell? ⟨ad.block, ad.off + 6, none⟩ = some (.int .i64 r.c.s) ∧ W.cell? ⟨ad.block, ad.off + 7, none⟩ = some (.int .i64 r.c.lo) ∧ W.cell? ⟨ad.block, ad.off + 8, none⟩ = some (.int .i64 r.c.hi)
theorem row_at11 {w : World} {A : Option Addr} {n c : Nat} {L : List R11} (h : RdE ER w (.slice A n c) L) {j : Nat} {r : R11} (hj : L[j]? = some r) :
    ∃ ad, A = some ad ∧ ∀ W, Turn (fun _ => False) w W → RowAt W (ad.add (j * 9)) r := by
  obtain ⟨ad, hA, _⟩ := h.cells hj
  refine ⟨ad, hA, fun W ht => ?_⟩
  obtain ⟨ad', hA', hc⟩ := (h.later ht).cells hj
  rw [hA] at hA'
  cases hA'
  have key : ∀ (k : Nat) (u : Value), (ER.enc r)[k + 1]? = some u → W.cell? ⟨(ad.add (j * 9)).block, (ad.add (j * 9)).off + (k + 1), none⟩ = some u := fun k u hu => by
    rw [show (⟨(ad.add (j * 9)).block, (ad.add (j * 9)).off + (k + 1), none⟩ : Addr) = (ad.add (j * 9)).add (k + 1) from rfl, eadd_add]
    exact hc (k + 1) u hu
  exact ⟨hc 0 _ rfl, key 0 _ rfl, key 1 _ rfl, key 2 _ rfl, key 3 _ rfl, key 4 _ rfl, key 5 _ rfl, key 6 _ rfl, key 7 _ rfl⟩
theorem wpList_rows11 (w : World) {ops : Array Oper} {rest : List Oper} {o : Oper} {a : Act} {Q : Exit → Act → World → Prop} (hgd : o.guard = none) (s x : Operand)
    (ho : o.op = .call { callee := .builtin .append, args := #[s, x], argTypes := #[26, 26] }) (v : Value) (l : List R11) (hs : a.eval s = v) (hown : OwE ER 55 w v l)
    (y : Value) (hx : a.eval x = y) (m : List R11) (hy : RdE ER w y m) (hl : l.length + m.length ≤ 1000000)
    (h : ∀ A n c w', OwE ER 55 w' (.slice A n c) (l ++ m) → Turn (fun k => v.ownBlock = some k) w w' → ((Value.slice A n c).ownBlock = v.ownBlock ∨ (Value.slice A n c).ownBlock = some w.heap.size) → wpList Try.prog ops Q rest (a.put o.dst (.slice A n c)) w') :
    wpList Try.prog ops Q (o :: rest) a w :=
  wpList_appE Try.underlying26 row_info11 row_zero11 w hgd s x _ ho v l hs hown y hx m (hy.src Try.underlying26) (by simp only [maxLen]; omega) (by omega) h
/-- Behind a list of rows laid in new memory. -/
def Rows11 (w : World) (l : List R11) (e : Ending) (w' : World) : Prop := ∃ v, e = .returned v ∧ RdE ER w' v l ∧ Turn (fun _ => False) w w'

theorem eq_cell11 (d : Nat) (p q : Cl) (w : World) : (Op.equalIn (d + 2) 53 (cv p) (cv q)).run Try.prog w = .ok (decide (p = q)) w := by
  have hS : Try.prog.underlying 53 = some (.struct (Try.prog.fieldsOf 53)) := by kernel_rfl
  have hp : Try.prog.stoodInHeld 53 = false := by kernel_rfl
  have u2 := Try.underlying2
  have i2 := Try.isAgg2
  have z2 := Try.sizeOf2
  obtain ⟨n, s, lo, hi⟩ := p
  obtain ⟨n', s', lo', hi'⟩ := q
  unfold cv
  rw [run_equalIn_agg w (d + 1) 53 _ _ hS hp]
  simp only [Program.fieldsOf, Try.underlying53]
  go_simp
  by_cases h0 : n = n' <;> by_cases h1 : s = s' <;> by_cases h2 : lo = lo' <;> by_cases h3 : hi = hi' <;> simp [h0, h1, h2, h3]
theorem eq_row11 (d : Nat) (f g : R11) (w : World) : (Op.equalIn (d + 4) 55 (rv11 f) (rv11 g)).run Try.prog w = .ok (decide (f = g)) w := by
  have hS : Try.prog.underlying 55 = some (.struct (Try.prog.fieldsOf 55)) := by kernel_rfl
  have hp : Try.prog.stoodInHeld 55 = false := by kernel_rfl
  have i4 := Try.isAgg44
  have z4 := Try.sizeOf44
  have i5 := Try.isAgg53
  have z5 := Try.sizeOf53
  have key := eq_key9 d f.k g.k
  have cel := eq_cell11 (d + 1) f.c g.c
  unfold cv at cel
  rw [run_equalIn_agg w (d + 3) 55 _ _ hS hp]
  simp only [Program.fieldsOf, Try.underlying55]
  go_simp
  obtain ⟨k, v⟩ := f
  obtain ⟨k', v'⟩ := g
  by_cases h0 : k = k' <;> by_cases h1 : v = v' <;> simp [h0, h1]
theorem run_neq_row (f g : R11) (w : World) : (binOp .neq 55 (rv11 f) (rv11 g)).run Try.prog w = .ok (.bool (!decide (f = g))) w := by
  rw [run_neq_struct, show (10000 : Nat) = 9996 + 4 from rfl, eq_row11]
  rfl
theorem guard_row11 (op : BinOp) (x y : Operand) (f g : R11) (w : World) : (eqGuard op 55 x y (rv11 f) (rv11 g)).run Try.prog w = .ok () w := run_eqGuard_agg w op _ x y _ _ (by kernel_rfl)

end Go.Proofs.Ytklpmajaihmmfaa

/-
  Stage 11: the document's Same, Range and Right.
-/
namespace Go.Proofs.Ytklpmajaihmmfaa
open Go.RowKit

set_option maxRecDepth 100000

set_option maxHeartbeats 4000000 in
theorem same_refl11 (a b : Value) (L : List R11) (w : World) (ha : RdE ER w a L) (hb : RdE ER w b L) (hl : L.length ≤ 1000000) :
    Calls Try.prog 12 #[a, b] w fun e w' => e = .returned (.bool true) ∧ Turn (fun _ => False) w w' := by
  have HA := Lib.hid ha; have HB := Lib.hid hb
  obtain ⟨A, c, rfl⟩ := ha.shape
  obtain ⟨B, d, rfl⟩ := hb.shape
  clear ha hb
  go_enter Try.func12, Try.ntmps12
  go_wp2_with fail
  go_loopw [5] (fun x5 wr => ∃ i : Nat, x5 = .int .i64 (i : Int) ∧ i ≤ L.length ∧ ∃ n, wr = w.drewN n) (fun x5 _ => L.length - (intOf x5).toNat)
  case atStart => exact ⟨0, rfl, Nat.zero_le _, 0, rfl⟩
  case round =>
    obtain ⟨i, rfl, hi, n, rfl⟩ := hrel
    by_cases hlt : i < L.length
    · obtain ⟨x, hx⟩ : ∃ x, L[i]? = some x := ⟨_, List.getElem?_eq_getElem hlt⟩
      obtain ⟨ad, rfl, hc⟩ := row_at11 HA.out hx
      obtain ⟨bd, rfl, hd⟩ := row_at11 HB.out hx
      obtain ⟨c0, c1, c2, c3, c4, c5, c6, c7, c8⟩ := hc w (Turn.refl _ _)
      obtain ⟨d0, d1, d2, d3, d4, d5, d6, d7, d8⟩ := hd w (Turn.refl _ _)
      clear hc hd hx
      have hil : (i : Int) < L.length := by omega
      have hne := run_neq_row x x
      have hgd := fun X Y => guard_row11 .neq X Y x x
      rw [decide_eq_true rfl, Bool.not_true] at hne
      go_wp2_with fail
      go_quiet (fail)
      go_wp2
      go_roundw
      case rel => exact ⟨i + 1, by go_num, hlt, n + nq, by simp [World.drewN]⟩
      case measure => simp [intOf]; omega
    · obtain rfl : i = L.length := by omega
      go_wp2
      go_ret
      exact ⟨rfl, (Turn.refl _ w).drewN _⟩

/-- The rows of hours. -/
def inH (a b : Int) (r : R11) : Bool := decide (a ≤ r.k.h) && decide (r.k.h < b)
def rangeR (l : List R11) (a b : Int) : List R11 := l.filter (inH a b)
theorem rangeR_step {l : List R11} {a b : Int} {i : Nat} {r : R11} (h : l[i]? = some r) : rangeR (l.take (i + 1)) a b = rangeR (l.take i) a b ++ if inH a b r then [r] else [] := by
  obtain ⟨h0, e⟩ := List.getElem?_eq_some_iff.1 h
  unfold rangeR
  rw [List.take_succ_eq_append_getElem h0, e, List.filter_append]
  congr 1
  simp only [List.filter_cons, List.filter_nil]

end Go.Proofs.Ytklpmajaihmmfaa

/-
  The cell of values, by the program and by the document.
-/
namespace Go.Proofs.Ytklpmajaihmmfaa
open Go.RowKit

/-- A cell's numbers, in memory. -/
def ca (c : Cl) : Array Value := #[.int .i64 c.n, .int .i64 c.s, .int .i64 c.lo, .int .i64 c.hi]
theorem box_cells {w : World} {g : Nat} {t : TypeId} {n s lo hi : Int} (h : Box w g t (ca ⟨n, s, lo, hi⟩)) :
    (w.cell? ⟨g, 0, none⟩ = some (.int .i64 n) ∧ w.cell? ⟨g, 1, none⟩ = some (.int .i64 s) ∧ w.cell? ⟨g, 2, none⟩ = some (.int .i64 lo) ∧ w.cell? ⟨g, 3, none⟩ = some (.int .i64 hi)) ∧
    (w.frozen? ⟨g, 0, none⟩ = false ∧ w.frozen? ⟨g, 1, none⟩ = false ∧ w.frozen? ⟨g, 2, none⟩ = false ∧ w.frozen? ⟨g, 3, none⟩ = false) :=
  ⟨⟨h.cell 0, h.cell 1, h.cell 2, h.cell 3⟩, ⟨h.free 0, h.free 1, h.free 2, h.free 3⟩⟩
theorem box_set4 {w : World} {g : Nat} {t : TypeId} {c : Cl} {n s lo hi : Int} (h : Box w g t (ca c)) :
    Box ((((w.setCell ⟨g, 0, none⟩ (.int .i64 n)).setCell ⟨g, 1, none⟩ (.int .i64 s)).setCell ⟨g, 2, none⟩ (.int .i64 lo)).setCell ⟨g, 3, none⟩ (.int .i64 hi)) g t (ca ⟨n, s, lo, hi⟩) :=
  (((h.set 0 _).set 1 _).set 2 _).set 3 _
theorem turn_set4 {S : Nat → Prop} {w0 w : World} {g : Nat} {a b c d : Value} (h : Turn S w0 w) (hg : g < w0.heap.size → S g) :
    Turn S w0 ((((w.setCell ⟨g, 0, none⟩ a).setCell ⟨g, 1, none⟩ b).setCell ⟨g, 2, none⟩ c).setCell ⟨g, 3, none⟩ d) :=
  (((h.setCell hg _).setCell hg _).setCell hg _).setCell hg _

/-- Behind a value put to a cell in memory. -/
def PAdd (g : Nat) (o : Option Cl) (w : World) (e : Ending) (w' : World) : Prop :=
  e = .returned (.bool o.isSome) ∧ Box w' g 53 (ca (o.getD Cl.zero)) ∧ Turn (fun k => k = g) w w'

theorem outC_shape (o : Option Cl) : ∃ n s lo hi, outC o = .tuple #[.agg #[.int .i64 n, .int .i64 s, .int .i64 lo, .int .i64 hi], .bool o.isSome] ∧ o.getD Cl.zero = ⟨n, s, lo, hi⟩ := by
  cases o with
  | none => exact ⟨0, 0, 0, 0, rfl, rfl⟩
  | some c => exact ⟨c.n, c.s, c.lo, c.hi, rfl, rfl⟩

/-- The cell of the values so far, in memory, and the place of the answer. -/
structure AS (w wr : World) (l : List Int) (k : Nat) (c : Cl) : Prop where
  row : Box wr (w.heap.size + 1) 53 (ca c)
  out : Box wr w.heap.size 53 (ca Cl.zero)
  turn : Turn (fun _ => False) w wr
  is : allC (l.take k) = some c
  ok : okC c
theorem as_start (w : World) (l : List Int) : AS w ((w.alloc (.cells #[.int .i64 0, .int .i64 0, .int .i64 0, .int .i64 0] 53)).alloc (.cells #[.int .i64 0, .int .i64 0, .int .i64 0, .int .i64 0] 53)) l 0 Cl.zero := by
  refine ⟨?_, (Box.new w _ _).alloc _, ((Turn.refl _ w).alloc _).alloc _, rfl, okC_zero⟩
  have h := Box.new (w.alloc (.cells #[.int .i64 0, .int .i64 0, .int .i64 0, .int .i64 0] 53)) 53 (ca Cl.zero)
  rw [show (w.alloc (.cells #[.int .i64 0, .int .i64 0, .int .i64 0, .int .i64 0] 53)).heap.size = w.heap.size + 1 by simp] at h
  exact h
theorem as_step {w wr w' : World} {l : List Int} {k : Nat} {c d : Cl} {x : Int} (h : AS w wr l k c) (hx : l[k]? = some x) (hf : fit x = true) (hm : mergeC c (Cl.of x) = some d)
    (hb : Box w' (w.heap.size + 1) 53 (ca d)) (ht : Turn (fun j => j = w.heap.size + 1) wr w') : AS w w' l (k + 1) d := by
  refine ⟨hb, h.out.turn ht (fun e => by omega), h.turn.trans ht (fun j hj e => by omega), ?_, okC_merge h.ok (okC_of hf) hm⟩
  rw [allC_take hx, h.is]
  exact hm
theorem all_no {l : List Int} {k : Nat} {c : Cl} {x : Int} (h : allC (l.take k) = some c) (hx : l[k]? = some x) (hm : mergeC c (Cl.of x) = none) : Ending.returned (.tuple #[cv Cl.zero, .bool false]) = .returned (outC (allC l)) := by
  have : allC (l.take (k + 1)) = none := by rw [allC_take hx, h]; exact hm
  rw [allC_none this]
  rfl
theorem all_yes {l : List Int} {k : Nat} {c : Cl} (h : allC (l.take k) = some c) (hk : k = l.length) : Ending.returned (.tuple #[cv c, .bool true]) = .returned (outC (allC l)) := by
  rw [hk, List.take_length] at h
  rw [h]
  rfl

theorem new_one {w w3 : World} {o : Obj} (h : Turn (fun _ => False) ((w.alloc (.cells #[.int .i64 0, .int .i64 0, .int .i64 0, .int .i64 0] 53)).alloc o).drew w3) : Box w3 w.heap.size 53 (ca ⟨0, 0, 0, 0⟩) :=
  Box.turn (Box.turn ((Box.new w _ _).alloc o) (Turn.refl (fun _ => False) _).drew (fun f => f)) h (fun f => f)
theorem new_two {w w3 : World} {o : Obj} (h : Turn (fun _ => False) ((w.alloc o).alloc (.cells #[.int .i64 0, .int .i64 0, .int .i64 0, .int .i64 0] 53)).drew w3) : Box w3 (w.heap.size + 1) 53 (ca ⟨0, 0, 0, 0⟩) := by
  have hb := Box.new (w.alloc o) 53 (ca Cl.zero)
  rw [show (w.alloc o).heap.size = w.heap.size + 1 by simp] at hb
  exact Box.turn (Box.turn hb (Turn.refl (fun _ => False) _).drew (fun f => f)) h (fun f => f)

theorem as_keep {w : World} {g k : Nat} {n s lo hi x : Int} {ad : Addr} (hb : Box w g 53 (ca ⟨n, s, lo, hi⟩)) (hc : w.cell? (ad.add k) = some (.int .i64 x)) (w' : World) (ht : Turn (fun _ => False) w w') :
    (w'.cell? ⟨g, 0, none⟩ = some (.int .i64 n) ∧ w'.cell? ⟨g, 1, none⟩ = some (.int .i64 s) ∧ w'.cell? ⟨g, 2, none⟩ = some (.int .i64 lo) ∧ w'.cell? ⟨g, 3, none⟩ = some (.int .i64 hi) ∧ w'.cell? (ad.add k) = some (.int .i64 x)) ∧ Turn (fun _ => False) w w' := by
  have hb' := hb.turn ht (fun f => f)
  refine ⟨⟨hb'.cell 0, hb'.cell 1, hb'.cell 2, hb'.cell 3, ?_⟩, ht⟩
  rw [ht.cell (World.block_lt_of_cell? w _ hc) (fun f => f)]
  exact hc

end Go.Proofs.Ytklpmajaihmmfaa
