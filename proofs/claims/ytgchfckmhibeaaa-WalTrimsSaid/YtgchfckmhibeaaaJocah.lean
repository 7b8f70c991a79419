/-
  Texts laid one behind the other: La Ma Mb Mc Md Me Zf Zp.
-/
import Derived.WalkKit
import Derived.WalkSmall
import Derived.Test.YtgchfckmhibeaaaJocaf
import Derived.Test.YtgchfckmhibeaaaJocaa
import Derived.BigQuiet
import Derived.Laws.ResultCell
import Derived.Laws.StructEq
import Derived.Deep.RegionWith
import Derived.Deep.RegionHeld3
import Derived.Test.YtgchfckmhibeaaaJocag
import Derived.Test.YtgchfckmhibeaaaJocae
import Derived.Test.YtgchfckmhibeaaaJocab

/-
  Cells, plain: what values come to, merged from the first on; that values that weigh not too much have a cell, the same in whatever parts.
-/
namespace Go.Proofs.Ytgchfckmhibeaaa
open Go.RowKit

/-- A cell: Count, Sum, Min, Max. -/
structure Cl where
  n : Int
  s : Int
  lo : Int
  hi : Int
  deriving DecidableEq
def Cl.zero : Cl := ⟨0, 0, 0, 0⟩
def Cl.of (v : Int) : Cl := ⟨1, v, v, v⟩
/-- A number that an int64 holds. -/
def fit (x : Int) : Bool := decide (-9223372036854775808 ≤ x) && decide (x ≤ 9223372036854775807)
theorem fit_iff (x : Int) : fit x = true ↔ -9223372036854775808 ≤ x ∧ x ≤ 9223372036854775807 := by simp [fit]
/-- Two cells together, if that may be. -/
def mergeC (a b : Cl) : Option Cl :=
  if a.n = 0 then some b else if b.n = 0 then some a else if fit (a.n + b.n) && fit (a.s + b.s) then some ⟨a.n + b.n, a.s + b.s, min a.lo b.lo, max a.hi b.hi⟩ else none
/-- Values behind a cell; all values. -/
def moreC : Cl → List Int → Option Cl
  | c, [] => some c
  | c, x :: l => match mergeC c (Cl.of x) with
    | some d => moreC d l
    | none => none
def allC (l : List Int) : Option Cl := moreC Cl.zero l
theorem moreC_append (c : Cl) (l m : List Int) : moreC c (l ++ m) = (moreC c l).bind fun d => moreC d m := by
  induction l generalizing c with
  | nil => rfl
  | cons x l ih =>
    show (match mergeC c (Cl.of x) with | some d => moreC d (l ++ m) | none => none) = (match mergeC c (Cl.of x) with | some d => moreC d l | none => none).bind _
    cases mergeC c (Cl.of x) with
    | none => rfl
    | some d => exact ih d
theorem allC_take {l : List Int} {k : Nat} {x : Int} (h : l[k]? = some x) : allC (l.take (k + 1)) = (allC (l.take k)).bind fun d => mergeC d (Cl.of x) := by
  obtain ⟨hk, e⟩ := List.getElem?_eq_some_iff.1 h
  unfold allC
  rw [List.take_succ_eq_append_getElem hk, e, moreC_append]
  congr 1
  funext d
  show (match mergeC d (Cl.of x) with | some e => some e | none => none) = _
  cases mergeC d (Cl.of x) <;> rfl
theorem allC_none {l : List Int} {k : Nat} (h : allC (l.take k) = none) : allC l = none := by
  unfold allC at *
  rw [← List.take_append_drop k l, moreC_append, h]
  rfl

/-- The weight of values, that of one as far as it counts. -/
def weighN (l : List Int) : Nat := (l.map Int.natAbs).sum
theorem weighN_append (l m : List Int) : weighN (l ++ m) = weighN l + weighN m := by simp [weighN]
theorem weighN_take {l : List Int} {k : Nat} {x : Int} (h : l[k]? = some x) : weighN (l.take (k + 1)) = weighN (l.take k) + x.natAbs := by
  obtain ⟨hk, e⟩ := List.getElem?_eq_some_iff.1 h
  rw [List.take_succ_eq_append_getElem hk, e, weighN_append]
  simp [weighN]
theorem weighN_le_take (l : List Int) (k : Nat) : weighN (l.take k) ≤ weighN l := by
  have := weighN_append (l.take k) (l.drop k)
  rw [List.take_append_drop] at this
  omega
theorem sum_abs (l : List Int) : l.sum.natAbs ≤ weighN l := by
  induction l with
  | nil => exact Nat.le_refl _
  | cons x l ih =>
    show (x + l.sum).natAbs ≤ ((x :: l).map Int.natAbs).sum
    have : ((x :: l).map Int.natAbs).sum = x.natAbs + weighN l := by simp [weighN]
    rw [this]
    omega

/-- The cell of values, told at once. -/
def cellL : List Int → Cl
  | [] => Cl.zero
  | x :: l => ⟨(l.length + 1 : Nat), (x :: l).sum, l.foldl min x, l.foldl max x⟩
theorem cellL_n (l : List Int) : (cellL l).n = l.length := by cases l <;> rfl
theorem cellL_s (l : List Int) : (cellL l).s = l.sum := by cases l <;> rfl
theorem cellL_one (x : Int) : cellL [x] = Cl.of x := by simp [cellL, Cl.of]
theorem foldl_min (l : List Int) (a b : Int) : l.foldl min (min a b) = min a (l.foldl min b) := by
  induction l generalizing a b with
  | nil => rfl
  | cons x l ih =>
    show l.foldl min (min (min a b) x) = min a (l.foldl min (min b x))
    rw [← ih]
    congr 1
    omega
theorem foldl_max (l : List Int) (a b : Int) : l.foldl max (max a b) = max a (l.foldl max b) := by
  induction l generalizing a b with
  | nil => rfl
  | cons x l ih =>
    show l.foldl max (max (max a b) x) = max a (l.foldl max (max b x))
    rw [← ih]
    congr 1
    omega
/-- In whatever parts, in either order. -/
theorem merge_parts (a b : List Int) (h : weighN a + weighN b ≤ 4611686018427387904) (hn : a.length + b.length ≤ 1000000) : mergeC (cellL a) (cellL b) = some (cellL (a ++ b)) := by
  cases a with
  | nil => rfl
  | cons x a =>
    cases b with
    | nil =>
      rw [List.append_nil]
      unfold mergeC
      rw [if_neg (by rw [cellL_n]; simp; omega), if_pos (show (cellL []).n = 0 from rfl)]
    | cons y b =>
      have ha := sum_abs (x :: a)
      have hb := sum_abs (y :: b)
      unfold mergeC
      rw [if_neg (by rw [cellL_n]; simp; omega), if_neg (by rw [cellL_n]; simp; omega), if_pos]
      · have e1 : (cellL (x :: a)).n + (cellL (y :: b)).n = (cellL ((x :: a) ++ (y :: b))).n := by
          rw [cellL_n, cellL_n, cellL_n, List.length_append]
          omega
        have e2 : (cellL (x :: a)).s + (cellL (y :: b)).s = (cellL ((x :: a) ++ (y :: b))).s := by
          rw [cellL_s, cellL_s, cellL_s, List.sum_append]
        have e3 : min (cellL (x :: a)).lo (cellL (y :: b)).lo = (cellL ((x :: a) ++ (y :: b))).lo := by
          show min (a.foldl min x) (b.foldl min y) = (a ++ (y :: b)).foldl min x
          rw [List.foldl_append]
          show _ = b.foldl min (min (a.foldl min x) y)
          rw [foldl_min]
        have e4 : max (cellL (x :: a)).hi (cellL (y :: b)).hi = (cellL ((x :: a) ++ (y :: b))).hi := by
          show max (a.foldl max x) (b.foldl max y) = (a ++ (y :: b)).foldl max x
          rw [List.foldl_append]
          show _ = b.foldl max (max (a.foldl max x) y)
          rw [foldl_max]
        rw [e1, e2, e3, e4]
      · rw [Bool.and_eq_true, fit_iff, fit_iff, cellL_n, cellL_n, cellL_s, cellL_s]
        simp only [List.length_cons] at *
        omega
theorem merge_swap (a b : Cl) (h : a.n ≠ 0 ∨ b.n ≠ 0 ∨ a = b) : mergeC a b = mergeC b a := by
  unfold mergeC
  by_cases ha : a.n = 0
  · by_cases hb : b.n = 0
    · rcases h with h | h | h
      · exact absurd ha h
      · exact absurd hb h
      · rw [h]
    · rw [if_pos ha, if_neg hb, if_pos ha]
  · by_cases hb : b.n = 0
    · rw [if_neg ha, if_pos hb, if_pos hb]
    · rw [if_neg ha, if_neg hb, if_neg hb, if_neg ha, Int.add_comm a.n b.n, Int.add_comm a.s b.s]
      have e1 : min a.lo b.lo = min b.lo a.lo := by omega
      have e2 : max a.hi b.hi = max b.hi a.hi := by omega
      rw [e1, e2]
/-- What weighs not too much has a cell. -/
theorem all_light (l : List Int) (h : weighN l ≤ 4611686018427387904) (hn : l.length ≤ 1000000) : allC l = some (cellL l) := by
  suffices g : ∀ k, k ≤ l.length → allC (l.take k) = some (cellL (l.take k)) by
    have := g l.length (Nat.le_refl _)
    rw [List.take_length] at this
    exact this
  intro k
  induction k with
  | zero => intro _; rfl
  | succ k ih =>
    intro hk
    obtain ⟨x, hx⟩ : ∃ x, l[k]? = some x := ⟨_, List.getElem?_eq_getElem (by omega)⟩
    rw [allC_take hx, ih (by omega)]
    show mergeC (cellL (l.take k)) (Cl.of x) = _
    rw [← cellL_one]
    have hw := weighN_take hx
    have hl := weighN_le_take l (k + 1)
    have h1 : weighN [x] = x.natAbs := by simp [weighN]
    rw [merge_parts (l.take k) [x] (by rw [h1]; omega) (by rw [List.length_take, List.length_singleton]; omega)]
    obtain ⟨hk', e⟩ := List.getElem?_eq_some_iff.1 hx
    rw [List.take_succ_eq_append_getElem hk', e]

/-- A right cell. -/
def rightC (c : Cl) : Bool := if c.n = 0 then decide (c = Cl.zero) else decide (0 < c.n) && (decide (c.lo ≤ c.hi) && (decide (1 < c.n) || (decide (c.s = c.lo) && decide (c.s = c.hi))))
theorem foldl_le (l : List Int) (x : Int) : l.foldl min x ≤ x ∧ x ≤ l.foldl max x := by
  induction l generalizing x with
  | nil => exact ⟨Int.le_refl _, Int.le_refl _⟩
  | cons y l ih =>
    have h1 := (ih (min x y)).1
    have h2 := (ih (max x y)).2
    show l.foldl min (min x y) ≤ x ∧ x ≤ l.foldl max (max x y)
    omega
theorem right_cell (l : List Int) : rightC (cellL l) = true := by
  cases l with
  | nil => rfl
  | cons x l =>
    unfold rightC
    rw [if_neg (by rw [cellL_n]; simp; omega)]
    have h := foldl_le l x
    cases l with
    | nil => simp [cellL]
    | cons y l =>
      have e1 : (cellL (x :: y :: l)).n = (l.length + 2 : Nat) := rfl
      have e2 : (cellL (x :: y :: l)).lo = (y :: l).foldl min x := rfl
      have e3 : (cellL (x :: y :: l)).hi = (y :: l).foldl max x := rfl
      rw [e1, e2, e3]
      have a1 : decide ((0 : Int) < (l.length + 2 : Nat)) = true := by rw [decide_eq_true_iff]; omega
      have a2 : decide ((1 : Int) < (l.length + 2 : Nat)) = true := by rw [decide_eq_true_iff]; omega
      have a3 : decide ((y :: l).foldl min x ≤ (y :: l).foldl max x) = true := by rw [decide_eq_true_iff]; omega
      rw [a1, a2, a3]
      rfl

/-- What Weight answers: n, and whether. -/
def weighO (l : List Int) : Nat × Bool := if weighN l ≤ 4611686018427387904 then (weighN l, true) else (0, false)
theorem weighO_yes {l : List Int} (h : weighN l ≤ 4611686018427387904) : weighO l = (weighN l, true) := by unfold weighO; rw [if_pos h]
theorem weighO_no {l : List Int} {k : Nat} (h : ¬ weighN (l.take k) ≤ 4611686018427387904) : weighO l = (0, false) := by
  have := weighN_le_take l k
  unfold weighO
  rw [if_neg (by omega)]
/-- A number without its sign, cut behind what may be. -/
def sizeC (x : Int) : Nat := if x.natAbs ≤ 4611686018427387904 then x.natAbs else 4611686018427387905
theorem sizeC_over {x : Int} {n : Nat} (hn : n ≤ 4611686018427387904) : (sizeC x : Int) > 4611686018427387904 - (n : Int) ↔ ¬ n + x.natAbs ≤ 4611686018427387904 := by
  unfold sizeC
  split <;> omega
theorem sizeC_small {x : Int} {n : Nat} (h : n + x.natAbs ≤ 4611686018427387904) : sizeC x = x.natAbs := by
  unfold sizeC
  rw [if_pos (by omega)]
/-- A mean, rounded down, by a division that goes towards 0. -/
theorem floor_of (s n : Int) (hn : 0 < n) : (if Int.tmod s n < 0 then Int.tdiv s n - 1 else Int.tdiv s n) = s / n := by
  have h := Int.mul_tdiv_add_tmod s n
  have h1 := Int.tmod_lt_of_pos s hn
  have h2 : -n < Int.tmod s n := Int.lt_tmod_of_pos s hn
  split
  · rename_i hm
    have e : s = n * (s.tdiv n - 1) + (s.tmod n + n) := by rw [Int.mul_sub]; omega
    have := Int.ediv_emod_unique (a := s) (b := n) (q := s.tdiv n - 1) (r := s.tmod n + n) hn
    exact (this.2 ⟨by omega, by omega, by omega⟩).1.symm
  · rename_i hm
    have := Int.ediv_emod_unique (a := s) (b := n) (q := s.tdiv n) (r := s.tmod n) hn
    exact (this.2 ⟨by omega, by omega, by omega⟩).1.symm

end Go.Proofs.Ytgchfckmhibeaaa

/-
  Numbers of cells: a number's sign, its size, two numbers together, by the program and by the document.
-/
namespace Go.Proofs.Ytgchfckmhibeaaa
open Go.RowKit

theorem u64_of {x : Int} (h : fit x = true) : IntKind.u64.wrap x = if x < 0 then x + 18446744073709551616 else x := by
  rw [fit_iff] at h
  rw [IntKind.wrap_u64]
  split <;> omega

theorem size_a {x : Int} (h : 4611686018427387904 < x ∨ x < -4611686018427387904) : 4611686018427387905 = (sizeC x : Int) := by
  unfold sizeC
  rw [if_neg (by omega)]
  rfl
theorem size_b {x : Int} (h : x ≤ 4611686018427387904 ∧ -4611686018427387904 ≤ x) (g : x < 0) : -x = (sizeC x : Int) := by
  unfold sizeC
  rw [if_pos (by omega)]
  omega
theorem size_c {x : Int} (h : x ≤ 4611686018427387904 ∧ -4611686018427387904 ≤ x) (g : 0 ≤ x) : x = (sizeC x : Int) := by
  unfold sizeC
  rw [if_pos (by omega)]
  omega

theorem wrap_par (z : Nat) : IntKind.i64.wrap (z : Int) % 2 = ((z % 2 : Nat) : Int) := by
  rw [IntKind.wrap_i64]
  have h := Int.emod_emod_of_dvd ((z : Int) + 9223372036854775808) (show (2 : Int) ∣ 18446744073709551616 from ⟨9223372036854775808, by decide⟩)
  generalize ((z : Int) + 9223372036854775808) % 18446744073709551616 = r at *
  omega

/-- The lowest bit of two numbers' common ones. -/
def low2 (x y : Int) : Int := if x % 2 = 1 ∧ y % 2 = 1 then 1 else 0
theorem low_and (x y : Int) : bits BinOp.and IntKind.i64 (bits BinOp.and IntKind.i64 x y) 1 = low2 x y := by
  have e1 : ∀ u : Int, bits BinOp.and IntKind.i64 u 1 = u % 2 := fun u => by
    show IntKind.i64.wrap ((BitVec.ofInt 64 u &&& BitVec.ofInt 64 1).toNat : Int) = _
    rw [BitVec.toNat_and, show (BitVec.ofInt 64 1).toNat = 1 from rfl, Nat.and_one_is_mod, BitVec.toNat_ofInt]
    have := Int.emod_nonneg u (b := 2 ^ 64) (by decide)
    have e : ((2 ^ 64 : Nat) : Int) = 18446744073709551616 := rfl
    rw [e]
    rw [IntWalk.i64_in _ (by omega)]
    omega
  rw [e1]
  have hx : (BitVec.ofInt 64 x).toNat % 2 = (x % 2).toNat := by rw [BitVec.toNat_ofInt, show ((2 ^ 64 : Nat) : Int) = 18446744073709551616 from rfl]; omega
  have hy : (BitVec.ofInt 64 y).toNat % 2 = (y % 2).toNat := by rw [BitVec.toNat_ofInt, show ((2 ^ 64 : Nat) : Int) = 18446744073709551616 from rfl]; omega
  have h2 : ((BitVec.ofInt 64 x).toNat &&& (BitVec.ofInt 64 y).toNat) % 2 = (x % 2).toNat &&& (y % 2).toNat := by
    have := Nat.and_mod_two_pow (a := (BitVec.ofInt 64 x).toNat) (b := (BitVec.ofInt 64 y).toNat) (n := 1)
    rw [Nat.pow_one, hx, hy] at this
    exact this
  show IntKind.i64.wrap ((BitVec.ofInt 64 x &&& BitVec.ofInt 64 y).toNat : Int) % 2 = low2 x y
  rw [BitVec.toNat_and]
  generalize (BitVec.ofInt 64 x).toNat &&& (BitVec.ofInt 64 y).toNat = z at *
  rw [wrap_par, h2]
  unfold low2
  rcases (show x % 2 = 0 ∨ x % 2 = 1 by omega) with a | a <;> rcases (show y % 2 = 0 ∨ y % 2 = 1 by omega) with b | b <;> rw [a, b] <;> rfl

theorem sign_same {g q : Int} (h : fit g = true) (hq : q = wrap64 (g * 2)) {z : Int} (hg : g = z / 2) : ((if g < 0 then 1 else 0 : Int) = if q < 0 then 1 else 0) ↔ fit z = true := by
  rw [fit_iff] at *
  unfold wrap64 at hq
  subst hq
  split <;> split <;> omega

theorem ret_pair {a b : Int} {k : IntKind} {c : Bool} (h : a = b) : Ending.returned (.tuple #[.int k a, .bool c]) = .returned (.tuple #[.int k b, .bool c]) := by rw [h]

/-- What two numbers come to, and whether. -/
def sumV (x y : Int) : Value := .tuple #[.int .i64 (if fit (x + y) then x + y else 0), .bool (fit (x + y))]
theorem sumV_yes {x y : Int} (h : fit (x + y) = true) : sumV x y = .tuple #[.int .i64 (x + y), .bool true] := by unfold sumV; rw [h]; rfl
theorem sumV_no {x y : Int} (h : fit (x + y) = false) : sumV x y = .tuple #[.int .i64 0, .bool false] := by unfold sumV; rw [h]; rfl

section
variable {x y : Int}
theorem add_a (hx : fit x = true) (hy : fit y = true) (h : 0 ≤ y) (g : x ≤ wrap64 (9223372036854775807 - y)) : Ending.returned (.tuple #[.int .i64 (wrap64 (x + y)), .bool true]) = .returned (sumV x y) := by
  rw [fit_iff] at *
  have e : wrap64 (9223372036854775807 - y) = 9223372036854775807 - y := by unfold wrap64; omega
  rw [e] at g
  rw [sumV_yes ((fit_iff _).2 ⟨by omega, by omega⟩)]
  exact ret_pair (by unfold wrap64; omega)
theorem add_b (hy : fit y = true) (h : 0 ≤ y) (g : wrap64 (9223372036854775807 - y) < x) : Ending.returned (.tuple #[.int .i64 0, .bool false]) = .returned (sumV x y) := by
  rw [fit_iff] at *
  have e : wrap64 (9223372036854775807 - y) = 9223372036854775807 - y := by unfold wrap64; omega
  rw [e] at g
  rw [sumV_no]
  rw [Bool.eq_false_iff, ne_eq, fit_iff]
  omega
theorem add_c (hy : fit y = true) (h : y < 0) (g : x < wrap64 (-9223372036854775808 - y)) : Ending.returned (.tuple #[.int .i64 0, .bool false]) = .returned (sumV x y) := by
  rw [fit_iff] at *
  have e : wrap64 (-9223372036854775808 - y) = -9223372036854775808 - y := by unfold wrap64; omega
  rw [e] at g
  rw [sumV_no]
  rw [Bool.eq_false_iff, ne_eq, fit_iff]
  omega
theorem add_d (hx : fit x = true) (hy : fit y = true) (h : y < 0) (g : wrap64 (-9223372036854775808 - y) ≤ x) : Ending.returned (.tuple #[.int .i64 (wrap64 (x + y)), .bool true]) = .returned (sumV x y) := by
  rw [fit_iff] at *
  have e : wrap64 (-9223372036854775808 - y) = -9223372036854775808 - y := by unfold wrap64; omega
  rw [e] at g
  rw [sumV_yes ((fit_iff _).2 ⟨by omega, by omega⟩)]
  exact ret_pair (by unfold wrap64; omega)
end

end Go.Proofs.Ytgchfckmhibeaaa

/-
  Cells by the program and by the document: one value's cell, a mean, which are right.
-/
namespace Go.Proofs.Ytgchfckmhibeaaa
open Go.RowKit

theorem results_cell {fn : Func} {p : Tmp} {ty : TypeId} (h : fn.results = #[.cell p ty]) (tmps : Array Value) (P : Program) (w : World) :
    (results fn tmps).run P w = ((asAddr (tmps.getD p undef)).run P w).andThen fun a w₁ => (loadVar ty a).run P w₁ := by
  simp only [results, h]
  simp [Sem.run_bind, Result.andThen]

/-- A cell, as a value. -/
def cv (c : Cl) : Value := .agg #[.int .i64 c.n, .int .i64 c.s, .int .i64 c.lo, .int .i64 c.hi]
/-- Numbers that an int64 holds. -/
def okC (c : Cl) : Prop := fit c.n = true ∧ fit c.s = true ∧ fit c.lo = true ∧ fit c.hi = true

/-- What Mean answers. -/
def meanV (n s : Int) : Value := if n < 1 then .tuple #[.int .i64 0, .bool false] else .tuple #[.int .i64 (s / n), .bool true]
theorem meanV_shape (n s : Int) : ∃ x b, meanV n s = .tuple #[.int .i64 x, .bool b] := by
  unfold meanV
  split <;> exact ⟨_, _, rfl⟩
theorem mean_no {n s : Int} (h : n < 1) : Ending.returned (.tuple #[.int .i64 0, .bool false]) = .returned (meanV n s) := by
  unfold meanV
  rw [if_pos h]
theorem mean_div {n s : Int} (hs : fit s = true) (h : 1 ≤ n) : wrap64 (s.tdiv n) = s.tdiv n := by
  rw [fit_iff] at hs
  have h1 : (s.tdiv n).natAbs ≤ s.natAbs := by rw [Int.natAbs_tdiv]; exact Nat.div_le_self _ _
  unfold wrap64
  generalize hq : s.tdiv n = q at *
  by_cases h0 : 0 ≤ s
  · have : 0 ≤ q := by rw [← hq]; exact Int.tdiv_nonneg h0 (by omega)
    omega
  · have h2 : 0 ≤ (-s).tdiv n := Int.tdiv_nonneg (by omega) (by omega)
    rw [Int.neg_tdiv, hq] at h2
    omega
theorem mean_a {n s : Int} (hs : fit s = true) (h : 1 ≤ n) (g : s.tmod n < 0) : Ending.returned (.tuple #[.int .i64 (wrap64 (wrap64 (s.tdiv n) - 1)), .bool true]) = .returned (meanV n s) := by
  have hf := floor_of s n (by omega)
  rw [if_pos g] at hf
  rw [mean_div hs h, hf]
  unfold meanV
  rw [if_neg (by omega)]
  refine ret_pair ?_
  rw [fit_iff] at hs
  have h1 := Int.ediv_mul_le s (b := n) (by omega)
  have h2 := Int.lt_ediv_add_one_mul_self s (b := n) (by omega)
  have h3 : -9223372036854775808 ≤ s / n := by
    rw [Int.le_ediv_iff_mul_le (by omega)]
    have : (-9223372036854775808 : Int) * n ≤ -9223372036854775808 * 1 := by omega
    omega
  have h4 : s / n ≤ 9223372036854775807 := by
    have h5 : s / n < 9223372036854775808 := by
      rw [Int.ediv_lt_iff_lt_mul (by omega)]
      omega
    omega
  unfold wrap64
  omega
theorem mean_b {n s : Int} (hs : fit s = true) (h : 1 ≤ n) (g : 0 ≤ s.tmod n) : Ending.returned (.tuple #[.int .i64 (wrap64 (s.tdiv n)), .bool true]) = .returned (meanV n s) := by
  have hf := floor_of s n (by omega)
  rw [if_neg (by omega)] at hf
  rw [mean_div hs h, hf]
  unfold meanV
  rw [if_neg (by omega)]

theorem rightC_eq (n s lo hi : Int) : rightC ⟨n, s, lo, hi⟩ = true ↔ (n = 0 ∧ s = 0 ∧ lo = 0 ∧ hi = 0) ∨ (0 < n ∧ lo ≤ hi ∧ (1 < n ∨ (s = lo ∧ s = hi))) := by
  unfold rightC
  by_cases h : n = 0
  · subst h
    simp [Cl.zero]
  · simp only [if_neg h, Bool.and_eq_true, Bool.or_eq_true, decide_eq_true_iff]
    constructor
    · exact fun g => .inr g
    · rintro (g | g)
      · exact absurd g.1 h
      · exact g
theorem right_is {n s lo hi : Int} {b : Bool} (h : b = true ↔ (n = 0 ∧ s = 0 ∧ lo = 0 ∧ hi = 0) ∨ (0 < n ∧ lo ≤ hi ∧ (1 < n ∨ (s = lo ∧ s = hi)))) : b = rightC ⟨n, s, lo, hi⟩ := by
  rw [Bool.eq_iff_iff, rightC_eq]
  exact h

theorem right_t {n s lo hi : Int} (h : (n = 0 ∧ s = 0 ∧ lo = 0 ∧ hi = 0) ∨ (0 < n ∧ lo ≤ hi ∧ (1 < n ∨ (s = lo ∧ s = hi)))) : true = rightC ⟨n, s, lo, hi⟩ := right_is ⟨fun _ => h, fun _ => rfl⟩
theorem right_f {n s lo hi : Int} (h : ¬ ((n = 0 ∧ s = 0 ∧ lo = 0 ∧ hi = 0) ∨ (0 < n ∧ lo ≤ hi ∧ (1 < n ∨ (s = lo ∧ s = hi))))) : false = rightC ⟨n, s, lo, hi⟩ := right_is ⟨fun e => (by cases e), fun g => absurd g h⟩
theorem right_d {n s lo hi : Int} {q : Prop} [Decidable q] (h : q ↔ ((n = 0 ∧ s = 0 ∧ lo = 0 ∧ hi = 0) ∨ (0 < n ∧ lo ≤ hi ∧ (1 < n ∨ (s = lo ∧ s = hi))))) : decide q = rightC ⟨n, s, lo, hi⟩ := right_is (by rw [decide_eq_true_iff]; exact h)
theorem right_b {n s lo hi a b : Int} (h : a = b ↔ ((n = 0 ∧ s = 0 ∧ lo = 0 ∧ hi = 0) ∨ (0 < n ∧ lo ≤ hi ∧ (1 < n ∨ (s = lo ∧ s = hi))))) : (a == b) = rightC ⟨n, s, lo, hi⟩ := right_is (by rw [beq_iff_eq]; exact h)

theorem right_o {n s lo hi a b : Int} {q : Prop} [Decidable q] (h : (q ∨ a = b) ↔ ((n = 0 ∧ s = 0 ∧ lo = 0 ∧ hi = 0) ∨ (0 < n ∧ lo ≤ hi ∧ (1 < n ∨ (s = lo ∧ s = hi))))) : (decide q || a == b) = rightC ⟨n, s, lo, hi⟩ := right_is (by rw [Bool.or_eq_true, decide_eq_true_iff, beq_iff_eq]; exact h)

end Go.Proofs.Ytgchfckmhibeaaa

/-
  Two cells together, by the program and by the document.
-/
namespace Go.Proofs.Ytgchfckmhibeaaa
open Go.RowKit

/-- What a call that makes a cell answers. -/
def outC : Option Cl → Value
  | some c => .tuple #[cv c, .bool true]
  | none => .tuple #[cv Cl.zero, .bool false]
theorem okC_zero : okC Cl.zero := ⟨rfl, rfl, rfl, rfl⟩
theorem okC_of {v : Int} (h : fit v = true) : okC (Cl.of v) := ⟨rfl, h, h, h⟩
theorem okC_merge {a b c : Cl} (ha : okC a) (hb : okC b) (h : mergeC a b = some c) : okC c := by
  unfold mergeC at h
  split at h
  · cases h
    exact hb
  · split at h
    · cases h
      exact ha
    · split at h
      · rename_i g
        rw [Bool.and_eq_true] at g
        cases h
        obtain ⟨_, _, a3, a4⟩ := ha
        obtain ⟨_, _, b3, b4⟩ := hb
        refine ⟨g.1, g.2, ?_, ?_⟩
        · show fit (min a.lo b.lo) = true
          rw [fit_iff] at *
          omega
        · show fit (max a.hi b.hi) = true
          rw [fit_iff] at *
          omega
      · cases h
theorem merge_l {n : Int} (s lo hi : Int) (b : Cl) (h : n = 0) : Ending.returned (.tuple #[cv b, .bool true]) = .returned (outC (mergeC ⟨n, s, lo, hi⟩ b)) := by
  unfold mergeC
  rw [if_pos h]
  rfl
theorem merge_r {m : Int} (t lo' hi' : Int) (a : Cl) (h : ¬ a.n = 0) (g : m = 0) : Ending.returned (.tuple #[cv a, .bool true]) = .returned (outC (mergeC a ⟨m, t, lo', hi'⟩)) := by
  unfold mergeC
  rw [if_neg h, if_pos g]
  rfl
theorem merge_no {a b : Cl} (h0 : ¬ a.n = 0) (h1 : ¬ b.n = 0) (h : fit (a.n + b.n) = false ∨ fit (a.s + b.s) = false) : Ending.returned (.tuple #[cv Cl.zero, .bool false]) = .returned (outC (mergeC a b)) := by
  unfold mergeC
  rw [if_neg h0, if_neg h1, if_neg (by rcases h with h | h <;> rw [h] <;> simp)]
  rfl
theorem merge_yes {a b : Cl} (h0 : ¬ a.n = 0) (h1 : ¬ b.n = 0) (ha : fit (a.n + b.n) = true) (hb : fit (a.s + b.s) = true) {LO HI : Int} (g1 : LO = min a.lo b.lo) (g2 : HI = max a.hi b.hi) :
    Ending.returned (.tuple #[.agg #[.int .i64 (a.n + b.n), .int .i64 (a.s + b.s), .int .i64 LO, .int .i64 HI], .bool true]) = .returned (outC (mergeC a b)) := by
  subst g1 g2
  unfold mergeC
  rw [if_neg h0, if_neg h1, if_pos (by rw [ha, hb]; rfl)]
  rfl

end Go.Proofs.Ytgchfckmhibeaaa

/-
  The cell of values, by the program and by the document.
-/
namespace Go.Proofs.Ytgchfckmhibeaaa
open Go.RowKit

/-- A cell's numbers, in memory. -/
def ca (c : Cl) : Array Value := #[.int .i64 c.n, .int .i64 c.s, .int .i64 c.lo, .int .i64 c.hi]
theorem box_cells {w : World} {g : Nat} {t : TypeId} {n s lo hi : Int} (h : Box w g t (ca ⟨n, s, lo, hi⟩)) :
    (w.cell? ⟨g, 0, none⟩ = some (.int .i64 n) ∧ w.cell? ⟨g, 1, none⟩ = some (.int .i64 s) ∧ w.cell? ⟨g, 2, none⟩ = some (.int .i64 lo) ∧ w.cell? ⟨g, 3, none⟩ = some (.int .i64 hi)) ∧
    (w.frozen? ⟨g, 0, none⟩ = false ∧ w.frozen? ⟨g, 1, none⟩ = false ∧ w.frozen? ⟨g, 2, none⟩ = false ∧ w.frozen? ⟨g, 3, none⟩ = false) :=
  ⟨⟨h.cell 0, h.cell 1, h.cell 2, h.cell 3⟩, ⟨h.free 0, h.free 1, h.free 2, h.free 3⟩⟩
theorem box_set4 {w : World} {g : Nat} {t : TypeId} {c : Cl} {n s lo hi : Int} (h : Box w g t (ca c)) :
    Box ((((w.setCell ⟨g, 0, none⟩ (.int .i64 n)).setCell ⟨g, 1, none⟩ (.int .i64 s)).setCell ⟨g, 2, none⟩ (.int .i64 lo)).setCell ⟨g, 3, none⟩ (.int .i64 hi)) g t (ca ⟨n, s, lo, hi⟩) :=
  (((h.set 0 _).set 1 _).set 2 _).set 3 _
theorem turn_set4 {S : Nat → Prop} {w0 w : World} {g : Nat} {a b c d : Value} (h : Turn S w0 w) (hg : g < w0.heap.size → S g) :
    Turn S w0 ((((w.setCell ⟨g, 0, none⟩ a).setCell ⟨g, 1, none⟩ b).setCell ⟨g, 2, none⟩ c).setCell ⟨g, 3, none⟩ d) :=
  (((h.setCell hg _).setCell hg _).setCell hg _).setCell hg _

theorem outC_shape (o : Option Cl) : ∃ n s lo hi, outC o = .tuple #[.agg #[.int .i64 n, .int .i64 s, .int .i64 lo, .int .i64 hi], .bool o.isSome] ∧ o.getD Cl.zero = ⟨n, s, lo, hi⟩ := by
  cases o with
  | none => exact ⟨0, 0, 0, 0, rfl, rfl⟩
  | some c => exact ⟨c.n, c.s, c.lo, c.hi, rfl, rfl⟩

theorem all_no {l : List Int} {k : Nat} {c : Cl} {x : Int} (h : allC (l.take k) = some c) (hx : l[k]? = some x) (hm : mergeC c (Cl.of x) = none) : Ending.returned (.tuple #[cv Cl.zero, .bool false]) = .returned (outC (allC l)) := by
  have : allC (l.take (k + 1)) = none := by rw [allC_take hx, h]; exact hm
  rw [allC_none this]
  rfl
theorem all_yes {l : List Int} {k : Nat} {c : Cl} (h : allC (l.take k) = some c) (hk : k = l.length) : Ending.returned (.tuple #[cv c, .bool true]) = .returned (outC (allC l)) := by
  rw [hk, List.take_length] at h
  rw [h]
  rfl

end Go.Proofs.Ytgchfckmhibeaaa

/-
  The weight of values, by the program and by the document.
-/
namespace Go.Proofs.Ytgchfckmhibeaaa
open Go.RowKit

/-- What Weight answers, as a value. -/
def weighV (l : List Int) : Value := .tuple #[.int .i64 (weighO l).1, .bool (weighO l).2]
theorem weigh_no {l : List Int} {k n : Nat} {x : Int} (hn : weighN (l.take k) = n) (hx : l[k]? = some x) (h : ¬ n + x.natAbs ≤ 4611686018427387904) : Ending.returned (.tuple #[.int .i64 0, .bool false]) = .returned (weighV l) := by
  unfold weighV
  rw [weighO_no (k := k + 1) (by rw [weighN_take hx, hn]; exact h)]
  rfl
theorem weigh_yes {l : List Int} {k n : Nat} (hn : weighN (l.take k) = n) (hk : k = l.length) (h : n ≤ 4611686018427387904) {z : Int} (hz : z = n) : Ending.returned (.tuple #[.int .i64 z, .bool true]) = .returned (weighV l) := by
  rw [hk, List.take_length] at hn
  unfold weighV
  rw [weighO_yes (by rw [hn]; exact h), hn, hz]

end Go.Proofs.Ytgchfckmhibeaaa

/-
  Stage 9: facts held against each other; which facts are light; the document's Weight.
-/
namespace Go.Proofs.Ytgchfckmhibeaaa
open Go.RowKit

set_option maxRecDepth 100000

set_option maxHeartbeats 4000000 in
theorem same_refl9 (a b : Value) (L : List F9) (w : World) (ha : RdE EF w a L) (hb : RdE EF w b L) (hl : L.length ≤ 1000000) :
    Calls Try.prog 18 #[a, b] w fun e w' => e = .returned (.bool true) ∧ Turn (fun _ => False) w w' := by
  have HA := Lib.hid ha; have HB := Lib.hid hb
  obtain ⟨A, c, rfl⟩ := ha.shape
  obtain ⟨B, d, rfl⟩ := hb.shape
  clear ha hb
  go_enter Try.func18, Try.ntmps18
  go_wp2_with fail
  go_loopw [5] (fun x5 wr => ∃ i : Nat, x5 = .int .i64 (i : Int) ∧ i ≤ L.length ∧ ∃ n, wr = w.drewN n) (fun x5 _ => L.length - (intOf x5).toNat)
  case atStart => exact ⟨0, rfl, Nat.zero_le _, 0, rfl⟩
  case round =>
    obtain ⟨i, rfl, hi, n, rfl⟩ := hrel
    by_cases hlt : i < L.length
    · obtain ⟨x, hx⟩ : ∃ x, L[i]? = some x := ⟨_, List.getElem?_eq_getElem hlt⟩
      obtain ⟨ad, rfl, hc⟩ := fact_at6 HA.out hx
      obtain ⟨bd, rfl, hd⟩ := fact_at6 HB.out hx
      obtain ⟨c0, c1, c2, c3, c4, c5⟩ := hc w (Turn.refl _ _)
      obtain ⟨d0, d1, d2, d3, d4, d5⟩ := hd w (Turn.refl _ _)
      clear hc hd hx
      have hil : (i : Int) < L.length := by omega
      have hne := run_neq_fact x x
      have hgd := fun X Y => guard_fact9 .neq X Y x x
      rw [decide_eq_true rfl, Bool.not_true] at hne
      go_wp2_with fail
      go_quiet (fail)
      go_wp2
      go_roundw
      case rel => exact ⟨i + 1, by go_num, hlt, n + nq, by simp [World.drewN]⟩
      case measure => simp [intOf]; omega
    · obtain rfl : i = L.length := by omega
      go_wp2
      go_ret
      exact ⟨rfl, (Turn.refl _ w).drewN _⟩

/-- Facts that are few, and short. -/
def short9 (f : F9) : Bool := decide (f.k.a.length ≤ 40) && decide (f.k.b.length ≤ 40) && decide (f.k.c.length ≤ 40) && decide (f.k.d.length ≤ 40)
def light9 (l : List F9) : Bool := decide (l.length ≤ 100) && l.all short9
theorem short_all9 {f : F9} (h : ∀ k, k < 4 → (f.k.dim k).length ≤ 40) : short9 f = true := by
  have e0 := h 0 (by omega)
  have e1 := h 1 (by omega)
  have e2 := h 2 (by omega)
  have e3 := h 3 (by omega)
  simp only [K9.dim] at e0 e1 e2 e3
  simp [short9, e0, e1, e2, e3]
theorem short_not9 {f : F9} {k : Nat} (hk : k < 4) (h : ¬ (f.k.dim k).length ≤ 40) : short9 f = false := by
  match k, hk with
  | 0, _ => simp only [K9.dim] at h; simp [short9, h]
  | 1, _ => simp only [K9.dim] at h; simp [short9, h]
  | 2, _ => simp only [K9.dim] at h; simp [short9, h]
  | 3, _ => simp only [K9.dim] at h; simp [short9, h]
theorem light_not9 {l : List F9} {i : Nat} {f : F9} (h : l[i]? = some f) (hf : short9 f = false) : light9 l = false := by
  unfold light9
  rw [Bool.and_eq_false_iff]
  right
  rw [← Bool.not_eq_true, List.all_eq_true]
  intro hall
  rw [hall f (List.mem_of_getElem? h)] at hf
  cases hf
theorem light_all9 {l : List F9} (hl : l.length ≤ 100) (h : ∀ (i : Nat) (f : F9), i < l.length → l[i]? = some f → short9 f = true) : light9 l = true := by
  unfold light9
  rw [Bool.and_eq_true, decide_eq_true_iff, List.all_eq_true]
  refine ⟨hl, fun f hf => ?_⟩
  obtain ⟨i, hi, e⟩ := List.getElem_of_mem hf
  exact h i f hi (by rw [List.getElem?_eq_getElem hi, e])

set_option maxHeartbeats 4000000 in
theorem light_any9 (v : Value) (l : List F9) (w : World) (hv : RdE EF w v l) (hl : l.length ≤ maxLen) : Calls Try.prog 23 #[v] w fun e w' => e = .returned (.bool (light9 l)) ∧ w' = w := by
  have HV := Lib.hid hv
  obtain ⟨A, c, rfl⟩ := hv.shape
  unfold maxLen at hl
  clear hv
  by_cases h100 : l.length ≤ 100
  · have h100' : (l.length : Int) ≤ 100 := by omega
    go_enter Try.func23, Try.ntmps23
    go_wp2_with fail
    go_loopw [3] (fun x3 wr => wr = w ∧ ∃ i : Nat, x3 = .int .i64 (i : Int) ∧ i ≤ l.length ∧ ∀ k f, k < i → l[k]? = some f → short9 f = true) (fun x3 _ => l.length - (intOf x3).toNat)
    case atStart => exact ⟨rfl, 0, rfl, Nat.zero_le _, fun k f hk => absurd hk (Nat.not_lt_zero k)⟩
    case round =>
      obtain ⟨rfl, i, rfl, hi, he⟩ := hrel
      have HE := Lib.hid he
      clear he
      by_cases hlt : i < l.length
      · obtain ⟨f, hf⟩ : ∃ f, l[i]? = some f := ⟨_, List.getElem?_eq_getElem hlt⟩
        obtain ⟨ad, rfl, hc⟩ := fact_at HV.out hf
        have hil : (i : Int) < l.length := by omega
        have HC := Lib.hid hc
        have HF := Lib.hid hf
        clear hc hf
        go_wp2_with fail
        go_loopw [4] (fun x4 wk => wk = wr ∧ ∃ k : Nat, x4 = .int .i64 (k : Int) ∧ k ≤ 4 ∧ ∀ j, j < k → (f.k.dim j).length ≤ 40) (fun x4 _ => 4 - (intOf x4).toNat)
        case atStart => exact ⟨rfl, 0, rfl, Nat.zero_le _, fun k hk => absurd hk (Nat.not_lt_zero k)⟩
        case round =>
          obtain ⟨rfl, k, rfl, hk, hd⟩ := hrel
          have HD := Lib.hid hd
          clear hd
          by_cases hk4 : k < 4
          · have e1 := (HC.out _ (Turn.refl _ _)).2.1 k hk4
            have hkl : (k : Int) < 4 := by omega
            rw [← Nat.add_assoc] at e1
            unfold sv9 at e1
            generalize hT : f.k.dim k = T at *
            by_cases hlen : T.length ≤ 40
            · have hli : (T.length : Int) ≤ 40 := by omega
              go_wp2_with fail
              go_roundw
              case rel => exact ⟨trivial, k + 1, by go_num, hk4, fun j hj => by
                by_cases ej : j = k
                · rw [ej, hT]; exact hlen
                · exact HD.out j (by omega)⟩
              case measure => simp [intOf]; omega
            · have hli : ¬ ((T.length : Int) ≤ 40) := by omega
              have HK := Lib.hid (light_not9 HF.out (short_not9 hk4 (by rw [hT]; exact hlen)))
              go_wp2_with fail
              go_ret
              rw [HK.out]
              exact ⟨rfl, rfl⟩
          · obtain rfl : k = 4 := by omega
            have HK := Lib.hid (short_all9 HD.out)
            go_wp2_with fail
            go_roundw
            case rel => exact ⟨trivial, i + 1, by go_num, hlt, fun j g hj hg => by
              by_cases ej : j = i
              · subst ej
                rw [HF.out] at hg
                cases hg
                exact HK.out
              · exact HE.out j g (by omega) hg⟩
            case measure => simp [intOf]; omega
      · obtain rfl : i = l.length := by omega
        have HK := Lib.hid (light_all9 h100 HE.out)
        go_wp2
        go_ret
        rw [HK.out]
        exact ⟨rfl, rfl⟩
  · have h100' : ¬ ((l.length : Int) ≤ 100) := by omega
    have e : light9 l = false := by simp [light9, h100]
    rw [e]
    go_enter Try.func23, Try.ntmps23
    go_wp2
    go_ret
    exact ⟨rfl, rfl⟩

/-- What the document's Weight answers. -/
def values9 (l : List F9) : List Int := l.map (·.v)
end Go.Proofs.Ytgchfckmhibeaaa

/-
  Stage 9, plain: there and back.
-/
namespace Go.Proofs.Ytgchfckmhibeaaa
open Go.RowKit

theorem zig_zag9 (n : Nat) : zig (zag n) = n := by
  unfold zig zag
  by_cases h : n % 2 = 0
  · rw [if_pos h, if_pos (by omega)]
    omega
  · rw [if_neg h, if_neg (by omega)]
    omega
theorem mid_of (b : UInt8) (q : Nat) (hb : 128 ≤ b.toNat) : mid (b.toNat - 128 + q * 128) = b := by
  have hlt : b.toNat < 256 := UInt8.toNat_lt b
  apply UInt8.toNat_inj.1
  unfold mid
  rw [UInt8.toNat_ofNat']
  omega
theorem low_of (b : UInt8) : low b.toNat = b := by
  apply UInt8.toNat_inj.1
  exact low_toNat _ (UInt8.toNat_lt b)
/-- What is read as a number is just what would be put, and what is left. -/
theorem rdF_exact : ∀ (g i acc : Nat) (l : List UInt8), (rdF g i acc l).2.1 = 0 →
    ∃ q, (rdF g i acc l).1 = acc + q * 128 ^ i ∧ i ≤ (rdF g i acc l).2.2 ∧ l = encF (g - 1) q ++ l.drop ((rdF g i acc l).2.2 - i) ∧ (0 < i → 0 < q)
  | 0, _, _, _, h => by cases h
  | _ + 1, _, _, [], h => by cases h
  | g + 1, i, acc, b :: l, h => by
    have e : rdF (g + 1) i acc (b :: l) = if 128 ≤ b.toNat then rdF g (i + 1) (acc + (b.toNat - 128) * 128 ^ i) l
      else if (0 < i ∧ b.toNat = 0) ∨ (i = 9 ∧ 1 < b.toNat) then (0, 4, i + 1) else (acc + b.toNat * 128 ^ i, 0, i + 1) := rfl
    rw [e] at h ⊢
    by_cases hb : 128 ≤ b.toNat
    · rw [if_pos hb] at h ⊢
      obtain ⟨q, h1, h2, h3, h4⟩ := rdF_exact g (i + 1) _ l h
      have hq := h4 (by omega)
      have hlt : b.toNat < 256 := UInt8.toNat_lt b
      cases g with
      | zero => cases h
      | succ g =>
        refine ⟨b.toNat - 128 + q * 128, ?_, by omega, ?_, fun _ => by omega⟩
        · rw [h1, Nat.pow_succ, Nat.add_mul, Nat.mul_assoc q 128, Nat.mul_comm 128 (128 ^ i)]
          omega
        · have e2 : encF (g + 1) (b.toNat - 128 + q * 128) = b :: encF g q := by
            show (if _ < 128 then _ else _) = _
            rw [if_neg (by omega), mid_of b q hb, show (b.toNat - 128 + q * 128) / 128 = q by omega]
          show b :: l = encF (g + 1) _ ++ _
          rw [e2]
          generalize (rdF (g + 1) (i + 1) (acc + (b.toNat - 128) * 128 ^ i) l).2.2 = n at *
          rw [show n - i = (n - (i + 1)) + 1 by omega, List.drop_succ_cons, List.cons_append]
          congr 1
    · rw [if_neg hb] at h ⊢
      by_cases hz : (0 < i ∧ b.toNat = 0) ∨ (i = 9 ∧ 1 < b.toNat)
      · rw [if_pos hz] at h
        cases h
      · rw [if_neg hz]
        refine ⟨b.toNat, rfl, by show i ≤ i + 1; omega, ?_, fun hi => by omega⟩
        have e2 : encF g b.toNat = [b] := by
          cases g with
          | zero => show [low b.toNat] = [b]; rw [low_of]
          | succ g =>
            show (if _ < 128 then _ else _) = _
            rw [if_pos (by omega), low_of]
        show b :: l = encF g b.toNat ++ _
        rw [e2, show i + 1 - i = 1 by omega]
        rfl
theorem rdNum_exact {l : List UInt8} (h : (rdNum l).2.1 = 0) : l = enc (rdNum l).1 ++ l.drop (rdNum l).2.2 := by
  obtain ⟨q, h1, _, h2, _⟩ := rdF_exact 10 0 0 l h
  have e : (rdNum l).1 = q := by
    show (rdF 10 0 0 l).1 = q
    rw [h1]
    simp
  rw [e]
  exact h2
theorem num_there {s : RS9} (h : (sNum' s).2 = 0) : s.2 = 0 ∧ s.1 = enc (sNum s) ++ (sNum' s).1 := by
  unfold sNum sNum' at *
  by_cases hs : s.2 = 0
  · rw [if_pos hs] at h
    rw [if_pos hs, if_pos hs]
    exact ⟨hs, rdNum_exact h⟩
  · rw [if_neg hs] at h
    exact absurd h hs
theorem text_there {s : RS9} (h : (sText' s).2 = 0) : s.2 = 0 ∧ s.1 = textB (sText s) ++ (sText' s).1 ∧ (sText s).length ≤ 16 := by
  unfold sText sText' at *
  by_cases hs : s.2 = 0
  · rw [if_pos hs] at h
    rw [if_pos hs, if_pos hs]
    refine ⟨hs, ?_⟩
    unfold rdText rdCount at h ⊢
    by_cases h1 : (rdNum s.1).2.1 = 0
    · by_cases h2 : 16 < (rdNum s.1).1
      · simp [h1, h2] at h
      · by_cases h3 : (s.1.drop (rdNum s.1).2.2).length < (rdNum s.1).1
        · simp only [h1, h2, ne_eq, not_true_eq_false, if_false, h3, if_true] at h
          cases h
        · simp only [h1, h2, ne_eq, not_true_eq_false, if_false, h3]
          have hl : ((s.1.drop (rdNum s.1).2.2).take (rdNum s.1).1).length = (rdNum s.1).1 := by rw [List.length_take]; omega
          refine ⟨?_, by omega⟩
          unfold textB
          rw [hl]
          have e := rdNum_exact h1
          conv => lhs; rw [e]
          rw [List.append_assoc, ← List.drop_drop, List.take_append_drop]
    · simp only [ne_eq, h1, not_false_eq_true, if_true] at h
  · rw [if_neg hs] at h
    exact absurd h hs
theorem count_there {s : RS9} (h : (sCount' s).2 = 0) : s.2 = 0 ∧ s.1 = enc (sCount s) ++ (sCount' s).1 ∧ sCount s ≤ 50 := by
  unfold sCount sCount' at *
  by_cases hs : s.2 = 0
  · rw [if_pos hs] at h
    rw [if_pos hs, if_pos hs]
    refine ⟨hs, ?_⟩
    unfold rdCount at h ⊢
    by_cases h1 : (rdNum s.1).2.1 = 0
    · by_cases h2 : 50 < (rdNum s.1).1
      · simp [h1, h2] at h
      · simp only [h1, h2, ne_eq, not_true_eq_false, if_false]
        exact ⟨rdNum_exact h1, by omega⟩
    · simp only [ne_eq, h1, not_false_eq_true, if_true] at h
  · rw [if_neg hs] at h
    exact absurd h hs


theorem dim_put {k : K9} {i j : Nat} (hi : i < 4) (hj : j < 4) (t : List UInt8) : (k.put i t).dim j = if i = j then t else k.dim j := by
  match i, hi, j, hj with
  | 0, _, 0, _ => rfl
  | 0, _, 1, _ => rfl
  | 0, _, 2, _ => rfl
  | 0, _, 3, _ => rfl
  | 1, _, 0, _ => rfl
  | 1, _, 1, _ => rfl
  | 1, _, 2, _ => rfl
  | 1, _, 3, _ => rfl
  | 2, _, 0, _ => rfl
  | 2, _, 1, _ => rfl
  | 2, _, 2, _ => rfl
  | 2, _, 3, _ => rfl
  | 3, _, 0, _ => rfl
  | 3, _, 1, _ => rfl
  | 3, _, 2, _ => rfl
  | 3, _, 3, _ => rfl
theorem put_h {k : K9} {i : Nat} (t : List UInt8) : (k.put i t).h = k.h := by
  unfold K9.put
  split <;> rfl
theorem texts_same {k k' : K9} : ∀ n, (∀ j, j < n → k.dim j = k'.dim j) → textsB k n = textsB k' n
  | 0, _ => rfl
  | n + 1, h => by
    show textsB k n ++ textB (k.dim n) = textsB k' n ++ textB (k'.dim n)
    rw [texts_same n (fun j hj => h j (by omega)), h n (by omega)]
theorem textsK_h (k0 : K9) (s : RS9) : ∀ n, (textsK k0 s n).1.h = k0.h
  | 0 => rfl
  | n + 1 => by
    show ((textsK k0 s n).1.put n _).h = k0.h
    rw [put_h, textsK_h k0 s n]
theorem texts_there (k0 : K9) (s : RS9) : ∀ n, n ≤ 4 → (textsK k0 s n).2.2 = 0 → s.2 = 0 ∧ s.1 = textsB (textsK k0 s n).1 n ++ (textsK k0 s n).2.1
  | 0, _, h => ⟨h, rfl⟩
  | n + 1, hn, h => by
    obtain ⟨h1, h2, _⟩ := text_there (s := (textsK k0 s n).2) h
    obtain ⟨g1, g2⟩ := texts_there k0 s n (by omega) h1
    refine ⟨g1, ?_⟩
    have e1 : textsB (textsK k0 s (n + 1)).1 (n + 1) = textsB (textsK k0 s n).1 n ++ textB (sText (textsK k0 s n).2) := by
      show textsB ((textsK k0 s n).1.put n _) n ++ textB (((textsK k0 s n).1.put n _).dim n) = _
      rw [dim_put (by omega) (by omega), if_pos rfl, texts_same n (k' := (textsK k0 s n).1) (fun j hj => by rw [dim_put (by omega) (by omega), if_neg (by omega)])]
    have e2 : (textsK k0 s (n + 1)).2.1 = (sText' (textsK k0 s n).2).1 := rfl
    rw [e1, e2, List.append_assoc, ← h2]
    exact g2
theorem one_there {n h : Nat} {s : RS9} (hn : n ≤ 4) (hf : (oneF n h s).2.2 = 0) : s.2 = 0 ∧ enc h ++ s.1 = factB n (oneF n h s).1 ++ (oneF n h s).2.1 := by
  obtain ⟨h1, h2⟩ := num_there (s := (textsK ⟨h, [], [], [], []⟩ s n).2) hf
  obtain ⟨g1, g2⟩ := texts_there _ s n hn h1
  refine ⟨g1, ?_⟩
  have e1 : (oneF n h s).1.k.h.toNat = h := by
    show (textsK _ s n).1.h.toNat = h
    rw [textsK_h]
    simp
  have e2 : zig (oneF n h s).1.v = sNum (textsK ⟨h, [], [], [], []⟩ s n).2 := by
    show zig (sInt _) = _
    unfold sInt sNum
    rw [if_pos h1, if_pos h1, zig_zag9]
  unfold factB
  rw [e1, e2, g2]
  have e3 : (oneF n h s).2.1 = (sNum' (textsK ⟨h, [], [], [], []⟩ s n).2).1 := rfl
  rw [e3]
  conv => lhs; rw [h2]
  simp only [List.append_assoc]
  rfl
theorem readR_there {n : Nat} (hn : n ≤ 4) : ∀ (i : Nat) (s : RS9) (out res : List F9), readR n i s out = (0, res) → s.2 = 0 ∧ ∃ new, res = out ++ new ∧ new.length = i ∧ s.1 = new.flatMap (factB n) ∧ (allB res n).1 = 0
  | 0, s, out, res, h => by
    unfold readR at h
    split at h
    · rename_i hs
      have := congrArg Prod.fst h
      simp at this
      exact absurd this hs
    · rename_i hs
      split at h
      · cases congrArg Prod.fst h
      · rename_i hl
        split at h
        · rename_i ha
          exact absurd (congrArg Prod.fst h) ha
        · rename_i ha
          have e : out = res := congrArg Prod.snd h
          subst e
          exact ⟨by omega, [], by simp, rfl, List.eq_nil_of_length_eq_zero (by omega), by omega⟩
  | i + 1, s, out, res, h => by
    unfold readR at h
    split at h
    · cases congrArg Prod.fst h
    · rename_i hb
      split at h
      · rename_i hf
        have := congrArg Prod.fst h
        simp at this
        exact absurd this hf
      · rename_i hf
        have hf0 : (oneF n (sNum s) (sNum' s)).2.2 = 0 := by omega
        obtain ⟨h1, new, h2, h3, h4, h5⟩ := readR_there hn i _ _ res h
        obtain ⟨g1, g2⟩ := one_there hn hf0
        obtain ⟨k1, k2⟩ := num_there g1
        refine ⟨k1, (oneF n (sNum s) (sNum' s)).1 :: new, by rw [h2]; simp, by rw [List.length_cons, h3], ?_, h5⟩
        rw [k2, g2, h4]
        rfl
theorem readB_there {m : List UInt8} {n : Int} {res : List F9} (h : readB m n = (0, res)) : m = batchB res n.toNat ∧ (allB res n).1 = 0 := by
  unfold readB at h
  split at h
  · rename_i hd
    unfold okDims at hd
    simp only [Bool.and_eq_true, decide_eq_true_iff] at hd
    obtain ⟨N, rfl⟩ := Int.eq_ofNat_of_zero_le (show 0 ≤ n by omega)
    rw [Int.toNat_natCast] at h ⊢
    obtain ⟨h1, new, h2, h3, h4, h5⟩ := readR_there (by omega) _ _ _ _ h
    rw [List.nil_append] at h2
    subst h2
    obtain ⟨_, g2, _⟩ := count_there h1
    refine ⟨?_, h5⟩
    unfold batchB
    rw [h3, ← h4]
    exact g2
  · cases congrArg Prod.fst h
theorem readB_none {m : List UInt8} {n : Int} (h : (readB m n).1 ≠ 0) : (readB m n).2 = [] := by
  have key : ∀ (N i : Nat) (s : RS9) (out : List F9), (readR N i s out).1 ≠ 0 → (readR N i s out).2 = [] := by
    intro N i
    induction i with
    | zero =>
      intro s out h
      unfold readR at h ⊢
      split
      · rfl
      · rename_i h1
        rw [if_neg h1] at h
        split
        · rfl
        · rename_i h2
          rw [if_neg h2] at h
          split
          · rfl
          · rename_i h3
            rw [if_neg h3] at h
            exact absurd rfl h
    | succ i ih =>
      intro s out h
      unfold readR at h ⊢
      split
      · rfl
      · rename_i h1
        rw [if_neg h1] at h
        split
        · rfl
        · rename_i h2
          rw [if_neg h2] at h
          exact ih _ _ h
  unfold readB at h ⊢
  split
  · rename_i h1
    rw [if_pos h1] at h
    exact key _ _ _ _ h
  · rfl

theorem num_back {n : Nat} (hn : Hid (n < 18446744073709551616)) (r : List UInt8) : sNum (enc n ++ r, 0) = n ∧ sNum' (enc n ++ r, 0) = (r, 0) := by
  unfold sNum sNum'
  simp only [if_true]
  rw [rdNum_enc n r hn]
  exact ⟨rfl, by simp⟩
theorem int_back {v : Int} (h1 : Hid (-9223372036854775808 ≤ v)) (h2 : Hid (v ≤ 9223372036854775807)) (r : List UInt8) : sInt (enc (zig v) ++ r, 0) = v ∧ sNum' (enc (zig v) ++ r, 0) = (r, 0) := by
  have hz := zig_lt v h1 h2
  refine ⟨?_, (num_back hz r).2⟩
  unfold sInt
  simp only [if_true]
  rw [rdNum_enc _ r hz, zag_zig]
theorem text_back {t : List UInt8} (ht : t.length ≤ 16) (r : List UInt8) : sText (textB t ++ r, 0) = t ∧ sText' (textB t ++ r, 0) = (r, 0) := by
  have hn : Hid (t.length < 18446744073709551616) := by show _ < _; omega
  have e : rdNum (textB t ++ r) = (t.length, 0, (enc t.length).length) := by
    unfold textB
    rw [List.append_assoc]
    exact rdNum_enc t.length (t ++ r) hn
  have ed : (textB t ++ r).drop (enc t.length).length = t ++ r := by
    unfold textB
    rw [List.append_assoc, List.drop_left]
  have e2 : rdText 16 (textB t ++ r) = (t, 0, (enc t.length).length + t.length) := by
    unfold rdText rdCount
    rw [e]
    have h16 : ¬ 16 < t.length := by omega
    simp only [ne_eq, not_true_eq_false, if_false, h16, ed]
    rw [if_neg (by rw [List.length_append]; omega), List.take_left]
  unfold sText sText'
  simp only [if_true]
  rw [e2]
  refine ⟨rfl, ?_⟩
  show ((textB t ++ r).drop ((enc t.length).length + t.length), 0) = _
  rw [← List.drop_drop, ed, List.drop_left]
theorem count_back {n : Nat} (hn : n ≤ 50) (r : List UInt8) : sCount (enc n ++ r, 0) = n ∧ sCount' (enc n ++ r, 0) = (r, 0) := by
  have e := rdNum_enc n r (by show _ < _; omega)
  have e2 : rdCount 50 (enc n ++ r) = (n, 0, (enc n).length) := by
    unfold rdCount
    rw [e]
    have h50 : ¬ 50 < n := by omega
    simp [h50]
  unfold sCount sCount'
  simp only [if_true]
  rw [e2]
  exact ⟨rfl, by simp⟩
/-- A key's first texts put into another. -/
def putN (k0 k : K9) : Nat → K9
  | 0 => k0
  | i + 1 => (putN k0 k i).put i (k.dim i)
theorem texts_back (k0 k : K9) (hk : ∀ i, i < 4 → (k.dim i).length ≤ 16) : ∀ (n : Nat) (r : List UInt8), n ≤ 4 → textsK k0 (textsB k n ++ r, 0) n = (putN k0 k n, (r, 0))
  | 0, _, _ => rfl
  | n + 1, r, hn => by
    have ih := texts_back k0 k hk n (textB (k.dim n) ++ r) (by omega)
    have e : textsB k (n + 1) ++ r = textsB k n ++ (textB (k.dim n) ++ r) := by
      show textsB k n ++ textB (k.dim n) ++ r = _
      rw [List.append_assoc]
    rw [e]
    show ((textsK k0 (textsB k n ++ (textB (k.dim n) ++ r), 0) n).1.put n (sText (textsK k0 (textsB k n ++ (textB (k.dim n) ++ r), 0) n).2), sText' (textsK k0 (textsB k n ++ (textB (k.dim n) ++ r), 0) n).2) = _
    rw [ih]
    obtain ⟨t1, t2⟩ := text_back (hk n (by omega)) r
    rw [t1, t2]
    rfl
theorem putN_all {k : K9} {n : Nat} (hn1 : 1 ≤ n) (hn : n ≤ 4) (hk : ∀ i, i < 4 → n ≤ i → k.dim i = []) : putN ⟨k.h, [], [], [], []⟩ k n = k := by
  obtain ⟨h, a, b, c, d⟩ := k
  match n, hn1, hn with
  | 1, _, _ =>
    have e1 := hk 1 (by omega) (by omega)
    have e2 := hk 2 (by omega) (by omega)
    have e3 := hk 3 (by omega) (by omega)
    simp only [K9.dim] at e1 e2 e3
    subst e1 e2 e3
    rfl
  | 2, _, _ =>
    have e2 := hk 2 (by omega) (by omega)
    have e3 := hk 3 (by omega) (by omega)
    simp only [K9.dim] at e2 e3
    subst e2 e3
    rfl
  | 3, _, _ =>
    have e3 := hk 3 (by omega) (by omega)
    simp only [K9.dim] at e3
    subst e3
    rfl
  | 4, _, _ => rfl
theorem chk_empty {f : F9} {n : Nat} (h : chkF f (n : Int) = 0) : ∀ i, i < 4 → n ≤ i → f.k.dim i = [] := by
  unfold chkF at h
  split at h
  · split at h
    · split at h
      · rename_i ht
        simp only [okTexts, okText, Bool.and_eq_true, Bool.or_eq_true, decide_eq_true_iff, List.isEmpty_iff] at ht
        intro i hi hn
        match i, hi with
        | 0, _ => rcases ht.1.1.1.2 with g | g; · omega
                  · exact g
        | 1, _ => rcases ht.1.1.2.2 with g | g; · omega
                  · exact g
        | 2, _ => rcases ht.1.2.2 with g | g; · omega
                  · exact g
        | 3, _ => rcases ht.2.2 with g | g; · omega
                  · exact g
      · cases h
    · cases h
  · cases h
theorem one_back {f : F9} {n : Nat} (hn1 : 1 ≤ n) (hn : n ≤ 4) (h : chkF f (n : Int) = 0) (r : List UInt8) : sNum (factB n f ++ r, 0) = f.k.h.toNat ∧ oneF n f.k.h.toNat (sNum' (factB n f ++ r, 0)) = (f, (r, 0)) := by
  have hg := good_chk h
  have hh : Hid (f.k.h.toNat < 18446744073709551616) := by have := hg.h1; show _ < _; omega
  have e : factB n f ++ r = enc f.k.h.toNat ++ (textsB f.k n ++ (enc (zig f.v) ++ r)) := by
    unfold factB
    simp only [List.append_assoc]
  obtain ⟨a1, a2⟩ := num_back hh (textsB f.k n ++ (enc (zig f.v) ++ r))
  rw [e, a1, a2]
  refine ⟨rfl, ?_⟩
  have et := texts_back ⟨(f.k.h.toNat : Int), [], [], [], []⟩ f.k hg.t n (enc (zig f.v) ++ r) hn
  obtain ⟨i1, i2⟩ := int_back (v := f.v) (by have := hg.v0; show _ ≤ _; omega) (by have := hg.v1; show _ ≤ _; omega) r
  unfold oneF
  rw [et]
  show ((⟨putN _ f.k n, sInt (enc (zig f.v) ++ r, 0)⟩ : F9), sNum' (enc (zig f.v) ++ r, 0)) = _
  rw [i1, i2, Int.toNat_of_nonneg hg.h0, putN_all hn1 hn (chk_empty h)]
theorem readR_back {n : Nat} (hn1 : 1 ≤ n) (hn : n ≤ 4) : ∀ (fs out : List F9), (∀ f ∈ fs, chkF f (n : Int) = 0) → (allB (out ++ fs) n).1 = 0 → readR n fs.length (fs.flatMap (factB n), 0) out = (0, out ++ fs)
  | [], out, _, ha => by
    rw [List.append_nil] at ha ⊢
    show (if (0 : Nat) ≠ 0 then _ else if 0 < ([] : List UInt8).length then _ else if (allB out n).1 ≠ 0 then _ else (0, out)) = _
    simp [ha]
  | f :: fs, out, hc, ha => by
    have hf := hc f (by simp)
    obtain ⟨h1, h2⟩ := one_back hn1 hn hf (fs.flatMap (factB n))
    have hg := good_chk hf
    have ih := readR_back hn1 hn fs (out ++ [f]) (fun g hg => hc g (by simp [hg])) (by simpa using ha)
    show readR n (fs.length + 1) (factB n f ++ fs.flatMap (factB n), 0) out = _
    unfold readR
    rw [h1, h2, if_neg (by have := hg.h1; omega), if_neg (by simp), ih]
    simp
theorem readB_back {l : List F9} {n : Int} (h : (allB l n).1 = 0) : readB (batchB l n.toNat) n = (0, l) := by
  obtain ⟨⟨n1, n4⟩, ⟨l1, l50⟩, hc, _⟩ := all_good h
  obtain ⟨N, rfl⟩ := Int.eq_ofNat_of_zero_le (show 0 ≤ n by omega)
  have hd : okDims (N : Int) = true := by unfold okDims; simp [n1, n4]
  unfold readB
  rw [if_pos hd, Int.toNat_natCast]
  obtain ⟨c1, c2⟩ := count_back l50 (l.flatMap (factB N))
  have e : batchB l N = enc l.length ++ l.flatMap (factB N) := rfl
  rw [e, c1, c2]
  have := readR_back (by omega) (by omega) l [] hc (by simpa using h)
  simpa using this

end Go.Proofs.Ytgchfckmhibeaaa
