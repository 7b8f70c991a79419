/-
  Texts laid one behind the other: La Oa Lb Bb Ma Mb Na Nb.
-/
import Derived.WalkKit
import Derived.WalkSmall
import Derived.Test.YtgbphkbbedkepaaRows
import Derived.WalkSpells
import Derived.WalkLawsBesides
import Derived.Maps.AppendAt
import Derived.Deep.AppendSrc
import Derived.Lib.Hide
import Derived.ProofKit
import Derived.OpenShut
import Derived.WalkMore
import Derived.Deep.Slices
import Derived.Deep.Fields
import Derived.Laws.CopyOwn
import Derived.Deep.OwnRows
import Derived.BigQuiet
import Derived.Laws.ResultCell
import Derived.Laws.StructEq
import Derived.Deep.RegionWith
import Derived.Laws.Strings

/-
  Cells, plain: what values come to, merged from the first on; that values that weigh not too much have a cell, the same in whatever parts.
-/
namespace Go.Proofs.Ytgbphkbbedkepaa
open Go.RowKit

/-- A cell: Count, Sum, Min, Max. -/
structure Cl where
  n : Int
  s : Int
  lo : Int
  hi : Int
  deriving DecidableEq
def Cl.zero : Cl := ⟨0, 0, 0, 0⟩
def Cl.of (v : Int) : Cl := ⟨1, v, v, v⟩
/-- A number that an int64 holds. -/
def fit (x : Int) : Bool := decide (-9223372036854775808 ≤ x) && decide (x ≤ 9223372036854775807)
theorem fit_iff (x : Int) : fit x = true ↔ -9223372036854775808 ≤ x ∧ x ≤ 9223372036854775807 := by simp [fit]
/-- Two cells together, if that may be. -/
def mergeC (a b : Cl) : Option Cl :=
  if a.n = 0 then some b else if b.n = 0 then some a else if fit (a.n + b.n) && fit (a.s + b.s) then some ⟨a.n + b.n, a.s + b.s, min a.lo b.lo, max a.hi b.hi⟩ else none
/-- Values behind a cell; all values. -/
def moreC : Cl → List Int → Option Cl
  | c, [] => some c
  | c, x :: l => match mergeC c (Cl.of x) with
    | some d => moreC d l
    | none => none
def allC (l : List Int) : Option Cl := moreC Cl.zero l
theorem moreC_append (c : Cl) (l m : List Int) : moreC c (l ++ m) = (moreC c l).bind fun d => moreC d m := by
  induction l generalizing c with
  | nil => rfl
  | cons x l ih =>
    show (match mergeC c (Cl.of x) with | some d => moreC d (l ++ m) | none => none) = (match mergeC c (Cl.of x) with | some d => moreC d l | none => none).bind _
    cases mergeC c (Cl.of x) with
    | none => rfl
    | some d => exact ih d
theorem allC_take {l : List Int} {k : Nat} {x : Int} (h : l[k]? = some x) : allC (l.take (k + 1)) = (allC (l.take k)).bind fun d => mergeC d (Cl.of x) := by
  obtain ⟨hk, e⟩ := List.getElem?_eq_some_iff.1 h
  unfold allC
  rw [List.take_succ_eq_append_getElem hk, e, moreC_append]
  congr 1
  funext d
  show (match mergeC d (Cl.of x) with | some e => some e | none => none) = _
  cases mergeC d (Cl.of x) <;> rfl
theorem allC_none {l : List Int} {k : Nat} (h : allC (l.take k) = none) : allC l = none := by
  unfold allC at *
  rw [← List.take_append_drop k l, moreC_append, h]
  rfl

/-- The weight of values, that of one as far as it counts. -/
def weighN (l : List Int) : Nat := (l.map Int.natAbs).sum
theorem weighN_append (l m : List Int) : weighN (l ++ m) = weighN l + weighN m := by simp [weighN]
theorem weighN_take {l : List Int} {k : Nat} {x : Int} (h : l[k]? = some x) : weighN (l.take (k + 1)) = weighN (l.take k) + x.natAbs := by
  obtain ⟨hk, e⟩ := List.getElem?_eq_some_iff.1 h
  rw [List.take_succ_eq_append_getElem hk, e, weighN_append]
  simp [weighN]
theorem weighN_le_take (l : List Int) (k : Nat) : weighN (l.take k) ≤ weighN l := by
  have := weighN_append (l.take k) (l.drop k)
  rw [List.take_append_drop] at this
  omega
theorem sum_abs (l : List Int) : l.sum.natAbs ≤ weighN l := by
  induction l with
  | nil => exact Nat.le_refl _
  | cons x l ih =>
    show (x + l.sum).natAbs ≤ ((x :: l).map Int.natAbs).sum
    have : ((x :: l).map Int.natAbs).sum = x.natAbs + weighN l := by simp [weighN]
    rw [this]
    omega

/-- The cell of values, told at once. -/
def cellL : List Int → Cl
  | [] => Cl.zero
  | x :: l => ⟨(l.length + 1 : Nat), (x :: l).sum, l.foldl min x, l.foldl max x⟩
theorem cellL_n (l : List Int) : (cellL l).n = l.length := by cases l <;> rfl
theorem cellL_s (l : List Int) : (cellL l).s = l.sum := by cases l <;> rfl
theorem cellL_one (x : Int) : cellL [x] = Cl.of x := by simp [cellL, Cl.of]
theorem foldl_min (l : List Int) (a b : Int) : l.foldl min (min a b) = min a (l.foldl min b) := by
  induction l generalizing a b with
  | nil => rfl
  | cons x l ih =>
    show l.foldl min (min (min a b) x) = min a (l.foldl min (min b x))
    rw [← ih]
    congr 1
    omega
theorem foldl_max (l : List Int) (a b : Int) : l.foldl max (max a b) = max a (l.foldl max b) := by
  induction l generalizing a b with
  | nil => rfl
  | cons x l ih =>
    show l.foldl max (max (max a b) x) = max a (l.foldl max (max b x))
    rw [← ih]
    congr 1
    omega
/-- In whatever parts, in either order. -/
theorem merge_parts (a b : List Int) (h : weighN a + weighN b ≤ 4611686018427387904) (hn : a.length + b.length ≤ 1000000) : mergeC (cellL a) (cellL b) = some (cellL (a ++ b)) := by
  cases a with
  | nil => rfl
  | cons x a =>
    cases b with
    | nil =>
      rw [List.append_nil]
      unfold mergeC
      rw [if_neg (by rw [cellL_n]; simp; omega), if_pos (show (cellL []).n = 0 from rfl)]
    | cons y b =>
      have ha := sum_abs (x :: a)
      have hb := sum_abs (y :: b)
      unfold mergeC
      rw [if_neg (by rw [cellL_n]; simp; omega), if_neg (by rw [cellL_n]; simp; omega), if_pos]
      · have e1 : (cellL (x :: a)).n + (cellL (y :: b)).n = (cellL ((x :: a) ++ (y :: b))).n := by
          rw [cellL_n, cellL_n, cellL_n, List.length_append]
          omega
        have e2 : (cellL (x :: a)).s + (cellL (y :: b)).s = (cellL ((x :: a) ++ (y :: b))).s := by
          rw [cellL_s, cellL_s, cellL_s, List.sum_append]
        have e3 : min (cellL (x :: a)).lo (cellL (y :: b)).lo = (cellL ((x :: a) ++ (y :: b))).lo := by
          show min (a.foldl min x) (b.foldl min y) = (a ++ (y :: b)).foldl min x
          rw [List.foldl_append]
          show _ = b.foldl min (min (a.foldl min x) y)
          rw [foldl_min]
        have e4 : max (cellL (x :: a)).hi (cellL (y :: b)).hi = (cellL ((x :: a) ++ (y :: b))).hi := by
          show max (a.foldl max x) (b.foldl max y) = (a ++ (y :: b)).foldl max x
          rw [List.foldl_append]
          show _ = b.foldl max (max (a.foldl max x) y)
          rw [foldl_max]
        rw [e1, e2, e3, e4]
      · rw [Bool.and_eq_true, fit_iff, fit_iff, cellL_n, cellL_n, cellL_s, cellL_s]
        simp only [List.length_cons] at *
        omega
theorem merge_swap (a b : Cl) (h : a.n ≠ 0 ∨ b.n ≠ 0 ∨ a = b) : mergeC a b = mergeC b a := by
  unfold mergeC
  by_cases ha : a.n = 0
  · by_cases hb : b.n = 0
    · rcases h with h | h | h
      · exact absurd ha h
      · exact absurd hb h
      · rw [h]
    · rw [if_pos ha, if_neg hb, if_pos ha]
  · by_cases hb : b.n = 0
    · rw [if_neg ha, if_pos hb, if_pos hb]
    · rw [if_neg ha, if_neg hb, if_neg hb, if_neg ha, Int.add_comm a.n b.n, Int.add_comm a.s b.s]
      have e1 : min a.lo b.lo = min b.lo a.lo := by omega
      have e2 : max a.hi b.hi = max b.hi a.hi := by omega
      rw [e1, e2]
/-- What weighs not too much has a cell. -/
theorem all_light (l : List Int) (h : weighN l ≤ 4611686018427387904) (hn : l.length ≤ 1000000) : allC l = some (cellL l) := by
  suffices g : ∀ k, k ≤ l.length → allC (l.take k) = some (cellL (l.take k)) by
    have := g l.length (Nat.le_refl _)
    rw [List.take_length] at this
    exact this
  intro k
  induction k with
  | zero => intro _; rfl
  | succ k ih =>
    intro hk
    obtain ⟨x, hx⟩ : ∃ x, l[k]? = some x := ⟨_, List.getElem?_eq_getElem (by omega)⟩
    rw [allC_take hx, ih (by omega)]
    show mergeC (cellL (l.take k)) (Cl.of x) = _
    rw [← cellL_one]
    have hw := weighN_take hx
    have hl := weighN_le_take l (k + 1)
    have h1 : weighN [x] = x.natAbs := by simp [weighN]
    rw [merge_parts (l.take k) [x] (by rw [h1]; omega) (by rw [List.length_take, List.length_singleton]; omega)]
    obtain ⟨hk', e⟩ := List.getElem?_eq_some_iff.1 hx
    rw [List.take_succ_eq_append_getElem hk', e]

/-- A right cell. -/
def rightC (c : Cl) : Bool := if c.n = 0 then decide (c = Cl.zero) else decide (0 < c.n) && (decide (c.lo ≤ c.hi) && (decide (1 < c.n) || (decide (c.s = c.lo) && decide (c.s = c.hi))))
theorem foldl_le (l : List Int) (x : Int) : l.foldl min x ≤ x ∧ x ≤ l.foldl max x := by
  induction l generalizing x with
  | nil => exact ⟨Int.le_refl _, Int.le_refl _⟩
  | cons y l ih =>
    have h1 := (ih (min x y)).1
    have h2 := (ih (max x y)).2
    show l.foldl min (min x y) ≤ x ∧ x ≤ l.foldl max (max x y)
    omega
theorem right_cell (l : List Int) : rightC (cellL l) = true := by
  cases l with
  | nil => rfl
  | cons x l =>
    unfold rightC
    rw [if_neg (by rw [cellL_n]; simp; omega)]
    have h := foldl_le l x
    cases l with
    | nil => simp [cellL]
    | cons y l =>
      have e1 : (cellL (x :: y :: l)).n = (l.length + 2 : Nat) := rfl
      have e2 : (cellL (x :: y :: l)).lo = (y :: l).foldl min x := rfl
      have e3 : (cellL (x :: y :: l)).hi = (y :: l).foldl max x := rfl
      rw [e1, e2, e3]
      have a1 : decide ((0 : Int) < (l.length + 2 : Nat)) = true := by rw [decide_eq_true_iff]; omega
      have a2 : decide ((1 : Int) < (l.length + 2 : Nat)) = true := by rw [decide_eq_true_iff]; omega
      have a3 : decide ((y :: l).foldl min x ≤ (y :: l).foldl max x) = true := by rw [decide_eq_true_iff]; omega
      rw [a1, a2, a3]
      rfl

/-- What Weight answers: n, and whether. -/
def weighO (l : List Int) : Nat × Bool := if weighN l ≤ 4611686018427387904 then (weighN l, true) else (0, false)
theorem weighO_yes {l : List Int} (h : weighN l ≤ 4611686018427387904) : weighO l = (weighN l, true) := by unfold weighO; rw [if_pos h]
theorem weighO_no {l : List Int} {k : Nat} (h : ¬ weighN (l.take k) ≤ 4611686018427387904) : weighO l = (0, false) := by
  have := weighN_le_take l k
  unfold weighO
  rw [if_neg (by omega)]
/-- A number without its sign, cut behind what may be. -/
def sizeC (x : Int) : Nat := if x.natAbs ≤ 4611686018427387904 then x.natAbs else 4611686018427387905
theorem sizeC_over {x : Int} {n : Nat} (hn : n ≤ 4611686018427387904) : (sizeC x : Int) > 4611686018427387904 - (n : Int) ↔ ¬ n + x.natAbs ≤ 4611686018427387904 := by
  unfold sizeC
  split <;> omega
theorem sizeC_small {x : Int} {n : Nat} (h : n + x.natAbs ≤ 4611686018427387904) : sizeC x = x.natAbs := by
  unfold sizeC
  rw [if_pos (by omega)]
/-- A mean, rounded down, by a division that goes towards 0. -/
theorem floor_of (s n : Int) (hn : 0 < n) : (if Int.tmod s n < 0 then Int.tdiv s n - 1 else Int.tdiv s n) = s / n := by
  have h := Int.mul_tdiv_add_tmod s n
  have h1 := Int.tmod_lt_of_pos s hn
  have h2 : -n < Int.tmod s n := Int.lt_tmod_of_pos s hn
  split
  · rename_i hm
    have e : s = n * (s.tdiv n - 1) + (s.tmod n + n) := by rw [Int.mul_sub]; omega
    have := Int.ediv_emod_unique (a := s) (b := n) (q := s.tdiv n - 1) (r := s.tmod n + n) hn
    exact (this.2 ⟨by omega, by omega, by omega⟩).1.symm
  · rename_i hm
    have := Int.ediv_emod_unique (a := s) (b := n) (q := s.tdiv n) (r := s.tmod n) hn
    exact (this.2 ⟨by omega, by omega, by omega⟩).1.symm

end Go.Proofs.Ytgbphkbbedkepaa

/-
  Words for memory: what a call may turn, a row of bytes that a call owns.
-/
namespace Go.Proofs.Ytgbphkbbedkepaa
open Go.RowKit

/-- From w to w' nothing has turned but blocks of S, and new ones. -/
structure Turn (S : Nat → Prop) (w w' : World) : Prop where
  os : w'.os = w.os
  tape : w'.tape = w.tape
  output : w'.output = w.output
  size : w.heap.size ≤ w'.heap.size
  block : ∀ k, k < w.heap.size → ¬ S k → w'.heap[k]? = w.heap[k]?

section
variable {S T : Nat → Prop} {a b c w w' : World}
theorem Turn.refl (S : Nat → Prop) (w : World) : Turn S w w := ⟨rfl, rfl, rfl, Nat.le_refl _, fun _ _ _ => rfl⟩
theorem Turn.trans (h : Turn S a b) (g : Turn T b c) (hs : ∀ k, k < a.heap.size → T k → S k) : Turn S a c :=
  ⟨g.os.trans h.os, g.tape.trans h.tape, g.output.trans h.output, Nat.le_trans h.size g.size,
    fun k hk hn => (g.block k (Nat.lt_of_lt_of_le hk h.size) (fun t => hn (hs k hk t))).trans (h.block k hk hn)⟩
theorem Turn.mono (h : Turn S a b) (hs : ∀ k, k < a.heap.size → S k → T k) : Turn T a b :=
  ⟨h.os, h.tape, h.output, h.size, fun k hk hn => h.block k hk (fun s => hn (hs k hk s))⟩
theorem Turn.drew (h : Turn S a w) : Turn S a w.drew := ⟨h.os, h.tape, h.output, h.size, h.block⟩
theorem Turn.drewN (h : Turn S a w) (n : Nat) : Turn S a (w.drewN n) := ⟨h.os, h.tape, h.output, h.size, h.block⟩
theorem Turn.alloc (h : Turn S a w) (o : Obj) : Turn S a (w.alloc o) :=
  ⟨h.os, h.tape, h.output, Nat.le_trans h.size (by simp), fun k hk hn => (Below.heap_alloc w o k (Nat.lt_of_lt_of_le hk h.size)).trans (h.block k hk hn)⟩
theorem Turn.setCell (h : Turn S a w) {p : Addr} (hp : p.block < a.heap.size → S p.block) (u : Value) : Turn S a (w.setCell p u) :=
  ⟨h.os, h.tape, h.output, Nat.le_trans h.size (by simp [World.setCell]), fun k hk hn =>
    (Below.heap_setCell w p u k (fun e => hn (by subst e; exact hp hk))).trans (h.block k hk hn)⟩
theorem Turn.grown (h : Turn S a w) {row : Option Nat} (hg : w.grownBy w' row) (hr : ∀ k, k < a.heap.size → row = some k → S k) : Turn S a w' :=
  ⟨hg.os.trans h.os, hg.tape.trans h.tape, hg.output.trans h.output, Nat.le_trans h.size hg.size,
    fun k hk hn => (hg.block k (Nat.lt_of_lt_of_le hk h.size) (fun e => hn (hr k hk e.symm))).trans (h.block k hk hn)⟩
theorem Turn.below (h : Turn S a b) {B : Nat} (hB : B ≤ a.heap.size) (hs : ∀ k, S k → B ≤ k) : Below B a b :=
  ⟨h.os, h.tape, h.output, h.size, fun k hk => h.block k (by omega) (fun s => by have := hs k s; omega)⟩
theorem Turn.cell (h : Turn S w w') {p : Addr} (hp : p.block < w.heap.size) (hn : ¬ S p.block) : w'.cell? p = w.cell? p := World.cell?_of_block (w := w) (h.block _ hp hn)
theorem Turn.frozen (h : Turn S w w') {p : Addr} (hp : p.block < w.heap.size) (hn : ¬ S p.block) : w'.frozen? p = w.frozen? p := World.frozen?_of_block (w := w) (h.block _ hp hn)
end

/-- A byte in memory. -/
def bv (b : UInt8) : Value := .int .u8 (b.toNat : Int)

/-- Block g is just the cells cs of type t, none frozen. -/
def Box (w : World) (g : Nat) (t : TypeId) (cs : Array Value) : Prop := w.heap[g]? = some (.cells cs t (0, 0))

section
variable {w w' : World} {g : Nat} {t : TypeId} {cs : Array Value}
theorem Box.lt (h : Box w g t cs) : g < w.heap.size := (Array.getElem?_eq_some_iff.1 h).1
theorem Box.cell (h : Box w g t cs) (i : Nat) : w.cell? ⟨g, i, none⟩ = cs[i]? := cell_of_row w g i cs t (0, 0) h
theorem Box.free (h : Box w g t cs) (i : Nat) : w.frozen? ⟨g, i, none⟩ = false := by
  unfold Box at h
  simp [World.frozen?, h]
theorem Box.alloc (h : Box w g t cs) (o : Obj) : Box (w.alloc o) g t cs := (Below.heap_alloc w o g h.lt).trans h
theorem Box.new (w : World) (t : TypeId) (cs : Array Value) : Box (w.alloc (.cells cs t)) w.heap.size t cs := heap_alloc_new w _
theorem Box.turn {S : Nat → Prop} (h : Box w g t cs) (ht : Turn S w w') (hn : ¬ S g) : Box w' g t cs := (ht.block g h.lt hn).trans h
theorem Box.grown {row : Option Nat} (h : Box w g t cs) (hg : w.grownBy w' row) (hn : some g ≠ row) : Box w' g t cs := (hg.block g h.lt hn).trans h
theorem Box.set (h : Box w g t cs) (i : Nat) (u : Value) : Box (w.setCell ⟨g, i, none⟩ u) g t (cs.setIfInBounds i u) := by
  unfold Box at h ⊢
  simp [World.setCell, Array.getElem?_modify, h]
theorem Box.far (h : Box w g t cs) {p : Addr} (hp : g ≠ p.block) (u : Value) : Box (w.setCell p u) g t cs := (Below.heap_setCell w p u g hp).trans h
end

/-- Slice value v, at the head of a row of its own, or nil: its bytes are l. -/
def By (w : World) (v : Value) (l : List UInt8) : Prop := w.ownsRow 0 5 1 v l.length (l.map bv)

section
variable {w w' : World} {v : Value} {l : List UInt8}
theorem By.nil (w : World) : By w (.slice none 0 0) [] := World.ownsRow_nil w 0 _ 1
theorem By.lt (h : By w v l) {k : Nat} (hk : v.ownBlock = some k) : k < w.heap.size := (World.ownsRow.lt h k hk).2
theorem By.turn {S : Nat → Prop} (h : By w v l) (ht : Turn S w w') (hn : ∀ k, v.ownBlock = some k → ¬ S k) : By w' v l := by
  refine ⟨h.1, ?_⟩
  rcases h.2 with h0 | ⟨g, cap, cur, rfl, hb, hg, rest⟩
  · exact .inl h0
  · exact .inr ⟨g, cap, cur, rfl, hb, (ht.block g (Array.getElem?_eq_some_iff.1 hg).1 (hn g rfl)).trans hg, rest⟩
theorem By.alloc (h : By w v l) (o : Obj) : By (w.alloc o) v l := h.turn ((Turn.refl (fun _ => False) w).alloc o) (fun _ _ f => f)
theorem By.grown {row : Option Nat} (h : By w v l) (hg : w.grownBy w' row) (hn : v.ownBlock = none ∨ v.ownBlock ≠ row) : By w' v l := World.ownsRow.kept h hg hn
theorem By.form (h : By w v l) : (v = .slice none 0 0 ∧ l = []) ∨ ∃ g cap cur, v = .slice (some ⟨g, 0, none⟩) l.length cap ∧ Box w g 5 cur ∧ l.length ≤ cap ∧ cap ≤ maxLen ∧ cur.size = cap ∧ cur.toList.take l.length = l.map bv := by
  rcases h.2 with ⟨h0, h1⟩ | ⟨g, cap, cur, hv, _, hg, hn, hm, hs, ht⟩
  · exact .inl ⟨h0, List.eq_nil_of_length_eq_zero h1⟩
  · exact .inr ⟨g, cap, cur, hv, hg, hn, hm, by simpa using hs, by simpa using ht⟩
theorem By.ne_box (h : By w v l) {g : Nat} {t : TypeId} {cs : Array Value} (hb : Box w g t cs) (hne : 5 ≠ t) : v.ownBlock ≠ some g := by
  rcases h.form with ⟨rfl, _⟩ | ⟨g', cap, cur, rfl, hb', _⟩
  · simp [Value.ownBlock]
  · intro e
    obtain rfl : g' = g := by simpa [Value.ownBlock] using e
    have e2 := hb'.symm.trans hb
    injection e2 with e2
    injection e2 with _ e3
    exact hne e3
theorem By.len_le (h : By w v l) : l.length ≤ maxLen := by
  rcases h.form with ⟨_, rfl⟩ | ⟨g, cap, cur, _, _, h1, h2, _⟩
  · simp
  · omega
end

theorem By.cap {w : World} {A : Option Addr} {n c : Nat} {l : List UInt8} (h : By w (.slice A n c) l) : n = l.length ∧ l.length ≤ c ∧ c ≤ maxLen ∧ (A = none → l = [] ∧ c = 0) ∧ ∀ ad, A = some ad → ad.off = 0 ∧ ad.spot = none := by
  rcases h.form with ⟨e, rfl⟩ | ⟨g, cap, cur, e, _, h1, h2, _⟩
  · injection e with e1 e2 e3
    subst e1 e2 e3
    exact ⟨rfl, by simp, by simp, fun _ => ⟨rfl, rfl⟩, fun _ e => by cases e⟩
  · injection e with e1 e2 e3
    subst e1 e2 e3
    exact ⟨rfl, h1, h2, (fun e => by cases e), fun ad e => by cases e; exact ⟨rfl, rfl⟩⟩

/-- append onto a row of one's own, or nil, of whatever is appended. -/
theorem run_app {P : Program} (w : World) (t tx ty e : TypeId) (i : TypeInfo) (z : Value) (ht : P.underlying t = some (.slice e)) (hi : P.info? e = some i) (hz : i.zero = some z)
    (hzs : z.cells.size = i.size) (v : Value) (n : Nat) (xs : List Value) (hown : w.ownsRow 0 e i.size v n xs) (x : Value) (m : Nat) (news : List Value) (hs : Src P i.size tx x m news w)
    (h63 : n + m ≤ maxLen) (hbytes : (n + m) * i.bytes ≤ 140737488355328) :
    ∃ A n' c w', (Builtin.append_ #[t, tx] ty #[v, x]).run P w = .ok (.slice A n' c) w' ∧ w'.ownsRow 0 e i.size (.slice A n' c) (n + m) (xs ++ news) ∧ w.grownBy w' v.ownBlock ∧
      ((Value.slice A n' c).ownBlock = v.ownBlock ∨ (Value.slice A n' c).ownBlock = some w.heap.size) := by
  have hlen : (xs ++ news).length = (n + m) * i.size := by rw [List.length_append, hown.1, hs.newsLen, Nat.add_mul]
  have hm1 : n + m ≤ 9223372036854775807 := by simp only [maxLen] at h63; omega
  have grow : ∀ (old : Nat), old < n + m → ∀ (row : Option Nat),
      (w.drew.alloc (.cells ((xs ++ news).toArray ++ Builtin.zeroCells z.cells (grownCap w (n + m) old e - (n + m))) e)).ownsRow 0 e i.size
        (.slice (some ⟨w.heap.size, 0, none⟩) (n + m) (grownCap w (n + m) old e)) (n + m) (xs ++ news) ∧
      w.grownBy (w.drew.alloc (.cells ((xs ++ news).toArray ++ Builtin.zeroCells z.cells (grownCap w (n + m) old e - (n + m))) e)) row := by
    intro old _ row
    have hge := grownCap_ge w (n + m) old e
    refine ⟨⟨hlen, .inr ⟨w.heap.size, _, _, rfl, Nat.zero_le _, heap_alloc_new w.drew _, hge, grownCap_le_maxLen w (n + m) old e h63, ?_, ?_⟩⟩, ⟨rfl, rfl, rfl, by simp, fun k hk _ => Below.heap_alloc w.drew _ k hk⟩⟩
    · rw [Array.size_append, size_zeroCells, hzs, List.size_toArray, hlen, ← Nat.add_mul]
      congr 1
      omega
    · rw [Array.toList_append, ← hlen]
      exact List.take_left
  rcases hown.2 with ⟨rfl, rfl⟩ | ⟨g, cap, cur, rfl, hb0, hg, hnc, hcm, hcs, htake⟩
  · have hx : xs = [] := List.eq_nil_of_length_eq_zero (by simpa using hown.1)
    subst hx
    by_cases hm : m = 0
    · subst hm
      have hn : news = [] := List.eq_nil_of_length_eq_zero (by simpa using hs.newsLen)
      subst hn
      refine ⟨none, 0, 0, w, ?_, World.ownsRow_nil w 0 e i.size, ⟨rfl, rfl, rfl, Nat.le_refl _, fun _ _ _ => rfl⟩, .inl rfl⟩
      rcases hs.kind with ⟨e', hk⟩ | hk <;> simp [Builtin.append_, run_underlying ht, run_underlying hk, sizeOf, typeInfo, hi, hs.len, hs.cells]
    · have hr := run_append_grow_src (P := P) w t tx ty e i z ht hi hz none 0 0 [] (run_firstCells_none w.drew i.size 0 0 0) x m news hs (by omega) (by omega) (growslice_fits (by omega) hbytes)
      have hgr := grow 0 (by omega) (Value.ownBlock (.slice none 0 0))
      exact ⟨_, _, _, _, hr, hgr.1, hgr.2, .inr rfl⟩
  · by_cases hroom : n + m ≤ cap
    · have hfit : n * i.size + news.length ≤ cur.size := by rw [hs.newsLen, hcs, ← Nat.add_mul]; exact Nat.mul_le_mul_right _ hroom
      have hst := run_storeCells_at P g (n * i.size) e news 0 cur w hg (by simpa using hfit) hs.one
      simp only [Nat.add_zero] at hst
      have hr : (Builtin.append_ #[t, tx] ty #[.slice (some ⟨g, 0, none⟩) n cap, x]).run P w =
          .ok (.slice (some ⟨g, 0, none⟩) (n + m) cap) (w.setRow g (cur.toList.take (n * i.size) ++ news ++ cur.toList.drop (n * i.size + news.length)).toArray) := by
        rcases hs.kind with ⟨e', hk⟩ | hk <;> simp [Builtin.append_, run_underlying ht, run_underlying hk, sizeOf, typeInfo, hi, hs.len, hs.cells, hroom, Addr.add_lit, hst]
      refine ⟨_, _, _, _, hr, ⟨hlen, .inr ⟨g, cap, _, rfl, hb0, setRow_heap w g cur _ e _ hg, hroom, hcm, ?_, ?_⟩⟩, ⟨rfl, rfl, rfl, by simp, fun k _ hk => setRow_other w g k _ (fun e => hk (by simp [Value.ownBlock, e]))⟩, .inl rfl⟩
      · simp only [List.size_toArray, List.length_append, List.length_take, List.length_drop, Array.length_toList]
        omega
      · rw [htake, ← hlen]
        exact List.take_left
    · have hold : (Builtin.firstCells i.size n (.slice (some ⟨g, 0, none⟩) n cap)).run P w.drew = .ok xs.toArray w.drew :=
        run_firstCells_some (P := P) w.drew i.size n ⟨g, 0, none⟩ n cap xs hown.1 (hown.cells (g := g) rfl)
      have hr := run_append_grow_src (P := P) w t tx ty e i z ht hi hz (some ⟨g, 0, none⟩) n cap xs hold x m news hs (by omega) (by omega) (growslice_fits (by omega) hbytes)
      have hgr := grow cap (by omega) (Value.ownBlock (.slice (some ⟨g, 0, none⟩) n cap))
      exact ⟨_, _, _, _, hr, hgr.1, hgr.2, .inr rfl⟩

theorem u8_info : (Try.prog.info? 5).map (fun i => (i.zero, i.size, i.bytes)) = some (some (.int .u8 0), 1, 1) := by kernel_rfl

/-- What is appended to bytes yields the bytes l. -/
def Yields (w : World) (tx : TypeId) (x : Value) (l : List UInt8) : Prop := Src Try.prog 1 tx x l.length (l.map bv) w

theorem bv_one (l : List UInt8) : ∀ u ∈ l.map bv, u.oneCell' = true := by
  intro u hu
  obtain ⟨b, _, rfl⟩ := List.mem_map.1 hu
  rfl

theorem yields_string (w : World) (s : ByteArray) : Yields w 9 (.string s) s.data.toList := by
  have h := Src.ofString (P := Try.prog) w (tx := 9) Try.underlying9 s
  have e : s.data.toList.length = s.size := by rw [Array.length_toList]; rfl
  unfold Yields
  rw [e]
  exact h

end Go.Proofs.Ytgbphkbbedkepaa

/-
  A slice of numbers that came in, of any kind: its numbers, wherever it lies; its parts. No type is named here.
-/
namespace Go.Proofs.Ytgbphkbbedkepaa
open Go.RowKit

/-- A slice value, wherever it lies: its numbers are l. -/
def RdN (k : IntKind) (w : World) (v : Value) (l : List Int) : Prop :=
  ∃ A c, v = .slice A l.length c ∧ (l.length ≤ c ∧ c ≤ maxLen) ∧ (A = none → l = [] ∧ c = 0) ∧ ∀ ad, A = some ad → ∀ j x, l[j]? = some x → w.cell? (ad.add j) = some (.int k x)

section
variable {k : IntKind} {w w' : World} {v : Value} {l : List Int}
theorem nadd_block (a : Addr) (n : Nat) : (a.add n).block = a.block := by unfold Addr.add; split <;> rfl
theorem nadd_of_add (a : Addr) (i j : Nat) : (a.add i).add j = a.add (i + j) := by
  unfold Addr.add
  by_cases hi : i = 0 <;> by_cases hj : j = 0 <;> simp [hi, hj, Nat.add_assoc]
theorem RdN.turn {S : Nat → Prop} (h : RdN k w v l) (ht : Turn S w w') (hs : ∀ b, v.ownBlock = some b → ¬ S b) : RdN k w' v l := by
  obtain ⟨A, c, rfl, hk, hn, hc⟩ := h
  refine ⟨A, c, rfl, hk, hn, fun ad e j b hj => ?_⟩
  have h1 := hc ad e j b hj
  have hlt := World.block_lt_of_cell? w _ h1
  rw [ht.cell hlt (by subst e; rw [nadd_block]; exact hs _ rfl)]
  exact h1
theorem RdN.later (h : RdN k w v l) (ht : Turn (fun _ => False) w w') : RdN k w' v l := h.turn ht (fun _ _ f => f)
theorem RdN.shape (h : RdN k w v l) : ∃ A c, v = .slice A l.length c := by
  obtain ⟨A, c, e, _⟩ := h
  exact ⟨A, c, e⟩
theorem RdN.at {A : Option Addr} {n c : Nat} (h : RdN k w (.slice A n c) l) {j : Nat} {x : Int} (hj : l[j]? = some x) : ∃ ad, A = some ad ∧ w.cell? (ad.add j) = some (.int k x) := by
  obtain ⟨A', c', hv, _, hn, hc⟩ := h
  injection hv with h1 h2 h3
  subst h1
  cases A with
  | none =>
    obtain ⟨rfl, _⟩ := hn rfl
    cases hj
  | some ad => exact ⟨ad, rfl, hc ad rfl j x hj⟩
theorem RdN.fits {A : Option Addr} {n c : Nat} (h : RdN k w (.slice A n c) l) : n = l.length ∧ l.length ≤ c ∧ c ≤ maxLen := by
  obtain ⟨A', c', hv, hc, _⟩ := h
  injection hv with h1 h2 h3
  subst h3
  exact ⟨h2, hc⟩
theorem RdN.front {A : Option Addr} {n c : Nat} (h : RdN k w (.slice A n c) l) (m : Nat) (hm : m ≤ n) : RdN k w (.slice A m c) (l.take m) := by
  obtain ⟨A', c', hv, hc, hn, hx⟩ := h
  injection hv with h1 h2 h3
  subst h1 h2 h3
  have e : (l.take m).length = m := by rw [List.length_take]; omega
  refine ⟨A, c, by rw [e], ⟨by omega, hc.2⟩, (fun e => by rw [(hn e).1]; exact ⟨List.take_nil, (hn e).2⟩), fun ad e2 j b hj => ?_⟩
  rw [List.getElem?_take] at hj
  split at hj
  · exact hx ad e2 j b hj
  · cases hj
theorem RdN.back {ad : Addr} {n c : Nat} (h : RdN k w (.slice (some ad) n c) l) (m : Nat) (hm : m ≤ n) : RdN k w (.slice (some (ad.add m)) (n - m) (c - m)) (l.drop m) := by
  obtain ⟨A', c', hv, hc, hn, hx⟩ := h
  injection hv with h1 h2 h3
  subst h1 h2 h3
  refine ⟨some (ad.add m), c - m, by rw [List.length_drop], ⟨by rw [List.length_drop]; omega, by omega⟩, (fun e => by cases e), fun ad' e2 j b hj => ?_⟩
  injection e2 with e2
  subst e2
  rw [List.getElem?_drop] at hj
  rw [nadd_of_add]
  exact hx ad rfl _ b hj
end

section
open Go.ChangeShapes Go.WideShapes Go.Deep
theorem open_nums {P : Program} {H : Type} {enc : TypeId × Value → H} {W : World} {T e : TypeId} {k : IntKind} {v : Value} {d : DataW H} {p : List MemPlace} {a : Option Addr} {len cap : Nat}
    (hT : P.underlying T = some (.slice e)) (he : P.underlying e = some (.int k)) (hC : P.cellsOf e = 1) (hv : v = .slice a len cap) (h : DataW.Trod enc P W 0 (fun _ => true) true T v d p) :
    ∃ l, RdN k W v l ∧ l.length ≤ maxLen ∧ ∀ x ∈ l, (Lit.int k x).wf = true := by
  subst hv
  obtain ⟨fuel, hf⟩ := h
  rcases open_slice hT hf with ⟨hcs, _⟩ | ⟨a', len', cap', m, n, D, Pl, hcs, _, hl, hm, hmm, _, hx⟩
  · simp [Value.cells] at hcs
    obtain ⟨rfl, rfl, rfl⟩ := hcs
    exact ⟨[], ⟨none, 0, rfl, ⟨Nat.le_refl _, Nat.zero_le _⟩, fun _ => ⟨rfl, rfl⟩, fun _ e => by cases e⟩, Nat.zero_le _, fun x hx => by cases hx⟩
  · simp [Value.cells] at hcs
    obtain ⟨rfl, rfl, rfl⟩ := hcs
    have hmm' : m = cap := by simpa using hmm
    subst hmm'
    have key : ∀ i, i < len → ∃ b : Int, W.cell? (a'.add i) = some (.int k b) ∧ (Lit.int k b).wf = true := by
      intro i hi
      obtain ⟨cs, h1, h2⟩ := hx i (by omega)
      rw [hC] at h1
      obtain ⟨_, hlen, hcell⟩ := World.cells?_some h1
      match cs, hlen with
      | [c0], _ =>
        obtain ⟨K, k0, _, kw⟩ := DataW.trod_int he h2
        simp only [List.cons.injEq, and_true] at k0
        subst k0
        have hc := hcell 0 (by omega)
        simp only [Go.Deep.add_add] at hc
        have e2 : i * 1 + 0 = i := by omega
        exact ⟨K, by simpa [e2] using hc, kw⟩
    obtain ⟨V, hV⟩ := choose_lt key
    have hll : ((List.range len).map V).length = len := by simp
    refine ⟨(List.range len).map V, ⟨some a', m, by rw [hll], ⟨by rw [hll]; omega, by omega⟩, (fun e => by cases e), fun ad e j b hj => ?_⟩, by rw [hll]; omega, fun x hx => ?_⟩
    · cases e
      have hjl : j < len := by
        have := (List.getElem?_eq_some_iff.1 hj).1
        simpa using this
      have hb : b = V j := by
        rw [List.getElem?_map, List.getElem?_range hjl] at hj
        exact (Option.some.inj hj).symm
      rw [hb]
      exact (hV j hjl).1
    · obtain ⟨i, hi, rfl⟩ := List.mem_map.1 hx
      exact (hV i (List.mem_range.1 hi)).2
end

end Go.Proofs.Ytgbphkbbedkepaa

/-
  Bytes: a slice that reads as bytes, wherever it lies; bytes that a call made. No function is named here.
-/
namespace Go.Proofs.Ytgbphkbbedkepaa
open Go.RowKit

theorem ret_int {k : IntKind} {a b : Int} (h : a = b) : Ending.returned (.int k a) = .returned (.int k b) := by rw [h]
theorem ret_bool {a b : Bool} (h : a = b) : Ending.returned (.bool a) = .returned (.bool b) := by rw [h]

theorem By.empty (w : World) : By (w.alloc (.cells #[] 5)) (.slice (some ⟨w.heap.size, 0, none⟩) 0 0) [] :=
  World.ownsRow_made w #[] 0 (Nat.zero_le _) (by simp [maxLen]) rfl

/-- A slice value, wherever it lies: its bytes are l. -/
def Rd (w : World) (v : Value) (l : List UInt8) : Prop :=
  ∃ A c, v = .slice A l.length c ∧ (l.length ≤ c ∧ c ≤ maxLen) ∧ (A = none → l = [] ∧ c = 0) ∧ ∀ ad, A = some ad → ∀ j b, l[j]? = some b → w.cell? (ad.add j) = some (bv b)

theorem add_block (a : Addr) (n : Nat) : (a.add n).block = a.block := by unfold Addr.add; split <;> rfl

section
variable {w w' : World} {v : Value} {l : List UInt8}
theorem By.rd (h : By w v l) : Rd w v l := by
  rcases h.form with ⟨rfl, rfl⟩ | ⟨g, cap, cur, rfl, hb, h1, h2, _, ht⟩
  · exact ⟨none, 0, rfl, ⟨Nat.le_refl _, Nat.zero_le _⟩, fun _ => ⟨rfl, rfl⟩, fun _ e => by cases e⟩
  · refine ⟨_, _, rfl, ⟨h1, h2⟩, (fun e => by cases e), fun ad e j b hj => ?_⟩
    cases e
    have := World.ownsRow.cells h (g := g) rfl j (bv b) (by simp [hj])
    exact this
theorem Rd.turn {S : Nat → Prop} (h : Rd w v l) (ht : Turn S w w') (hs : ∀ k, v.ownBlock = some k → ¬ S k) : Rd w' v l := by
  obtain ⟨A, c, rfl, hk, hn, hc⟩ := h
  refine ⟨A, c, rfl, hk, hn, fun ad e j b hj => ?_⟩
  have h1 := hc ad e j b hj
  have hlt := World.block_lt_of_cell? w _ h1
  rw [ht.cell hlt (by subst e; rw [add_block]; exact hs _ rfl)]
  exact h1
theorem Rd.later (h : Rd w v l) (ht : Turn (fun _ => False) w w') : Rd w' v l := h.turn ht (fun _ _ f => f)
theorem Rd.at {A : Option Addr} {n c : Nat} (h : Rd w (.slice A n c) l) {k : Nat} {b : UInt8} (hk : l[k]? = some b) : ∃ ad, A = some ad ∧ w.cell? (ad.add k) = some (.int .u8 (b.toNat : Int)) := by
  obtain ⟨A', c', hv, _, hn, hc⟩ := h
  injection hv with h1 h2 h3
  subst h1
  cases A with
  | none =>
    obtain ⟨rfl, _⟩ := hn rfl
    cases hk
  | some ad => exact ⟨ad, rfl, hc ad rfl k b hk⟩
end

section
variable {w : World} {ad : Addr} {n c : Nat} {l : List UInt8}
theorem add_of_add (a : Addr) (i j : Nat) : (a.add i).add j = a.add (i + j) := by
  unfold Addr.add
  by_cases hi : i = 0 <;> by_cases hj : j = 0 <;> simp [hi, hj, Nat.add_assoc]
theorem Rd.front {A : Option Addr} (h : Rd w (.slice A n c) l) (k : Nat) (hk : k ≤ n) : Rd w (.slice A k c) (l.take k) := by
  obtain ⟨A', c', hv, hc, hn, hx⟩ := h
  injection hv with h1 h2 h3
  subst h1 h2 h3
  have e : (l.take k).length = k := by rw [List.length_take]; omega
  refine ⟨A, c, by rw [e], ⟨by omega, hc.2⟩, (fun e => by rw [(hn e).1]; exact ⟨List.take_nil, (hn e).2⟩), fun ad e2 j b hj => ?_⟩
  rw [List.getElem?_take] at hj
  split at hj
  · exact hx ad e2 j b hj
  · cases hj
theorem Rd.back (h : Rd w (.slice (some ad) n c) l) (k : Nat) (hk : k ≤ n) : Rd w (.slice (some (ad.add k)) (n - k) (c - k)) (l.drop k) := by
  obtain ⟨A', c', hv, hc, hn, hx⟩ := h
  injection hv with h1 h2 h3
  subst h1 h2 h3
  refine ⟨some (ad.add k), c - k, by rw [List.length_drop], ⟨by rw [List.length_drop]; omega, by omega⟩, (fun e => by cases e), fun ad' e2 j b hj => ?_⟩
  injection e2 with e2
  subst e2
  rw [List.getElem?_drop] at hj
  rw [add_of_add]
  exact hx ad rfl _ b hj
theorem Rd.some_at {A : Option Addr} (h : Rd w (.slice A n c) l) (h0 : 0 < l.length) : ∃ ad, A = some ad := by
  obtain ⟨b, hb⟩ : ∃ b, l[0]? = some b := ⟨_, List.getElem?_eq_getElem h0⟩
  obtain ⟨ad, e, _⟩ := h.at hb
  exact ⟨ad, e⟩
theorem Rd.fits {A : Option Addr} (h : Rd w (.slice A n c) l) : n = l.length ∧ l.length ≤ c ∧ c ≤ maxLen := by
  obtain ⟨A', c', hv, hc, _⟩ := h
  injection hv with h1 h2 h3
  subst h3
  exact ⟨h2, hc⟩
end

section
open Go.ChangeShapes Go.WideShapes Go.Deep
end

theorem By.made (w : World) (l : List UInt8) (hl : l.length ≤ maxLen) : By (w.alloc (.cells (l.map bv).toArray 5)) (.slice (some ⟨w.heap.size, 0, none⟩) l.length l.length) l := by
  refine ⟨by simp, .inr ⟨w.heap.size, l.length, (l.map bv).toArray, rfl, Nat.zero_le _, heap_alloc_new w _, Nat.le_refl _, hl, by simp, by simp; exact List.take_of_length_le (by simp)⟩⟩

/-- Behind a call that makes bytes of its own. -/
def Made (w w' : World) (v : Value) (l : List UInt8) : Prop := By w' v l ∧ Turn (fun _ => False) w w' ∧ ∀ k, v.ownBlock = some k → w.heap.size ≤ k

theorem Below.turned {w w' : World} (h : Below w.heap.size w w') : Turn (fun _ => False) w w' := ⟨h.os, h.tape, h.output, h.size, fun k hk _ => h.block k hk⟩

/-- A row of bytes l, with room for n more, of which k are put. -/
def room (l m : List UInt8) (k : Nat) : Array Value := ((l ++ (m.take k ++ List.replicate (m.length - k) 0)).map bv).toArray

theorem room_set (l m : List UInt8) (k : Nat) (x : UInt8) (hx : m[k]? = some x) : (room l m k).setIfInBounds (l.length + k) (.int .u8 (x.toNat : Int)) = room l m (k + 1) := by
  obtain ⟨hk, e⟩ := List.getElem?_eq_some_iff.1 hx
  have e1 : m.length - k = (m.length - (k + 1)) + 1 := by omega
  have e2 : m.take (k + 1) ++ List.replicate (m.length - (k + 1)) 0 = (m.take k ++ List.replicate (m.length - k) 0).set k x := by
    rw [List.take_succ_eq_append_getElem hk, e, e1, List.replicate_succ, List.set_append_right _ _ (by rw [List.length_take]; omega), List.length_take, Nat.min_eq_left (by omega), Nat.sub_self, List.set_cons_zero, List.append_assoc]
    rfl
  unfold room
  rw [e2]
  have e3 : (l ++ (m.take k ++ List.replicate (m.length - k) 0)).set (l.length + k) x = l ++ (m.take k ++ List.replicate (m.length - k) 0).set k x := by
    rw [List.set_append_right _ _ (by omega), Nat.add_sub_cancel_left]
  rw [← e3, List.map_set, List.setIfInBounds_toArray]
  rfl
theorem room_at (l m : List UInt8) (k : Nat) (h : k < m.length) : (room l m k)[l.length + k]? = some (.int .u8 0) := by
  unfold room
  rw [List.getElem?_toArray, List.getElem?_map, List.getElem?_append_right (by omega), Nat.add_sub_cancel_left, List.getElem?_append_right (by rw [List.length_take]; omega), List.length_take, Nat.min_eq_left (by omega), Nat.sub_self,
    List.getElem?_replicate, if_pos (by omega)]
  rfl
theorem room_zero (l m : List UInt8) : (splice (madeCells #[.int .u8 0] (l.length + m.length)).toList 0 (l.map bv)).toArray = room l m 0 := by
  unfold splice room
  rw [toList_madeCells_one]
  simp [bv]
theorem room_all (l m : List UInt8) : room l m m.length = ((l ++ m).map bv).toArray := by
  unfold room
  simp
theorem Box.by {w : World} {g : Nat} {l : List UInt8} (h : Box w g 5 (l.map bv).toArray) (hl : l.length ≤ maxLen) : By w (.slice (some ⟨g, 0, none⟩) l.length l.length) l :=
  ⟨by simp, .inr ⟨g, l.length, (l.map bv).toArray, rfl, Nat.zero_le _, h, Nat.le_refl _, hl, by simp, by simp; exact List.take_of_length_le (by simp)⟩⟩

theorem u8_size : (Try.prog.info? 5).map (·.size) = some 1 := by kernel_rfl

theorem copy_src {w : World} {A : Option Addr} {n c : Nat} {l : List UInt8} {X : List Value} {B : Obj} (h : Rd w (.slice A n c) l) (hX : X = l.map bv) (h0 : 0 < l.length) :
    ∃ ad, A = some ad ∧ ∀ j v, X[j]? = some v → (w.alloc B).cell? (ad.add j) = some v := by
  obtain ⟨A', c', hv, _, hn, hc⟩ := h
  injection hv with h1 h2 h3
  subst h1
  cases A with
  | none =>
    obtain ⟨rfl, _⟩ := hn rfl
    exact absurd h0 (by simp)
  | some ad =>
    refine ⟨ad, rfl, fun j v hj => ?_⟩
    rw [hX, List.getElem?_map] at hj
    cases hb : l[j]? with
    | none => rw [hb] at hj; cases hj
    | some b =>
      rw [hb] at hj
      cases hj
      have h1 := hc ad rfl j b hb
      rw [World.cell?_alloc_lt w B _ (World.block_lt_of_cell? w _ h1)]
      exact h1

theorem Made.rd {w w' : World} {v : Value} {l : List UInt8} (h : Made w w' v l) : Rd w' v l := h.1.rd

theorem made_app {w w1 w2 w3 : World} {A A' : Option Addr} {n c n' c' B : Nat} {l m : List UInt8} (h : Made w w1 (.slice A n c) l) (ht : Turn (fun _ => False) w1 w2) (hb : By w3 (.slice A' n' c') m)
    (hg : w2.grownBy w3 (Value.slice A n c).ownBlock) (ha : (Value.slice A' n' c').ownBlock = (Value.slice A n c).ownBlock ∨ (Value.slice A' n' c').ownBlock = some B) (hB : w2.heap.size = B) : Made w w3 (.slice A' n' c') m := by
  have h1 : Turn (fun _ => False) w w2 := h.2.1.trans ht (fun _ _ f => f)
  refine ⟨hb, h1.grown hg (fun k hk e => ?_), fun k hk => ?_⟩
  · have := h.2.2 k e
    omega
  · rcases ha with e | e
    · exact h.2.2 k (by rw [← e]; exact hk)
    · rw [e] at hk
      have := h1.size
      injection hk with hk
      omega
theorem By.shape {w : World} {v : Value} {l : List UInt8} (h : By w v l) : ∃ A c, v = .slice A l.length c := by
  rcases h.form with ⟨rfl, rfl⟩ | ⟨g, cap, cur, rfl, _⟩
  · exact ⟨_, _, rfl⟩
  · exact ⟨_, _, rfl⟩
theorem made_empty (w : World) : Made w (w.alloc (.cells #[] 5)) (.slice (some ⟨w.heap.size, 0, none⟩) 0 0) [] :=
  ⟨By.empty w, (Turn.refl _ w).alloc _, fun k hk => by
    have : w.heap.size = k := by simpa [Value.ownBlock] using hk
    omega⟩

theorem Rd.none (w : World) : Rd w (.slice none 0 0) [] := (By.nil w).rd
theorem Rd.drewN {w : World} {v : Value} {l : List UInt8} (h : Rd w v l) (k : Nat) : Rd (w.drewN k) v l := h.later ((Turn.refl _ w).drewN k)
theorem Rd.drew {w : World} {v : Value} {l : List UInt8} (h : Rd w v l) : Rd w.drew v l := h.later (Turn.refl _ w).drew
theorem quiet_left {P : Program} {f : FuncId} {args : Array Value} {w : World} {n : Nat} {v : Value}
    (h : Calls P f args (w.drewN n) fun e w' => e = .returned v ∧ w.drewN n = w') : Calls P f args (w.drewN n) fun e w'' => e = .returned v ∧ ∃ m, w'' = w.drewN m :=
  h.mono fun _ _ ⟨he, hm⟩ => ⟨he, n, hm.symm⟩

theorem splice_full {M X : List Value} (h : M.length = X.length) : splice M 0 X = X := by
  unfold splice
  rw [List.take_zero, List.nil_append, Nat.zero_add, ← h, List.drop_length, List.append_nil]

theorem Rd.shape {w : World} {v : Value} {l : List UInt8} (h : Rd w v l) : ∃ A c, v = .slice A l.length c := by
  obtain ⟨A, c, e, _⟩ := h
  exact ⟨A, c, e⟩
/-- A call that turns only what is new since w. -/
theorem Turn.fresh {S : Nat → Prop} {w w1 w2 : World} (h : Turn (fun _ => False) w w1) (g : Turn S w1 w2) (hs : ∀ k, S k → w.heap.size ≤ k) : Turn (fun _ => False) w w2 :=
  h.trans g (fun k hk s => by have := hs k s; omega)

theorem By.set {w : World} {g n c : Nat} {l : List UInt8} (h : By w (.slice (some ⟨g, 0, none⟩) n c) l) (i : Nat) (y : UInt8) : By (w.setCell ⟨g, i, none⟩ (bv y)) (.slice (some ⟨g, 0, none⟩) n c) (l.set i y) := by
  rcases h.form with ⟨e, _⟩ | ⟨g', cap, cur, e, hb, h1, h2, h3, h4⟩
  · cases e
  · injection e with e1 e2 e3
    injection e1 with e1
    injection e1 with e1
    subst e1 e2 e3
    refine ⟨by simp, .inr ⟨g, c, cur.setIfInBounds i (bv y), by rw [List.length_set], Nat.zero_le _, hb.set i (bv y), by rw [List.length_set]; exact h1, h2, by simpa using h3, ?_⟩⟩
    rw [List.length_set, Nat.mul_one, Array.toList_setIfInBounds, List.take_set, h4, List.map_set]
theorem By.cells {w : World} {g n c : Nat} {l : List UInt8} (h : By w (.slice (some ⟨g, 0, none⟩) n c) l) {i : Nat} {x : UInt8} (hx : l[i]? = some x) : w.cell? ⟨g, i, none⟩ = some (.int .u8 (x.toNat : Int)) := by
  obtain ⟨ad, e, hc⟩ := h.rd.at hx
  cases e
  have e1 : (⟨g, 0, none⟩ : Addr).add i = ⟨g, i, none⟩ := by unfold Addr.add; split <;> simp_all
  rw [e1] at hc
  exact hc
theorem By.free {w : World} {g n c : Nat} {l : List UInt8} (h : By w (.slice (some ⟨g, 0, none⟩) n c) l) (i : Nat) : w.frozen? ⟨g, i, none⟩ = false := by
  rcases h.form with ⟨e, _⟩ | ⟨g', cap, cur, e, hb, _⟩
  · cases e
  · injection e with e1 e2 e3
    injection e1 with e1
    injection e1 with e1
    subst e1
    exact hb.free i
theorem By.block {w : World} {A : Option Addr} {n c : Nat} {l : List UInt8} (h : By w (.slice A n c) l) (h0 : 0 < l.length) : ∃ g, A = some ⟨g, 0, none⟩ := by
  rcases h.form with ⟨_, rfl⟩ | ⟨g', cap, cur, e, _⟩
  · cases h0
  · injection e with e1
    exact ⟨g', e1⟩

end Go.Proofs.Ytgbphkbbedkepaa

/-
  Numbers of cells: a number's sign, its size, two numbers together, by the program and by the document.
-/
namespace Go.Proofs.Ytgbphkbbedkepaa
open Go.RowKit

theorem u64_of {x : Int} (h : fit x = true) : IntKind.u64.wrap x = if x < 0 then x + 18446744073709551616 else x := by
  rw [fit_iff] at h
  rw [IntKind.wrap_u64]
  split <;> omega

theorem size_a {x : Int} (h : 4611686018427387904 < x ∨ x < -4611686018427387904) : 4611686018427387905 = (sizeC x : Int) := by
  unfold sizeC
  rw [if_neg (by omega)]
  rfl
theorem size_b {x : Int} (h : x ≤ 4611686018427387904 ∧ -4611686018427387904 ≤ x) (g : x < 0) : -x = (sizeC x : Int) := by
  unfold sizeC
  rw [if_pos (by omega)]
  omega
theorem size_c {x : Int} (h : x ≤ 4611686018427387904 ∧ -4611686018427387904 ≤ x) (g : 0 ≤ x) : x = (sizeC x : Int) := by
  unfold sizeC
  rw [if_pos (by omega)]
  omega

theorem wrap_par (z : Nat) : IntKind.i64.wrap (z : Int) % 2 = ((z % 2 : Nat) : Int) := by
  rw [IntKind.wrap_i64]
  have h := Int.emod_emod_of_dvd ((z : Int) + 9223372036854775808) (show (2 : Int) ∣ 18446744073709551616 from ⟨9223372036854775808, by decide⟩)
  generalize ((z : Int) + 9223372036854775808) % 18446744073709551616 = r at *
  omega

/-- The lowest bit of two numbers' common ones. -/
def low2 (x y : Int) : Int := if x % 2 = 1 ∧ y % 2 = 1 then 1 else 0
theorem low_and (x y : Int) : bits BinOp.and IntKind.i64 (bits BinOp.and IntKind.i64 x y) 1 = low2 x y := by
  have e1 : ∀ u : Int, bits BinOp.and IntKind.i64 u 1 = u % 2 := fun u => by
    show IntKind.i64.wrap ((BitVec.ofInt 64 u &&& BitVec.ofInt 64 1).toNat : Int) = _
    rw [BitVec.toNat_and, show (BitVec.ofInt 64 1).toNat = 1 from rfl, Nat.and_one_is_mod, BitVec.toNat_ofInt]
    have := Int.emod_nonneg u (b := 2 ^ 64) (by decide)
    have e : ((2 ^ 64 : Nat) : Int) = 18446744073709551616 := rfl
    rw [e]
    rw [IntWalk.i64_in _ (by omega)]
    omega
  rw [e1]
  have hx : (BitVec.ofInt 64 x).toNat % 2 = (x % 2).toNat := by rw [BitVec.toNat_ofInt, show ((2 ^ 64 : Nat) : Int) = 18446744073709551616 from rfl]; omega
  have hy : (BitVec.ofInt 64 y).toNat % 2 = (y % 2).toNat := by rw [BitVec.toNat_ofInt, show ((2 ^ 64 : Nat) : Int) = 18446744073709551616 from rfl]; omega
  have h2 : ((BitVec.ofInt 64 x).toNat &&& (BitVec.ofInt 64 y).toNat) % 2 = (x % 2).toNat &&& (y % 2).toNat := by
    have := Nat.and_mod_two_pow (a := (BitVec.ofInt 64 x).toNat) (b := (BitVec.ofInt 64 y).toNat) (n := 1)
    rw [Nat.pow_one, hx, hy] at this
    exact this
  show IntKind.i64.wrap ((BitVec.ofInt 64 x &&& BitVec.ofInt 64 y).toNat : Int) % 2 = low2 x y
  rw [BitVec.toNat_and]
  generalize (BitVec.ofInt 64 x).toNat &&& (BitVec.ofInt 64 y).toNat = z at *
  rw [wrap_par, h2]
  unfold low2
  rcases (show x % 2 = 0 ∨ x % 2 = 1 by omega) with a | a <;> rcases (show y % 2 = 0 ∨ y % 2 = 1 by omega) with b | b <;> rw [a, b] <;> rfl

theorem sign_same {g q : Int} (h : fit g = true) (hq : q = wrap64 (g * 2)) {z : Int} (hg : g = z / 2) : ((if g < 0 then 1 else 0 : Int) = if q < 0 then 1 else 0) ↔ fit z = true := by
  rw [fit_iff] at *
  unfold wrap64 at hq
  subst hq
  split <;> split <;> omega

theorem ret_pair {a b : Int} {k : IntKind} {c : Bool} (h : a = b) : Ending.returned (.tuple #[.int k a, .bool c]) = .returned (.tuple #[.int k b, .bool c]) := by rw [h]

/-- What two numbers come to, and whether. -/
def sumV (x y : Int) : Value := .tuple #[.int .i64 (if fit (x + y) then x + y else 0), .bool (fit (x + y))]
theorem sumV_yes {x y : Int} (h : fit (x + y) = true) : sumV x y = .tuple #[.int .i64 (x + y), .bool true] := by unfold sumV; rw [h]; rfl
theorem sumV_no {x y : Int} (h : fit (x + y) = false) : sumV x y = .tuple #[.int .i64 0, .bool false] := by unfold sumV; rw [h]; rfl

section
variable {x y : Int}
theorem add_a (hx : fit x = true) (hy : fit y = true) (h : 0 ≤ y) (g : x ≤ wrap64 (9223372036854775807 - y)) : Ending.returned (.tuple #[.int .i64 (wrap64 (x + y)), .bool true]) = .returned (sumV x y) := by
  rw [fit_iff] at *
  have e : wrap64 (9223372036854775807 - y) = 9223372036854775807 - y := by unfold wrap64; omega
  rw [e] at g
  rw [sumV_yes ((fit_iff _).2 ⟨by omega, by omega⟩)]
  exact ret_pair (by unfold wrap64; omega)
theorem add_b (hy : fit y = true) (h : 0 ≤ y) (g : wrap64 (9223372036854775807 - y) < x) : Ending.returned (.tuple #[.int .i64 0, .bool false]) = .returned (sumV x y) := by
  rw [fit_iff] at *
  have e : wrap64 (9223372036854775807 - y) = 9223372036854775807 - y := by unfold wrap64; omega
  rw [e] at g
  rw [sumV_no]
  rw [Bool.eq_false_iff, ne_eq, fit_iff]
  omega
theorem add_c (hy : fit y = true) (h : y < 0) (g : x < wrap64 (-9223372036854775808 - y)) : Ending.returned (.tuple #[.int .i64 0, .bool false]) = .returned (sumV x y) := by
  rw [fit_iff] at *
  have e : wrap64 (-9223372036854775808 - y) = -9223372036854775808 - y := by unfold wrap64; omega
  rw [e] at g
  rw [sumV_no]
  rw [Bool.eq_false_iff, ne_eq, fit_iff]
  omega
theorem add_d (hx : fit x = true) (hy : fit y = true) (h : y < 0) (g : wrap64 (-9223372036854775808 - y) ≤ x) : Ending.returned (.tuple #[.int .i64 (wrap64 (x + y)), .bool true]) = .returned (sumV x y) := by
  rw [fit_iff] at *
  have e : wrap64 (-9223372036854775808 - y) = -9223372036854775808 - y := by unfold wrap64; omega
  rw [e] at g
  rw [sumV_yes ((fit_iff _).2 ⟨by omega, by omega⟩)]
  exact ret_pair (by unfold wrap64; omega)
end

end Go.Proofs.Ytgbphkbbedkepaa

/-
  Cells by the program and by the document: one value's cell, a mean, which are right.
-/
namespace Go.Proofs.Ytgbphkbbedkepaa
open Go.RowKit

theorem results_cell {fn : Func} {p : Tmp} {ty : TypeId} (h : fn.results = #[.cell p ty]) (tmps : Array Value) (P : Program) (w : World) :
    (results fn tmps).run P w = ((asAddr (tmps.getD p undef)).run P w).andThen fun a w₁ => (loadVar ty a).run P w₁ := by
  simp only [results, h]
  simp [Sem.run_bind, Result.andThen]

/-- A cell, as a value. -/
def cv (c : Cl) : Value := .agg #[.int .i64 c.n, .int .i64 c.s, .int .i64 c.lo, .int .i64 c.hi]
/-- Numbers that an int64 holds. -/
def okC (c : Cl) : Prop := fit c.n = true ∧ fit c.s = true ∧ fit c.lo = true ∧ fit c.hi = true

/-- What Mean answers. -/
def meanV (n s : Int) : Value := if n < 1 then .tuple #[.int .i64 0, .bool false] else .tuple #[.int .i64 (s / n), .bool true]
theorem meanV_shape (n s : Int) : ∃ x b, meanV n s = .tuple #[.int .i64 x, .bool b] := by
  unfold meanV
  split <;> exact ⟨_, _, rfl⟩
theorem mean_no {n s : Int} (h : n < 1) : Ending.returned (.tuple #[.int .i64 0, .bool false]) = .returned (meanV n s) := by
  unfold meanV
  rw [if_pos h]
theorem mean_div {n s : Int} (hs : fit s = true) (h : 1 ≤ n) : wrap64 (s.tdiv n) = s.tdiv n := by
  rw [fit_iff] at hs
  have h1 : (s.tdiv n).natAbs ≤ s.natAbs := by rw [Int.natAbs_tdiv]; exact Nat.div_le_self _ _
  unfold wrap64
  generalize hq : s.tdiv n = q at *
  by_cases h0 : 0 ≤ s
  · have : 0 ≤ q := by rw [← hq]; exact Int.tdiv_nonneg h0 (by omega)
    omega
  · have h2 : 0 ≤ (-s).tdiv n := Int.tdiv_nonneg (by omega) (by omega)
    rw [Int.neg_tdiv, hq] at h2
    omega
theorem mean_a {n s : Int} (hs : fit s = true) (h : 1 ≤ n) (g : s.tmod n < 0) : Ending.returned (.tuple #[.int .i64 (wrap64 (wrap64 (s.tdiv n) - 1)), .bool true]) = .returned (meanV n s) := by
  have hf := floor_of s n (by omega)
  rw [if_pos g] at hf
  rw [mean_div hs h, hf]
  unfold meanV
  rw [if_neg (by omega)]
  refine ret_pair ?_
  rw [fit_iff] at hs
  have h1 := Int.ediv_mul_le s (b := n) (by omega)
  have h2 := Int.lt_ediv_add_one_mul_self s (b := n) (by omega)
  have h3 : -9223372036854775808 ≤ s / n := by
    rw [Int.le_ediv_iff_mul_le (by omega)]
    have : (-9223372036854775808 : Int) * n ≤ -9223372036854775808 * 1 := by omega
    omega
  have h4 : s / n ≤ 9223372036854775807 := by
    have h5 : s / n < 9223372036854775808 := by
      rw [Int.ediv_lt_iff_lt_mul (by omega)]
      omega
    omega
  unfold wrap64
  omega
theorem mean_b {n s : Int} (hs : fit s = true) (h : 1 ≤ n) (g : 0 ≤ s.tmod n) : Ending.returned (.tuple #[.int .i64 (wrap64 (s.tdiv n)), .bool true]) = .returned (meanV n s) := by
  have hf := floor_of s n (by omega)
  rw [if_neg (by omega)] at hf
  rw [mean_div hs h, hf]
  unfold meanV
  rw [if_neg (by omega)]

theorem rightC_eq (n s lo hi : Int) : rightC ⟨n, s, lo, hi⟩ = true ↔ (n = 0 ∧ s = 0 ∧ lo = 0 ∧ hi = 0) ∨ (0 < n ∧ lo ≤ hi ∧ (1 < n ∨ (s = lo ∧ s = hi))) := by
  unfold rightC
  by_cases h : n = 0
  · subst h
    simp [Cl.zero]
  · simp only [if_neg h, Bool.and_eq_true, Bool.or_eq_true, decide_eq_true_iff]
    constructor
    · exact fun g => .inr g
    · rintro (g | g)
      · exact absurd g.1 h
      · exact g
theorem right_is {n s lo hi : Int} {b : Bool} (h : b = true ↔ (n = 0 ∧ s = 0 ∧ lo = 0 ∧ hi = 0) ∨ (0 < n ∧ lo ≤ hi ∧ (1 < n ∨ (s = lo ∧ s = hi)))) : b = rightC ⟨n, s, lo, hi⟩ := by
  rw [Bool.eq_iff_iff, rightC_eq]
  exact h

theorem right_t {n s lo hi : Int} (h : (n = 0 ∧ s = 0 ∧ lo = 0 ∧ hi = 0) ∨ (0 < n ∧ lo ≤ hi ∧ (1 < n ∨ (s = lo ∧ s = hi)))) : true = rightC ⟨n, s, lo, hi⟩ := right_is ⟨fun _ => h, fun _ => rfl⟩
theorem right_f {n s lo hi : Int} (h : ¬ ((n = 0 ∧ s = 0 ∧ lo = 0 ∧ hi = 0) ∨ (0 < n ∧ lo ≤ hi ∧ (1 < n ∨ (s = lo ∧ s = hi))))) : false = rightC ⟨n, s, lo, hi⟩ := right_is ⟨fun e => (by cases e), fun g => absurd g h⟩
theorem right_d {n s lo hi : Int} {q : Prop} [Decidable q] (h : q ↔ ((n = 0 ∧ s = 0 ∧ lo = 0 ∧ hi = 0) ∨ (0 < n ∧ lo ≤ hi ∧ (1 < n ∨ (s = lo ∧ s = hi))))) : decide q = rightC ⟨n, s, lo, hi⟩ := right_is (by rw [decide_eq_true_iff]; exact h)
theorem right_b {n s lo hi a b : Int} (h : a = b ↔ ((n = 0 ∧ s = 0 ∧ lo = 0 ∧ hi = 0) ∨ (0 < n ∧ lo ≤ hi ∧ (1 < n ∨ (s = lo ∧ s = hi))))) : (a == b) = rightC ⟨n, s, lo, hi⟩ := right_is (by rw [beq_iff_eq]; exact h)

theorem right_o {n s lo hi a b : Int} {q : Prop} [Decidable q] (h : (q ∨ a = b) ↔ ((n = 0 ∧ s = 0 ∧ lo = 0 ∧ hi = 0) ∨ (0 < n ∧ lo ≤ hi ∧ (1 < n ∨ (s = lo ∧ s = hi))))) : (decide q || a == b) = rightC ⟨n, s, lo, hi⟩ := right_is (by rw [Bool.or_eq_true, decide_eq_true_iff, beq_iff_eq]; exact h)

end Go.Proofs.Ytgbphkbbedkepaa

/-
  Lists of pairs whose keys rise, plain: places, what is put, dropped, got, the floor of a key, ranges; of any keys with an order. No type is named here.
-/
namespace Go.Proofs.Ytgbphkbbedkepaa
open Go.RowKit

/-- An order that is told by 'below'. -/
structure Rises {K : Type} (lt : K → K → Bool) : Prop where
  irr : ∀ a, lt a a = false
  tr : ∀ a b c, lt a b = true → lt b c = true → lt a c = true
  tot : ∀ a b, a ≠ b → lt a b = false → lt b a = true
theorem rises_int : Rises (fun a b : Int => decide (a < b)) :=
  ⟨fun a => by simp, fun a b c h g => by simp at *; omega, fun a b h g => by simp at *; omega⟩

section
variable {K V : Type} (lt : K → K → Bool)
def plc : List (K × V) → K → Nat
  | [], _ => 0
  | p :: l, k => if lt p.1 k then plc l k + 1 else 0
def rangeK (l : List (K × V)) (a b : K) : List (K × V) := l.filter fun p => !lt p.1 a && lt p.1 b
def Up (l : List (K × V)) : Prop := ∀ (i j : Nat) (a b : K × V), i < j → l[i]? = some a → l[j]? = some b → lt a.1 b.1 = true

variable {lt}
theorem plc_le (l : List (K × V)) (k : K) : plc lt l k ≤ l.length := by
  induction l with
  | nil => exact Nat.le_refl _
  | cons p l ih =>
    unfold plc
    split
    · simp only [List.length_cons]; omega
    · exact Nat.zero_le _
theorem plc_below {l : List (K × V)} {k : K} {i : Nat} {p : K × V} (hi : i < plc lt l k) (hp : l[i]? = some p) : lt p.1 k = true := by
  induction l generalizing i with
  | nil => cases hp
  | cons q l ih =>
    unfold plc at hi
    split at hi
    · rename_i hq
      cases i with
      | zero => cases hp; exact hq
      | succ i => exact ih (by omega) hp
    · omega
theorem plc_at {l : List (K × V)} {k : K} {p : K × V} (hp : l[plc lt l k]? = some p) : lt p.1 k = false := by
  induction l with
  | nil => cases hp
  | cons q l ih =>
    unfold plc at hp
    split at hp
    · exact ih hp
    · rename_i hq
      cases hp
      simpa using hq
theorem plc_above {l : List (K × V)} {k : K} (h : Rises lt) (hu : Up lt l) {j : Nat} {p : K × V} (hj : plc lt l k ≤ j) (hp : l[j]? = some p) : lt p.1 k = false := by
  obtain ⟨hl, _⟩ := List.getElem?_eq_some_iff.1 hp
  rcases Nat.lt_or_ge (plc lt l k) j with c | c
  · obtain ⟨q, hq⟩ : ∃ q, l[plc lt l k]? = some q := ⟨_, List.getElem?_eq_getElem (by omega)⟩
    have h1 := plc_at hq
    have h2 := hu _ _ _ _ c hq hp
    cases h3 : lt p.1 k with
    | false => rfl
    | true => rw [h.tr _ _ _ h2 h3] at h1; cases h1
  · obtain rfl : j = plc lt l k := by omega
    exact plc_at hp
theorem plc_is {l : List (K × V)} {k : K} {i : Nat} (hi : i ≤ l.length) (hb : ∀ (j : Nat) (p : K × V), j < i → l[j]? = some p → lt p.1 k = true) (ha : ∀ p : K × V, l[i]? = some p → lt p.1 k = false) : plc lt l k = i := by
  rcases Nat.lt_trichotomy (plc lt l k) i with c | c | c
  · obtain ⟨q, hq⟩ : ∃ q, l[plc lt l k]? = some q := ⟨_, List.getElem?_eq_getElem (by omega)⟩
    have h1 := plc_at hq
    rw [hb _ _ c hq] at h1
    cases h1
  · exact c
  · have hl := plc_le (lt := lt) l k
    obtain ⟨q, hq⟩ : ∃ q, l[i]? = some q := ⟨_, List.getElem?_eq_getElem (by omega)⟩
    have h1 := ha _ hq
    rw [plc_below c hq] at h1
    cases h1
theorem up_nil : Up lt ([] : List (K × V)) := fun i j a b _ h => by simp at h
theorem up_cons {p : K × V} {l : List (K × V)} : Up lt (p :: l) ↔ (∀ (i : Nat) (q : K × V), l[i]? = some q → lt p.1 q.1 = true) ∧ Up lt l := by
  constructor
  · intro h
    refine ⟨fun i q hq => h 0 (i + 1) p q (by omega) rfl hq, fun i j a b hij ha hb => h (i + 1) (j + 1) a b (by omega) ha hb⟩
  · rintro ⟨h1, h2⟩ i j a b hij ha hb
    cases j with
    | zero => omega
    | succ j =>
      cases i with
      | zero => cases ha; exact h1 j b hb
      | succ i => exact h2 i j a b (by omega) ha hb
theorem up_append {l m : List (K × V)} : Up lt (l ++ m) ↔ Up lt l ∧ Up lt m ∧ ∀ (i j : Nat) (a b : K × V), l[i]? = some a → m[j]? = some b → lt a.1 b.1 = true := by
  induction l with
  | nil =>
    simp only [List.nil_append]
    exact ⟨fun h => ⟨up_nil, h, fun i j a b ha => by simp at ha⟩, fun h => h.2.1⟩
  | cons p l ih =>
    rw [List.cons_append, up_cons, ih, up_cons]
    constructor
    · rintro ⟨h1, h2, h3, h4⟩
      refine ⟨⟨fun i q hq => h1 i q ?_, h2⟩, h3, fun i j a b ha hb => ?_⟩
      · obtain ⟨hl, _⟩ := List.getElem?_eq_some_iff.1 hq
        rw [List.getElem?_append_left hl]
        exact hq
      · cases i with
        | zero =>
          cases ha
          refine h1 (l.length + j) b ?_
          rw [List.getElem?_append_right (by omega), Nat.add_sub_cancel_left]
          exact hb
        | succ i => exact h4 i j a b ha hb
    · rintro ⟨⟨h1, h2⟩, h3, h4⟩
      refine ⟨fun i q hq => ?_, h2, h3, fun i j a b ha hb => h4 (i + 1) j a b ha hb⟩
      rcases Nat.lt_or_ge i l.length with c | c
      · rw [List.getElem?_append_left c] at hq
        exact h1 i q hq
      · rw [List.getElem?_append_right c] at hq
        exact h4 0 _ p q rfl hq
theorem up_take {l : List (K × V)} (h : Up lt l) (n : Nat) : Up lt (l.take n) := fun i j a b hij ha hb => by
  rw [List.getElem?_take] at ha hb
  split at ha
  · split at hb
    · exact h i j a b hij ha hb
    · cases hb
  · cases ha
theorem up_drop {l : List (K × V)} (h : Up lt l) (n : Nat) : Up lt (l.drop n) := fun i j a b hij ha hb => by
  rw [List.getElem?_drop] at ha hb
  exact h _ _ a b (by omega) ha hb
theorem range_part {l : List (K × V)} (h : Rises lt) (hu : Up lt l) (a b : K) : rangeK lt l a b = (l.take (plc lt l b)).drop (plc lt l a) := by
  induction l with
  | nil => rfl
  | cons p l ih =>
    obtain ⟨h1, h2⟩ := up_cons.1 hu
    have ih := ih h2
    unfold rangeK at *
    unfold plc
    rw [List.filter_cons]
    by_cases hb : lt p.1 b = true
    · rw [if_pos hb, List.take_succ_cons]
      by_cases ha : lt p.1 a = true
      · rw [if_pos ha, if_neg (by rw [ha]; simp), List.drop_succ_cons, ih]
      · rw [if_neg ha, if_pos (by rw [hb]; simpa using ha), List.drop_zero, ih]
        have e : plc lt l a = 0 := plc_is (Nat.zero_le _) (fun j q hj => by omega) (fun q hq => by
          cases h3 : lt q.1 a with
          | false => rfl
          | true => exact absurd (h.tr _ _ _ (h1 0 q hq) h3) ha)
        rw [e, List.drop_zero]
    · rw [if_neg hb, if_neg (by simp [hb]), List.take_zero, List.drop_nil, ih]
      have e : plc lt l b = 0 := plc_is (Nat.zero_le _) (fun j q hj => by omega) (fun q hq => by
        cases h3 : lt q.1 b with
        | false => rfl
        | true => exact absurd (h.tr _ _ _ (h1 0 q hq) h3) hb)
      rw [e, List.take_zero, List.drop_nil]
end

section
variable {K V : Type} [DecidableEq K] (lt : K → K → Bool)
def hasK (l : List (K × V)) (k : K) : Bool := match l[plc lt l k]? with
  | some p => decide (p.1 = k)
  | none => false
def getK (l : List (K × V)) (k : K) : Option V := match l[plc lt l k]? with
  | some p => if p.1 = k then some p.2 else none
  | none => none
def upK (l : List (K × V)) (k : K) : Nat := if hasK lt l k then plc lt l k + 1 else plc lt l k
def putK (l : List (K × V)) (k : K) (v : V) : List (K × V) := l.take (plc lt l k) ++ (k, v) :: l.drop (upK lt l k)
def dropK (l : List (K × V)) (k : K) : List (K × V) := l.take (plc lt l k) ++ l.drop (upK lt l k)
def floorK (l : List (K × V)) (k : K) : Option (K × V) := if upK lt l k = 0 then none else l[upK lt l k - 1]?

variable {lt}
theorem hasK_iff {l : List (K × V)} {k : K} : hasK lt l k = true ↔ ∃ p : K × V, l[plc lt l k]? = some p ∧ p.1 = k := by
  unfold hasK
  cases h : l[plc lt l k]? with
  | none => simp
  | some p => simp
theorem hasK_mem {l : List (K × V)} {k : K} (h : Rises lt) (hu : Up lt l) : hasK lt l k = true ↔ ∃ (i : Nat) (p : K × V), l[i]? = some p ∧ p.1 = k := by
  rw [hasK_iff]
  constructor
  · rintro ⟨p, h1, h2⟩
    exact ⟨_, p, h1, h2⟩
  · rintro ⟨i, p, hp, rfl⟩
    have e : plc lt l p.1 = i := plc_is (by obtain ⟨hl, _⟩ := List.getElem?_eq_some_iff.1 hp; omega) (fun j q hj hq => hu _ _ _ _ hj hq hp) (fun q hq => by rw [hp] at hq; cases hq; exact h.irr _)
    exact ⟨p, by rw [e]; exact hp, rfl⟩
theorem upK_le (l : List (K × V)) (k : K) : upK lt l k ≤ l.length := by
  unfold upK
  split
  · rename_i h
    obtain ⟨p, hp, _⟩ := hasK_iff.1 h
    obtain ⟨hl, _⟩ := List.getElem?_eq_some_iff.1 hp
    omega
  · exact plc_le l k
theorem upK_below {l : List (K × V)} {k : K} (h : Rises lt) {i : Nat} {p : K × V} (hi : i < upK lt l k) (hp : l[i]? = some p) : lt k p.1 = false := by
  unfold upK at hi
  have key : lt p.1 k = true ∨ p.1 = k := by
    split at hi
    · rename_i hk
      rcases Nat.lt_or_ge i (plc lt l k) with c | c
      · exact .inl (plc_below c hp)
      · obtain rfl : i = plc lt l k := by omega
        obtain ⟨q, hq, e⟩ := hasK_iff.1 hk
        rw [hp] at hq
        cases hq
        exact .inr e
    · exact .inl (plc_below hi hp)
  rcases key with c | c
  · cases h2 : lt k p.1 with
    | false => rfl
    | true => have := h.tr _ _ _ c h2; rw [h.irr] at this; cases this
  · rw [c]
    exact h.irr _
theorem upK_above {l : List (K × V)} {k : K} (h : Rises lt) (hu : Up lt l) {j : Nat} {p : K × V} (hj : upK lt l k ≤ j) (hp : l[j]? = some p) : lt k p.1 = true := by
  unfold upK at hj
  have h0 : lt p.1 k = false := plc_above h hu (by split at hj <;> omega) hp
  refine h.tot _ _ (fun e => ?_) h0
  split at hj
  · rename_i hk
    obtain ⟨q, hq, e2⟩ := hasK_iff.1 hk
    have := hu _ _ _ _ (show plc lt l k < j by omega) hq hp
    rw [e2, e, h.irr] at this
    cases this
  · rename_i hk
    exact hk ((hasK_mem h hu).2 ⟨j, p, hp, e⟩)
theorem put_up {l : List (K × V)} (h : Rises lt) (hu : Up lt l) (k : K) (v : V) : Up lt (putK lt l k v) := by
  unfold putK
  rw [up_append, up_cons]
  refine ⟨up_take hu _, ⟨fun i q hq => ?_, up_drop hu _⟩, fun i j a b ha hb => ?_⟩
  · rw [List.getElem?_drop] at hq
    show lt k q.1 = true
    exact upK_above h hu (by omega) hq
  · rw [List.getElem?_take] at ha
    split at ha
    · rename_i hi
      have h1 := plc_below hi ha
      cases j with
      | zero => cases hb; exact h1
      | succ j =>
        rw [List.getElem?_cons_succ, List.getElem?_drop] at hb
        exact h.tr _ _ _ h1 (upK_above h hu (by omega) hb)
    · cases ha
theorem drop_up {l : List (K × V)} (h : Rises lt) (hu : Up lt l) (k : K) : Up lt (dropK lt l k) := by
  unfold dropK
  rw [up_append]
  refine ⟨up_take hu _, up_drop hu _, fun i j a b ha hb => ?_⟩
  rw [List.getElem?_take] at ha
  rw [List.getElem?_drop] at hb
  split at ha
  · rename_i hi
    exact h.tr _ _ _ (plc_below hi ha) (upK_above h hu (by omega) hb)
  · cases ha
theorem put_len (l : List (K × V)) (k : K) (v : V) : (putK lt l k v).length ≤ l.length + 1 := by
  have h1 := plc_le (lt := lt) l k
  have h2 : plc lt l k ≤ upK lt l k := by unfold upK; split <;> omega
  unfold putK
  rw [List.length_append, List.length_cons, List.length_take, List.length_drop]
  omega
theorem drop_len (l : List (K × V)) (k : K) : (dropK lt l k).length ≤ l.length := by
  have h1 := plc_le (lt := lt) l k
  have h2 : plc lt l k ≤ upK lt l k := by unfold upK; split <;> omega
  unfold dropK
  rw [List.length_append, List.length_take, List.length_drop]
  omega
theorem drop_not {l : List (K × V)} {k : K} (h : hasK lt l k = false) : dropK lt l k = l := by
  unfold dropK upK
  rw [h]
  exact List.take_append_drop _ _
end

end Go.Proofs.Ytgbphkbbedkepaa

/-
  Texts in their order, plain.
-/
namespace Go.Proofs.Ytgbphkbbedkepaa
open Go.RowKit

theorem less_irr : ∀ a : List UInt8, Op.bytesLess a a = false
  | [] => rfl
  | x :: a => by
    show (decide (x < x) || (x == x && Op.bytesLess a a)) = false
    rw [less_irr a]
    simp
theorem less_tr : ∀ a b c : List UInt8, Op.bytesLess a b = true → Op.bytesLess b c = true → Op.bytesLess a c = true
  | [], [], _, h, _ => absurd h (by decide)
  | x :: a, [], _, h, _ => absurd (show false = true from h) (by decide)
  | _, _ :: _, [], _, g => by cases g
  | [], _ :: _, _ :: _, _, _ => rfl
  | x :: a, y :: b, z :: c, h, g => by
    have h1 : (decide (x < y) || (x == y && Op.bytesLess a b)) = true := h
    have g1 : (decide (y < z) || (y == z && Op.bytesLess b c)) = true := g
    have ih := less_tr a b c
    show (decide (x < z) || (x == z && Op.bytesLess a c)) = true
    simp only [Bool.or_eq_true, decide_eq_true_iff, Bool.and_eq_true, beq_iff_eq] at h1 g1 ⊢
    rcases h1 with h1 | ⟨e, h1⟩
    · rcases g1 with g1 | ⟨e2, g1⟩
      · left
        rw [UInt8.lt_iff_toNat_lt] at *
        omega
      · subst e2
        exact .inl h1
    · subst e
      rcases g1 with g1 | ⟨e2, g1⟩
      · exact .inl g1
      · subst e2
        exact .inr ⟨rfl, ih h1 g1⟩
theorem less_tot : ∀ a b : List UInt8, a ≠ b → Op.bytesLess a b = false → Op.bytesLess b a = true
  | [], [], h, _ => absurd rfl h
  | [], _ :: _, _, g => by cases g
  | _ :: _, [], _, _ => rfl
  | x :: a, y :: b, h, g => by
    have g : (decide (x < y) || (x == y && Op.bytesLess a b)) = false := g
    show (decide (y < x) || (y == x && Op.bytesLess b a)) = true
    simp only [Bool.or_eq_false_iff, decide_eq_false_iff_not, Bool.and_eq_false_iff, beq_eq_false_iff_ne, ne_eq, Bool.or_eq_true, decide_eq_true_iff, Bool.and_eq_true, beq_iff_eq] at *
    by_cases hxy : x = y
    · subst hxy
      refine .inr ⟨rfl, less_tot a b (fun e => h (by rw [e])) ?_⟩
      rcases g.2 with g | g
      · exact absurd rfl g
      · exact g
    · left
      have h1 : x.toNat ≠ y.toNat := fun e => hxy (UInt8.toNat_inj.1 e)
      have h2 := g.1
      rw [UInt8.lt_iff_toNat_lt] at *
      omega
theorem rises_bytes : Rises Op.bytesLess := ⟨less_irr, less_tr, less_tot⟩

end Go.Proofs.Ytgbphkbbedkepaa
