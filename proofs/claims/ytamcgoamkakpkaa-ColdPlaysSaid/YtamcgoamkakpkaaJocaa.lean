/-
  Texts laid one behind the other: Na Oa Ha Nb Q3a Ga Bb Ea.
-/
import Derived.WalkKit
import Derived.WalkSmall
import Derived.Test.YtamcgoamkakpkaaRows
import Derived.WalkSpells
import Derived.WalkLawsBesides
import Derived.Maps.AppendAt
import Derived.Deep.AppendSrc
import Derived.Lib.Hide
import Derived.Laws.Strings
import Derived.WalkMore
import Derived.OwnWalk
import Derived.ProofKit
import Derived.OpenShut
import Derived.Deep.Slices
import Derived.Deep.Fields
import Derived.Laws.CopyOwn
import Derived.Deep.OwnRows

/-
  Lists of pairs whose keys rise, plain: places, what is put, dropped, got, the floor of a key, ranges; of any keys with an order. No type is named here.
-/
namespace Go.Proofs.Ytamcgoamkakpkaa
open Go.RowKit

/-- An order that is told by 'below'. -/
structure Rises {K : Type} (lt : K → K → Bool) : Prop where
  irr : ∀ a, lt a a = false
  tr : ∀ a b c, lt a b = true → lt b c = true → lt a c = true
  tot : ∀ a b, a ≠ b → lt a b = false → lt b a = true
theorem rises_int : Rises (fun a b : Int => decide (a < b)) :=
  ⟨fun a => by simp, fun a b c h g => by simp at *; omega, fun a b h g => by simp at *; omega⟩

section
variable {K V : Type} (lt : K → K → Bool)
def plc : List (K × V) → K → Nat
  | [], _ => 0
  | p :: l, k => if lt p.1 k then plc l k + 1 else 0
def rangeK (l : List (K × V)) (a b : K) : List (K × V) := l.filter fun p => !lt p.1 a && lt p.1 b
def Up (l : List (K × V)) : Prop := ∀ (i j : Nat) (a b : K × V), i < j → l[i]? = some a → l[j]? = some b → lt a.1 b.1 = true

variable {lt}
theorem plc_le (l : List (K × V)) (k : K) : plc lt l k ≤ l.length := by
  induction l with
  | nil => exact Nat.le_refl _
  | cons p l ih =>
    unfold plc
    split
    · simp only [List.length_cons]; omega
    · exact Nat.zero_le _
theorem plc_below {l : List (K × V)} {k : K} {i : Nat} {p : K × V} (hi : i < plc lt l k) (hp : l[i]? = some p) : lt p.1 k = true := by
  induction l generalizing i with
  | nil => cases hp
  | cons q l ih =>
    unfold plc at hi
    split at hi
    · rename_i hq
      cases i with
      | zero => cases hp; exact hq
      | succ i => exact ih (by omega) hp
    · omega
theorem plc_at {l : List (K × V)} {k : K} {p : K × V} (hp : l[plc lt l k]? = some p) : lt p.1 k = false := by
  induction l with
  | nil => cases hp
  | cons q l ih =>
    unfold plc at hp
    split at hp
    · exact ih hp
    · rename_i hq
      cases hp
      simpa using hq
theorem plc_above {l : List (K × V)} {k : K} (h : Rises lt) (hu : Up lt l) {j : Nat} {p : K × V} (hj : plc lt l k ≤ j) (hp : l[j]? = some p) : lt p.1 k = false := by
  obtain ⟨hl, _⟩ := List.getElem?_eq_some_iff.1 hp
  rcases Nat.lt_or_ge (plc lt l k) j with c | c
  · obtain ⟨q, hq⟩ : ∃ q, l[plc lt l k]? = some q := ⟨_, List.getElem?_eq_getElem (by omega)⟩
    have h1 := plc_at hq
    have h2 := hu _ _ _ _ c hq hp
    cases h3 : lt p.1 k with
    | false => rfl
    | true => rw [h.tr _ _ _ h2 h3] at h1; cases h1
  · obtain rfl : j = plc lt l k := by omega
    exact plc_at hp
theorem plc_is {l : List (K × V)} {k : K} {i : Nat} (hi : i ≤ l.length) (hb : ∀ (j : Nat) (p : K × V), j < i → l[j]? = some p → lt p.1 k = true) (ha : ∀ p : K × V, l[i]? = some p → lt p.1 k = false) : plc lt l k = i := by
  rcases Nat.lt_trichotomy (plc lt l k) i with c | c | c
  · obtain ⟨q, hq⟩ : ∃ q, l[plc lt l k]? = some q := ⟨_, List.getElem?_eq_getElem (by omega)⟩
    have h1 := plc_at hq
    rw [hb _ _ c hq] at h1
    cases h1
  · exact c
  · have hl := plc_le (lt := lt) l k
    obtain ⟨q, hq⟩ : ∃ q, l[i]? = some q := ⟨_, List.getElem?_eq_getElem (by omega)⟩
    have h1 := ha _ hq
    rw [plc_below c hq] at h1
    cases h1
theorem up_nil : Up lt ([] : List (K × V)) := fun i j a b _ h => by simp at h
theorem up_cons {p : K × V} {l : List (K × V)} : Up lt (p :: l) ↔ (∀ (i : Nat) (q : K × V), l[i]? = some q → lt p.1 q.1 = true) ∧ Up lt l := by
  constructor
  · intro h
    refine ⟨fun i q hq => h 0 (i + 1) p q (by omega) rfl hq, fun i j a b hij ha hb => h (i + 1) (j + 1) a b (by omega) ha hb⟩
  · rintro ⟨h1, h2⟩ i j a b hij ha hb
    cases j with
    | zero => omega
    | succ j =>
      cases i with
      | zero => cases ha; exact h1 j b hb
      | succ i => exact h2 i j a b (by omega) ha hb
theorem up_append {l m : List (K × V)} : Up lt (l ++ m) ↔ Up lt l ∧ Up lt m ∧ ∀ (i j : Nat) (a b : K × V), l[i]? = some a → m[j]? = some b → lt a.1 b.1 = true := by
  induction l with
  | nil =>
    simp only [List.nil_append]
    exact ⟨fun h => ⟨up_nil, h, fun i j a b ha => by simp at ha⟩, fun h => h.2.1⟩
  | cons p l ih =>
    rw [List.cons_append, up_cons, ih, up_cons]
    constructor
    · rintro ⟨h1, h2, h3, h4⟩
      refine ⟨⟨fun i q hq => h1 i q ?_, h2⟩, h3, fun i j a b ha hb => ?_⟩
      · obtain ⟨hl, _⟩ := List.getElem?_eq_some_iff.1 hq
        rw [List.getElem?_append_left hl]
        exact hq
      · cases i with
        | zero =>
          cases ha
          refine h1 (l.length + j) b ?_
          rw [List.getElem?_append_right (by omega), Nat.add_sub_cancel_left]
          exact hb
        | succ i => exact h4 i j a b ha hb
    · rintro ⟨⟨h1, h2⟩, h3, h4⟩
      refine ⟨fun i q hq => ?_, h2, h3, fun i j a b ha hb => h4 (i + 1) j a b ha hb⟩
      rcases Nat.lt_or_ge i l.length with c | c
      · rw [List.getElem?_append_left c] at hq
        exact h1 i q hq
      · rw [List.getElem?_append_right c] at hq
        exact h4 0 _ p q rfl hq
theorem up_take {l : List (K × V)} (h : Up lt l) (n : Nat) : Up lt (l.take n) := fun i j a b hij ha hb => by
  rw [List.getElem?_take] at ha hb
  split at ha
  · split at hb
    · exact h i j a b hij ha hb
    · cases hb
  · cases ha
theorem up_drop {l : List (K × V)} (h : Up lt l) (n : Nat) : Up lt (l.drop n) := fun i j a b hij ha hb => by
  rw [List.getElem?_drop] at ha hb
  exact h _ _ a b (by omega) ha hb
theorem range_part {l : List (K × V)} (h : Rises lt) (hu : Up lt l) (a b : K) : rangeK lt l a b = (l.take (plc lt l b)).drop (plc lt l a) := by
  induction l with
  | nil => rfl
  | cons p l ih =>
    obtain ⟨h1, h2⟩ := up_cons.1 hu
    have ih := ih h2
    unfold rangeK at *
    unfold plc
    rw [List.filter_cons]
    by_cases hb : lt p.1 b = true
    · rw [if_pos hb, List.take_succ_cons]
      by_cases ha : lt p.1 a = true
      · rw [if_pos ha, if_neg (by rw [ha]; simp), List.drop_succ_cons, ih]
      · rw [if_neg ha, if_pos (by rw [hb]; simpa using ha), List.drop_zero, ih]
        have e : plc lt l a = 0 := plc_is (Nat.zero_le _) (fun j q hj => by omega) (fun q hq => by
          cases h3 : lt q.1 a with
          | false => rfl
          | true => exact absurd (h.tr _ _ _ (h1 0 q hq) h3) ha)
        rw [e, List.drop_zero]
    · rw [if_neg hb, if_neg (by simp [hb]), List.take_zero, List.drop_nil, ih]
      have e : plc lt l b = 0 := plc_is (Nat.zero_le _) (fun j q hj => by omega) (fun q hq => by
        cases h3 : lt q.1 b with
        | false => rfl
        | true => exact absurd (h.tr _ _ _ (h1 0 q hq) h3) hb)
      rw [e, List.take_zero, List.drop_nil]
end

section
variable {K V : Type} [DecidableEq K] (lt : K → K → Bool)
def hasK (l : List (K × V)) (k : K) : Bool := match l[plc lt l k]? with
  | some p => decide (p.1 = k)
  | none => false
def getK (l : List (K × V)) (k : K) : Option V := match l[plc lt l k]? with
  | some p => if p.1 = k then some p.2 else none
  | none => none
def upK (l : List (K × V)) (k : K) : Nat := if hasK lt l k then plc lt l k + 1 else plc lt l k
def putK (l : List (K × V)) (k : K) (v : V) : List (K × V) := l.take (plc lt l k) ++ (k, v) :: l.drop (upK lt l k)
def dropK (l : List (K × V)) (k : K) : List (K × V) := l.take (plc lt l k) ++ l.drop (upK lt l k)
def floorK (l : List (K × V)) (k : K) : Option (K × V) := if upK lt l k = 0 then none else l[upK lt l k - 1]?

variable {lt}
theorem hasK_iff {l : List (K × V)} {k : K} : hasK lt l k = true ↔ ∃ p : K × V, l[plc lt l k]? = some p ∧ p.1 = k := by
  unfold hasK
  cases h : l[plc lt l k]? with
  | none => simp
  | some p => simp
theorem hasK_mem {l : List (K × V)} {k : K} (h : Rises lt) (hu : Up lt l) : hasK lt l k = true ↔ ∃ (i : Nat) (p : K × V), l[i]? = some p ∧ p.1 = k := by
  rw [hasK_iff]
  constructor
  · rintro ⟨p, h1, h2⟩
    exact ⟨_, p, h1, h2⟩
  · rintro ⟨i, p, hp, rfl⟩
    have e : plc lt l p.1 = i := plc_is (by obtain ⟨hl, _⟩ := List.getElem?_eq_some_iff.1 hp; omega) (fun j q hj hq => hu _ _ _ _ hj hq hp) (fun q hq => by rw [hp] at hq; cases hq; exact h.irr _)
    exact ⟨p, by rw [e]; exact hp, rfl⟩
theorem upK_le (l : List (K × V)) (k : K) : upK lt l k ≤ l.length := by
  unfold upK
  split
  · rename_i h
    obtain ⟨p, hp, _⟩ := hasK_iff.1 h
    obtain ⟨hl, _⟩ := List.getElem?_eq_some_iff.1 hp
    omega
  · exact plc_le l k
theorem upK_below {l : List (K × V)} {k : K} (h : Rises lt) {i : Nat} {p : K × V} (hi : i < upK lt l k) (hp : l[i]? = some p) : lt k p.1 = false := by
  unfold upK at hi
  have key : lt p.1 k = true ∨ p.1 = k := by
    split at hi
    · rename_i hk
      rcases Nat.lt_or_ge i (plc lt l k) with c | c
      · exact .inl (plc_below c hp)
      · obtain rfl : i = plc lt l k := by omega
        obtain ⟨q, hq, e⟩ := hasK_iff.1 hk
        rw [hp] at hq
        cases hq
        exact .inr e
    · exact .inl (plc_below hi hp)
  rcases key with c | c
  · cases h2 : lt k p.1 with
    | false => rfl
    | true => have := h.tr _ _ _ c h2; rw [h.irr] at this; cases this
  · rw [c]
    exact h.irr _
theorem upK_above {l : List (K × V)} {k : K} (h : Rises lt) (hu : Up lt l) {j : Nat} {p : K × V} (hj : upK lt l k ≤ j) (hp : l[j]? = some p) : lt k p.1 = true := by
  unfold upK at hj
  have h0 : lt p.1 k = false := plc_above h hu (by split at hj <;> omega) hp
  refine h.tot _ _ (fun e => ?_) h0
  split at hj
  · rename_i hk
    obtain ⟨q, hq, e2⟩ := hasK_iff.1 hk
    have := hu _ _ _ _ (show plc lt l k < j by omega) hq hp
    rw [e2, e, h.irr] at this
    cases this
  · rename_i hk
    exact hk ((hasK_mem h hu).2 ⟨j, p, hp, e⟩)
theorem put_up {l : List (K × V)} (h : Rises lt) (hu : Up lt l) (k : K) (v : V) : Up lt (putK lt l k v) := by
  unfold putK
  rw [up_append, up_cons]
  refine ⟨up_take hu _, ⟨fun i q hq => ?_, up_drop hu _⟩, fun i j a b ha hb => ?_⟩
  · rw [List.getElem?_drop] at hq
    show lt k q.1 = true
    exact upK_above h hu (by omega) hq
  · rw [List.getElem?_take] at ha
    split at ha
    · rename_i hi
      have h1 := plc_below hi ha
      cases j with
      | zero => cases hb; exact h1
      | succ j =>
        rw [List.getElem?_cons_succ, List.getElem?_drop] at hb
        exact h.tr _ _ _ h1 (upK_above h hu (by omega) hb)
    · cases ha
theorem drop_up {l : List (K × V)} (h : Rises lt) (hu : Up lt l) (k : K) : Up lt (dropK lt l k) := by
  unfold dropK
  rw [up_append]
  refine ⟨up_take hu _, up_drop hu _, fun i j a b ha hb => ?_⟩
  rw [List.getElem?_take] at ha
  rw [List.getElem?_drop] at hb
  split at ha
  · rename_i hi
    exact h.tr _ _ _ (plc_below hi ha) (upK_above h hu (by omega) hb)
  · cases ha
theorem put_len (l : List (K × V)) (k : K) (v : V) : (putK lt l k v).length ≤ l.length + 1 := by
  have h1 := plc_le (lt := lt) l k
  have h2 : plc lt l k ≤ upK lt l k := by unfold upK; split <;> omega
  unfold putK
  rw [List.length_append, List.length_cons, List.length_take, List.length_drop]
  omega
theorem drop_len (l : List (K × V)) (k : K) : (dropK lt l k).length ≤ l.length := by
  have h1 := plc_le (lt := lt) l k
  have h2 : plc lt l k ≤ upK lt l k := by unfold upK; split <;> omega
  unfold dropK
  rw [List.length_append, List.length_take, List.length_drop]
  omega
theorem drop_not {l : List (K × V)} {k : K} (h : hasK lt l k = false) : dropK lt l k = l := by
  unfold dropK upK
  rw [h]
  exact List.take_append_drop _ _
end

end Go.Proofs.Ytamcgoamkakpkaa

/-
  Words for memory: what a call may turn, a row of bytes that a call owns.
-/
namespace Go.Proofs.Ytamcgoamkakpkaa
open Go.RowKit

/-- From w to w' nothing has turned but blocks of S, and new ones. -/
structure Turn (S : Nat → Prop) (w w' : World) : Prop where
  os : w'.os = w.os
  tape : w'.tape = w.tape
  output : w'.output = w.output
  size : w.heap.size ≤ w'.heap.size
  block : ∀ k, k < w.heap.size → ¬ S k → w'.heap[k]? = w.heap[k]?

section
variable {S T : Nat → Prop} {a b c w w' : World}
theorem Turn.refl (S : Nat → Prop) (w : World) : Turn S w w := ⟨rfl, rfl, rfl, Nat.le_refl _, fun _ _ _ => rfl⟩
theorem Turn.trans (h : Turn S a b) (g : Turn T b c) (hs : ∀ k, k < a.heap.size → T k → S k) : Turn S a c :=
  ⟨g.os.trans h.os, g.tape.trans h.tape, g.output.trans h.output, Nat.le_trans h.size g.size,
    fun k hk hn => (g.block k (Nat.lt_of_lt_of_le hk h.size) (fun t => hn (hs k hk t))).trans (h.block k hk hn)⟩
theorem Turn.mono (h : Turn S a b) (hs : ∀ k, k < a.heap.size → S k → T k) : Turn T a b :=
  ⟨h.os, h.tape, h.output, h.size, fun k hk hn => h.block k hk (fun s => hn (hs k hk s))⟩
theorem Turn.drew (h : Turn S a w) : Turn S a w.drew := ⟨h.os, h.tape, h.output, h.size, h.block⟩
theorem Turn.drewN (h : Turn S a w) (n : Nat) : Turn S a (w.drewN n) := ⟨h.os, h.tape, h.output, h.size, h.block⟩
theorem Turn.alloc (h : Turn S a w) (o : Obj) : Turn S a (w.alloc o) :=
  ⟨h.os, h.tape, h.output, Nat.le_trans h.size (by simp), fun k hk hn => (Below.heap_alloc w o k (Nat.lt_of_lt_of_le hk h.size)).trans (h.block k hk hn)⟩
theorem Turn.setCell (h : Turn S a w) {p : Addr} (hp : p.block < a.heap.size → S p.block) (u : Value) : Turn S a (w.setCell p u) :=
  ⟨h.os, h.tape, h.output, Nat.le_trans h.size (by simp [World.setCell]), fun k hk hn =>
    (Below.heap_setCell w p u k (fun e => hn (by subst e; exact hp hk))).trans (h.block k hk hn)⟩
theorem Turn.grown (h : Turn S a w) {row : Option Nat} (hg : w.grownBy w' row) (hr : ∀ k, k < a.heap.size → row = some k → S k) : Turn S a w' :=
  ⟨hg.os.trans h.os, hg.tape.trans h.tape, hg.output.trans h.output, Nat.le_trans h.size hg.size,
    fun k hk hn => (hg.block k (Nat.lt_of_lt_of_le hk h.size) (fun e => hn (hr k hk e.symm))).trans (h.block k hk hn)⟩
theorem Turn.below (h : Turn S a b) {B : Nat} (hB : B ≤ a.heap.size) (hs : ∀ k, S k → B ≤ k) : Below B a b :=
  ⟨h.os, h.tape, h.output, h.size, fun k hk => h.block k (by omega) (fun s => by have := hs k s; omega)⟩
theorem Turn.cell (h : Turn S w w') {p : Addr} (hp : p.block < w.heap.size) (hn : ¬ S p.block) : w'.cell? p = w.cell? p := World.cell?_of_block (w := w) (h.block _ hp hn)
theorem Turn.frozen (h : Turn S w w') {p : Addr} (hp : p.block < w.heap.size) (hn : ¬ S p.block) : w'.frozen? p = w.frozen? p := World.frozen?_of_block (w := w) (h.block _ hp hn)
end

/-- A byte in memory. -/
def bv (b : UInt8) : Value := .int .u8 (b.toNat : Int)

/-- Block g is just the cells cs of type t, none frozen. -/
def Box (w : World) (g : Nat) (t : TypeId) (cs : Array Value) : Prop := w.heap[g]? = some (.cells cs t (0, 0))

section
variable {w w' : World} {g : Nat} {t : TypeId} {cs : Array Value}
theorem Box.lt (h : Box w g t cs) : g < w.heap.size := (Array.getElem?_eq_some_iff.1 h).1
theorem Box.cell (h : Box w g t cs) (i : Nat) : w.cell? ⟨g, i, none⟩ = cs[i]? := cell_of_row w g i cs t (0, 0) h
theorem Box.free (h : Box w g t cs) (i : Nat) : w.frozen? ⟨g, i, none⟩ = false := by
  unfold Box at h
  simp [World.frozen?, h]
theorem Box.alloc (h : Box w g t cs) (o : Obj) : Box (w.alloc o) g t cs := (Below.heap_alloc w o g h.lt).trans h
theorem Box.new (w : World) (t : TypeId) (cs : Array Value) : Box (w.alloc (.cells cs t)) w.heap.size t cs := heap_alloc_new w _
theorem Box.turn {S : Nat → Prop} (h : Box w g t cs) (ht : Turn S w w') (hn : ¬ S g) : Box w' g t cs := (ht.block g h.lt hn).trans h
theorem Box.grown {row : Option Nat} (h : Box w g t cs) (hg : w.grownBy w' row) (hn : some g ≠ row) : Box w' g t cs := (hg.block g h.lt hn).trans h
theorem Box.set (h : Box w g t cs) (i : Nat) (u : Value) : Box (w.setCell ⟨g, i, none⟩ u) g t (cs.setIfInBounds i u) := by
  unfold Box at h ⊢
  simp [World.setCell, Array.getElem?_modify, h]
theorem Box.far (h : Box w g t cs) {p : Addr} (hp : g ≠ p.block) (u : Value) : Box (w.setCell p u) g t cs := (Below.heap_setCell w p u g hp).trans h
end

/-- Slice value v, at the head of a row of its own, or nil: its bytes are l. -/
def By (w : World) (v : Value) (l : List UInt8) : Prop := w.ownsRow 0 5 1 v l.length (l.map bv)

section
variable {w w' : World} {v : Value} {l : List UInt8}
theorem By.nil (w : World) : By w (.slice none 0 0) [] := World.ownsRow_nil w 0 _ 1
theorem By.lt (h : By w v l) {k : Nat} (hk : v.ownBlock = some k) : k < w.heap.size := (World.ownsRow.lt h k hk).2
theorem By.turn {S : Nat → Prop} (h : By w v l) (ht : Turn S w w') (hn : ∀ k, v.ownBlock = some k → ¬ S k) : By w' v l := by
  refine ⟨h.1, ?_⟩
  rcases h.2 with h0 | ⟨g, cap, cur, rfl, hb, hg, rest⟩
  · exact .inl h0
  · exact .inr ⟨g, cap, cur, rfl, hb, (ht.block g (Array.getElem?_eq_some_iff.1 hg).1 (hn g rfl)).trans hg, rest⟩
theorem By.alloc (h : By w v l) (o : Obj) : By (w.alloc o) v l := h.turn ((Turn.refl (fun _ => False) w).alloc o) (fun _ _ f => f)
theorem By.grown {row : Option Nat} (h : By w v l) (hg : w.grownBy w' row) (hn : v.ownBlock = none ∨ v.ownBlock ≠ row) : By w' v l := World.ownsRow.kept h hg hn
theorem By.form (h : By w v l) : (v = .slice none 0 0 ∧ l = []) ∨ ∃ g cap cur, v = .slice (some ⟨g, 0, none⟩) l.length cap ∧ Box w g 5 cur ∧ l.length ≤ cap ∧ cap ≤ maxLen ∧ cur.size = cap ∧ cur.toList.take l.length = l.map bv := by
  rcases h.2 with ⟨h0, h1⟩ | ⟨g, cap, cur, hv, _, hg, hn, hm, hs, ht⟩
  · exact .inl ⟨h0, List.eq_nil_of_length_eq_zero h1⟩
  · exact .inr ⟨g, cap, cur, hv, hg, hn, hm, by simpa using hs, by simpa using ht⟩
theorem By.ne_box (h : By w v l) {g : Nat} {t : TypeId} {cs : Array Value} (hb : Box w g t cs) (hne : 5 ≠ t) : v.ownBlock ≠ some g := by
  rcases h.form with ⟨rfl, _⟩ | ⟨g', cap, cur, rfl, hb', _⟩
  · simp [Value.ownBlock]
  · intro e
    obtain rfl : g' = g := by simpa [Value.ownBlock] using e
    have e2 := hb'.symm.trans hb
    injection e2 with e2
    injection e2 with _ e3
    exact hne e3
theorem By.len_le (h : By w v l) : l.length ≤ maxLen := by
  rcases h.form with ⟨_, rfl⟩ | ⟨g, cap, cur, _, _, h1, h2, _⟩
  · simp
  · omega
end

theorem By.cap {w : World} {A : Option Addr} {n c : Nat} {l : List UInt8} (h : By w (.slice A n c) l) : n = l.length ∧ l.length ≤ c ∧ c ≤ maxLen ∧ (A = none → l = [] ∧ c = 0) ∧ ∀ ad, A = some ad → ad.off = 0 ∧ ad.spot = none := by
  rcases h.form with ⟨e, rfl⟩ | ⟨g, cap, cur, e, _, h1, h2, _⟩
  · injection e with e1 e2 e3
    subst e1 e2 e3
    exact ⟨rfl, by simp, by simp, fun _ => ⟨rfl, rfl⟩, fun _ e => by cases e⟩
  · injection e with e1 e2 e3
    subst e1 e2 e3
    exact ⟨rfl, h1, h2, (fun e => by cases e), fun ad e => by cases e; exact ⟨rfl, rfl⟩⟩

/-- append onto a row of one's own, or nil, of whatever is appended. -/
theorem run_app {P : Program} (w : World) (t tx ty e : TypeId) (i : TypeInfo) (z : Value) (ht : P.underlying t = some (.slice e)) (hi : P.info? e = some i) (hz : i.zero = some z)
    (hzs : z.cells.size = i.size) (v : Value) (n : Nat) (xs : List Value) (hown : w.ownsRow 0 e i.size v n xs) (x : Value) (m : Nat) (news : List Value) (hs : Src P i.size tx x m news w)
    (h63 : n + m ≤ maxLen) (hbytes : (n + m) * i.bytes ≤ 140737488355328) :
    ∃ A n' c w', (Builtin.append_ #[t, tx] ty #[v, x]).run P w = .ok (.slice A n' c) w' ∧ w'.ownsRow 0 e i.size (.slice A n' c) (n + m) (xs ++ news) ∧ w.grownBy w' v.ownBlock ∧
      ((Value.slice A n' c).ownBlock = v.ownBlock ∨ (Value.slice A n' c).ownBlock = some w.heap.size) := by
  have hlen : (xs ++ news).length = (n + m) * i.size := by rw [List.length_append, hown.1, hs.newsLen, Nat.add_mul]
  have hm1 : n + m ≤ 9223372036854775807 := by simp only [maxLen] at h63; omega
  have grow : ∀ (old : Nat), old < n + m → ∀ (row : Option Nat),
      (w.drew.alloc (.cells ((xs ++ news).toArray ++ Builtin.zeroCells z.cells (grownCap w (n + m) old e - (n + m))) e)).ownsRow 0 e i.size
        (.slice (some ⟨w.heap.size, 0, none⟩) (n + m) (grownCap w (n + m) old e)) (n + m) (xs ++ news) ∧
      w.grownBy (w.drew.alloc (.cells ((xs ++ news).toArray ++ Builtin.zeroCells z.cells (grownCap w (n + m) old e - (n + m))) e)) row := by
    intro old _ row
    have hge := grownCap_ge w (n + m) old e
    refine ⟨⟨hlen, .inr ⟨w.heap.size, _, _, rfl, Nat.zero_le _, heap_alloc_new w.drew _, hge, grownCap_le_maxLen w (n + m) old e h63, ?_, ?_⟩⟩, ⟨rfl, rfl, rfl, by simp, fun k hk _ => Below.heap_alloc w.drew _ k hk⟩⟩
    · rw [Array.size_append, size_zeroCells, hzs, List.size_toArray, hlen, ← Nat.add_mul]
      congr 1
      omega
    · rw [Array.toList_append, ← hlen]
      exact List.take_left
  rcases hown.2 with ⟨rfl, rfl⟩ | ⟨g, cap, cur, rfl, hb0, hg, hnc, hcm, hcs, htake⟩
  · have hx : xs = [] := List.eq_nil_of_length_eq_zero (by simpa using hown.1)
    subst hx
    by_cases hm : m = 0
    · subst hm
      have hn : news = [] := List.eq_nil_of_length_eq_zero (by simpa using hs.newsLen)
      subst hn
      refine ⟨none, 0, 0, w, ?_, World.ownsRow_nil w 0 e i.size, ⟨rfl, rfl, rfl, Nat.le_refl _, fun _ _ _ => rfl⟩, .inl rfl⟩
      rcases hs.kind with ⟨e', hk⟩ | hk <;> simp [Builtin.append_, run_underlying ht, run_underlying hk, sizeOf, typeInfo, hi, hs.len, hs.cells]
    · have hr := run_append_grow_src (P := P) w t tx ty e i z ht hi hz none 0 0 [] (run_firstCells_none w.drew i.size 0 0 0) x m news hs (by omega) (by omega) (growslice_fits (by omega) hbytes)
      have hgr := grow 0 (by omega) (Value.ownBlock (.slice none 0 0))
      exact ⟨_, _, _, _, hr, hgr.1, hgr.2, .inr rfl⟩
  · by_cases hroom : n + m ≤ cap
    · have hfit : n * i.size + news.length ≤ cur.size := by rw [hs.newsLen, hcs, ← Nat.add_mul]; exact Nat.mul_le_mul_right _ hroom
      have hst := run_storeCells_at P g (n * i.size) e news 0 cur w hg (by simpa using hfit) hs.one
      simp only [Nat.add_zero] at hst
      have hr : (Builtin.append_ #[t, tx] ty #[.slice (some ⟨g, 0, none⟩) n cap, x]).run P w =
          .ok (.slice (some ⟨g, 0, none⟩) (n + m) cap) (w.setRow g (cur.toList.take (n * i.size) ++ news ++ cur.toList.drop (n * i.size + news.length)).toArray) := by
        rcases hs.kind with ⟨e', hk⟩ | hk <;> simp [Builtin.append_, run_underlying ht, run_underlying hk, sizeOf, typeInfo, hi, hs.len, hs.cells, hroom, Addr.add_lit, hst]
      refine ⟨_, _, _, _, hr, ⟨hlen, .inr ⟨g, cap, _, rfl, hb0, setRow_heap w g cur _ e _ hg, hroom, hcm, ?_, ?_⟩⟩, ⟨rfl, rfl, rfl, by simp, fun k _ hk => setRow_other w g k _ (fun e => hk (by simp [Value.ownBlock, e]))⟩, .inl rfl⟩
      · simp only [List.size_toArray, List.length_append, List.length_take, List.length_drop, Array.length_toList]
        omega
      · rw [htake, ← hlen]
        exact List.take_left
    · have hold : (Builtin.firstCells i.size n (.slice (some ⟨g, 0, none⟩) n cap)).run P w.drew = .ok xs.toArray w.drew :=
        run_firstCells_some (P := P) w.drew i.size n ⟨g, 0, none⟩ n cap xs hown.1 (hown.cells (g := g) rfl)
      have hr := run_append_grow_src (P := P) w t tx ty e i z ht hi hz (some ⟨g, 0, none⟩) n cap xs hold x m news hs (by omega) (by omega) (growslice_fits (by omega) hbytes)
      have hgr := grow cap (by omega) (Value.ownBlock (.slice (some ⟨g, 0, none⟩) n cap))
      exact ⟨_, _, _, _, hr, hgr.1, hgr.2, .inr rfl⟩

theorem u8_info : (Try.prog.info? 5).map (fun i => (i.zero, i.size, i.bytes)) = some (some (.int .u8 0), 1, 1) := by kernel_rfl

/-- What is appended to bytes yields the bytes l. -/
def Yields (w : World) (tx : TypeId) (x : Value) (l : List UInt8) : Prop := Src Try.prog 1 tx x l.length (l.map bv) w

theorem bv_one (l : List UInt8) : ∀ u ∈ l.map bv, u.oneCell' = true := by
  intro u hu
  obtain ⟨b, _, rfl⟩ := List.mem_map.1 hu
  rfl

theorem yields_one (w : World) (b : UInt8) (c : Int) (hc : c = (b.toNat : Int)) : Yields (w.alloc (.cells #[.int .u8 c] 5)) 34 (.slice (some ⟨w.heap.size, 0, none⟩) 1 1) [b] := by
  subst hc
  exact  Src.ofSlice (P := Try.prog) (w.alloc (.cells #[bv b] 5)) (size := 1) Try.underlying34 ⟨w.heap.size, 0, none⟩ 1 1 [bv b] rfl (cell_one_new w (bv b) 5) (by intro u hu; simp at hu; subst hu; rfl)

theorem By.yields {w : World} {v : Value} {l : List UInt8} (h : By w v l) : Yields w 34 v l := by
  rcases h.form with ⟨rfl, rfl⟩ | ⟨g, cap, cur, rfl, _⟩
  · exact Src.ofNil (P := Try.prog) w (size := 1) Try.underlying34 0
  · exact Src.ofSlice (P := Try.prog) w (size := 1) Try.underlying34 ⟨g, 0, none⟩ l.length cap (l.map bv) (by simp) (World.ownsRow.cells h (g := g) rfl) (bv_one l)

theorem yields_string (w : World) (s : ByteArray) : Yields w 9 (.string s) s.data.toList := by
  have h := Src.ofString (P := Try.prog) w (tx := 9) Try.underlying9 s
  have e : s.data.toList.length = s.size := by rw [Array.length_toList]; rfl
  unfold Yields
  rw [e]
  exact h

/-- append onto bytes of one's own: at the operation, for the walk. -/
theorem wpList_app (w : World) {ops : Array Oper} {rest : List Oper} {o : Oper} {a : Act} {Q : Exit → Act → World → Prop} (hgd : o.guard = none) (s x : Operand) (tx : TypeId)
    (ho : o.op = .call { callee := .builtin .append, args := #[s, x], argTypes := #[34, tx] }) (v : Value) (l : List UInt8) (hs : a.eval s = v) (hown : By w v l)
    (y : Value) (hx : a.eval x = y) (news : List UInt8) (hy : Yields w tx y news) (hl : l.length + news.length ≤ 1000000000)
    (h : ∀ A n c w', By w' (.slice A n c) (l ++ news) → w.grownBy w' v.ownBlock → ((Value.slice A n c).ownBlock = v.ownBlock ∨ (Value.slice A n c).ownBlock = some w.heap.size) → wpList Try.prog ops Q rest (a.put o.dst (.slice A n c)) w') :
    wpList Try.prog ops Q (o :: rest) a w := by
  refine wpList_plain hgd fun K hK => ?_
  obtain ⟨i, hi, hz, h1, h2⟩ := info_parts u8_info
  unfold By at hown
  unfold Yields at hy
  rw [← h1] at hown hy
  obtain ⟨A, n, c, w', hr, g1, g2, g3⟩ := run_app (P := Try.prog) w 34 tx o.type 5 i _ Try.underlying34 hi hz (by rw [h1]; rfl) v l.length _ hown y news.length _ hy
    (by simp only [maxLen]; omega) (by rw [h2]; omega)
  unfold Oper.wp execOp
  simp only [ho, resolve, invoke, builtin, Sem.run_bind, Sem.run_pure, Result.andThen_ok, List.map_toArray, List.map_cons, List.map_nil, hs, hx, hr]
  refine hK _ _ (h A n c w' ?_ g2 g3)
  unfold By
  rw [List.length_append, List.map_append, ← h1]
  exact g1

end Go.Proofs.Ytamcgoamkakpkaa

/-
  Lists of pairs whose keys rise, plain, in two parts about a key: what is put, dropped, the floor; trees, plain, and in memory.
-/
namespace Go.Proofs.Ytamcgoamkakpkaa
open Go.RowKit
set_option linter.unusedSectionVars false

section
variable {K V : Type} [DecidableEq K] {lt : K → K → Bool}
theorem plc_cons (p : K × V) (l : List (K × V)) (k : K) : plc lt (p :: l) k = if lt p.1 k then plc lt l k + 1 else 0 := rfl
theorem hasK_nil (k : K) : hasK lt ([] : List (K × V)) k = false := rfl
theorem hasK_cons (p : K × V) (l : List (K × V)) (k : K) : hasK lt (p :: l) k = if lt p.1 k then hasK lt l k else decide (p.1 = k) := by
  unfold hasK
  rw [plc_cons]
  by_cases h : lt p.1 k = true
  · simp only [h, if_true, List.getElem?_cons_succ]
  · simp only [h, if_false, List.getElem?_cons_zero, Bool.false_eq_true]
theorem getK_cons (p : K × V) (l : List (K × V)) (k : K) : getK lt (p :: l) k = if lt p.1 k then getK lt l k else if p.1 = k then some p.2 else none := by
  unfold getK
  rw [plc_cons]
  by_cases h : lt p.1 k = true
  · simp only [h, if_true, List.getElem?_cons_succ]
  · simp only [h, if_false, List.getElem?_cons_zero, Bool.false_eq_true]
theorem upK_cons (p : K × V) (l : List (K × V)) (k : K) : upK lt (p :: l) k = if lt p.1 k then upK lt l k + 1 else if p.1 = k then 1 else 0 := by
  unfold upK
  rw [plc_cons, hasK_cons]
  by_cases h : lt p.1 k = true
  · rw [if_pos h, if_pos h, if_pos h]
    split <;> rfl
  · rw [if_neg h, if_neg h, if_neg h]
    by_cases e : p.1 = k
    · rw [if_pos e, decide_eq_true e]; rfl
    · rw [if_neg e, decide_eq_false e]; rfl
theorem putK_nil (k : K) (v : V) : putK lt [] k v = [(k, v)] := rfl
theorem putK_cons (p : K × V) (l : List (K × V)) (k : K) (v : V) : putK lt (p :: l) k v = if lt p.1 k then p :: putK lt l k v else if p.1 = k then (k, v) :: l else (k, v) :: p :: l := by
  unfold putK
  rw [plc_cons, upK_cons]
  by_cases h : lt p.1 k = true
  · rw [if_pos h, if_pos h, if_pos h]; rfl
  · rw [if_neg h, if_neg h, if_neg h]
    by_cases e : p.1 = k
    · rw [if_pos e, if_pos e]; rfl
    · rw [if_neg e, if_neg e]; rfl
theorem dropK_nil (k : K) : dropK lt ([] : List (K × V)) k = [] := rfl
theorem dropK_cons (p : K × V) (l : List (K × V)) (k : K) : dropK lt (p :: l) k = if lt p.1 k then p :: dropK lt l k else if p.1 = k then l else p :: l := by
  unfold dropK
  rw [plc_cons, upK_cons]
  by_cases h : lt p.1 k = true
  · rw [if_pos h, if_pos h, if_pos h]; rfl
  · rw [if_neg h, if_neg h, if_neg h]
    by_cases e : p.1 = k
    · rw [if_pos e, if_pos e]; rfl
    · rw [if_neg e, if_neg e]; rfl
theorem floorK_nil (k : K) : floorK lt ([] : List (K × V)) k = none := rfl
theorem floorK_cons (p : K × V) (l : List (K × V)) (k : K) : floorK lt (p :: l) k = if lt p.1 k then some ((floorK lt l k).getD p) else if p.1 = k then some p else none := by
  unfold floorK
  rw [upK_cons]
  by_cases h : lt p.1 k = true
  · rw [if_pos h, if_pos h, if_neg (by omega), Nat.add_sub_cancel]
    by_cases e : upK lt l k = 0
    · rw [if_pos e, e]; rfl
    · rw [if_neg e]
      have hl := upK_le (lt := lt) l k
      obtain ⟨n, hn⟩ : ∃ n, upK lt l k = n + 1 := ⟨upK lt l k - 1, by omega⟩
      rw [hn, List.getElem?_cons_succ, Nat.add_sub_cancel, List.getElem?_eq_getElem (by omega)]
      rfl
  · rw [if_neg h, if_neg h]
    by_cases e : p.1 = k
    · rw [if_pos e, if_pos e]; rfl
    · rw [if_neg e, if_neg e]; rfl

/-- All keys of l are below k. -/
def Below' (lt : K → K → Bool) (l : List (K × V)) (k : K) : Prop := ∀ p ∈ l, lt p.1 k = true
theorem up_parts {L R : List (K × V)} {p : K × V} (h : Up lt (L ++ p :: R)) : Up lt L ∧ Up lt R ∧ Below' lt L p.1 := by
  obtain ⟨h1, h2, h3⟩ := up_append.1 h
  obtain ⟨_, h5⟩ := up_cons.1 h2
  refine ⟨h1, h5, fun q hq => ?_⟩
  obtain ⟨i, hi, e⟩ := List.mem_iff_getElem.1 hq
  exact h3 i 0 q p (by rw [List.getElem?_eq_getElem hi, e]) rfl
theorem Below'.tr (hr : Rises lt) {l : List (K × V)} {a b : K} (h : Below' lt l a) (hab : lt a b = true) : Below' lt l b := fun p hp => hr.tr _ _ _ (h p hp) hab
theorem not_lt_of (hr : Rises lt) {a b : K} (h : lt a b = true) : lt b a = false := by
  cases h2 : lt b a with
  | false => rfl
  | true => have := hr.tr _ _ _ h h2; rw [hr.irr] at this; cases this
theorem ne_of_lt (hr : Rises lt) {a b : K} (h : lt a b = true) : b ≠ a := fun e => by rw [e, hr.irr] at h; cases h
theorem put_left (hr : Rises lt) {p : K × V} {k : K} (h : lt k p.1 = true) (v : V) (R : List (K × V)) : ∀ L : List (K × V), putK lt (L ++ p :: R) k v = putK lt L k v ++ p :: R
  | [] => by rw [List.nil_append, putK_cons, if_neg (by rw [not_lt_of hr h]; simp), if_neg (ne_of_lt hr h)]; rfl
  | q :: L => by
    rw [List.cons_append, putK_cons, putK_cons, put_left hr h v R L]
    split
    · rfl
    · split <;> rfl
theorem put_right {p : K × V} {k : K} (h : lt p.1 k = true) (v : V) (R : List (K × V)) : ∀ L : List (K × V), Below' lt L k → putK lt (L ++ p :: R) k v = L ++ p :: putK lt R k v
  | [], _ => by rw [List.nil_append, putK_cons, if_pos h]; rfl
  | q :: L, hb => by
    rw [List.cons_append, putK_cons, if_pos (hb q (by simp)), put_right h v R L (fun x hx => hb x (by simp [hx]))]
    rfl
theorem put_same (hr : Rises lt) {p : K × V} (v : V) (R : List (K × V)) : ∀ L : List (K × V), Below' lt L p.1 → putK lt (L ++ p :: R) p.1 v = L ++ (p.1, v) :: R
  | [], _ => by rw [List.nil_append, putK_cons, if_neg (by rw [hr.irr]; simp), if_pos rfl]; rfl
  | q :: L, hb => by
    rw [List.cons_append, putK_cons, if_pos (hb q (by simp)), put_same hr v R L (fun x hx => hb x (by simp [hx]))]
    rfl
theorem drop_left (hr : Rises lt) {p : K × V} {k : K} (h : lt k p.1 = true) (R : List (K × V)) : ∀ L : List (K × V), dropK lt (L ++ p :: R) k = dropK lt L k ++ p :: R
  | [] => by rw [List.nil_append, dropK_cons, if_neg (by rw [not_lt_of hr h]; simp), if_neg (ne_of_lt hr h)]; rfl
  | q :: L => by
    rw [List.cons_append, dropK_cons, dropK_cons, drop_left hr h R L]
    split
    · rfl
    · split <;> rfl
theorem drop_right {p : K × V} {k : K} (h : lt p.1 k = true) (R : List (K × V)) : ∀ L : List (K × V), Below' lt L k → dropK lt (L ++ p :: R) k = L ++ p :: dropK lt R k
  | [], _ => by rw [List.nil_append, dropK_cons, if_pos h]; rfl
  | q :: L, hb => by
    rw [List.cons_append, dropK_cons, if_pos (hb q (by simp)), drop_right h R L (fun x hx => hb x (by simp [hx]))]
    rfl
theorem drop_same (hr : Rises lt) {p : K × V} (R : List (K × V)) : ∀ L : List (K × V), Below' lt L p.1 → dropK lt (L ++ p :: R) p.1 = L ++ R
  | [], _ => by rw [List.nil_append, dropK_cons, if_neg (by rw [hr.irr]; simp), if_pos rfl]; rfl
  | q :: L, hb => by
    rw [List.cons_append, dropK_cons, if_pos (hb q (by simp)), drop_same hr R L (fun x hx => hb x (by simp [hx]))]
    rfl
theorem drop_first (hr : Rises lt) (p : K × V) (R : List (K × V)) : dropK lt (p :: R) p.1 = R := drop_same hr R [] (fun _ h => by cases h)
/-- What a search finds: in the part l, else what was found ahead. -/
def Fl (lt : K → K → Bool) (l : List (K × V)) (k : K) (f : Option (K × V)) : Option (K × V) := match floorK lt l k with
  | some p => some p
  | none => f
theorem fl_above (hr : Rises lt) {p : K × V} {k : K} (h : lt k p.1 = true) (R : List (K × V)) : ∀ L : List (K × V), floorK lt (L ++ p :: R) k = floorK lt L k
  | [] => by rw [List.nil_append, floorK_cons, if_neg (by rw [not_lt_of hr h]; simp), if_neg (ne_of_lt hr h)]; rfl
  | q :: L => by
    rw [List.cons_append, floorK_cons, floorK_cons, fl_above hr h R L]
theorem fl_below (hr : Rises lt) {p : K × V} {k : K} (h : lt k p.1 = false) (R : List (K × V)) (hu : ∀ q ∈ R, lt p.1 q.1 = true) : ∀ L : List (K × V), Below' lt L p.1 → floorK lt (L ++ p :: R) k = some ((floorK lt R k).getD p)
  | [], _ => by
    rw [List.nil_append, floorK_cons]
    by_cases e : p.1 = k
    · rw [if_neg (by rw [e, hr.irr]; simp), if_pos e]
      cases R with
      | nil => rfl
      | cons q R =>
        have h2 := hu q (by simp)
        rw [e] at h2
        rw [floorK_cons, if_neg (by rw [not_lt_of hr h2]; simp), if_neg (ne_of_lt hr h2)]
        rfl
    · rw [if_pos (hr.tot _ _ (fun e2 => e e2.symm) h)]
  | q :: L, hb => by
    have h1 : lt q.1 k = true := by
      have h2 := hb q (by simp)
      by_cases e : p.1 = k
      · rw [← e]; exact h2
      · exact hr.tr _ _ _ h2 (hr.tot _ _ (fun e2 => e e2.symm) h)
    rw [List.cons_append, floorK_cons, if_pos h1, fl_below hr h R hu L (fun x hx => hb x (by simp [hx]))]
    rfl
theorem get_floor (hr : Rises lt) : ∀ {l : List (K × V)} (_ : Up lt l) (k : K), getK lt l k = match floorK lt l k with
    | some p => if lt p.1 k then none else some p.2
    | none => none
  | [], _, _ => rfl
  | p :: l, hu, k => by
    have ih := get_floor hr (up_cons.1 hu).2 k
    rw [getK_cons, floorK_cons, ih]
    by_cases h : lt p.1 k = true
    · rw [if_pos h, if_pos h]
      cases hf : floorK lt l k with
      | none => simp [h]
      | some q => rfl
    · rw [if_neg h, if_neg h]
      by_cases e : p.1 = k
      · rw [if_pos e, if_pos e]; simp [e, hr.irr]
      · rw [if_neg e, if_neg e]
theorem has_get (l : List (K × V)) (k : K) : hasK lt l k = (getK lt l k).isSome := by
  induction l with
  | nil => rfl
  | cons p l ih =>
    rw [hasK_cons, getK_cons, ih]
    split
    · rfl
    · by_cases e : p.1 = k
      · rw [if_pos e, decide_eq_true e]; rfl
      · rw [if_neg e, decide_eq_false e]; rfl
theorem put_size (l : List (K × V)) (k : K) (v : V) : (putK lt l k v).length = l.length + if hasK lt l k then 0 else 1 := by
  induction l with
  | nil => rfl
  | cons p l ih =>
    rw [putK_cons, hasK_cons]
    by_cases h : lt p.1 k = true
    · rw [if_pos h, if_pos h, List.length_cons, ih, List.length_cons]; omega
    · rw [if_neg h, if_neg h]
      by_cases e : p.1 = k
      · rw [if_pos e, decide_eq_true e]; rfl
      · rw [if_neg e, decide_eq_false e]; rfl
theorem drop_size (l : List (K × V)) (k : K) : (dropK lt l k).length + (if hasK lt l k then 1 else 0) = l.length := by
  induction l with
  | nil => rfl
  | cons p l ih =>
    rw [dropK_cons, hasK_cons]
    by_cases h : lt p.1 k = true
    · rw [if_pos h, if_pos h, List.length_cons, List.length_cons, ← ih]; omega
    · rw [if_neg h, if_neg h]
      by_cases e : p.1 = k
      · rw [if_pos e, decide_eq_true e]; rfl
      · rw [if_neg e, decide_eq_false e]; rfl
end

/-- A tree. -/
inductive Tr (K V : Type) where
  | nil : Tr K V
  | node (l : Tr K V) (k : K) (v : V) (r : Tr K V) : Tr K V
section
variable {K V : Type}
def Tr.flat : Tr K V → List (K × V)
  | .nil => []
  | .node l k v r => l.flat ++ (k, v) :: r.flat
def Tr.cnt : Tr K V → Nat
  | .nil => 0
  | .node l _ _ r => l.cnt + r.cnt + 1
theorem Tr.cnt_flat : ∀ t : Tr K V, t.flat.length = t.cnt
  | .nil => rfl
  | .node l k v r => by
    show (l.flat ++ (k, v) :: r.flat).length = l.cnt + r.cnt + 1
    rw [List.length_append, List.length_cons, l.cnt_flat, r.cnt_flat]
    omega
/-- The tree x lies in memory at the pointer p, its nodes of type t. -/
def TreeAt (t : TypeId) (eK : K → Value) (eV : V → Value) (w : World) : Tr K V → Value → Prop
  | .nil, p => p = .pointer none
  | .node l k v r, p => ∃ g pl pr, p = .pointer (some ⟨g, 0, none⟩) ∧ Box w g t #[eK k, eV v, pl, pr, .int .i64 ((l.cnt + r.cnt + 1 : Nat) : Int)] ∧ TreeAt t eK eV w l pl ∧ TreeAt t eK eV w r pr
theorem TreeAt.turn {t : TypeId} {eK : K → Value} {eV : V → Value} {w w' : World} {S : Nat → Prop} (ht : Turn S w w') (hS : ∀ g cs, Box w g t cs → ¬ S g) : ∀ {x : Tr K V} {p : Value}, TreeAt t eK eV w x p → TreeAt t eK eV w' x p
  | .nil, _, h => h
  | .node _ _ _ _, _, ⟨g, pl, pr, e, hb, hl, hr⟩ => ⟨g, pl, pr, e, hb.turn ht (hS _ _ hb), TreeAt.turn ht hS hl, TreeAt.turn ht hS hr⟩
theorem TreeAt.later {t : TypeId} {eK : K → Value} {eV : V → Value} {w w' : World} {x : Tr K V} {p : Value} (h : TreeAt t eK eV w x p) (ht : Turn (fun _ => False) w w') : TreeAt t eK eV w' x p := h.turn ht (fun _ _ _ f => f)
theorem TreeAt.shape {t : TypeId} {eK : K → Value} {eV : V → Value} {w : World} : ∀ {x : Tr K V} {p : Value}, TreeAt t eK eV w x p → ∃ A, p = .pointer A
  | .nil, _, h => ⟨none, h⟩
  | .node _ _ _ _, _, ⟨g, _, _, e, _⟩ => ⟨some ⟨g, 0, none⟩, e⟩
theorem TreeAt.of_none {t : TypeId} {eK : K → Value} {eV : V → Value} {w : World} {x : Tr K V} (h : TreeAt t eK eV w x (.pointer none)) : x = .nil := by
  cases x with
  | nil => rfl
  | node l k v r => obtain ⟨g, pl, pr, e, _⟩ := h; cases e
end

end Go.Proofs.Ytamcgoamkakpkaa

/-
  Texts in their order, plain.
-/
namespace Go.Proofs.Ytamcgoamkakpkaa
open Go.RowKit

theorem less_irr : ∀ a : List UInt8, Op.bytesLess a a = false
  | [] => rfl
  | x :: a => by
    show (decide (x < x) || (x == x && Op.bytesLess a a)) = false
    rw [less_irr a]
    simp
theorem less_tr : ∀ a b c : List UInt8, Op.bytesLess a b = true → Op.bytesLess b c = true → Op.bytesLess a c = true
  | [], [], _, h, _ => absurd h (by decide)
  | x :: a, [], _, h, _ => absurd (show false = true from h) (by decide)
  | _, _ :: _, [], _, g => by cases g
  | [], _ :: _, _ :: _, _, _ => rfl
  | x :: a, y :: b, z :: c, h, g => by
    have h1 : (decide (x < y) || (x == y && Op.bytesLess a b)) = true := h
    have g1 : (decide (y < z) || (y == z && Op.bytesLess b c)) = true := g
    have ih := less_tr a b c
    show (decide (x < z) || (x == z && Op.bytesLess a c)) = true
    simp only [Bool.or_eq_true, decide_eq_true_iff, Bool.and_eq_true, beq_iff_eq] at h1 g1 ⊢
    rcases h1 with h1 | ⟨e, h1⟩
    · rcases g1 with g1 | ⟨e2, g1⟩
      · left
        rw [UInt8.lt_iff_toNat_lt] at *
        omega
      · subst e2
        exact .inl h1
    · subst e
      rcases g1 with g1 | ⟨e2, g1⟩
      · exact .inl g1
      · subst e2
        exact .inr ⟨rfl, ih h1 g1⟩
theorem less_tot : ∀ a b : List UInt8, a ≠ b → Op.bytesLess a b = false → Op.bytesLess b a = true
  | [], [], h, _ => absurd rfl h
  | [], _ :: _, _, g => by cases g
  | _ :: _, [], _, _ => rfl
  | x :: a, y :: b, h, g => by
    have g : (decide (x < y) || (x == y && Op.bytesLess a b)) = false := g
    show (decide (y < x) || (y == x && Op.bytesLess b a)) = true
    simp only [Bool.or_eq_false_iff, decide_eq_false_iff_not, Bool.and_eq_false_iff, beq_eq_false_iff_ne, ne_eq, Bool.or_eq_true, decide_eq_true_iff, Bool.and_eq_true, beq_iff_eq] at *
    by_cases hxy : x = y
    · subst hxy
      refine .inr ⟨rfl, less_tot a b (fun e => h (by rw [e])) ?_⟩
      rcases g.2 with g | g
      · exact absurd rfl g
      · exact g
    · left
      have h1 : x.toNat ≠ y.toNat := fun e => hxy (UInt8.toNat_inj.1 e)
      have h2 := g.1
      rw [UInt8.lt_iff_toNat_lt] at *
      omega
theorem rises_bytes : Rises Op.bytesLess := ⟨less_irr, less_tr, less_tot⟩

end Go.Proofs.Ytamcgoamkakpkaa

/-
  Stage 15, plain: a disk's files, what calls answer, what stays behind a crash.
-/
namespace Go.Proofs.Ytamcgoamkakpkaa
open Go.RowKit

abbrev ltN : List UInt8 → List UInt8 → Bool := Op.bytesLess
/-- A file: its bytes, and how many are safe. -/
abbrev FB15 := List UInt8 × Nat
/-- A disk. -/
structure D15 where
  l : List (List UInt8 × FB15)
  left : Int
  down : Bool
def D15.new : D15 := ⟨[], 0, false⟩
def named15 (n : List UInt8) : Bool := decide (1 ≤ n.length) && decide (n.length ≤ 40)
/-- A call that counts. -/
def cnt15 (d : D15) : D15 := if d.left = 0 then d else { d with left := d.left - 1, down := decide (d.left - 1 = 0) }
def file15 (d : D15) (n : List UInt8) : FB15 := (getK ltN d.l n).getD ([], 0)
def done15 (d : D15) : Int := if d.down then 13 else 0
def app15 (d : D15) (n b : List UInt8) : D15 × Int :=
  if d.down then (d, 13) else if named15 n = false then (d, 2) else if 4194304 < (file15 d n).1.length + b.length then (d, 7)
  else (cnt15 { d with l := putK ltN d.l n ((file15 d n).1 ++ b, (file15 d n).2) }, done15 (cnt15 d))
def sync15 (d : D15) (n : List UInt8) : D15 × Int :=
  if d.down then (d, 13) else match getK ltN d.l n with
  | none => (d, 11)
  | some f => if (cnt15 d).down then (cnt15 d, 13) else ({ cnt15 d with l := putK ltN d.l n (f.1, f.1.length) }, 0)
def ren15 (d : D15) (n m : List UInt8) : D15 × Int :=
  if d.down then (d, 13) else if named15 m = false then (d, 2) else match getK ltN d.l n with
  | none => (d, 11)
  | some f => if (cnt15 d).down then (cnt15 d, 13) else ({ cnt15 d with l := putK ltN (dropK ltN d.l n) m f }, 0)
def rem15 (d : D15) (n : List UInt8) : D15 × Int :=
  if d.down then (d, 13) else if hasK ltN d.l n then if (cnt15 d).down then (cnt15 d, 13) else ({ cnt15 d with l := dropK ltN d.l n }, 0) else (d, 11)
def read15 (d : D15) (n : List UInt8) : List UInt8 × Int :=
  if d.down then ([], 13) else match getK ltN d.l n with
  | none => ([], 11)
  | some f => (f.1, 0)
def arm15 (d : D15) (n : Int) : D15 × Int := if d.down then (d, 13) else if n < 1 then (d, 2) else ({ d with left := n }, 0)
/-- How many bytes stay. -/
def stay15 (keep : Int) (f : FB15) : Nat := if 0 ≤ keep then f.2 + (keep.toNat % (f.1.length - f.2 + 1)) else f.2
def cut15 (keep : Int) (f : FB15) : FB15 := (f.1.take (stay15 keep f), stay15 keep f)
def crash15 (d : D15) (keep : Int) : D15 := ⟨d.l.map fun p => (p.1, cut15 keep p.2), 0, false⟩
def bytes15 (l : List (List UInt8 × FB15)) : Int := (l.map fun p => (p.2.1.length : Int)).sum
def loose15 (d : D15) (n : List UInt8) : Int := ((file15 d n).1.length : Int) - ((file15 d n).2 : Int)

/-- What holds of a disk. -/
structure OkD15 (d : D15) : Prop where
  up : Up ltN d.l
  files : ∀ p ∈ d.l, p.2.2 ≤ p.2.1.length ∧ p.2.1.length ≤ 4194304
  left : 0 ≤ d.left ∧ d.left ≤ 9223372036854775807

theorem put_up15 {V : Type} {l : List (List UInt8 × V)} (h : Up ltN l) (k : List UInt8) (v : V) : Up ltN (putK ltN l k v) := put_up rises_bytes h k v

end Go.Proofs.Ytamcgoamkakpkaa

/-
  Slices of elements of any size: what they hold, wherever they lie; rows of a call's own; append. No type is named here.
-/
namespace Go.Proofs.Ytamcgoamkakpkaa
open Go.RowKit

/-- How an element stands in memory: its cells. -/
structure El (T : Type) where
  sz : Nat
  enc : T → List Value
  len : ∀ t, (enc t).length = sz
  one : ∀ t, ∀ u ∈ enc t, u.oneCell' = true

section
variable {T : Type} (E : El T)
/-- All cells of elements. -/
def El.flat (l : List T) : List Value := l.flatMap E.enc
theorem El.flat_nil : E.flat [] = [] := rfl
theorem El.flat_cons (t : T) (l : List T) : E.flat (t :: l) = E.enc t ++ E.flat l := rfl
theorem El.flat_append (l m : List T) : E.flat (l ++ m) = E.flat l ++ E.flat m := List.flatMap_append
theorem El.flat_len (l : List T) : (E.flat l).length = l.length * E.sz := by
  induction l with
  | nil => simp [El.flat]
  | cons t l ih => rw [El.flat_cons, List.length_append, ih, E.len, List.length_cons, Nat.add_mul, Nat.one_mul, Nat.add_comm]
theorem El.flat_one (l : List T) : ∀ u ∈ E.flat l, u.oneCell' = true := fun u hu => by
  obtain ⟨t, _, h⟩ := List.mem_flatMap.1 hu
  exact E.one t u h
theorem El.flat_at {l : List T} {j : Nat} {t : T} (hj : l[j]? = some t) {i : Nat} (hi : i < E.sz) : (E.flat l)[j * E.sz + i]? = (E.enc t)[i]? := by
  induction l generalizing j with
  | nil => cases hj
  | cons x l ih =>
    rw [El.flat_cons]
    cases j with
    | zero =>
      cases hj
      rw [Nat.zero_mul, Nat.zero_add, List.getElem?_append_left (by rw [E.len]; exact hi)]
    | succ j =>
      rw [List.getElem?_append_right (by rw [E.len, Nat.succ_mul]; omega), E.len, show (j + 1) * E.sz + i - E.sz = j * E.sz + i by rw [Nat.succ_mul]; omega]
      exact ih hj
theorem El.flat_take (l : List T) (n : Nat) : E.flat (l.take n) = (E.flat l).take (n * E.sz) := by
  induction l generalizing n with
  | nil => simp [El.flat]
  | cons x l ih =>
    cases n with
    | zero => simp [El.flat]
    | succ n =>
      rw [List.take_succ_cons, El.flat_cons, El.flat_cons, ih, List.take_append, E.len, Nat.succ_mul, Nat.add_sub_cancel, List.take_of_length_le (l := E.enc x) (by rw [E.len]; omega)]
theorem El.flat_drop (l : List T) (n : Nat) : E.flat (l.drop n) = (E.flat l).drop (n * E.sz) := by
  induction l generalizing n with
  | nil => simp [El.flat]
  | cons x l ih =>
    cases n with
    | zero => simp [El.flat]
    | succ n =>
      rw [List.drop_succ_cons, ih, El.flat_cons, List.drop_append, E.len, Nat.succ_mul, Nat.add_sub_cancel, List.drop_of_length_le (l := E.enc x) (by rw [E.len]; omega), List.nil_append]

/-- A slice value, wherever it lies: its elements are l. -/
def RdE (w : World) (v : Value) (l : List T) : Prop :=
  ∃ A c, v = .slice A l.length c ∧ (l.length ≤ c ∧ c ≤ maxLen) ∧ (A = none → l = [] ∧ c = 0) ∧ ∀ ad, A = some ad → ∀ i u, (E.flat l)[i]? = some u → w.cell? (ad.add i) = some u
end

section
variable {T : Type} {E : El T} {w w' : World} {v : Value} {l : List T}
theorem eadd_block (a : Addr) (n : Nat) : (a.add n).block = a.block := by unfold Addr.add; split <;> rfl
theorem eadd_add (a : Addr) (i j : Nat) : (a.add i).add j = a.add (i + j) := by
  unfold Addr.add
  by_cases hi : i = 0 <;> by_cases hj : j = 0 <;> simp [hi, hj, Nat.add_assoc]
theorem RdE.nil (w : World) : RdE E w (.slice none 0 0) [] := ⟨none, 0, rfl, ⟨Nat.le_refl _, Nat.zero_le _⟩, fun _ => ⟨rfl, rfl⟩, fun _ e => by cases e⟩
theorem RdE.turn {S : Nat → Prop} (h : RdE E w v l) (ht : Turn S w w') (hs : ∀ b, v.ownBlock = some b → ¬ S b) : RdE E w' v l := by
  obtain ⟨A, c, rfl, hk, hn, hc⟩ := h
  refine ⟨A, c, rfl, hk, hn, fun ad e i u hi => ?_⟩
  have h1 := hc ad e i u hi
  have hlt := World.block_lt_of_cell? w _ h1
  rw [ht.cell hlt (by subst e; rw [eadd_block]; exact hs _ rfl)]
  exact h1
theorem RdE.later (h : RdE E w v l) (ht : Turn (fun _ => False) w w') : RdE E w' v l := h.turn ht (fun _ _ f => f)
theorem RdE.shape (h : RdE E w v l) : ∃ A c, v = .slice A l.length c := by
  obtain ⟨A, c, e, _⟩ := h
  exact ⟨A, c, e⟩
theorem RdE.cells {A : Option Addr} {n c : Nat} (h : RdE E w (.slice A n c) l) {j : Nat} {t : T} (hj : l[j]? = some t) :
    ∃ ad, A = some ad ∧ ∀ i u, (E.enc t)[i]? = some u → w.cell? (ad.add (j * E.sz + i)) = some u := by
  obtain ⟨A', c', hv, _, hn, hc⟩ := h
  injection hv with h1 h2 h3
  subst h1
  cases A with
  | none =>
    obtain ⟨rfl, _⟩ := hn rfl
    cases hj
  | some ad =>
    refine ⟨ad, rfl, fun i u hu => hc ad rfl _ u ?_⟩
    have hi : i < E.sz := by
      have := (List.getElem?_eq_some_iff.1 hu).1
      rwa [E.len] at this
    rw [E.flat_at hj hi]
    exact hu
theorem RdE.fits {A : Option Addr} {n c : Nat} (h : RdE E w (.slice A n c) l) : n = l.length ∧ l.length ≤ c ∧ c ≤ maxLen ∧ (A = none → l = [] ∧ c = 0) := by
  obtain ⟨A', c', hv, hc, hn, _⟩ := h
  injection hv with h1 h2 h3
  subst h3 h1
  exact ⟨h2, hc.1, hc.2, hn⟩
theorem RdE.front {A : Option Addr} {n c : Nat} (h : RdE E w (.slice A n c) l) (m : Nat) (hm : m ≤ n) : RdE E w (.slice A m c) (l.take m) := by
  obtain ⟨A', c', hv, hc, hn, hx⟩ := h
  injection hv with h1 h2 h3
  subst h1 h2 h3
  have e : (l.take m).length = m := by rw [List.length_take]; omega
  refine ⟨A, c, by rw [e], ⟨by omega, hc.2⟩, (fun e => by rw [(hn e).1]; exact ⟨List.take_nil, (hn e).2⟩), fun ad e2 i u hi => ?_⟩
  rw [E.flat_take, List.getElem?_take] at hi
  split at hi
  · exact hx ad e2 i u hi
  · cases hi
theorem RdE.back {ad : Addr} {n c : Nat} (h : RdE E w (.slice (some ad) n c) l) (m : Nat) (hm : m ≤ n) : RdE E w (.slice (some (ad.add (m * E.sz))) (n - m) (c - m)) (l.drop m) := by
  obtain ⟨A', c', hv, hc, hn, hx⟩ := h
  injection hv with h1 h2 h3
  subst h1 h2 h3
  refine ⟨some (ad.add (m * E.sz)), c - m, by rw [List.length_drop], ⟨by rw [List.length_drop]; omega, by omega⟩, (fun e => by cases e), fun ad' e2 i u hi => ?_⟩
  injection e2 with e2
  subst e2
  rw [E.flat_drop, List.getElem?_drop] at hi
  rw [eadd_add]
  exact hx ad rfl _ u hi
/-- Behind a slice's whole capacity: nothing, wherever it is said to lie. -/
theorem RdE.none_left (A : Option Addr) (hA : A ≠ none) (w : World) (c : Nat) (hc : c ≤ maxLen) : RdE E w (.slice A 0 c) [] :=
  ⟨A, c, rfl, ⟨Nat.zero_le _, hc⟩, (fun e => absurd e hA), fun _ _ i u hi => by simp [El.flat] at hi⟩
theorem RdE.src {P : Program} {tx e' : TypeId} (hk : P.underlying tx = some (.slice e')) (h : RdE E w v l) : Src P E.sz tx v l.length (E.flat l) w := by
  obtain ⟨A, c, rfl, hc, hn, hx⟩ := h
  cases A with
  | none =>
    obtain ⟨rfl, rfl⟩ := hn rfl
    exact Src.ofNil (P := P) w hk 0
  | some ad => exact Src.ofSlice (P := P) w hk ad l.length c _ (E.flat_len l) (fun j u hj => hx ad rfl j u hj) (E.flat_one l)

/-- Slice value v, at the head of a row of a call's own, or nil: its elements, of type e, are l. -/
def OwE (E : El T) (e : TypeId) (w : World) (v : Value) (l : List T) : Prop := w.ownsRow 0 e E.sz v l.length (E.flat l)
variable {e : TypeId}
theorem OwE.nil (w : World) : OwE E e w (.slice none 0 0) [] := World.ownsRow_nil w 0 _ _
theorem OwE.lt (h : OwE E e w v l) {k : Nat} (hk : v.ownBlock = some k) : k < w.heap.size := (World.ownsRow.lt h k hk).2
theorem OwE.turn {S : Nat → Prop} (h : OwE E e w v l) (ht : Turn S w w') (hn : ∀ k, v.ownBlock = some k → ¬ S k) : OwE E e w' v l := by
  refine ⟨h.1, ?_⟩
  rcases h.2 with h0 | ⟨g, cap, cur, rfl, hb, hg, rest⟩
  · exact .inl h0
  · exact .inr ⟨g, cap, cur, rfl, hb, (ht.block g (Array.getElem?_eq_some_iff.1 hg).1 (hn g rfl)).trans hg, rest⟩
theorem OwE.later (h : OwE E e w v l) (ht : Turn (fun _ => False) w w') : OwE E e w' v l := h.turn ht (fun _ _ f => f)
theorem OwE.form (h : OwE E e w v l) : (v = .slice none 0 0 ∧ l = []) ∨ ∃ g cap cur, v = .slice (some ⟨g, 0, none⟩) l.length cap ∧ Box w g e cur ∧ l.length ≤ cap ∧ cap ≤ maxLen ∧ cur.size = cap * E.sz ∧ cur.toList.take (l.length * E.sz) = E.flat l := by
  rcases h.2 with ⟨h0, h1⟩ | ⟨g, cap, cur, hv, _, hg, hn, hm, hs, ht⟩
  · exact .inl ⟨h0, List.eq_nil_of_length_eq_zero h1⟩
  · exact .inr ⟨g, cap, cur, hv, hg, hn, hm, hs, ht⟩
theorem own_add (g i : Nat) : (⟨g, 0, none⟩ : Addr).add i = ⟨g, i, none⟩ := by unfold Addr.add; split <;> simp_all
theorem OwE.rd (h : OwE E e w v l) : RdE E w v l := by
  rcases h.form with ⟨rfl, rfl⟩ | ⟨g, cap, cur, rfl, hb, h1, h2, h3, h4⟩
  · exact RdE.nil w
  · refine ⟨_, _, rfl, ⟨h1, h2⟩, (fun e => by cases e), fun ad e i u hi => ?_⟩
    cases e
    rw [own_add, hb.cell]
    rw [← h4, List.getElem?_take] at hi
    split at hi
    · simpa using hi
    · cases hi
theorem OwE.shape (h : OwE E e w v l) : ∃ A c, v = .slice A l.length c := h.rd.shape
theorem OwE.not_box {g : Nat} {t : TypeId} {cs : Array Value} (h : OwE E e w v l) (hb : Box w g t cs) (hne : e ≠ t) : v.ownBlock ≠ some g := by
  rcases h.form with ⟨rfl, _⟩ | ⟨g', cap, cur, rfl, hb', _⟩
  · simp [Value.ownBlock]
  · intro e1
    obtain rfl : g' = g := by simpa [Value.ownBlock] using e1
    have e2 := hb'.symm.trans hb
    injection e2 with e2
    injection e2 with _ e3
    exact hne e3
/-- A block that was just laid out whole. -/
theorem OwE.made (w : World) (l : List T) (hm : l.length ≤ maxLen) : OwE E e (w.alloc (.cells (E.flat l).toArray e)) (.slice (some ⟨w.heap.size, 0, none⟩) l.length l.length) l :=
  ⟨E.flat_len l, .inr ⟨w.heap.size, l.length, _, rfl, Nat.zero_le _, heap_alloc_new w _, Nat.le_refl _, hm, by rw [List.size_toArray, E.flat_len], by rw [List.take_of_length_le (by simp [E.flat_len])]⟩⟩
end

/-- append onto a row of one's own: at the operation, for the walk. -/
theorem wpList_appE {P : Program} {T : Type} {E : El T} {tS e : TypeId} {z : Value} {by' : Nat} (ht : P.underlying tS = some (.slice e)) (hi0 : (P.info? e).map (fun i => (i.zero, i.size, i.bytes)) = some (some z, E.sz, by')) (hz : z.cells.size = E.sz)
    (w : World) {ops : Array Oper} {rest : List Oper} {o : Oper} {a : Act} {Q : Exit → Act → World → Prop} (hgd : o.guard = none) (s x : Operand) (tx : TypeId)
    (ho : o.op = .call { callee := .builtin .append, args := #[s, x], argTypes := #[tS, tx] }) (v : Value) (l : List T) (hs : a.eval s = v) (hown : OwE E e w v l)
    (y : Value) (hx : a.eval x = y) (m : List T) (hy : Src P E.sz tx y m.length (E.flat m) w) (hl : l.length + m.length ≤ maxLen) (hb : (l.length + m.length) * by' ≤ 140737488355328)
    (h : ∀ A n c w', OwE E e w' (.slice A n c) (l ++ m) → Turn (fun k => v.ownBlock = some k) w w' → ((Value.slice A n c).ownBlock = v.ownBlock ∨ (Value.slice A n c).ownBlock = some w.heap.size) → wpList P ops Q rest (a.put o.dst (.slice A n c)) w') :
    wpList P ops Q (o :: rest) a w := by
  refine wpList_plain hgd fun K hK => ?_
  obtain ⟨i, hi, hz0, h1, h2⟩ := info_parts hi0
  unfold OwE at hown
  rw [← h1] at hown hy
  obtain ⟨A, n, c, w', hr, g1, g2, g3⟩ := run_app (P := P) w tS tx o.type e i z ht hi hz0 (by rw [h1]; exact hz) v l.length _ hown y m.length _ hy hl (by rw [h2]; exact hb)
  unfold Oper.wp execOp
  simp only [ho, resolve, invoke, builtin, Sem.run_bind, Sem.run_pure, Result.andThen_ok, List.map_toArray, List.map_cons, List.map_nil, hs, hx, hr]
  refine hK _ _ (h A n c w' ?_ ((Turn.refl _ w).grown g2 (fun k _ e => e)) g3)
  unfold OwE
  rw [List.length_append, E.flat_append, ← h1]
  exact g1

/-- The same as one step of a region that draws. -/
theorem step_appE {P : Program} {T : Type} {E : El T} {tS e : TypeId} {z : Value} {by' : Nat} (ht : P.underlying tS = some (.slice e)) (hi0 : (P.info? e).map (fun i => (i.zero, i.size, i.bytes)) = some (some z, E.sz, by')) (hz : z.cells.size = E.sz)
    (w : World) {ops : Array Oper} {o : Oper} {a : Act} {K : Act → World → Prop} {Q : Exit → Act → World → Prop} {F : Prop} (hgd : o.guard = none) (s x : Operand) (tx : TypeId)
    (ho : o.op = .call { callee := .builtin .append, args := #[s, x], argTypes := #[tS, tx] }) (v : Value) (l : List T) (hs : a.eval s = v) (hown : OwE E e w v l)
    (y : Value) (hx : a.eval x = y) (m : List T) (hy : Src P E.sz tx y m.length (E.flat m) w) (hl : l.length + m.length ≤ maxLen) (hb : (l.length + m.length) * by' ≤ 140737488355328)
    (h : ∀ A n c w', OwE E e w' (.slice A n c) (l ++ m) → Turn (fun k => v.ownBlock = some k) w w' → ((Value.slice A n c).ownBlock = v.ownBlock ∨ (Value.slice A n c).ownBlock = some w.heap.size) → K (a.put o.dst (.slice A n c)) w') :
    if Region.wanted o (yielded ops a.tmps) = true then Oper.wp P o a w K Q else F := by
  have hw : Region.wanted o (yielded ops a.tmps) = true := by simp [Region.wanted, hgd]
  rw [if_pos hw]
  obtain ⟨i, hi, hz0, h1, h2⟩ := info_parts hi0
  unfold OwE at hown
  rw [← h1] at hown hy
  obtain ⟨A, n, c, w', hr, g1, g2, g3⟩ := run_app (P := P) w tS tx o.type e i z ht hi hz0 (by rw [h1]; exact hz) v l.length _ hown y m.length _ hy hl (by rw [h2]; exact hb)
  unfold Oper.wp execOp
  simp only [ho, resolve, invoke, builtin, Sem.run_bind, Sem.run_pure, Result.andThen_ok, List.map_toArray, List.map_cons, List.map_nil, hs, hx, hr]
  refine h A n c w' ?_ ((Turn.refl _ w).grown g2 (fun k _ e => e)) g3
  unfold OwE
  rw [List.length_append, E.flat_append, ← h1]
  exact g1

end Go.Proofs.Ytamcgoamkakpkaa

/-
  Bytes: a slice that reads as bytes, wherever it lies; bytes that a call made. No function is named here.
-/
namespace Go.Proofs.Ytamcgoamkakpkaa
open Go.RowKit

theorem ret_int {k : IntKind} {a b : Int} (h : a = b) : Ending.returned (.int k a) = .returned (.int k b) := by rw [h]
theorem ret_bool {a b : Bool} (h : a = b) : Ending.returned (.bool a) = .returned (.bool b) := by rw [h]

theorem By.empty (w : World) : By (w.alloc (.cells #[] 5)) (.slice (some ⟨w.heap.size, 0, none⟩) 0 0) [] :=
  World.ownsRow_made w #[] 0 (Nat.zero_le _) (by simp [maxLen]) rfl

/-- A slice value, wherever it lies: its bytes are l. -/
def Rd (w : World) (v : Value) (l : List UInt8) : Prop :=
  ∃ A c, v = .slice A l.length c ∧ (l.length ≤ c ∧ c ≤ maxLen) ∧ (A = none → l = [] ∧ c = 0) ∧ ∀ ad, A = some ad → ∀ j b, l[j]? = some b → w.cell? (ad.add j) = some (bv b)

theorem add_block (a : Addr) (n : Nat) : (a.add n).block = a.block := by unfold Addr.add; split <;> rfl

section
variable {w w' : World} {v : Value} {l : List UInt8}
theorem By.rd (h : By w v l) : Rd w v l := by
  rcases h.form with ⟨rfl, rfl⟩ | ⟨g, cap, cur, rfl, hb, h1, h2, _, ht⟩
  · exact ⟨none, 0, rfl, ⟨Nat.le_refl _, Nat.zero_le _⟩, fun _ => ⟨rfl, rfl⟩, fun _ e => by cases e⟩
  · refine ⟨_, _, rfl, ⟨h1, h2⟩, (fun e => by cases e), fun ad e j b hj => ?_⟩
    cases e
    have := World.ownsRow.cells h (g := g) rfl j (bv b) (by simp [hj])
    exact this
theorem Rd.yields (h : Rd w v l) : Yields w 34 v l := by
  obtain ⟨A, c, rfl, hk, hn, hc⟩ := h
  cases A with
  | none =>
    obtain ⟨rfl, rfl⟩ := hn rfl
    exact Src.ofNil (P := Try.prog) w (size := 1) Try.underlying34 0
  | some ad =>
    refine Src.ofSlice (P := Try.prog) w (size := 1) Try.underlying34 ad l.length c (l.map bv) (by simp) ?_ (bv_one l)
    intro j u hu
    rw [List.getElem?_map] at hu
    cases hb : l[j]? with
    | none => rw [hb] at hu; cases hu
    | some b =>
      rw [hb] at hu
      cases hu
      exact hc ad rfl j b hb
theorem Rd.turn {S : Nat → Prop} (h : Rd w v l) (ht : Turn S w w') (hs : ∀ k, v.ownBlock = some k → ¬ S k) : Rd w' v l := by
  obtain ⟨A, c, rfl, hk, hn, hc⟩ := h
  refine ⟨A, c, rfl, hk, hn, fun ad e j b hj => ?_⟩
  have h1 := hc ad e j b hj
  have hlt := World.block_lt_of_cell? w _ h1
  rw [ht.cell hlt (by subst e; rw [add_block]; exact hs _ rfl)]
  exact h1
theorem Rd.later (h : Rd w v l) (ht : Turn (fun _ => False) w w') : Rd w' v l := h.turn ht (fun _ _ f => f)
theorem Rd.at {A : Option Addr} {n c : Nat} (h : Rd w (.slice A n c) l) {k : Nat} {b : UInt8} (hk : l[k]? = some b) : ∃ ad, A = some ad ∧ w.cell? (ad.add k) = some (.int .u8 (b.toNat : Int)) := by
  obtain ⟨A', c', hv, _, hn, hc⟩ := h
  injection hv with h1 h2 h3
  subst h1
  cases A with
  | none =>
    obtain ⟨rfl, _⟩ := hn rfl
    cases hk
  | some ad => exact ⟨ad, rfl, hc ad rfl k b hk⟩
end

section
variable {w : World} {ad : Addr} {n c : Nat} {l : List UInt8}
theorem add_of_add (a : Addr) (i j : Nat) : (a.add i).add j = a.add (i + j) := by
  unfold Addr.add
  by_cases hi : i = 0 <;> by_cases hj : j = 0 <;> simp [hi, hj, Nat.add_assoc]
theorem Rd.front {A : Option Addr} (h : Rd w (.slice A n c) l) (k : Nat) (hk : k ≤ n) : Rd w (.slice A k c) (l.take k) := by
  obtain ⟨A', c', hv, hc, hn, hx⟩ := h
  injection hv with h1 h2 h3
  subst h1 h2 h3
  have e : (l.take k).length = k := by rw [List.length_take]; omega
  refine ⟨A, c, by rw [e], ⟨by omega, hc.2⟩, (fun e => by rw [(hn e).1]; exact ⟨List.take_nil, (hn e).2⟩), fun ad e2 j b hj => ?_⟩
  rw [List.getElem?_take] at hj
  split at hj
  · exact hx ad e2 j b hj
  · cases hj
theorem Rd.back (h : Rd w (.slice (some ad) n c) l) (k : Nat) (hk : k ≤ n) : Rd w (.slice (some (ad.add k)) (n - k) (c - k)) (l.drop k) := by
  obtain ⟨A', c', hv, hc, hn, hx⟩ := h
  injection hv with h1 h2 h3
  subst h1 h2 h3
  refine ⟨some (ad.add k), c - k, by rw [List.length_drop], ⟨by rw [List.length_drop]; omega, by omega⟩, (fun e => by cases e), fun ad' e2 j b hj => ?_⟩
  injection e2 with e2
  subst e2
  rw [List.getElem?_drop] at hj
  rw [add_of_add]
  exact hx ad rfl _ b hj
theorem Rd.some_at {A : Option Addr} (h : Rd w (.slice A n c) l) (h0 : 0 < l.length) : ∃ ad, A = some ad := by
  obtain ⟨b, hb⟩ : ∃ b, l[0]? = some b := ⟨_, List.getElem?_eq_getElem h0⟩
  obtain ⟨ad, e, _⟩ := h.at hb
  exact ⟨ad, e⟩
theorem Rd.fits {A : Option Addr} (h : Rd w (.slice A n c) l) : n = l.length ∧ l.length ≤ c ∧ c ≤ maxLen := by
  obtain ⟨A', c', hv, hc, _⟩ := h
  injection hv with h1 h2 h3
  subst h3
  exact ⟨h2, hc⟩
end

/-- A slice as a string. -/
theorem Rd.string {w : World} {v : Value} {l : List UInt8} (h : Rd w v l) : (convert 34 9 v).run Try.prog w = .ok (.string ⟨l.toArray⟩) w := by
  obtain ⟨A, c, rfl, hk, hn, hc⟩ := h
  cases A with
  | none =>
    obtain ⟨rfl, rfl⟩ := hn rfl
    exact run_convert_bytes_nil (P := Try.prog) w 34 5 Try.underlying34 Try.underlying5 0 0 _ Try.underlying9
  | some ad =>
    exact run_convert_bytes_back (P := Try.prog) w 34 9 5 ad c l Try.underlying34 Try.underlying5 Try.underlying9
      (fun j hj => hc ad rfl j _ (List.getElem?_eq_getElem hj))

section
open Go.ChangeShapes Go.WideShapes Go.Deep
theorem open_bytes {H : Type} {enc : TypeId × Value → H} {W : World} {v : Value} {d : DataW H} {p : List MemPlace} {a : Option Addr} {len cap : Nat} (hv : v = .slice a len cap)
    (h : DataW.Trod enc Try.prog W 0 (fun _ => true) true 34 v d p) : ∃ l, Rd W v l ∧ l.length ≤ maxLen := by
  subst hv
  obtain ⟨fuel, hf⟩ := h
  rcases open_slice Try.underlying34 hf with ⟨hcs, _⟩ | ⟨a', len', cap', m, n, D, Pl, hcs, _, hl, hm, hmm, _, hx⟩
  · simp [Value.cells] at hcs
    obtain ⟨rfl, rfl, rfl⟩ := hcs
    exact ⟨[], ⟨none, 0, rfl, ⟨Nat.le_refl _, Nat.zero_le _⟩, fun _ => ⟨rfl, rfl⟩, fun _ e => by cases e⟩, Nat.zero_le _⟩
  · simp [Value.cells] at hcs
    obtain ⟨rfl, rfl, rfl⟩ := hcs
    have hC : Try.prog.cellsOf 5 = 1 := by kernel_rfl
    have hmm' : m = cap := by simpa using hmm
    subst hmm'
    have key : ∀ i, i < len → ∃ b : UInt8, W.cell? (a'.add i) = some (bv b) := by
      intro i hi
      obtain ⟨cs, h1, h2⟩ := hx i (by omega)
      rw [hC] at h1
      obtain ⟨_, hlen, hcell⟩ := World.cells?_some h1
      match cs, hlen with
      | [c0], _ =>
        obtain ⟨K, k0, _, kw⟩ := DataW.trod_int Try.underlying5 h2
        simp only [List.cons.injEq, and_true] at k0
        subst k0
        have hK : 0 ≤ K ∧ K ≤ 255 := by simpa [Lit.wf, IntKind.min, IntKind.max, IntKind.signed, IntKind.bits] using kw
        have hc := hcell 0 (by omega)
        simp only [Go.Deep.add_add] at hc
        refine ⟨UInt8.ofNat K.toNat, ?_⟩
        have e : bv (UInt8.ofNat K.toNat) = .int .u8 K := by
          unfold bv
          rw [UInt8.toNat_ofNat', Nat.mod_eq_of_lt (by omega), Int.toNat_of_nonneg hK.1]
        rw [e]
        have e2 : i * 1 + 0 = i := by omega
        simpa [e2] using hc
    obtain ⟨V, hV⟩ := choose_lt key
    have hll : ((List.range len).map V).length = len := by simp
    refine ⟨(List.range len).map V, ⟨some a', m, by rw [hll], ⟨by rw [hll]; omega, by omega⟩, (fun e => by cases e), fun ad e j b hj => ?_⟩, by rw [hll]; omega⟩
    cases e
    have hjl : j < len := by
      have := (List.getElem?_eq_some_iff.1 hj).1
      simpa using this
    have hb : b = V j := by
      rw [List.getElem?_map, List.getElem?_range hjl] at hj
      exact (Option.some.inj hj).symm
    rw [hb]
    exact hV j hjl
end

theorem By.made (w : World) (l : List UInt8) (hl : l.length ≤ maxLen) : By (w.alloc (.cells (l.map bv).toArray 5)) (.slice (some ⟨w.heap.size, 0, none⟩) l.length l.length) l := by
  refine ⟨by simp, .inr ⟨w.heap.size, l.length, (l.map bv).toArray, rfl, Nat.zero_le _, heap_alloc_new w _, Nat.le_refl _, hl, by simp, by simp; exact List.take_of_length_le (by simp)⟩⟩

/-- Behind a call that makes bytes of its own. -/
def Made (w w' : World) (v : Value) (l : List UInt8) : Prop := By w' v l ∧ Turn (fun _ => False) w w' ∧ ∀ k, v.ownBlock = some k → w.heap.size ≤ k

theorem Below.turned {w w' : World} (h : Below w.heap.size w w') : Turn (fun _ => False) w w' := ⟨h.os, h.tape, h.output, h.size, fun k hk _ => h.block k hk⟩

/-- A row of bytes l, with room for n more, of which k are put. -/
def room (l m : List UInt8) (k : Nat) : Array Value := ((l ++ (m.take k ++ List.replicate (m.length - k) 0)).map bv).toArray

theorem room_set (l m : List UInt8) (k : Nat) (x : UInt8) (hx : m[k]? = some x) : (room l m k).setIfInBounds (l.length + k) (.int .u8 (x.toNat : Int)) = room l m (k + 1) := by
  obtain ⟨hk, e⟩ := List.getElem?_eq_some_iff.1 hx
  have e1 : m.length - k = (m.length - (k + 1)) + 1 := by omega
  have e2 : m.take (k + 1) ++ List.replicate (m.length - (k + 1)) 0 = (m.take k ++ List.replicate (m.length - k) 0).set k x := by
    rw [List.take_succ_eq_append_getElem hk, e, e1, List.replicate_succ, List.set_append_right _ _ (by rw [List.length_take]; omega), List.length_take, Nat.min_eq_left (by omega), Nat.sub_self, List.set_cons_zero, List.append_assoc]
    rfl
  unfold room
  rw [e2]
  have e3 : (l ++ (m.take k ++ List.replicate (m.length - k) 0)).set (l.length + k) x = l ++ (m.take k ++ List.replicate (m.length - k) 0).set k x := by
    rw [List.set_append_right _ _ (by omega), Nat.add_sub_cancel_left]
  rw [← e3, List.map_set, List.setIfInBounds_toArray]
  rfl
theorem room_at (l m : List UInt8) (k : Nat) (h : k < m.length) : (room l m k)[l.length + k]? = some (.int .u8 0) := by
  unfold room
  rw [List.getElem?_toArray, List.getElem?_map, List.getElem?_append_right (by omega), Nat.add_sub_cancel_left, List.getElem?_append_right (by rw [List.length_take]; omega), List.length_take, Nat.min_eq_left (by omega), Nat.sub_self,
    List.getElem?_replicate, if_pos (by omega)]
  rfl
theorem room_zero (l m : List UInt8) : (splice (madeCells #[.int .u8 0] (l.length + m.length)).toList 0 (l.map bv)).toArray = room l m 0 := by
  unfold splice room
  rw [toList_madeCells_one]
  simp [bv]
theorem room_all (l m : List UInt8) : room l m m.length = ((l ++ m).map bv).toArray := by
  unfold room
  simp
theorem Box.by {w : World} {g : Nat} {l : List UInt8} (h : Box w g 5 (l.map bv).toArray) (hl : l.length ≤ maxLen) : By w (.slice (some ⟨g, 0, none⟩) l.length l.length) l :=
  ⟨by simp, .inr ⟨g, l.length, (l.map bv).toArray, rfl, Nat.zero_le _, h, Nat.le_refl _, hl, by simp, by simp; exact List.take_of_length_le (by simp)⟩⟩

theorem u8_size : (Try.prog.info? 5).map (·.size) = some 1 := by kernel_rfl

theorem copy_src {w : World} {A : Option Addr} {n c : Nat} {l : List UInt8} {X : List Value} {B : Obj} (h : Rd w (.slice A n c) l) (hX : X = l.map bv) (h0 : 0 < l.length) :
    ∃ ad, A = some ad ∧ ∀ j v, X[j]? = some v → (w.alloc B).cell? (ad.add j) = some v := by
  obtain ⟨A', c', hv, _, hn, hc⟩ := h
  injection hv with h1 h2 h3
  subst h1
  cases A with
  | none =>
    obtain ⟨rfl, _⟩ := hn rfl
    exact absurd h0 (by simp)
  | some ad =>
    refine ⟨ad, rfl, fun j v hj => ?_⟩
    rw [hX, List.getElem?_map] at hj
    cases hb : l[j]? with
    | none => rw [hb] at hj; cases hj
    | some b =>
      rw [hb] at hj
      cases hj
      have h1 := hc ad rfl j b hb
      rw [World.cell?_alloc_lt w B _ (World.block_lt_of_cell? w _ h1)]
      exact h1

theorem Made.rd {w w' : World} {v : Value} {l : List UInt8} (h : Made w w' v l) : Rd w' v l := h.1.rd

theorem made_app {w w1 w2 w3 : World} {A A' : Option Addr} {n c n' c' B : Nat} {l m : List UInt8} (h : Made w w1 (.slice A n c) l) (ht : Turn (fun _ => False) w1 w2) (hb : By w3 (.slice A' n' c') m)
    (hg : w2.grownBy w3 (Value.slice A n c).ownBlock) (ha : (Value.slice A' n' c').ownBlock = (Value.slice A n c).ownBlock ∨ (Value.slice A' n' c').ownBlock = some B) (hB : w2.heap.size = B) : Made w w3 (.slice A' n' c') m := by
  have h1 : Turn (fun _ => False) w w2 := h.2.1.trans ht (fun _ _ f => f)
  refine ⟨hb, h1.grown hg (fun k hk e => ?_), fun k hk => ?_⟩
  · have := h.2.2 k e
    omega
  · rcases ha with e | e
    · exact h.2.2 k (by rw [← e]; exact hk)
    · rw [e] at hk
      have := h1.size
      injection hk with hk
      omega
theorem By.shape {w : World} {v : Value} {l : List UInt8} (h : By w v l) : ∃ A c, v = .slice A l.length c := by
  rcases h.form with ⟨rfl, rfl⟩ | ⟨g, cap, cur, rfl, _⟩
  · exact ⟨_, _, rfl⟩
  · exact ⟨_, _, rfl⟩
theorem made_empty (w : World) : Made w (w.alloc (.cells #[] 5)) (.slice (some ⟨w.heap.size, 0, none⟩) 0 0) [] :=
  ⟨By.empty w, (Turn.refl _ w).alloc _, fun k hk => by
    have : w.heap.size = k := by simpa [Value.ownBlock] using hk
    omega⟩

theorem Rd.none (w : World) : Rd w (.slice none 0 0) [] := (By.nil w).rd
theorem Rd.drewN {w : World} {v : Value} {l : List UInt8} (h : Rd w v l) (k : Nat) : Rd (w.drewN k) v l := h.later ((Turn.refl _ w).drewN k)
theorem Rd.drew {w : World} {v : Value} {l : List UInt8} (h : Rd w v l) : Rd w.drew v l := h.later (Turn.refl _ w).drew
theorem quiet_left {P : Program} {f : FuncId} {args : Array Value} {w : World} {n : Nat} {v : Value}
    (h : Calls P f args (w.drewN n) fun e w' => e = .returned v ∧ w.drewN n = w') : Calls P f args (w.drewN n) fun e w'' => e = .returned v ∧ ∃ m, w'' = w.drewN m :=
  h.mono fun _ _ ⟨he, hm⟩ => ⟨he, n, hm.symm⟩

theorem splice_full {M X : List Value} (h : M.length = X.length) : splice M 0 X = X := by
  unfold splice
  rw [List.take_zero, List.nil_append, Nat.zero_add, ← h, List.drop_length, List.append_nil]

theorem Rd.shape {w : World} {v : Value} {l : List UInt8} (h : Rd w v l) : ∃ A c, v = .slice A l.length c := by
  obtain ⟨A, c, e, _⟩ := h
  exact ⟨A, c, e⟩
/-- A call that turns only what is new since w. -/
theorem Turn.fresh {S : Nat → Prop} {w w1 w2 : World} (h : Turn (fun _ => False) w w1) (g : Turn S w1 w2) (hs : ∀ k, S k → w.heap.size ≤ k) : Turn (fun _ => False) w w2 :=
  h.trans g (fun k hk s => by have := hs k s; omega)

theorem By.set {w : World} {g n c : Nat} {l : List UInt8} (h : By w (.slice (some ⟨g, 0, none⟩) n c) l) (i : Nat) (y : UInt8) : By (w.setCell ⟨g, i, none⟩ (bv y)) (.slice (some ⟨g, 0, none⟩) n c) (l.set i y) := by
  rcases h.form with ⟨e, _⟩ | ⟨g', cap, cur, e, hb, h1, h2, h3, h4⟩
  · cases e
  · injection e with e1 e2 e3
    injection e1 with e1
    injection e1 with e1
    subst e1 e2 e3
    refine ⟨by simp, .inr ⟨g, c, cur.setIfInBounds i (bv y), by rw [List.length_set], Nat.zero_le _, hb.set i (bv y), by rw [List.length_set]; exact h1, h2, by simpa using h3, ?_⟩⟩
    rw [List.length_set, Nat.mul_one, Array.toList_setIfInBounds, List.take_set, h4, List.map_set]
theorem By.cells {w : World} {g n c : Nat} {l : List UInt8} (h : By w (.slice (some ⟨g, 0, none⟩) n c) l) {i : Nat} {x : UInt8} (hx : l[i]? = some x) : w.cell? ⟨g, i, none⟩ = some (.int .u8 (x.toNat : Int)) := by
  obtain ⟨ad, e, hc⟩ := h.rd.at hx
  cases e
  have e1 : (⟨g, 0, none⟩ : Addr).add i = ⟨g, i, none⟩ := by unfold Addr.add; split <;> simp_all
  rw [e1] at hc
  exact hc
theorem By.free {w : World} {g n c : Nat} {l : List UInt8} (h : By w (.slice (some ⟨g, 0, none⟩) n c) l) (i : Nat) : w.frozen? ⟨g, i, none⟩ = false := by
  rcases h.form with ⟨e, _⟩ | ⟨g', cap, cur, e, hb, _⟩
  · cases e
  · injection e with e1 e2 e3
    injection e1 with e1
    injection e1 with e1
    subst e1
    exact hb.free i
theorem By.block {w : World} {A : Option Addr} {n c : Nat} {l : List UInt8} (h : By w (.slice A n c) l) (h0 : 0 < l.length) : ∃ g, A = some ⟨g, 0, none⟩ := by
  rcases h.form with ⟨_, rfl⟩ | ⟨g', cap, cur, e, _⟩
  · cases h0
  · injection e with e1
    exact ⟨g', e1⟩

end Go.Proofs.Ytamcgoamkakpkaa

/-
  Rows of elements of any size, new since a world; tails of slices of any size. No type is named here.
-/
namespace Go.Proofs.Ytamcgoamkakpkaa
open Go.RowKit

section
variable {T : Type} {E : El T} {e : TypeId}
/-- The tail of a slice from place U on, in whatever shape it is cut. -/
def TailE (E : El T) (A : Option Addr) (n c U : Nat) (v : Value) : Prop :=
  (A = none ∧ v = .slice none 0 0) ∨ (∃ ad, A = some ad ∧ ¬ c ≤ U ∧ v = .slice (some (ad.add (U * E.sz))) (n - U) (c - U)) ∨ (∃ ad, A = some ad ∧ c ≤ U ∧ v = .slice (some ad) (n - U) 0)
theorem tailE_rd {w : World} {A : Option Addr} {c U : Nat} {L : List T} (h : RdE E w (.slice A L.length c) L) (hU : U ≤ L.length) (w' : World) (ht : Turn (fun _ => False) w w') {v : Value}
    (hv : TailE E A L.length c U v) : RdE E w' v (L.drop U) := by
  have hf := h.fits
  rcases hv with ⟨rfl, rfl⟩ | ⟨ad, rfl, _, rfl⟩ | ⟨ad, rfl, hc, rfl⟩
  · rw [(hf.2.2.2 rfl).1, List.drop_nil]
    exact RdE.nil w'
  · exact (h.back U hU).later ht
  · have e : L.drop U = [] := List.eq_nil_of_length_eq_zero (by rw [List.length_drop]; omega)
    rw [e, show L.length - U = 0 by omega]
    exact RdE.none_left _ (by simp) w' 0 (Nat.zero_le _)
theorem frontE_rd {w : World} {A : Option Addr} {c P : Nat} {L : List T} (h : RdE E w (.slice A L.length c) L) (hP : P ≤ L.length) (w' : World) (ht : Turn (fun _ => False) w w') :
    RdE E w' (.slice A P c) (L.take P) := (h.front P hP).later ht
/-- A row of a call's own, new since w. -/
structure NewE (E : El T) (e : TypeId) (w w' : World) (v : Value) (L : List T) : Prop where
  own : OwE E e w' v L
  new : ∀ k, v.ownBlock = some k → w.heap.size ≤ k
  turn : Turn (fun _ => False) w w'
theorem NewE.start (w : World) (n : Nat) : NewE E e w (w.drewN n) (.slice none 0 0) [] := ⟨OwE.nil _, (fun k e => by simp [Value.ownBlock] at e), (Turn.refl _ w).drewN n⟩
theorem NewE.empty (w w0 : World) (h : Turn (fun _ => False) w w0) : NewE E e w (w0.alloc (.cells #[] e)) (.slice (some ⟨w0.heap.size, 0, none⟩) 0 0) [] :=
  ⟨OwE.made (E := E) w0 [] (Nat.zero_le _), (fun k e => Nat.le_trans h.size (Nat.le_of_eq (by simpa [Value.ownBlock] using e))), h.alloc _⟩
theorem NewE.step {w w1 w2 : World} {v v2 : Value} {L M : List T} (h : NewE E e w w1 v L) (ho : OwE E e w2 v2 M) (ht : Turn (fun k => v.ownBlock = some k) w1 w2) (hn : v2.ownBlock = v.ownBlock ∨ v2.ownBlock = some w1.heap.size) : NewE E e w w2 v2 M := by
  refine ⟨ho, fun k hk => ?_, h.turn.trans ht (fun k hk e => ?_)⟩
  · rcases hn with e | e
    · exact h.new k (by rw [← e]; exact hk)
    · rw [hk] at e
      cases e
      exact h.turn.size
  · have := h.new k e
    omega
theorem NewE.alloc {w w1 : World} {v : Value} {L : List T} (h : NewE E e w w1 v L) (o : Obj) : NewE E e w (w1.alloc o) v L :=
  ⟨h.own.later ((Turn.refl _ w1).alloc o), h.new, h.turn.alloc o⟩
theorem NewE.later {w w1 w2 : World} {v : Value} {L : List T} (h : NewE E e w w1 v L) (ht : Turn (fun _ => False) w1 w2) : NewE E e w w2 v L :=
  ⟨h.own.later ht, h.new, h.turn.trans ht (fun _ _ f => f)⟩
end

end Go.Proofs.Ytamcgoamkakpkaa
