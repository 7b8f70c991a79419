/-
  Texts laid one behind the other: Za Ga Ea Eg Er Gf Zb Zc.
-/
import Derived.Test.YtgbphkbbedkepaaGreatJocaa
import Derived.WalkMore
import Derived.OwnWalk
import Derived.Deep.RegionHeld3
import Derived.Deep.MidRow
import Derived.ProofKit
import Derived.OpenShut
import Derived.Deep.Slices
import Derived.Deep.Fields
import Derived.Deep.Strs
import Derived.BigQuiet
import Derived.Laws.ResultCell

/-
  Stage 9, plain: keys and facts, their order, what is right.
-/
namespace Go.Proofs.YtgbphkbbedkepaaGreat
open Go.RowKit

/-- Two orders, one behind the other. -/
def lexB {A B : Type} [DecidableEq A] (f : A → A → Bool) (g : B → B → Bool) (p q : A × B) : Bool := f p.1 q.1 || (decide (p.1 = q.1) && g p.2 q.2)
theorem rises_lex {A B : Type} [DecidableEq A] {f : A → A → Bool} {g : B → B → Bool} (hf : Rises f) (hg : Rises g) : Rises (lexB f g) := by
  obtain ⟨f1, f2, f3⟩ := hf
  obtain ⟨g1, g2, g3⟩ := hg
  refine ⟨fun p => ?_, fun p q r h k => ?_, fun p q h k => ?_⟩
  · simp [lexB, f1, g1]
  · simp only [lexB, Bool.or_eq_true, Bool.and_eq_true, decide_eq_true_iff] at h k ⊢
    rcases h with h | ⟨e, h⟩
    · rcases k with k | ⟨e2, k⟩
      · exact .inl (f2 _ _ _ h k)
      · rw [← e2]; exact .inl h
    · rcases k with k | ⟨e2, k⟩
      · rw [e]; exact .inl k
      · exact .inr ⟨e.trans e2, g2 _ _ _ h k⟩
  · simp only [lexB, Bool.or_eq_true, Bool.and_eq_true, decide_eq_true_iff, Bool.or_eq_false_iff, Bool.and_eq_false_iff, decide_eq_false_iff_not] at k ⊢
    by_cases e : p.1 = q.1
    · rcases k.2 with k2 | k2
      · exact absurd e k2
      · exact .inr ⟨e.symm, g3 _ _ (fun e2 => h (Prod.ext e e2)) k2⟩
    · exact .inl (f3 _ _ e k.1)
theorem rises_int9 : Rises (fun a b : Int => decide (a < b)) := by
  refine ⟨fun a => by simp, fun a b c h k => ?_, fun a b h k => ?_⟩
  · simp only [decide_eq_true_iff] at *; omega
  · simp only [decide_eq_true_iff, decide_eq_false_iff_not] at *; omega
theorem rises_by {A B : Type} {f : B → B → Bool} (e : A → B) (he : ∀ a b, e a = e b → a = b) (hf : Rises f) : Rises (fun a b => f (e a) (e b)) := by
  obtain ⟨f1, f2, f3⟩ := hf
  exact ⟨fun a => f1 _, fun a b c => f2 _ _ _, fun a b h => f3 _ _ (fun k => h (he _ _ k))⟩

/-- A key: its hour, its dimensions' values. -/
structure K9 where
  h : Int
  a : List UInt8
  b : List UInt8
  c : List UInt8
  d : List UInt8
deriving DecidableEq
/-- A fact: a key, a value. -/
structure F9 where
  k : K9
  v : Int
deriving DecidableEq
instance : Inhabited F9 := ⟨⟨⟨0, [], [], [], []⟩, 0⟩⟩
def K9.dim (k : K9) : Nat → List UInt8
  | 0 => k.a
  | 1 => k.b
  | 2 => k.c
  | _ => k.d
def K9.put (k : K9) (i : Nat) (t : List UInt8) : K9 :=
  match i with
  | 0 => { k with a := t }
  | 1 => { k with b := t }
  | 2 => { k with c := t }
  | _ => { k with d := t }
def K9.tup (k : K9) : Int × List UInt8 × List UInt8 × List UInt8 × List UInt8 := (k.h, k.a, k.b, k.c, k.d)
theorem K9.tup_inj (p q : K9) (h : p.tup = q.tup) : p = q := by
  cases p; cases q
  simpa [K9.tup] using h
/-- Which of two keys stands ahead. -/
def keyLt (p q : K9) : Bool := lexB (fun a b : Int => decide (a < b)) (lexB Op.bytesLess (lexB Op.bytesLess (lexB Op.bytesLess Op.bytesLess))) p.tup q.tup
theorem rises_key : Rises keyLt := rises_by K9.tup K9.tup_inj (rises_lex rises_int9 (rises_lex rises_bytes (rises_lex rises_bytes (rises_lex rises_bytes rises_bytes))))
def cmpK (p q : K9) : Int := if keyLt p q then -1 else if keyLt q p then 1 else 0
/-- Which of two facts stands ahead. -/
def factLt (f g : F9) : Bool := lexB keyLt (fun a b : Int => decide (a < b)) (f.k, f.v) (g.k, g.v)
theorem rises_fact : Rises factLt := rises_by (fun f : F9 => (f.k, f.v)) (fun f g h => by cases f; cases g; simpa using h) (rises_lex rises_key rises_int9)
theorem Rises.asym {A : Type} {lt : A → A → Bool} (h : Rises lt) {a b : A} (k : lt a b = true) : lt b a = false := by
  obtain ⟨h1, h2, h3⟩ := h
  cases e : lt b a with
  | false => rfl
  | true => rw [← h1 a]; exact (h2 _ _ _ k e).symm
theorem cmpK_lt {p q : K9} (h : keyLt p q = true) : cmpK p q = -1 := if_pos h
theorem cmpK_gt {p q : K9} (h : keyLt q p = true) : cmpK p q = 1 := by unfold cmpK; rw [if_neg (by rw [rises_key.asym h]; simp), if_pos h]
theorem cmpK_self (p : K9) : cmpK p p = 0 := by unfold cmpK; rw [rises_key.irr p]; simp
theorem cmpK_cases (p q : K9) : (keyLt p q = true ∧ cmpK p q = -1 ∧ cmpK q p = 1) ∨ (keyLt q p = true ∧ cmpK p q = 1 ∧ cmpK q p = -1) ∨ (p = q ∧ cmpK p q = 0) := by
  by_cases h : keyLt p q = true
  · exact .inl ⟨h, cmpK_lt h, cmpK_gt h⟩
  · by_cases g : keyLt q p = true
    · exact .inr (.inl ⟨g, cmpK_gt g, cmpK_lt g⟩)
    · right; right
      have e : p = q := by
        by_cases e : p = q
        · exact e
        · exact absurd (rises_key.tot p q e (by simpa using h)) g
      subst e
      exact ⟨rfl, cmpK_self p⟩
theorem cmpK_neg (p q : K9) : cmpK q p = - cmpK p q := by
  rcases cmpK_cases p q with ⟨_, h, g⟩ | ⟨_, h, g⟩ | ⟨e, h⟩
  · rw [h, g]; rfl
  · rw [h, g]
  · subst e; rw [h]; rfl
/-- The hour decides, or a dimension behind equal ones. -/
theorem key_hour {p q : K9} (h : p.h < q.h) : keyLt p q = true := by simp [keyLt, lexB, K9.tup, h]
theorem key_dim {p q : K9} {i : Nat} (hi : i < 4) (h0 : p.h = q.h) (he : ∀ k, k < i → p.dim k = q.dim k) (h : Op.bytesLess (p.dim i) (q.dim i) = true) : keyLt p q = true := by
  match i, hi with
  | 0, _ => simp only [K9.dim] at h; simp [keyLt, lexB, K9.tup, h0, h]
  | 1, _ =>
    have e0 := he 0 (by omega)
    simp only [K9.dim] at h e0
    simp [keyLt, lexB, K9.tup, h0, h, e0]
  | 2, _ =>
    have e0 := he 0 (by omega)
    have e1 := he 1 (by omega)
    simp only [K9.dim] at h e0 e1
    simp [keyLt, lexB, K9.tup, h0, h, e0, e1]
  | 3, _ =>
    have e0 := he 0 (by omega)
    have e1 := he 1 (by omega)
    have e2 := he 2 (by omega)
    simp only [K9.dim] at h e0 e1 e2
    simp [keyLt, lexB, K9.tup, h0, h, e0, e1, e2]
theorem key_same {p q : K9} (h0 : p.h = q.h) (he : ∀ k, k < 4 → p.dim k = q.dim k) : p = q := by
  have e0 := he 0 (by omega)
  have e1 := he 1 (by omega)
  have e2 := he 2 (by omega)
  have e3 := he 3 (by omega)
  cases p; cases q
  simp only [K9.dim] at e0 e1 e2 e3
  simp only [K9.mk.injEq]
  exact ⟨h0, e0, e1, e2, e3⟩
theorem bytes_same {a b : List UInt8} (h : Op.bytesLess a b = false) (g : Op.bytesLess b a = false) : a = b := by
  by_cases e : a = b
  · exact e
  · rw [rises_bytes.tot a b e h] at g
    cases g
theorem factLt_iff (f g : F9) : factLt f g = (decide (cmpK f.k g.k < 0) || (decide (cmpK f.k g.k = 0) && decide (f.v < g.v))) := by
  unfold factLt lexB
  rcases cmpK_cases f.k g.k with ⟨h, e, _⟩ | ⟨h, e, _⟩ | ⟨h, e⟩
  · rw [h, e]; rfl
  · rw [rises_key.asym h, e]
    have hne : f.k ≠ g.k := fun e2 => by rw [e2, rises_key.irr] at h; cases h
    simp [hne]
  · rw [e, h, rises_key.irr]
    simp

/-- What is wrong with a fact; of a batch: that, and where. -/
def okDims (n : Int) : Bool := decide (1 ≤ n) && decide (n ≤ 4)
def okText (n : Int) (i : Nat) (t : List UInt8) : Bool := decide (t.length ≤ 16) && (decide ((i : Int) < n) || t.isEmpty)
def okTexts (n : Int) (k : K9) : Bool := okText n 0 k.a && okText n 1 k.b && okText n 2 k.c && okText n 3 k.d
def chkF (f : F9) (n : Int) : Int :=
  if okDims n then if 0 ≤ f.k.h ∧ f.k.h ≤ 16777216 ∧ f.v ≤ 1152921504606846976 ∧ -1152921504606846976 ≤ f.v then if okTexts n f.k then 0 else 4 else 2 else 1
/-- The first wrong fact from place i on. -/
def badAt (n : Int) : List F9 → Nat → Int × Int
  | [], _ => (0, 0)
  | f :: t, i => if chkF f n = 0 then badAt n t (i + 1) else (chkF f n, (i : Int))
def allB (l : List F9) (n : Int) : Int × Int := if okDims n ∧ 1 ≤ l.length ∧ l.length ≤ 50 then badAt n l 0 else (1, 0)
theorem okTexts_all {n : Int} {k : K9} (h : ∀ i, i < 4 → okText n i (k.dim i) = true) : okTexts n k = true := by
  have e0 := h 0 (by omega)
  have e1 := h 1 (by omega)
  have e2 := h 2 (by omega)
  have e3 := h 3 (by omega)
  simp only [K9.dim] at e0 e1 e2 e3
  simp [okTexts, e0, e1, e2, e3]
theorem okTexts_not {n : Int} {k : K9} {i : Nat} (hi : i < 4) (h : okText n i (k.dim i) = false) : okTexts n k = false := by
  match i, hi with
  | 0, _ => simp only [K9.dim] at h; simp [okTexts, h]
  | 1, _ => simp only [K9.dim] at h; simp [okTexts, h]
  | 2, _ => simp only [K9.dim] at h; simp [okTexts, h]
  | 3, _ => simp only [K9.dim] at h; simp [okTexts, h]
theorem bad_step {n : Int} {l : List F9} {i : Nat} {f : F9} (h : l[i]? = some f) (hf : chkF f n = 0) : badAt n (l.drop i) i = badAt n (l.drop (i + 1)) (i + 1) := by
  obtain ⟨h0, e⟩ := List.getElem?_eq_some_iff.1 h
  rw [List.drop_eq_getElem_cons h0, e]
  simp [badAt, hf]
theorem bad_here {n : Int} {l : List F9} {i : Nat} {f : F9} (h : l[i]? = some f) (hf : chkF f n ≠ 0) : badAt n (l.drop i) i = (chkF f n, (i : Int)) := by
  obtain ⟨h0, e⟩ := List.getElem?_eq_some_iff.1 h
  rw [List.drop_eq_getElem_cons h0, e]
  simp [badAt, hf]

end Go.Proofs.YtgbphkbbedkepaaGreat

/-
  Slices of elements of any size: what they hold, wherever they lie; rows of a call's own; append. No type is named here.
-/
namespace Go.Proofs.YtgbphkbbedkepaaGreat
open Go.RowKit

/-- How an element stands in memory: its cells. -/
structure El (T : Type) where
  sz : Nat
  enc : T → List Value
  len : ∀ t, (enc t).length = sz
  one : ∀ t, ∀ u ∈ enc t, u.oneCell' = true

section
variable {T : Type} (E : El T)
/-- All cells of elements. -/
def El.flat (l : List T) : List Value := l.flatMap E.enc
theorem El.flat_nil : E.flat [] = [] := rfl
theorem El.flat_cons (t : T) (l : List T) : E.flat (t :: l) = E.enc t ++ E.flat l := rfl
theorem El.flat_append (l m : List T) : E.flat (l ++ m) = E.flat l ++ E.flat m := List.flatMap_append
theorem El.flat_len (l : List T) : (E.flat l).length = l.length * E.sz := by
  induction l with
  | nil => simp [El.flat]
  | cons t l ih => rw [El.flat_cons, List.length_append, ih, E.len, List.length_cons, Nat.add_mul, Nat.one_mul, Nat.add_comm]
theorem El.flat_one (l : List T) : ∀ u ∈ E.flat l, u.oneCell' = true := fun u hu => by
  obtain ⟨t, _, h⟩ := List.mem_flatMap.1 hu
  exact E.one t u h
theorem El.flat_at {l : List T} {j : Nat} {t : T} (hj : l[j]? = some t) {i : Nat} (hi : i < E.sz) : (E.flat l)[j * E.sz + i]? = (E.enc t)[i]? := by
  induction l generalizing j with
  | nil => cases hj
  | cons x l ih =>
    rw [El.flat_cons]
    cases j with
    | zero =>
      cases hj
      rw [Nat.zero_mul, Nat.zero_add, List.getElem?_append_left (by rw [E.len]; exact hi)]
    | succ j =>
      rw [List.getElem?_append_right (by rw [E.len, Nat.succ_mul]; omega), E.len, show (j + 1) * E.sz + i - E.sz = j * E.sz + i by rw [Nat.succ_mul]; omega]
      exact ih hj
theorem El.flat_take (l : List T) (n : Nat) : E.flat (l.take n) = (E.flat l).take (n * E.sz) := by
  induction l generalizing n with
  | nil => simp [El.flat]
  | cons x l ih =>
    cases n with
    | zero => simp [El.flat]
    | succ n =>
      rw [List.take_succ_cons, El.flat_cons, El.flat_cons, ih, List.take_append, E.len, Nat.succ_mul, Nat.add_sub_cancel, List.take_of_length_le (l := E.enc x) (by rw [E.len]; omega)]
theorem El.flat_drop (l : List T) (n : Nat) : E.flat (l.drop n) = (E.flat l).drop (n * E.sz) := by
  induction l generalizing n with
  | nil => simp [El.flat]
  | cons x l ih =>
    cases n with
    | zero => simp [El.flat]
    | succ n =>
      rw [List.drop_succ_cons, ih, El.flat_cons, List.drop_append, E.len, Nat.succ_mul, Nat.add_sub_cancel, List.drop_of_length_le (l := E.enc x) (by rw [E.len]; omega), List.nil_append]

/-- A slice value, wherever it lies: its elements are l. -/
def RdE (w : World) (v : Value) (l : List T) : Prop :=
  ∃ A c, v = .slice A l.length c ∧ (l.length ≤ c ∧ c ≤ maxLen) ∧ (A = none → l = [] ∧ c = 0) ∧ ∀ ad, A = some ad → ∀ i u, (E.flat l)[i]? = some u → w.cell? (ad.add i) = some u
end

section
variable {T : Type} {E : El T} {w w' : World} {v : Value} {l : List T}
theorem eadd_block (a : Addr) (n : Nat) : (a.add n).block = a.block := by unfold Addr.add; split <;> rfl
theorem eadd_add (a : Addr) (i j : Nat) : (a.add i).add j = a.add (i + j) := by
  unfold Addr.add
  by_cases hi : i = 0 <;> by_cases hj : j = 0 <;> simp [hi, hj, Nat.add_assoc]
theorem RdE.nil (w : World) : RdE E w (.slice none 0 0) [] := ⟨none, 0, rfl, ⟨Nat.le_refl _, Nat.zero_le _⟩, fun _ => ⟨rfl, rfl⟩, fun _ e => by cases e⟩
theorem RdE.turn {S : Nat → Prop} (h : RdE E w v l) (ht : Turn S w w') (hs : ∀ b, v.ownBlock = some b → ¬ S b) : RdE E w' v l := by
  obtain ⟨A, c, rfl, hk, hn, hc⟩ := h
  refine ⟨A, c, rfl, hk, hn, fun ad e i u hi => ?_⟩
  have h1 := hc ad e i u hi
  have hlt := World.block_lt_of_cell? w _ h1
  rw [ht.cell hlt (by subst e; rw [eadd_block]; exact hs _ rfl)]
  exact h1
theorem RdE.later (h : RdE E w v l) (ht : Turn (fun _ => False) w w') : RdE E w' v l := h.turn ht (fun _ _ f => f)
theorem RdE.shape (h : RdE E w v l) : ∃ A c, v = .slice A l.length c := by
  obtain ⟨A, c, e, _⟩ := h
  exact ⟨A, c, e⟩
theorem RdE.cells {A : Option Addr} {n c : Nat} (h : RdE E w (.slice A n c) l) {j : Nat} {t : T} (hj : l[j]? = some t) :
    ∃ ad, A = some ad ∧ ∀ i u, (E.enc t)[i]? = some u → w.cell? (ad.add (j * E.sz + i)) = some u := by
  obtain ⟨A', c', hv, _, hn, hc⟩ := h
  injection hv with h1 h2 h3
  subst h1
  cases A with
  | none =>
    obtain ⟨rfl, _⟩ := hn rfl
    cases hj
  | some ad =>
    refine ⟨ad, rfl, fun i u hu => hc ad rfl _ u ?_⟩
    have hi : i < E.sz := by
      have := (List.getElem?_eq_some_iff.1 hu).1
      rwa [E.len] at this
    rw [E.flat_at hj hi]
    exact hu
theorem RdE.fits {A : Option Addr} {n c : Nat} (h : RdE E w (.slice A n c) l) : n = l.length ∧ l.length ≤ c ∧ c ≤ maxLen ∧ (A = none → l = [] ∧ c = 0) := by
  obtain ⟨A', c', hv, hc, hn, _⟩ := h
  injection hv with h1 h2 h3
  subst h3 h1
  exact ⟨h2, hc.1, hc.2, hn⟩
theorem RdE.front {A : Option Addr} {n c : Nat} (h : RdE E w (.slice A n c) l) (m : Nat) (hm : m ≤ n) : RdE E w (.slice A m c) (l.take m) := by
  obtain ⟨A', c', hv, hc, hn, hx⟩ := h
  injection hv with h1 h2 h3
  subst h1 h2 h3
  have e : (l.take m).length = m := by rw [List.length_take]; omega
  refine ⟨A, c, by rw [e], ⟨by omega, hc.2⟩, (fun e => by rw [(hn e).1]; exact ⟨List.take_nil, (hn e).2⟩), fun ad e2 i u hi => ?_⟩
  rw [E.flat_take, List.getElem?_take] at hi
  split at hi
  · exact hx ad e2 i u hi
  · cases hi
theorem RdE.back {ad : Addr} {n c : Nat} (h : RdE E w (.slice (some ad) n c) l) (m : Nat) (hm : m ≤ n) : RdE E w (.slice (some (ad.add (m * E.sz))) (n - m) (c - m)) (l.drop m) := by
  obtain ⟨A', c', hv, hc, hn, hx⟩ := h
  injection hv with h1 h2 h3
  subst h1 h2 h3
  refine ⟨some (ad.add (m * E.sz)), c - m, by rw [List.length_drop], ⟨by rw [List.length_drop]; omega, by omega⟩, (fun e => by cases e), fun ad' e2 i u hi => ?_⟩
  injection e2 with e2
  subst e2
  rw [E.flat_drop, List.getElem?_drop] at hi
  rw [eadd_add]
  exact hx ad rfl _ u hi
/-- Behind a slice's whole capacity: nothing, wherever it is said to lie. -/
theorem RdE.none_left (A : Option Addr) (hA : A ≠ none) (w : World) (c : Nat) (hc : c ≤ maxLen) : RdE E w (.slice A 0 c) [] :=
  ⟨A, c, rfl, ⟨Nat.zero_le _, hc⟩, (fun e => absurd e hA), fun _ _ i u hi => by simp [El.flat] at hi⟩
theorem RdE.src {P : Program} {tx e' : TypeId} (hk : P.underlying tx = some (.slice e')) (h : RdE E w v l) : Src P E.sz tx v l.length (E.flat l) w := by
  obtain ⟨A, c, rfl, hc, hn, hx⟩ := h
  cases A with
  | none =>
    obtain ⟨rfl, rfl⟩ := hn rfl
    exact Src.ofNil (P := P) w hk 0
  | some ad => exact Src.ofSlice (P := P) w hk ad l.length c _ (E.flat_len l) (fun j u hj => hx ad rfl j u hj) (E.flat_one l)

/-- Slice value v, at the head of a row of a call's own, or nil: its elements, of type e, are l. -/
def OwE (E : El T) (e : TypeId) (w : World) (v : Value) (l : List T) : Prop := w.ownsRow 0 e E.sz v l.length (E.flat l)
variable {e : TypeId}
theorem OwE.nil (w : World) : OwE E e w (.slice none 0 0) [] := World.ownsRow_nil w 0 _ _
theorem OwE.lt (h : OwE E e w v l) {k : Nat} (hk : v.ownBlock = some k) : k < w.heap.size := (World.ownsRow.lt h k hk).2
theorem OwE.turn {S : Nat → Prop} (h : OwE E e w v l) (ht : Turn S w w') (hn : ∀ k, v.ownBlock = some k → ¬ S k) : OwE E e w' v l := by
  refine ⟨h.1, ?_⟩
  rcases h.2 with h0 | ⟨g, cap, cur, rfl, hb, hg, rest⟩
  · exact .inl h0
  · exact .inr ⟨g, cap, cur, rfl, hb, (ht.block g (Array.getElem?_eq_some_iff.1 hg).1 (hn g rfl)).trans hg, rest⟩
theorem OwE.later (h : OwE E e w v l) (ht : Turn (fun _ => False) w w') : OwE E e w' v l := h.turn ht (fun _ _ f => f)
theorem OwE.form (h : OwE E e w v l) : (v = .slice none 0 0 ∧ l = []) ∨ ∃ g cap cur, v = .slice (some ⟨g, 0, none⟩) l.length cap ∧ Box w g e cur ∧ l.length ≤ cap ∧ cap ≤ maxLen ∧ cur.size = cap * E.sz ∧ cur.toList.take (l.length * E.sz) = E.flat l := by
  rcases h.2 with ⟨h0, h1⟩ | ⟨g, cap, cur, hv, _, hg, hn, hm, hs, ht⟩
  · exact .inl ⟨h0, List.eq_nil_of_length_eq_zero h1⟩
  · exact .inr ⟨g, cap, cur, hv, hg, hn, hm, hs, ht⟩
theorem own_add (g i : Nat) : (⟨g, 0, none⟩ : Addr).add i = ⟨g, i, none⟩ := by unfold Addr.add; split <;> simp_all
theorem OwE.rd (h : OwE E e w v l) : RdE E w v l := by
  rcases h.form with ⟨rfl, rfl⟩ | ⟨g, cap, cur, rfl, hb, h1, h2, h3, h4⟩
  · exact RdE.nil w
  · refine ⟨_, _, rfl, ⟨h1, h2⟩, (fun e => by cases e), fun ad e i u hi => ?_⟩
    cases e
    rw [own_add, hb.cell]
    rw [← h4, List.getElem?_take] at hi
    split at hi
    · simpa using hi
    · cases hi
theorem OwE.shape (h : OwE E e w v l) : ∃ A c, v = .slice A l.length c := h.rd.shape
theorem OwE.not_box {g : Nat} {t : TypeId} {cs : Array Value} (h : OwE E e w v l) (hb : Box w g t cs) (hne : e ≠ t) : v.ownBlock ≠ some g := by
  rcases h.form with ⟨rfl, _⟩ | ⟨g', cap, cur, rfl, hb', _⟩
  · simp [Value.ownBlock]
  · intro e1
    obtain rfl : g' = g := by simpa [Value.ownBlock] using e1
    have e2 := hb'.symm.trans hb
    injection e2 with e2
    injection e2 with _ e3
    exact hne e3
/-- A block that was just laid out whole. -/
theorem OwE.made (w : World) (l : List T) (hm : l.length ≤ maxLen) : OwE E e (w.alloc (.cells (E.flat l).toArray e)) (.slice (some ⟨w.heap.size, 0, none⟩) l.length l.length) l :=
  ⟨E.flat_len l, .inr ⟨w.heap.size, l.length, _, rfl, Nat.zero_le _, heap_alloc_new w _, Nat.le_refl _, hm, by rw [List.size_toArray, E.flat_len], by rw [List.take_of_length_le (by simp [E.flat_len])]⟩⟩
end

/-- append onto a row of one's own: at the operation, for the walk. -/
theorem wpList_appE {P : Program} {T : Type} {E : El T} {tS e : TypeId} {z : Value} {by' : Nat} (ht : P.underlying tS = some (.slice e)) (hi0 : (P.info? e).map (fun i => (i.zero, i.size, i.bytes)) = some (some z, E.sz, by')) (hz : z.cells.size = E.sz)
    (w : World) {ops : Array Oper} {rest : List Oper} {o : Oper} {a : Act} {Q : Exit → Act → World → Prop} (hgd : o.guard = none) (s x : Operand) (tx : TypeId)
    (ho : o.op = .call { callee := .builtin .append, args := #[s, x], argTypes := #[tS, tx] }) (v : Value) (l : List T) (hs : a.eval s = v) (hown : OwE E e w v l)
    (y : Value) (hx : a.eval x = y) (m : List T) (hy : Src P E.sz tx y m.length (E.flat m) w) (hl : l.length + m.length ≤ maxLen) (hb : (l.length + m.length) * by' ≤ 140737488355328)
    (h : ∀ A n c w', OwE E e w' (.slice A n c) (l ++ m) → Turn (fun k => v.ownBlock = some k) w w' → ((Value.slice A n c).ownBlock = v.ownBlock ∨ (Value.slice A n c).ownBlock = some w.heap.size) → wpList P ops Q rest (a.put o.dst (.slice A n c)) w') :
    wpList P ops Q (o :: rest) a w := by
  refine wpList_plain hgd fun K hK => ?_
  obtain ⟨i, hi, hz0, h1, h2⟩ := info_parts hi0
  unfold OwE at hown
  rw [← h1] at hown hy
  obtain ⟨A, n, c, w', hr, g1, g2, g3⟩ := run_app (P := P) w tS tx o.type e i z ht hi hz0 (by rw [h1]; exact hz) v l.length _ hown y m.length _ hy hl (by rw [h2]; exact hb)
  unfold Oper.wp execOp
  simp only [ho, resolve, invoke, builtin, Sem.run_bind, Sem.run_pure, Result.andThen_ok, List.map_toArray, List.map_cons, List.map_nil, hs, hx, hr]
  refine hK _ _ (h A n c w' ?_ ((Turn.refl _ w).grown g2 (fun k _ e => e)) g3)
  unfold OwE
  rw [List.length_append, E.flat_append, ← h1]
  exact g1

/-- The same as one step of a region that draws. -/
theorem step_appE {P : Program} {T : Type} {E : El T} {tS e : TypeId} {z : Value} {by' : Nat} (ht : P.underlying tS = some (.slice e)) (hi0 : (P.info? e).map (fun i => (i.zero, i.size, i.bytes)) = some (some z, E.sz, by')) (hz : z.cells.size = E.sz)
    (w : World) {ops : Array Oper} {o : Oper} {a : Act} {K : Act → World → Prop} {Q : Exit → Act → World → Prop} {F : Prop} (hgd : o.guard = none) (s x : Operand) (tx : TypeId)
    (ho : o.op = .call { callee := .builtin .append, args := #[s, x], argTypes := #[tS, tx] }) (v : Value) (l : List T) (hs : a.eval s = v) (hown : OwE E e w v l)
    (y : Value) (hx : a.eval x = y) (m : List T) (hy : Src P E.sz tx y m.length (E.flat m) w) (hl : l.length + m.length ≤ maxLen) (hb : (l.length + m.length) * by' ≤ 140737488355328)
    (h : ∀ A n c w', OwE E e w' (.slice A n c) (l ++ m) → Turn (fun k => v.ownBlock = some k) w w' → ((Value.slice A n c).ownBlock = v.ownBlock ∨ (Value.slice A n c).ownBlock = some w.heap.size) → K (a.put o.dst (.slice A n c)) w') :
    if Region.wanted o (yielded ops a.tmps) = true then Oper.wp P o a w K Q else F := by
  have hw : Region.wanted o (yielded ops a.tmps) = true := by simp [Region.wanted, hgd]
  rw [if_pos hw]
  obtain ⟨i, hi, hz0, h1, h2⟩ := info_parts hi0
  unfold OwE at hown
  rw [← h1] at hown hy
  obtain ⟨A, n, c, w', hr, g1, g2, g3⟩ := run_app (P := P) w tS tx o.type e i z ht hi hz0 (by rw [h1]; exact hz) v l.length _ hown y m.length _ hy hl (by rw [h2]; exact hb)
  unfold Oper.wp execOp
  simp only [ho, resolve, invoke, builtin, Sem.run_bind, Sem.run_pure, Result.andThen_ok, List.map_toArray, List.map_cons, List.map_nil, hs, hx, hr]
  refine h A n c w' ?_ ((Turn.refl _ w).grown g2 (fun k _ e => e)) g3
  unfold OwE
  rw [List.length_append, E.flat_append, ← h1]
  exact g1

end Go.Proofs.YtgbphkbbedkepaaGreat

/-
  Rows of elements of any size, new since a world; tails of slices of any size. No type is named here.
-/
namespace Go.Proofs.YtgbphkbbedkepaaGreat
open Go.RowKit

section
variable {T : Type} {E : El T} {e : TypeId}
/-- The tail of a slice from place U on, in whatever shape it is cut. -/
def TailE (E : El T) (A : Option Addr) (n c U : Nat) (v : Value) : Prop :=
  (A = none ∧ v = .slice none 0 0) ∨ (∃ ad, A = some ad ∧ ¬ c ≤ U ∧ v = .slice (some (ad.add (U * E.sz))) (n - U) (c - U)) ∨ (∃ ad, A = some ad ∧ c ≤ U ∧ v = .slice (some ad) (n - U) 0)
theorem tailE_rd {w : World} {A : Option Addr} {c U : Nat} {L : List T} (h : RdE E w (.slice A L.length c) L) (hU : U ≤ L.length) (w' : World) (ht : Turn (fun _ => False) w w') {v : Value}
    (hv : TailE E A L.length c U v) : RdE E w' v (L.drop U) := by
  have hf := h.fits
  rcases hv with ⟨rfl, rfl⟩ | ⟨ad, rfl, _, rfl⟩ | ⟨ad, rfl, hc, rfl⟩
  · rw [(hf.2.2.2 rfl).1, List.drop_nil]
    exact RdE.nil w'
  · exact (h.back U hU).later ht
  · have e : L.drop U = [] := List.eq_nil_of_length_eq_zero (by rw [List.length_drop]; omega)
    rw [e, show L.length - U = 0 by omega]
    exact RdE.none_left _ (by simp) w' 0 (Nat.zero_le _)
theorem frontE_rd {w : World} {A : Option Addr} {c P : Nat} {L : List T} (h : RdE E w (.slice A L.length c) L) (hP : P ≤ L.length) (w' : World) (ht : Turn (fun _ => False) w w') :
    RdE E w' (.slice A P c) (L.take P) := (h.front P hP).later ht
/-- A row of a call's own, new since w. -/
structure NewE (E : El T) (e : TypeId) (w w' : World) (v : Value) (L : List T) : Prop where
  own : OwE E e w' v L
  new : ∀ k, v.ownBlock = some k → w.heap.size ≤ k
  turn : Turn (fun _ => False) w w'
theorem NewE.start (w : World) (n : Nat) : NewE E e w (w.drewN n) (.slice none 0 0) [] := ⟨OwE.nil _, (fun k e => by simp [Value.ownBlock] at e), (Turn.refl _ w).drewN n⟩
theorem NewE.empty (w w0 : World) (h : Turn (fun _ => False) w w0) : NewE E e w (w0.alloc (.cells #[] e)) (.slice (some ⟨w0.heap.size, 0, none⟩) 0 0) [] :=
  ⟨OwE.made (E := E) w0 [] (Nat.zero_le _), (fun k e => Nat.le_trans h.size (Nat.le_of_eq (by simpa [Value.ownBlock] using e))), h.alloc _⟩
theorem NewE.step {w w1 w2 : World} {v v2 : Value} {L M : List T} (h : NewE E e w w1 v L) (ho : OwE E e w2 v2 M) (ht : Turn (fun k => v.ownBlock = some k) w1 w2) (hn : v2.ownBlock = v.ownBlock ∨ v2.ownBlock = some w1.heap.size) : NewE E e w w2 v2 M := by
  refine ⟨ho, fun k hk => ?_, h.turn.trans ht (fun k hk e => ?_)⟩
  · rcases hn with e | e
    · exact h.new k (by rw [← e]; exact hk)
    · rw [hk] at e
      cases e
      exact h.turn.size
  · have := h.new k e
    omega
theorem NewE.alloc {w w1 : World} {v : Value} {L : List T} (h : NewE E e w w1 v L) (o : Obj) : NewE E e w (w1.alloc o) v L :=
  ⟨h.own.later ((Turn.refl _ w1).alloc o), h.new, h.turn.alloc o⟩
theorem NewE.later {w w1 w2 : World} {v : Value} {L : List T} (h : NewE E e w w1 v L) (ht : Turn (fun _ => False) w1 w2) : NewE E e w w2 v L :=
  ⟨h.own.later ht, h.new, h.turn.trans ht (fun _ _ f => f)⟩
end

end Go.Proofs.YtgbphkbbedkepaaGreat

/-
  A region that draws its order and some of whose operations, the late ones (stores), wait for all that read: a condition on the world holds till then. No type is named here.
-/
namespace Go.Proofs.YtgbphkbbedkepaaGreat
open Go.RowKit

section
variable {P : Program} {ops : Array Oper} {Q : Exit → Act → World → Prop} {md : Region.Mode} {S : World → Prop} {zs : List Nat}

/-- What is listed has all listed that it waits for. -/
def Shutd (md : Region.Mode) (ops : Array Oper) (listed : Array Bool) : Prop :=
  ∀ k o, ops[k]? = some o → listed.getD k false = true → ∀ e ∈ o.after, Region.binds md e = true → listed.getD e.on false = true
theorem Shutd.start : Shutd md ops (Array.replicate ops.size false) := fun k o ho h => by
  have hk := (Array.getElem?_eq_some_iff.1 ho).1
  simp [hk] at h
theorem Shutd.step {listed : Array Bool} {i : Nat} (h : Shutd md ops listed) (hi : i ∈ Region.ready md ops listed) : Shutd md ops (listed.setIfInBounds i true) := fun k o ho hk e he hb => by
  by_cases e1 : i = k
  · subst e1
    obtain ⟨_, o', ho', hall⟩ := mem_ready.1 hi
    rw [ho] at ho'
    cases ho'
    exact getD_set_true (hall e he hb)
  · rw [getD_set_ne false e1] at hk
    exact getD_set_true (h k o ho hk e he hb)
/-- Operation k waits for i, in so many steps at most. -/
def waitsB (md : Region.Mode) (ops : Array Oper) : Nat → Nat → Nat → Bool
  | 0, _, _ => false
  | f + 1, k, i => match ops[k]? with
    | none => false
    | some o => o.after.any fun e => Region.binds md e && (e.on == i || waitsB md ops f e.on i)
theorem waits_listed {listed : Array Bool} (h : Shutd md ops listed) : ∀ (f k i : Nat), waitsB md ops f k i = true →
    (∃ o, ops[k]? = some o ∧ ∀ e ∈ o.after, Region.binds md e = true → listed.getD e.on false = true) → listed.getD i false = true
  | 0, _, _, hw, _ => by simp [waitsB] at hw
  | f + 1, k, i, hw, ⟨o, ho, hall⟩ => by
    simp only [waitsB, ho] at hw
    obtain ⟨e, he, hb⟩ := Array.any_eq_true'.1 hw
    simp only [Bool.and_eq_true, Bool.or_eq_true, beq_iff_eq] at hb
    have hl := hall e he hb.1
    rcases hb.2 with e1 | e1
    · rw [← e1]; exact hl
    · refine waits_listed h f e.on i e1 ?_
      cases ho2 : ops[e.on]? with
      | none =>
        cases f with
        | zero => simp [waitsB] at e1
        | succ f => simp [waitsB, ho2] at e1
      | some o2 => exact ⟨o2, rfl, fun e2 h2 b2 => h _ o2 ho2 hl e2 h2 b2⟩
theorem not_before {listed : Array Bool} {f i z : Nat} (h : Shutd md ops listed) (hw : waitsB md ops f z i = true) (hi : i ∈ Region.ready md ops listed) : z ∉ Region.ready md ops listed := fun hz => by
  obtain ⟨_, o, ho, hall⟩ := mem_ready.1 hz
  have h1 := waits_listed h f z i hw ⟨o, ho, hall⟩
  have h0 := (mem_ready.1 hi).1
  rcases Nat.lt_or_ge i listed.size with h' | h'
  · simp [h'] at h0 h1; rw [h0] at h1; cases h1
  · simp [Array.getElem?_eq_none h'] at h1

/-- No late operation is listed. -/
def freshB (zs : List Nat) (listed : Array Bool) : Bool := zs.all fun z => !listed.getD z false
theorem fresh_set {listed : Array Bool} {i : Nat} (hi : zs.contains i = false) : freshB zs (listed.setIfInBounds i true) = freshB zs listed := by
  unfold freshB
  rw [Bool.eq_iff_iff, List.all_eq_true, List.all_eq_true]
  refine forall_congr' fun z => forall_congr' fun hz => ?_
  have hne : i ≠ z := fun e => by subst e; simp at hi; exact hi hz
  rw [getD_set_ne false hne]
theorem fresh_of {listed : Array Bool} {i f : Nat} (h : Shutd md ops listed) (hw : zs.all (fun z => waitsB md ops f z i) = true) (hi : listed.getD i true = false) : freshB zs listed = true := by
  unfold freshB
  rw [List.all_eq_true]
  intro z hz
  have hwz := List.all_eq_true.1 hw z hz
  cases hl : listed.getD z false with
  | false => rfl
  | true =>
    have hk : ∃ o, ops[z]? = some o := by
      cases ho : ops[z]? with
      | none => cases f with
        | zero => simp [waitsB] at hwz
        | succ f => simp [waitsB, ho] at hwz
      | some o => exact ⟨o, rfl⟩
    obtain ⟨o, ho⟩ := hk
    have h1 := waits_listed h f z i hwz ⟨o, ho, fun e he hb => h z o ho hl e he hb⟩
    rcases Nat.lt_or_ge i listed.size with h' | h'
    · simp [h'] at hi h1; rw [hi] at h1; cases h1
    · simp [Array.getElem?_eq_none h'] at h1

/-- Whatever order is picked from here on, and S holds as long as no late operation is listed. -/
def wpAnyG (P : Program) (md : Region.Mode) (ops : Array Oper) (Q : Exit → Act → World → Prop) (S : World → Prop) (zs : List Nat) : Nat → Array Bool → Act → World → Prop
  | 0, listed, a, w => Region.ready md ops listed = [] ∧ Q .normal a w
  | fuel + 1, listed, a, w =>
    (Region.ready md ops listed = [] → Q .normal a w) ∧
    ∀ i ∈ Region.ready md ops listed, wpOp P ops Q i (fun a' w' => (freshB zs (listed.setIfInBounds i true) = true → S w') ∧ wpAnyG P md ops Q S zs fuel (listed.setIfInBounds i true) a' w') a w
theorem wpAny_ofG : ∀ (fuel : Nat) (listed : Array Bool) (a : Act) (w : World), wpAnyG P md ops Q S zs fuel listed a w → wpAny P md ops Q fuel listed a w
  | 0, _, _, _, h => h
  | fuel + 1, _, _, _, h => ⟨h.1, fun i hi => wpOp_mono (fun a' w' h' => wpAny_ofG fuel _ a' w' h'.2) (h.2 i hi)⟩

/-- An operation that yields, where S holds, comes first: T is what it wants of a world. -/
theorem wpAnyG_first {i : Nat} {oi : Oper} {v : Value} (hi : ops[i]? = some oi) (hsel : ∀ (j : Nat) (o : Oper) cs b, ops[j]? = some o → o.op ≠ .select cs b)
    (hQ : ∀ c a w, Q (.panic c) (a.put oi.dst v) w → Q (.panic c) a w) (hiz : zs.contains i = false) (T : World → Prop)
    (hR : ∀ listed w, Shutd md ops listed → i ∈ Region.ready md ops listed → (freshB zs listed = true → S w) → T w) :
    ∀ (fuel : Nat) (listed : Array Bool) (a : Act) (w : World), Shutd md ops listed →
      (∀ j oj, ops[j]? = some oj → j ≠ i → listed.getD j true = false → (∀ e ∈ oj.after, Region.binds md e = true → e.on ≠ i) → oi.apart ops oj = true) →
      i ∈ Region.ready md ops listed → YieldsIf P ops T oi v a → (freshB zs listed = true → S w) →
      wpAnyG P md ops Q S zs fuel (listed.setIfInBounds i true) (a.put oi.dst v) w → wpAnyG P md ops Q S zs (fuel + 1) listed a w := by
  intro fuel
  induction fuel with
  | zero =>
    intro listed a w hsh _ hr hy hS H
    refine ⟨fun h => (by rw [h] at hr; cases hr), fun j hj => ?_⟩
    by_cases hji : j = i
    · subst hji; exact hy.wpOp hi (hR _ w hsh hr hS) ⟨fun hf => hS (by rwa [fresh_set hiz] at hf), H⟩
    · have := ready_mono hj hji
      rw [H.1] at this
      cases this
  | succ fuel ih =>
    intro listed a w hsh hfree hr hy hS H
    refine ⟨fun h => (by rw [h] at hr; cases hr), fun j hj => ?_⟩
    by_cases hji : j = i
    · subst hji; exact hy.wpOp hi (hR _ w hsh hr hS) ⟨fun hf => hS (by rwa [fresh_set hiz] at hf), H⟩
    · have h1 := H.2 j (ready_mono hj hji)
      obtain ⟨hjun, oj, hoj, hall⟩ := mem_ready.1 hj
      have hnot : ∀ e ∈ oj.after, Region.binds md e = true → e.on ≠ i := fun e he hb heq => by
        have h1 := hall e he hb
        have h0 := (mem_ready.1 hr).1
        rw [heq] at h1
        rcases Nat.lt_or_ge i listed.size with h' | h'
        · simp [h'] at h0 h1; rw [h0] at h1; cases h1
        · simp [Array.getElem?_eq_none h'] at h1
      have h2 := wpOp_putIf hoj (hfree j oj hoj hji hjun hnot) (fun cs b => hsel i oi cs b hi) (fun cs b => hsel j oj cs b hoj) hQ hy h1
      have hfree' : ∀ k ok, ops[k]? = some ok → k ≠ i → (listed.setIfInBounds j true).getD k true = false →
          (∀ e ∈ ok.after, Region.binds md e = true → e.on ≠ i) → oi.apart ops ok = true := fun k ok hk hki hun hno => by
        refine hfree k ok hk hki ?_ hno
        by_cases hjk : j = k
        · subst hjk; exact hjun
        · rw [getD_set_ne true hjk] at hun; exact hun
      have hsw : ∀ w', (freshB zs ((listed.setIfInBounds i true).setIfInBounds j true) = true → S w') → freshB zs (listed.setIfInBounds j true) = true → S w' := fun w' h hf => by
        rw [Array.setIfInBounds_comm _ _ (Ne.symm hji), fresh_set hiz] at h
        exact h hf
      refine wpOp_mono (fun a' w' h3 => ⟨hsw w' h3.2.1, ih (listed.setIfInBounds j true) a' w' (hsh.step hj) hfree' (ready_mono hr (Ne.symm hji)) h3.1 (hsw w' h3.2.1) ?_⟩) h2
      rw [Array.setIfInBounds_comm _ _ hji]
      exact h3.2.2

/-- An operation of a region that is written out, as it is written. -/
def nthL {A : Type} : List A → Nat → Option A
  | [], _ => none
  | x :: _, 0 => some x
  | _ :: l, n + 1 => nthL l n
theorem nthL_eq {A : Type} : ∀ (l : List A) (n : Nat), nthL l n = l[n]?
  | [], n => by simp [nthL]
  | x :: l, 0 => rfl
  | x :: l, n + 1 => by rw [nthL, nthL_eq l n, List.getElem?_cons_succ]
theorem nth_at {ops : Array Oper} {i : Nat} {o : Oper} (h : nthL ops.toList i = some o) : ops[i]? = some o := by
  rw [nthL_eq] at h
  simpa using h

/-- The walk: a region behind some operations. -/
def Drawn (P : Program) (ops : Array Oper) (Q : Exit → Act → World → Prop) (S : World → Prop) (zs : List Nat) (fuel : Nat) (listed : Array Bool) (ts : Array Value) (ds : List Deferred) (w : World) : Prop :=
  Shutd .any ops listed → wpAnyG P .any ops Q S zs fuel listed { tmps := ts, defers := ds } w
theorem drawn_region (S : World → Prop) (zs : List Nat) {id : Nat} {ts : Array Value} {ds : List Deferred} {w : World} (hm : P.follows .mixedOrders = true) (h : Drawn P ops Q S zs ops.size (Array.replicate ops.size false) ts ds w.drew) : (Code.region id ops true).wp P Q { tmps := ts, defers := ds } w :=
  wp_region_any hm (wpAny_ofG _ _ _ _ (h Shutd.start))
/-- An operation that reads: late ones wait for it. -/
theorem drawn_take (i d : Nat) {oi : Oper} (v : Value) {fuel : Nat} {listed : Array Bool} {ts : Array Value} {ds : List Deferred} {w : World} (hi0 : nthL ops.toList i = some oi) (hd : oi.dst = some d)
    (hs : Region.noSelect ops = true) (hf : Region.free .any ops listed i = true) (hr : (Region.ready .any ops listed).contains i = true) (hz : (!zs.contains i && zs.all (fun z => waitsB .any ops ops.size z i)) = true)
    (hQ : ∀ c (a : Act) w, Q (.panic c) (a.put oi.dst v) w → Q (.panic c) a w) (hw : Region.wanted oi (yielded ops ts) = true) (hS : S w) (hy : ∀ w, S w → (execOp ({ tmps := ts, defers := ds } : Act).eval oi).run P w = .ok (.value v) w)
    (h : Drawn P ops Q S zs fuel (listed.setIfInBounds i true) (ts.setIfInBounds d v) ds w) : Drawn P ops Q S zs (fuel + 1) listed ts ds w := fun hc => by
  have hi := nth_at hi0
  have hm : i ∈ Region.ready .any ops listed := by simpa using hr
  obtain ⟨hz1, hz2⟩ := Bool.and_eq_true_iff.1 hz
  refine wpAnyG_first hi (Region.noSelect_spec hs) hQ (by simpa using hz1) S (fun l w hsh hir h => h (fresh_of hsh hz2 (mem_ready.1 hir).1)) fuel listed _ w hc (Region.free_spec hi hf) hm (.inl ⟨hw, hy⟩) (fun _ => hS) ?_
  have h2 := h (hc.step hm)
  rw [hd]
  exact h2
/-- An operation that yields in whatever world. -/
theorem drawn_move (i d : Nat) {oi : Oper} (v : Value) {fuel : Nat} {listed : Array Bool} {ts : Array Value} {ds : List Deferred} {w : World} (hi0 : nthL ops.toList i = some oi) (hd : oi.dst = some d)
    (hs : Region.noSelect ops = true) (hf : Region.free .any ops listed i = true) (hr : (Region.ready .any ops listed).contains i = true) (hz : (!zs.contains i) = true)
    (hQ : ∀ c (a : Act) w, Q (.panic c) (a.put oi.dst v) w → Q (.panic c) a w) (hw : Region.wanted oi (yielded ops ts) = true) (hS : freshB zs listed = true → S w) (hy : ∀ w, (execOp ({ tmps := ts, defers := ds } : Act).eval oi).run P w = .ok (.value v) w)
    (h : Drawn P ops Q S zs fuel (listed.setIfInBounds i true) (ts.setIfInBounds d v) ds w) : Drawn P ops Q S zs (fuel + 1) listed ts ds w := fun hc => by
  have hi := nth_at hi0
  have hm : i ∈ Region.ready .any ops listed := by simpa using hr
  refine wpAnyG_first hi (Region.noSelect_spec hs) hQ (by simpa using hz) (fun _ => True) (fun _ _ _ _ _ => trivial) fuel listed _ w hc (Region.free_spec hi hf) hm (.inl ⟨hw, fun w _ => hy w⟩) hS ?_
  have h2 := h (hc.step hm)
  rw [hd]
  exact h2
/-- Whichever of some comes up. -/
def DrawnAll (P : Program) (ops : Array Oper) (Q : Exit → Act → World → Prop) (S : World → Prop) (zs : List Nat) (fuel : Nat) (listed : Array Bool) (ts : Array Value) (ds : List Deferred) (w : World) (rs : List Nat) : Prop :=
  Shutd .any ops listed → ∀ i ∈ rs, i ∈ Region.ready .any ops listed → wpOp P ops Q i (fun a' w' => (freshB zs (listed.setIfInBounds i true) = true → S w') ∧ wpAnyG P .any ops Q S zs fuel (listed.setIfInBounds i true) a' w') { tmps := ts, defers := ds } w
theorem drawn_any (rs : List Nat) {fuel : Nat} {listed : Array Bool} {ts : Array Value} {ds : List Deferred} {w : World} (hr : Region.ready .any ops listed = rs) (hne : rs ≠ []) (h : DrawnAll P ops Q S zs fuel listed ts ds w rs) : Drawn P ops Q S zs (fuel + 1) listed ts ds w :=
  fun hc => ⟨fun h0 => absurd (hr ▸ h0) hne, fun i hi => h hc i (hr ▸ hi) hi⟩
theorem drawn_nil {fuel : Nat} {listed : Array Bool} {ts : Array Value} {ds : List Deferred} {w : World} : DrawnAll P ops Q S zs fuel listed ts ds w [] := fun _ _ h => by cases h
/-- One that is not late: S is shown behind it. -/
theorem drawn_cons {fuel : Nat} {listed : Array Bool} {ts : Array Value} {ds : List Deferred} {w : World} {i : Nat} {o : Oper} {rs : List Nat} (ho0 : nthL ops.toList i = some o)
    (h : ∀ K : Act → World → Prop, Shut (∀ (ts : Array Value) (ds : List Deferred) w, S w → Drawn P ops Q S zs fuel (listed.setIfInBounds i true) ts ds w → K { tmps := ts, defers := ds } w) → if Region.wanted o (yielded ops ts) = true then Oper.wp P o { tmps := ts, defers := ds } w K Q else K (({ tmps := ts, defers := ds } : Act).put o.dst undef) w)
    (hs : DrawnAll P ops Q S zs fuel listed ts ds w rs) : DrawnAll P ops Q S zs fuel listed ts ds w (i :: rs) := fun hc j hj hr => by
  rcases List.mem_cons.1 hj with rfl | hj
  · exact wpOp_step (nth_at ho0) (fun K' hK => h K' (fun ts ds w hS hW => hK { tmps := ts, defers := ds } w ⟨fun _ => hS, hW (hc.step hr)⟩))
  · exact hs hc j hj hr
/-- One that is late, or behind a late one, with more to come. -/
theorem drawn_late {fuel : Nat} {listed : Array Bool} {ts : Array Value} {ds : List Deferred} {w : World} {i : Nat} {o : Oper} {rs : List Nat} (ho0 : nthL ops.toList i = some o) (hl : freshB zs (listed.setIfInBounds i true) = false)
    (h : ∀ K : Act → World → Prop, Shut (∀ (ts : Array Value) (ds : List Deferred) w, Drawn P ops Q S zs fuel (listed.setIfInBounds i true) ts ds w → K { tmps := ts, defers := ds } w) → if Region.wanted o (yielded ops ts) = true then Oper.wp P o { tmps := ts, defers := ds } w K Q else K (({ tmps := ts, defers := ds } : Act).put o.dst undef) w)
    (hs : DrawnAll P ops Q S zs fuel listed ts ds w rs) : DrawnAll P ops Q S zs fuel listed ts ds w (i :: rs) := fun hc j hj hr => by
  rcases List.mem_cons.1 hj with rfl | hj
  · exact wpOp_step (nth_at ho0) (fun K' hK => h K' (fun ts ds w hW => hK { tmps := ts, defers := ds } w ⟨fun hf => by rw [hl] at hf; (cases hf), hW (hc.step hr)⟩))
  · exact hs hc j hj hr
/-- The last. -/
theorem drawn_last {z fuel : Nat} {listed : Array Bool} {ts : Array Value} {ds : List Deferred} {w : World} {o : Oper} (ho0 : nthL ops.toList z = some o) (hr : Region.ready .any ops listed = [z]) (hr2 : Region.ready .any ops (listed.setIfInBounds z true) = []) (hl : freshB zs (listed.setIfInBounds z true) = false)
    (h : ∀ K : Act → World → Prop, Shut (∀ a w, Q .normal a w → K a w) → if Region.wanted o (yielded ops ts) = true then Oper.wp P o { tmps := ts, defers := ds } w K Q else K (({ tmps := ts, defers := ds } : Act).put o.dst undef) w) :
    Drawn P ops Q S zs (fuel + 1) listed ts ds w := fun _ => by
  refine ⟨fun h0 => (by rw [h0] at hr; cases hr), fun i hi => ?_⟩
  rw [hr] at hi
  obtain rfl := List.mem_singleton.1 hi
  refine wpOp_step (nth_at ho0) (fun K' hK => h K' (fun a w hq => hK a w ⟨fun hf => by rw [hl] at hf; (cases hf), ?_⟩))
  cases fuel with
  | zero => exact ⟨hr2, hq⟩
  | succ n => exact ⟨fun _ => hq, by rw [hr2]; simp⟩
/-- The last, one that yields in whatever world. -/
theorem drawn_last1 (z d : Nat) {o : Oper} (v : Value) {fuel : Nat} {listed : Array Bool} {ts : Array Value} {ds : List Deferred} {w : World} (ho0 : nthL ops.toList z = some o) (hd : o.dst = some d) (hr : Region.ready .any ops listed = [z]) (hr2 : Region.ready .any ops (listed.setIfInBounds z true) = [])
    (hw : Region.wanted o (yielded ops ts) = true) (hy : ∀ w, (execOp ({ tmps := ts, defers := ds } : Act).eval o).run P w = .ok (.value v) w) (hS : S w)
    (h : Q .normal { tmps := ts.setIfInBounds d v, defers := ds } w) : Drawn P ops Q S zs (fuel + 1) listed ts ds w := fun _ => by
  refine ⟨fun h0 => (by rw [h0] at hr; cases hr), fun i hi => ?_⟩
  rw [hr] at hi
  obtain rfl := List.mem_singleton.1 hi
  have hi := nth_at ho0
  have key : Q .normal ((({ tmps := ts, defers := ds } : Act)).put o.dst v) w := by rw [hd]; exact h
  refine Yields.wpOp hi (.inl ⟨hw, hy⟩) ⟨fun _ => hS, ?_⟩
  cases fuel with
  | zero => exact ⟨hr2, key⟩
  | succ n => exact ⟨fun _ => key, by rw [hr2]; simp⟩
end

end Go.Proofs.YtgbphkbbedkepaaGreat

/-
  Rows of elements of any size: one element stored, the row cut, cleared. No type is named here.
-/
namespace Go.Proofs.YtgbphkbbedkepaaGreat
open Go.RowKit

theorem Box.setCells {g : Nat} {t : TypeId} : ∀ (vs : List Value) (o : Nat) (cs : Array Value) (w : World), Box w g t cs → o + vs.length ≤ cs.size → Box (w.setCells g o vs) g t (cs.toList.take o ++ vs ++ cs.toList.drop (o + vs.length)).toArray
  | [], o, cs, w, h, _ => by simpa [World.setCells] using h
  | v :: r, o, cs, w, h, hl => by
    have hl1 : o + (r.length + 1) ≤ cs.size := hl
    have h1 := Box.setCells r (o + 1) (cs.setIfInBounds o v) _ (h.set o v) (by simp; omega)
    unfold World.setCells
    have e : (cs.setIfInBounds o v).toList.take (o + 1) ++ r ++ (cs.setIfInBounds o v).toList.drop (o + 1 + r.length) = cs.toList.take o ++ (v :: r) ++ cs.toList.drop (o + (v :: r).length) := by
      have hlt : o < cs.toList.length := by simp; omega
      rw [Array.toList_setIfInBounds, List.drop_set_of_lt (by omega), List.set_eq_take_append_cons_drop, if_pos hlt, List.length_cons, show o + 1 + r.length = o + (r.length + 1) by omega]
      have e2 : (cs.toList.take o).length = o := by rw [List.length_take]; omega
      rw [List.take_append, e2, List.take_of_length_le (by omega), show o + 1 - o = 1 by omega]
      simp
    rw [e] at h1
    exact h1
theorem turn_setCells {S : Nat → Prop} {g : Nat} (hg : S g) : ∀ (vs : List Value) (o : Nat) (w : World), Turn S w (w.setCells g o vs)
  | [], _, w => Turn.refl _ w
  | v :: r, o, w => (Turn.setCell (S := S) (p := ⟨g, o, none⟩) (Turn.refl S w) (fun _ => hg) v).trans (turn_setCells hg r (o + 1) _) (fun _ _ h => h)

section
variable {T : Type} {E : El T} {e : TypeId} {w : World} {ad : Addr} {n c : Nat} {L : List T}
theorem OwE.home (h : OwE E e w (.slice (some ad) n c) L) : ∃ cur, ad = ⟨ad.block, 0, none⟩ ∧ n = L.length ∧ Box w ad.block e cur ∧ L.length ≤ c ∧ c ≤ maxLen ∧ cur.size = c * E.sz ∧ cur.toList.take (L.length * E.sz) = E.flat L := by
  rcases h.form with ⟨e1, _⟩ | ⟨g, cap, cur, e1, hb, h1, h2, h3, h4⟩
  · cases e1
  · injection e1 with e1 e2 e3
    injection e1 with e1
    subst e1 e2 e3
    exact ⟨cur, rfl, rfl, hb, h1, h2, h3, h4⟩
theorem OwE.of_box {cur : Array Value} {g : Nat} (hb : Box w g e cur) (h1 : L.length ≤ c) (h2 : c ≤ maxLen) (h3 : cur.size = c * E.sz) (h4 : cur.toList.take (L.length * E.sz) = E.flat L) : OwE E e w (.slice (some ⟨g, 0, none⟩) L.length c) L :=
  ⟨E.flat_len L, .inr ⟨g, c, cur, rfl, Nat.zero_le _, hb, h1, h2, h3, h4⟩⟩
theorem El.flat_set (E : El T) {j : Nat} (hj : j < L.length) (x : T) : E.flat (L.set j x) = (E.flat L).take (j * E.sz) ++ E.enc x ++ (E.flat L).drop (j * E.sz + E.sz) := by
  rw [List.set_eq_take_append_cons_drop, if_pos hj, E.flat_append, E.flat_cons, E.flat_take, E.flat_drop, Nat.add_mul, Nat.one_mul, List.append_assoc]
/-- One element stored. -/
theorem OwE.put (h : OwE E e w (.slice (some ad) n c) L) {j : Nat} (hj : j < L.length) (x : T) : OwE E e (w.setCells ad.block (ad.off + j * E.sz) (E.enc x)) (.slice (some ad) n c) (L.set j x) := by
  obtain ⟨cur, ha, hn, hb, h1, h2, h3, h4⟩ := h.home
  have hoff : ad.off = 0 := by rw [ha]
  rw [hoff, Nat.zero_add, ha, hn]
  have hsz : L.length * E.sz ≤ cur.size := by rw [h3]; exact Nat.mul_le_mul_right _ h1
  have hj2 : j * E.sz + E.sz ≤ L.length * E.sz := by rw [← Nat.succ_mul]; exact Nat.mul_le_mul_right _ hj
  have hbox := Box.setCells (E.enc x) (j * E.sz) cur w hb (by rw [E.len]; omega)
  have hl : (L.set j x).length = L.length := List.length_set
  have hF : (E.flat L).length = L.length * E.sz := E.flat_len L
  have hcur : cur.toList = E.flat L ++ cur.toList.drop (L.length * E.sz) := by rw [← h4, List.take_append_drop]
  have e1 : cur.toList.take (j * E.sz) ++ E.enc x ++ cur.toList.drop (j * E.sz + (E.enc x).length) = E.flat (L.set j x) ++ cur.toList.drop (L.length * E.sz) := by
    rw [E.flat_set hj, E.len]
    have t1 : cur.toList.take (j * E.sz) = (E.flat L).take (j * E.sz) := by
      rw [hcur, List.take_append_of_le_length (by omega)]
    have t2 : cur.toList.drop (j * E.sz + E.sz) = (E.flat L).drop (j * E.sz + E.sz) ++ cur.toList.drop (L.length * E.sz) := by
      conv => lhs; rw [hcur]
      rw [List.drop_append_of_le_length (by omega)]
    rw [t1, t2]
    simp only [List.append_assoc]
  rw [e1] at hbox
  have hr := OwE.of_box (E := E) (L := L.set j x) (c := c) hbox (by rw [hl]; exact h1) h2 (by
    have hd : (cur.toList.drop (L.length * E.sz)).length = cur.size - L.length * E.sz := by rw [List.length_drop, Array.length_toList]
    rw [List.size_toArray, List.length_append, E.flat_len, hl, hd]
    omega) (by rw [hl]; dsimp only; rw [← hl, ← E.flat_len, List.take_left])
  rw [hl] at hr
  exact hr
theorem OwE.there (h : OwE E e w (.slice (some ad) n c) L) {j : Nat} (hj : j < L.length) : w.there ad.block (ad.off + j * E.sz) E.sz := by
  obtain ⟨cur, ha, hn, hb, h1, h2, h3, h4⟩ := h.home
  have hoff : ad.off = 0 := by rw [ha]
  intro i hi
  have hj2 : j * E.sz + E.sz ≤ L.length * E.sz := by rw [← Nat.succ_mul]; exact Nat.mul_le_mul_right _ hj
  have hsz : L.length * E.sz ≤ cur.size := by rw [h3]; exact Nat.mul_le_mul_right _ h1
  refine ⟨?_, hb.free _⟩
  rw [hb.cell, Array.getElem?_eq_getElem (by omega)]
  rfl
/-- The row cut. -/
theorem OwE.cut (h : OwE E e w (.slice (some ad) n c) L) {m : Nat} (hm : m ≤ L.length) : OwE E e w (.slice (some ad) m c) (L.take m) := by
  obtain ⟨cur, ha, hn, hb, h1, h2, h3, h4⟩ := h.home
  have hl : (L.take m).length = m := by rw [List.length_take]; omega
  have hr := OwE.of_box (E := E) (L := L.take m) (c := c) hb (by rw [hl]; omega) h2 h3 (by
    rw [hl, E.flat_take, ← h4, List.take_take, Nat.min_eq_left (Nat.mul_le_mul_right _ hm)])
  rw [hl, ← ha] at hr
  exact hr
/-- A store of one element, at the operation, in a region that draws. -/
theorem put_store {P : Program} {ops : Array Oper} {ty rt : TypeId} {pos : String} {af : Array Edge} {px vx : Operand} {a : Act} {K : Act → World → Prop} {Q : Exit → Act → World → Prop} {F : Prop}
    (hown : OwE E e w (.slice (some ad) n c) L) (j : Nat) (x : T) (hj : j < L.length) (hp : a.eval px = .pointer (some (ad.add (j * E.sz)))) (hv : a.eval vx = .agg (E.enc x).toArray) (hi : (P.info? ty).map (·.size) = some E.sz)
    (h : ∀ w', OwE E e w' (.slice (some ad) n c) (L.set j x) → Turn (fun k => k = ad.block) w w' → K a w') :
    if Region.wanted { dst := none, op := .store ty px vx, type := rt, pos := pos, after := af, guard := none } (yielded ops a.tmps) = true then Oper.wp P { dst := none, op := .store ty px vx, type := rt, pos := pos, after := af, guard := none } a w K Q else F := by
  rw [if_pos (by rfl)]
  obtain ⟨cur, ha, -⟩ := hown.home
  have hadd : ad.add (j * E.sz) = ⟨ad.block, ad.off + j * E.sz, none⟩ := by
    obtain ⟨b, o, s⟩ := ad
    simp only [Addr.mk.injEq, true_and] at ha
    obtain ⟨rfl, rfl⟩ := ha
    rw [own_add, Nat.zero_add]
  refine wp_store_mid ty px vx rfl ad.block (ad.off + j * E.sz) (E.enc x).toArray (by rw [hp, hadd]) hv (by rw [List.size_toArray, E.len]; exact hown.there hj) (by rw [List.size_toArray, E.len]; exact hi) (all_oneCell_toArray (E.one x)) ?_
  exact h _ (hown.put hj x) (turn_setCells (S := fun k => k = ad.block) rfl _ _ _)
/-- append, at the operation as it is written, in a region that draws. -/
theorem put_app {P : Program} {tS : TypeId} {z : Value} {by' : Nat} (ht : P.underlying tS = some (.slice e)) (hi0 : (P.info? e).map (fun i => (i.zero, i.size, i.bytes)) = some (some z, E.sz, by')) (hz : z.cells.size = E.sz) (hby : by' ≤ 1000)
    {w : World} {ops : Array Oper} {d : Option Nat} {ty : TypeId} {pos : String} {af : Array Edge} {s x : Operand} {a : Act} {K : Act → World → Prop} {Q : Exit → Act → World → Prop} {F : Prop} (l : List T) (hown : OwE E e w (a.eval s) l)
    (m : List T) (hy : RdE E w (a.eval x) m) (hl : l.length + m.length ≤ 3000000)
    (h : ∀ A n c w', OwE E e w' (.slice A n c) (l ++ m) → Turn (fun k => (a.eval s).ownBlock = some k) w w' → ((Value.slice A n c).ownBlock = (a.eval s).ownBlock ∨ (Value.slice A n c).ownBlock = some w.heap.size) → K (a.put d (.slice A n c)) w') :
    if Region.wanted { dst := d, op := .call { callee := .builtin .append, args := #[s, x], argTypes := #[tS, tS] }, type := ty, pos := pos, after := af, guard := none } (yielded ops a.tmps) = true then Oper.wp P { dst := d, op := .call { callee := .builtin .append, args := #[s, x], argTypes := #[tS, tS] }, type := ty, pos := pos, after := af, guard := none } a w K Q else F :=
  step_appE ht hi0 hz w rfl s x tS rfl (a.eval s) l rfl hown (a.eval x) rfl m (hy.src ht) (by simp only [maxLen]; omega) (Nat.le_trans (Nat.mul_le_mul hl hby) (by omega)) h
/-- One element's row, new. -/
theorem one_row (E : El T) (e : TypeId) (w : World) (x : T) : RdE E (w.alloc (.cells (E.enc x).toArray e)) (.slice (some ⟨w.heap.size, 0, none⟩) 1 1) [x] := by
  have h := (OwE.made (E := E) (e := e) w [x] (by show (1 : Nat) ≤ maxLen; simp [maxLen])).rd
  have e1 : E.flat [x] = E.enc x := by rw [El.flat_cons, El.flat_nil, List.append_nil]
  rw [e1] at h
  exact h
theorem OwE.some_at {A : Option Addr} (h : OwE E e w (.slice A n c) L) (h0 : 0 < L.length) : ∃ ad, A = some ad ∧ n = L.length := by
  rcases h.form with ⟨_, rfl⟩ | ⟨g, cap, cur, e1, _⟩
  · exact absurd h0 (by simp)
  · injection e1 with e1 e2 e3
    exact ⟨_, e1, e2⟩
end

end Go.Proofs.YtgbphkbbedkepaaGreat

/-
  A slice of elements of any size that came in. No type is named here.
-/
namespace Go.Proofs.YtgbphkbbedkepaaGreat
open Go.RowKit Go.ChangeShapes Go.WideShapes Go.Deep

theorem open_elems {P : Program} {H X : Type} [Inhabited X] {enc : TypeId × Value → H} {W : World} {T e : TypeId} (E : El X) (ok : X → Prop) {v : Value} {d : DataW H} {p : List MemPlace} {a : Option Addr} {len cap : Nat}
    (hT : P.underlying T = some (.slice e)) (hC : P.cellsOf e = E.sz) (hv : v = .slice a len cap) (h : DataW.Trod enc P W 0 (fun _ => true) true T v d p)
    (one : ∀ (n : Nat) (cs : List Value) (y : DataW H × List MemPlace), cs.length = E.sz → DataW.trod enc P W 0 (fun _ => true) true n e cs = some y → ∃ x, cs = E.enc x ∧ ok x) :
    ∃ l : List X, RdE E W v l ∧ l.length ≤ maxLen ∧ ∀ x ∈ l, ok x := by
  subst hv
  obtain ⟨fuel, hf⟩ := h
  rcases open_slice hT hf with ⟨hcs, _⟩ | ⟨a', len', cap', m, n, D, Pl, hcs, _, hl, hm, hmm, _, hx⟩
  · simp [Value.cells] at hcs
    obtain ⟨rfl, rfl, rfl⟩ := hcs
    exact ⟨[], RdE.nil W, Nat.zero_le _, fun x hx => by cases hx⟩
  · simp [Value.cells] at hcs
    obtain ⟨rfl, rfl, rfl⟩ := hcs
    have hmm' : m = cap := by simpa using hmm
    subst hmm'
    have key : ∀ i, i < len → ∃ x : X, (∀ j u, (E.enc x)[j]? = some u → W.cell? (a'.add (i * E.sz + j)) = some u) ∧ ok x := by
      intro i hi
      obtain ⟨cs, h1, h2⟩ := hx i (by omega)
      rw [hC] at h1
      obtain ⟨_, hlen, hcell⟩ := World.cells?_some h1
      obtain ⟨x, rfl, hok⟩ := one _ _ _ hlen h2
      refine ⟨x, fun j u hj => ?_, hok⟩
      have hjl : j < E.sz := by
        have := (List.getElem?_eq_some_iff.1 hj).1
        rwa [E.len] at this
      have hc := hcell j hjl
      rw [eadd_add] at hc
      rw [hc]
      exact hj
    obtain ⟨V, hV⟩ := choose_lt key
    have hll : ((List.range len).map V).length = len := by simp
    refine ⟨(List.range len).map V, ⟨some a', m, by rw [hll], ⟨by rw [hll]; omega, by omega⟩, (fun e => by cases e), fun ad e i u hi => ?_⟩, by rw [hll]; omega, fun x hx => ?_⟩
    · cases e
      have hil : i < len * E.sz := by
        have := (List.getElem?_eq_some_iff.1 hi).1
        rwa [E.flat_len, hll] at this
      have hs : 0 < E.sz := by
        rcases Nat.eq_zero_or_pos E.sz with c | c
        · rw [c] at hil; simp at hil
        · exact c
      have hq : i / E.sz < len := (Nat.div_lt_iff_lt_mul hs).2 hil
      have hr : i % E.sz < E.sz := Nat.mod_lt _ hs
      have hi2 : i = i / E.sz * E.sz + i % E.sz := by rw [Nat.mul_comm]; exact (Nat.div_add_mod i E.sz).symm
      have hVi : ((List.range len).map V)[i / E.sz]? = some (V (i / E.sz)) := by rw [List.getElem?_map, List.getElem?_range hq]; rfl
      rw [hi2, E.flat_at hVi hr] at hi
      have := (hV _ hq).1 _ _ hi
      rw [← hi2] at this
      exact this
    · obtain ⟨i, hi, rfl⟩ := List.mem_map.1 hx
      exact (hV i (List.mem_range.1 hi)).2

end Go.Proofs.YtgbphkbbedkepaaGreat

/-
  Stage 9: keys, facts and numbers in memory.
-/
namespace Go.Proofs.YtgbphkbbedkepaaGreat
open Go.RowKit Go.ChangeShapes Go.WideShapes Go.Deep

/-- A number's cell. -/
def EN9 : El Int where
  sz := 1
  enc p := [.int .i64 p]
  len _ := rfl
  one p u hu := by rw [List.mem_singleton.1 hu]; rfl
theorem num_info9 : (Tryz.prog.info? 2).map (fun i => (i.zero, i.size, i.bytes)) = some (some (.int .i64 0), EN9.sz, 8) := by kernel_rfl
theorem num_zero9 : (Value.cells (.int .i64 0)).size = EN9.sz := rfl
theorem num_at9 {w : World} {A : Option Addr} {n c : Nat} {L : List Int} (h : RdE EN9 w (.slice A n c) L) {j : Nat} {x : Int} (hj : L[j]? = some x) :
    ∃ ad, A = some ad ∧ ∀ W, Turn (fun _ => False) w W → W.cell? (ad.add j) = some (.int .i64 x) := by
  obtain ⟨ad, hA, _⟩ := h.cells hj
  refine ⟨ad, hA, fun W ht => ?_⟩
  obtain ⟨ad', hA', hc⟩ := (h.later ht).cells hj
  rw [hA] at hA'
  cases hA'
  have h1 := hc 0 _ rfl
  rwa [show j * EN9.sz + 0 = j from by simp [EN9]] at h1
theorem flat_num9 (l : List Int) : EN9.flat l = l.map (fun x => Value.int .i64 x) := by
  induction l with
  | nil => rfl
  | cons x l ih => rw [El.flat_cons, ih]; rfl
theorem rd_num9 {w : World} {v : Value} {l : List Int} (h : RdE EN9 w v l) : RdN .i64 w v l := by
  obtain ⟨A, c, e, h1, h2, h3⟩ := h
  refine ⟨A, c, e, h1, h2, fun ad ea j x hj => h3 ad ea j _ ?_⟩
  rw [flat_num9, List.getElem?_map, hj]
  rfl
theorem wpList_nums9 (w : World) {ops : Array Oper} {rest : List Oper} {o : Oper} {a : Act} {Q : Exit → Act → World → Prop} (hgd : o.guard = none) (s x : Operand)
    (ho : o.op = .call { callee := .builtin .append, args := #[s, x], argTypes := #[40, 40] }) (v : Value) (l : List Int) (hs : a.eval s = v) (hown : OwE EN9 2 w v l)
    (y : Value) (hx : a.eval x = y) (m : List Int) (hy : RdE EN9 w y m) (hl : l.length + m.length ≤ 3000000)
    (h : ∀ A n c w', OwE EN9 2 w' (.slice A n c) (l ++ m) → Turn (fun k => v.ownBlock = some k) w w' → ((Value.slice A n c).ownBlock = v.ownBlock ∨ (Value.slice A n c).ownBlock = some w.heap.size) → wpList Tryz.prog ops Q rest (a.put o.dst (.slice A n c)) w') :
    wpList Tryz.prog ops Q (o :: rest) a w :=
  wpList_appE Tryz.underlying40 num_info9 num_zero9 w hgd s x _ ho v l hs hown y hx m (hy.src Tryz.underlying40) (by simp only [maxLen]; omega) (by omega) h

/-- A slice that came in lies in the memory that came in. -/
theorem came_in9 {P : Program} {W : World} {base : Nat} {t e : TypeId} {v : Value} (ht : P.underlying t = some (.slice e)) (h : Value.okWide P W .any base t v) : ∀ g, v.ownBlock = some g → g < W.heap.size := fun g hg => by
  simp only [Value.okWide, ht, Cell.okWide] at h
  obtain ⟨a, n, c, rfl⟩ := okWide_slice ht (by simp only [Value.okWide, ht, Cell.okWide]; exact h)
  cases a with
  | none => simp [Value.ownBlock] at hg
  | some a =>
    simp only [Cell.ok, ht] at h
    have e : a.block = g := by simpa [Value.ownBlock] using hg
    obtain ⟨_, _, h3⟩ := h
    rw [← e]
    obtain ⟨_, _, row, cells, hs, _⟩ := h3
    unfold World.shape? at hs
    rcases Nat.lt_or_ge a.block W.heap.size with hl | hl
    · exact hl
    · rw [Array.getElem?_eq_none hl] at hs
      cases hs

/-- A text, as a value. -/
abbrev sv9 (l : List UInt8) : Value := .string ⟨l.toArray⟩
/-- A key, a fact, as a value. -/
abbrev kv9 (k : K9) : Value := .agg #[.int .i64 k.h, sv9 k.a, sv9 k.b, sv9 k.c, sv9 k.d]
abbrev fv9 (f : F9) : Value := .agg #[.int .i64 f.k.h, sv9 f.k.a, sv9 f.k.b, sv9 f.k.c, sv9 f.k.d, .int .i64 f.v]
/-- A fact's cells. -/
def EF : El F9 where
  sz := 6
  enc f := [.int .i64 f.k.h, sv9 f.k.a, sv9 f.k.b, sv9 f.k.c, sv9 f.k.d, .int .i64 f.v]
  len _ := rfl
  one f u hu := by
    simp only [List.mem_cons, List.not_mem_nil, or_false] at hu
    rcases hu with rfl | rfl | rfl | rfl | rfl | rfl <;> rfl
theorem fact_zero : (Value.cells (.agg #[.int .i64 0, .string ⟨#[]⟩, .string ⟨#[]⟩, .string ⟨#[]⟩, .string ⟨#[]⟩, .int .i64 0])).size = EF.sz := rfl
/-- A fact in memory. -/
theorem fact_at {w : World} {A : Option Addr} {n c : Nat} {L : List F9} (h : RdE EF w (.slice A n c) L) {j : Nat} {f : F9} (hj : L[j]? = some f) :
    ∃ ad, A = some ad ∧ ∀ W, Turn (fun _ => False) w W → W.cell? (ad.add (j * 6)) = some (.int .i64 f.k.h) ∧ (∀ i, i < 4 → W.cell? ⟨(ad.add (j * 6)).block, (ad.add (j * 6)).off + (1 + i), none⟩ = some (sv9 (f.k.dim i))) ∧ W.cell? ⟨(ad.add (j * 6)).block, (ad.add (j * 6)).off + 5, none⟩ = some (.int .i64 f.v) := by
  obtain ⟨ad, hA, _⟩ := h.cells hj
  refine ⟨ad, hA, fun W ht => ?_⟩
  obtain ⟨ad', hA', hc⟩ := (h.later ht).cells hj
  rw [hA] at hA'
  cases hA'
  have key : ∀ (k : Nat) (u : Value), (EF.enc f)[k + 1]? = some u → W.cell? ⟨(ad.add (j * 6)).block, (ad.add (j * 6)).off + (k + 1), none⟩ = some u := fun k u hu => by
    rw [show (⟨(ad.add (j * 6)).block, (ad.add (j * 6)).off + (k + 1), none⟩ : Addr) = (ad.add (j * 6)).add (k + 1) from rfl, eadd_add]
    exact hc (k + 1) u hu
  refine ⟨hc 0 _ rfl, fun i hi => ?_, key 4 _ rfl⟩
  match i, hi with
  | 0, _ => exact key 0 _ rfl
  | 1, _ => exact key 1 _ rfl
  | 2, _ => exact key 2 _ rfl
  | 3, _ => exact key 3 _ rfl
/-- The same, cell by cell. -/
theorem fact_at6 {w : World} {A : Option Addr} {n c : Nat} {L : List F9} (h : RdE EF w (.slice A n c) L) {j : Nat} {f : F9} (hj : L[j]? = some f) :
    ∃ ad, A = some ad ∧ ∀ W, Turn (fun _ => False) w W → W.cell? (ad.add (j * 6)) = some (.int .i64 f.k.h) ∧ W.cell? ⟨(ad.add (j * 6)).block, (ad.add (j * 6)).off + 1, none⟩ = some (sv9 f.k.a) ∧ W.cell? ⟨(ad.add (j * 6)).block, (ad.add (j * 6)).off + 2, none⟩ = some (sv9 f.k.b) ∧
      W.cell? ⟨(ad.add (j * 6)).block, (ad.add (j * 6)).off + 3, none⟩ = some (sv9 f.k.c) ∧ W.cell? ⟨(ad.add (j * 6)).block, (ad.add (j * 6)).off + 4, none⟩ = some (sv9 f.k.d) ∧ W.cell? ⟨(ad.add (j * 6)).block, (ad.add (j * 6)).off + 5, none⟩ = some (.int .i64 f.v) := by
  obtain ⟨ad, hA, hc⟩ := fact_at h hj
  refine ⟨ad, hA, fun W ht => ?_⟩
  obtain ⟨h0, h1, h2⟩ := hc W ht
  exact ⟨h0, h1 0 (by omega), h1 1 (by omega), h1 2 (by omega), h1 3 (by omega), h2⟩
/-- A box's key: its cells. -/
theorem dim_cell {W : World} {g o : Nat} {t : TypeId} {vs : Array Value} {k : K9} (hb : Box W g t vs) (h : ∀ i, i < 4 → vs[o + i]? = some (sv9 (k.dim i))) : ∀ i, i < 4 → W.cell? ⟨g, o + i, none⟩ = some (sv9 (k.dim i)) := fun i hi => by
  rw [hb.cell]
  exact h i hi
theorem key_cells {k : K9} : ∀ i, i < 4 → (#[.int .i64 k.h, sv9 k.a, sv9 k.b, sv9 k.c, sv9 k.d] : Array Value)[1 + i]? = some (sv9 (k.dim i)) := fun i hi => by
  match i, hi with
  | 0, _ => rfl
  | 1, _ => rfl
  | 2, _ => rfl
  | 3, _ => rfl
theorem fact_cells {f : F9} : ∀ i, i < 4 → (#[.int .i64 f.k.h, sv9 f.k.a, sv9 f.k.b, sv9 f.k.c, sv9 f.k.d, .int .i64 f.v] : Array Value)[1 + i]? = some (sv9 (f.k.dim i)) := fun i hi => by
  match i, hi with
  | 0, _ => rfl
  | 1, _ => rfl
  | 2, _ => rfl
  | 3, _ => rfl

end Go.Proofs.YtgbphkbbedkepaaGreat

/-
  Stage 9: the document's Compare, Check, All.
-/
namespace Go.Proofs.YtgbphkbbedkepaaGreat
open Go.RowKit

set_option maxRecDepth 100000

end Go.Proofs.YtgbphkbbedkepaaGreat
