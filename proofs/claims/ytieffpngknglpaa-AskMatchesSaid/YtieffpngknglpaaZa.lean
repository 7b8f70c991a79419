
/-
  Stage 9, plain: keys and facts, their order, what is right.
-/
import Derived.Test.YtieffpngknglpaaNa
import Derived.Test.YtieffpngknglpaaNb
namespace Go.Proofs.Ytieffpngknglpaa
open Go.RowKit

/-- Two orders, one behind the other. -/
def lexB {A B : Type} [DecidableEq A] (f : A → A → Bool) (g : B → B → Bool) (p q : A × B) : Bool := f p.1 q.1 || (decide (p.1 = q.1) && g p.2 q.2)
theorem rises_lex {A B : Type} [DecidableEq A] {f : A → A → Bool} {g : B → B → Bool} (hf : Rises f) (hg : Rises g) : Rises (lexB f g) := by
  obtain ⟨f1, f2, f3⟩ := hf
  obtain ⟨g1, g2, g3⟩ := hg
  refine ⟨fun p => ?_, fun p q r h k => ?_, fun p q h k => ?_⟩
  · simp [lexB, f1, g1]
  · simp only [lexB, Bool.or_eq_true, Bool.and_eq_true, decide_eq_true_iff] at h k ⊢
    rcases h with h | ⟨e, h⟩
    · rcases k with k | ⟨e2, k⟩
      · exact .inl (f2 _ _ _ h k)
      · rw [← e2]; exact .inl h
    · rcases k with k | ⟨e2, k⟩
      · rw [e]; exact .inl k
      · exact .inr ⟨e.trans e2, g2 _ _ _ h k⟩
  · simp only [lexB, Bool.or_eq_true, Bool.and_eq_true, decide_eq_true_iff, Bool.or_eq_false_iff, Bool.and_eq_false_iff, decide_eq_false_iff_not] at k ⊢
    by_cases e : p.1 = q.1
    · rcases k.2 with k2 | k2
      · exact absurd e k2
      · exact .inr ⟨e.symm, g3 _ _ (fun e2 => h (Prod.ext e e2)) k2⟩
    · exact .inl (f3 _ _ e k.1)
theorem rises_int9 : Rises (fun a b : Int => decide (a < b)) := by
  refine ⟨fun a => by simp, fun a b c h k => ?_, fun a b h k => ?_⟩
  · simp only [decide_eq_true_iff] at *; omega
  · simp only [decide_eq_true_iff, decide_eq_false_iff_not] at *; omega
theorem rises_by {A B : Type} {f : B → B → Bool} (e : A → B) (he : ∀ a b, e a = e b → a = b) (hf : Rises f) : Rises (fun a b => f (e a) (e b)) := by
  obtain ⟨f1, f2, f3⟩ := hf
  exact ⟨fun a => f1 _, fun a b c => f2 _ _ _, fun a b h => f3 _ _ (fun k => h (he _ _ k))⟩

/-- A key: its hour, its dimensions' values. -/
structure K9 where
  h : Int
  a : List UInt8
  b : List UInt8
  c : List UInt8
  d : List UInt8
deriving DecidableEq
/-- A fact: a key, a value. -/
structure F9 where
  k : K9
  v : Int
deriving DecidableEq
instance : Inhabited F9 := ⟨⟨⟨0, [], [], [], []⟩, 0⟩⟩
def K9.dim (k : K9) : Nat → List UInt8
  | 0 => k.a
  | 1 => k.b
  | 2 => k.c
  | _ => k.d
def K9.put (k : K9) (i : Nat) (t : List UInt8) : K9 :=
  match i with
  | 0 => { k with a := t }
  | 1 => { k with b := t }
  | 2 => { k with c := t }
  | _ => { k with d := t }
def K9.tup (k : K9) : Int × List UInt8 × List UInt8 × List UInt8 × List UInt8 := (k.h, k.a, k.b, k.c, k.d)
theorem K9.tup_inj (p q : K9) (h : p.tup = q.tup) : p = q := by
  cases p; cases q
  simpa [K9.tup] using h
/-- Which of two keys stands ahead. -/
def keyLt (p q : K9) : Bool := lexB (fun a b : Int => decide (a < b)) (lexB Op.bytesLess (lexB Op.bytesLess (lexB Op.bytesLess Op.bytesLess))) p.tup q.tup
theorem rises_key : Rises keyLt := rises_by K9.tup K9.tup_inj (rises_lex rises_int9 (rises_lex rises_bytes (rises_lex rises_bytes (rises_lex rises_bytes rises_bytes))))
def cmpK (p q : K9) : Int := if keyLt p q then -1 else if keyLt q p then 1 else 0
/-- Which of two facts stands ahead. -/
def factLt (f g : F9) : Bool := lexB keyLt (fun a b : Int => decide (a < b)) (f.k, f.v) (g.k, g.v)
theorem rises_fact : Rises factLt := rises_by (fun f : F9 => (f.k, f.v)) (fun f g h => by cases f; cases g; simpa using h) (rises_lex rises_key rises_int9)
theorem Rises.asym {A : Type} {lt : A → A → Bool} (h : Rises lt) {a b : A} (k : lt a b = true) : lt b a = false := by
  obtain ⟨h1, h2, h3⟩ := h
  cases e : lt b a with
  | false => rfl
  | true => rw [← h1 a]; exact (h2 _ _ _ k e).symm
theorem cmpK_lt {p q : K9} (h : keyLt p q = true) : cmpK p q = -1 := if_pos h
theorem cmpK_gt {p q : K9} (h : keyLt q p = true) : cmpK p q = 1 := by unfold cmpK; rw [if_neg (by rw [rises_key.asym h]; simp), if_pos h]
theorem cmpK_self (p : K9) : cmpK p p = 0 := by unfold cmpK; rw [rises_key.irr p]; simp
theorem cmpK_cases (p q : K9) : (keyLt p q = true ∧ cmpK p q = -1 ∧ cmpK q p = 1) ∨ (keyLt q p = true ∧ cmpK p q = 1 ∧ cmpK q p = -1) ∨ (p = q ∧ cmpK p q = 0) := by
  by_cases h : keyLt p q = true
  · exact .inl ⟨h, cmpK_lt h, cmpK_gt h⟩
  · by_cases g : keyLt q p = true
    · exact .inr (.inl ⟨g, cmpK_gt g, cmpK_lt g⟩)
    · right; right
      have e : p = q := by
        by_cases e : p = q
        · exact e
        · exact absurd (rises_key.tot p q e (by simpa using h)) g
      subst e
      exact ⟨rfl, cmpK_self p⟩
theorem cmpK_neg (p q : K9) : cmpK q p = - cmpK p q := by
  rcases cmpK_cases p q with ⟨_, h, g⟩ | ⟨_, h, g⟩ | ⟨e, h⟩
  · rw [h, g]; rfl
  · rw [h, g]
  · subst e; rw [h]; rfl
/-- The hour decides, or a dimension behind equal ones. -/
theorem key_hour {p q : K9} (h : p.h < q.h) : keyLt p q = true := by simp [keyLt, lexB, K9.tup, h]
theorem key_dim {p q : K9} {i : Nat} (hi : i < 4) (h0 : p.h = q.h) (he : ∀ k, k < i → p.dim k = q.dim k) (h : Op.bytesLess (p.dim i) (q.dim i) = true) : keyLt p q = true := by
  match i, hi with
  | 0, _ => simp only [K9.dim] at h; simp [keyLt, lexB, K9.tup, h0, h]
  | 1, _ =>
    have e0 := he 0 (by omega)
    simp only [K9.dim] at h e0
    simp [keyLt, lexB, K9.tup, h0, h, e0]
  | 2, _ =>
    have e0 := he 0 (by omega)
    have e1 := he 1 (by omega)
    simp only [K9.dim] at h e0 e1
    simp [keyLt, lexB, K9.tup, h0, h, e0, e1]
  | 3, _ =>
    have e0 := he 0 (by omega)
    have e1 := he 1 (by omega)
    have e2 := he 2 (by omega)
    simp only [K9.dim] at h e0 e1 e2
    simp [keyLt, lexB, K9.tup, h0, h, e0, e1, e2]
theorem key_same {p q : K9} (h0 : p.h = q.h) (he : ∀ k, k < 4 → p.dim k = q.dim k) : p = q := by
  have e0 := he 0 (by omega)
  have e1 := he 1 (by omega)
  have e2 := he 2 (by omega)
  have e3 := he 3 (by omega)
  cases p; cases q
  simp only [K9.dim] at e0 e1 e2 e3
  simp only [K9.mk.injEq]
  exact ⟨h0, e0, e1, e2, e3⟩
theorem bytes_same {a b : List UInt8} (h : Op.bytesLess a b = false) (g : Op.bytesLess b a = false) : a = b := by
  by_cases e : a = b
  · exact e
  · rw [rises_bytes.tot a b e h] at g
    cases g
theorem factLt_iff (f g : F9) : factLt f g = (decide (cmpK f.k g.k < 0) || (decide (cmpK f.k g.k = 0) && decide (f.v < g.v))) := by
  unfold factLt lexB
  rcases cmpK_cases f.k g.k with ⟨h, e, _⟩ | ⟨h, e, _⟩ | ⟨h, e⟩
  · rw [h, e]; rfl
  · rw [rises_key.asym h, e]
    have hne : f.k ≠ g.k := fun e2 => by rw [e2, rises_key.irr] at h; cases h
    simp [hne]
  · rw [e, h, rises_key.irr]
    simp

/-- What is wrong with a fact; of a batch: that, and where. -/
def okDims (n : Int) : Bool := decide (1 ≤ n) && decide (n ≤ 4)
def okText (n : Int) (i : Nat) (t : List UInt8) : Bool := decide (t.length ≤ 16) && (decide ((i : Int) < n) || t.isEmpty)
def okTexts (n : Int) (k : K9) : Bool := okText n 0 k.a && okText n 1 k.b && okText n 2 k.c && okText n 3 k.d
def chkF (f : F9) (n : Int) : Int :=
  if okDims n then if 0 ≤ f.k.h ∧ f.k.h ≤ 16777216 ∧ f.v ≤ 1152921504606846976 ∧ -1152921504606846976 ≤ f.v then if okTexts n f.k then 0 else 4 else 2 else 1
/-- The first wrong fact from place i on. -/
def badAt (n : Int) : List F9 → Nat → Int × Int
  | [], _ => (0, 0)
  | f :: t, i => if chkF f n = 0 then badAt n t (i + 1) else (chkF f n, (i : Int))
def allB (l : List F9) (n : Int) : Int × Int := if okDims n ∧ 1 ≤ l.length ∧ l.length ≤ 50 then badAt n l 0 else (1, 0)
theorem okTexts_all {n : Int} {k : K9} (h : ∀ i, i < 4 → okText n i (k.dim i) = true) : okTexts n k = true := by
  have e0 := h 0 (by omega)
  have e1 := h 1 (by omega)
  have e2 := h 2 (by omega)
  have e3 := h 3 (by omega)
  simp only [K9.dim] at e0 e1 e2 e3
  simp [okTexts, e0, e1, e2, e3]
theorem okTexts_not {n : Int} {k : K9} {i : Nat} (hi : i < 4) (h : okText n i (k.dim i) = false) : okTexts n k = false := by
  match i, hi with
  | 0, _ => simp only [K9.dim] at h; simp [okTexts, h]
  | 1, _ => simp only [K9.dim] at h; simp [okTexts, h]
  | 2, _ => simp only [K9.dim] at h; simp [okTexts, h]
  | 3, _ => simp only [K9.dim] at h; simp [okTexts, h]
theorem bad_step {n : Int} {l : List F9} {i : Nat} {f : F9} (h : l[i]? = some f) (hf : chkF f n = 0) : badAt n (l.drop i) i = badAt n (l.drop (i + 1)) (i + 1) := by
  obtain ⟨h0, e⟩ := List.getElem?_eq_some_iff.1 h
  rw [List.drop_eq_getElem_cons h0, e]
  simp [badAt, hf]
theorem bad_here {n : Int} {l : List F9} {i : Nat} {f : F9} (h : l[i]? = some f) (hf : chkF f n ≠ 0) : badAt n (l.drop i) i = (chkF f n, (i : Int)) := by
  obtain ⟨h0, e⟩ := List.getElem?_eq_some_iff.1 h
  rw [List.drop_eq_getElem_cons h0, e]
  simp [badAt, hf]

end Go.Proofs.Ytieffpngknglpaa
