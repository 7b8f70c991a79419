/-
  Texts laid one behind the other: Za Oa.
-/
import Derived.Test.YtieffpngknglpaaJoacaa
import Derived.Test.YtieffpngknglpaaRows
import Derived.WalkKit
import Derived.WalkSpells
import Derived.WalkLawsBesides
import Derived.Maps.AppendAt
import Derived.Deep.AppendSrc
import Derived.Lib.Hide

/-
  Stage 9, plain: keys and facts, their order, what is right.
-/
namespace Go.Proofs.Ytieffpngknglpaa
open Go.RowKit

/-- Two orders, one behind the other. -/
def lexB {A B : Type} [DecidableEq A] (f : A → A → Bool) (g : B → B → Bool) (p q : A × B) : Bool := f p.1 q.1 || (decide (p.1 = q.1) && g p.2 q.2)
theorem rises_lex {A B : Type} [DecidableEq A] {f : A → A → Bool} {g : B → B → Bool} (hf : Rises f) (hg : Rises g) : Rises (lexB f g) := by
  obtain ⟨f1, f2, f3⟩ := hf
  obtain ⟨g1, g2, g3⟩ := hg
  refine ⟨fun p => ?_, fun p q r h k => ?_, fun p q h k => ?_⟩
  · simp [lexB, f1, g1]
  · simp only [lexB, Bool.or_eq_true, Bool.and_eq_true, decide_eq_true_iff] at h k ⊢
    rcases h with h | ⟨e, h⟩
    · rcases k with k | ⟨e2, k⟩
      · exact .inl (f2 _ _ _ h k)
      · rw [← e2]; exact .inl h
    · rcases k with k | ⟨e2, k⟩
      · rw [e]; exact .inl k
      · exact .inr ⟨e.trans e2, g2 _ _ _ h k⟩
  · simp only [lexB, Bool.or_eq_true, Bool.and_eq_true, decide_eq_true_iff, Bool.or_eq_false_iff, Bool.and_eq_false_iff, decide_eq_false_iff_not] at k ⊢
    by_cases e : p.1 = q.1
    · rcases k.2 with k2 | k2
      · exact absurd e k2
      · exact .inr ⟨e.symm, g3 _ _ (fun e2 => h (Prod.ext e e2)) k2⟩
    · exact .inl (f3 _ _ e k.1)
theorem rises_int9 : Rises (fun a b : Int => decide (a < b)) := by
  refine ⟨fun a => by simp, fun a b c h k => ?_, fun a b h k => ?_⟩
  · simp only [decide_eq_true_iff] at *; omega
  · simp only [decide_eq_true_iff, decide_eq_false_iff_not] at *; omega
theorem rises_by {A B : Type} {f : B → B → Bool} (e : A → B) (he : ∀ a b, e a = e b → a = b) (hf : Rises f) : Rises (fun a b => f (e a) (e b)) := by
  obtain ⟨f1, f2, f3⟩ := hf
  exact ⟨fun a => f1 _, fun a b c => f2 _ _ _, fun a b h => f3 _ _ (fun k => h (he _ _ k))⟩

/-- A key: its hour, its dimensions' values. -/
structure K9 where
  h : Int
  a : List UInt8
  b : List UInt8
  c : List UInt8
  d : List UInt8
deriving DecidableEq
/-- A fact: a key, a value. -/
structure F9 where
  k : K9
  v : Int
deriving DecidableEq
instance : Inhabited F9 := ⟨⟨⟨0, [], [], [], []⟩, 0⟩⟩
def K9.dim (k : K9) : Nat → List UInt8
  | 0 => k.a
  | 1 => k.b
  | 2 => k.c
  | _ => k.d
def K9.put (k : K9) (i : Nat) (t : List UInt8) : K9 :=
  match i with
  | 0 => { k with a := t }
  | 1 => { k with b := t }
  | 2 => { k with c := t }
  | _ => { k with d := t }
def K9.tup (k : K9) : Int × List UInt8 × List UInt8 × List UInt8 × List UInt8 := (k.h, k.a, k.b, k.c, k.d)
theorem K9.tup_inj (p q : K9) (h : p.tup = q.tup) : p = q := by
  cases p; cases q
  simpa [K9.tup] using h
/-- Which of two keys stands ahead. -/
def keyLt (p q : K9) : Bool := lexB (fun a b : Int => decide (a < b)) (lexB Op.bytesLess (lexB Op.bytesLess (lexB Op.bytesLess Op.bytesLess))) p.tup q.tup
theorem rises_key : Rises keyLt := rises_by K9.tup K9.tup_inj (rises_lex rises_int9 (rises_lex rises_bytes (rises_lex rises_bytes (rises_lex rises_bytes rises_bytes))))
def cmpK (p q : K9) : Int := if keyLt p q then -1 else if keyLt q p then 1 else 0
/-- Which of two facts stands ahead. -/
def factLt (f g : F9) : Bool := lexB keyLt (fun a b : Int => decide (a < b)) (f.k, f.v) (g.k, g.v)
theorem rises_fact : Rises factLt := rises_by (fun f : F9 => (f.k, f.v)) (fun f g h => by cases f; cases g; simpa using h) (rises_lex rises_key rises_int9)
theorem Rises.asym {A : Type} {lt : A → A → Bool} (h : Rises lt) {a b : A} (k : lt a b = true) : lt b a = false := by
  obtain ⟨h1, h2, h3⟩ := h
  cases e : lt b a with
  | false => rfl
  | true => rw [← h1 a]; exact (h2 _ _ _ k e).symm
theorem cmpK_lt {p q : K9} (h : keyLt p q = true) : cmpK p q = -1 := if_pos h
theorem cmpK_gt {p q : K9} (h : keyLt q p = true) : cmpK p q = 1 := by unfold cmpK; rw [if_neg (by rw [rises_key.asym h]; simp), if_pos h]
theorem cmpK_self (p : K9) : cmpK p p = 0 := by unfold cmpK; rw [rises_key.irr p]; simp
theorem cmpK_cases (p q : K9) : (keyLt p q = true ∧ cmpK p q = -1 ∧ cmpK q p = 1) ∨ (keyLt q p = true ∧ cmpK p q = 1 ∧ cmpK q p = -1) ∨ (p = q ∧ cmpK p q = 0) := by
  by_cases h : keyLt p q = true
  · exact .inl ⟨h, cmpK_lt h, cmpK_gt h⟩
  · by_cases g : keyLt q p = true
    · exact .inr (.inl ⟨g, cmpK_gt g, cmpK_lt g⟩)
    · right; right
      have e : p = q := by
        by_cases e : p = q
        · exact e
        · exact absurd (rises_key.tot p q e (by simpa using h)) g
      subst e
      exact ⟨rfl, cmpK_self p⟩
theorem cmpK_neg (p q : K9) : cmpK q p = - cmpK p q := by
  rcases cmpK_cases p q with ⟨_, h, g⟩ | ⟨_, h, g⟩ | ⟨e, h⟩
  · rw [h, g]; rfl
  · rw [h, g]
  · subst e; rw [h]; rfl
/-- The hour decides, or a dimension behind equal ones. -/
theorem key_hour {p q : K9} (h : p.h < q.h) : keyLt p q = true := by simp [keyLt, lexB, K9.tup, h]
theorem key_dim {p q : K9} {i : Nat} (hi : i < 4) (h0 : p.h = q.h) (he : ∀ k, k < i → p.dim k = q.dim k) (h : Op.bytesLess (p.dim i) (q.dim i) = true) : keyLt p q = true := by
  match i, hi with
  | 0, _ => simp only [K9.dim] at h; simp [keyLt, lexB, K9.tup, h0, h]
  | 1, _ =>
    have e0 := he 0 (by omega)
    simp only [K9.dim] at h e0
    simp [keyLt, lexB, K9.tup, h0, h, e0]
  | 2, _ =>
    have e0 := he 0 (by omega)
    have e1 := he 1 (by omega)
    simp only [K9.dim] at h e0 e1
    simp [keyLt, lexB, K9.tup, h0, h, e0, e1]
  | 3, _ =>
    have e0 := he 0 (by omega)
    have e1 := he 1 (by omega)
    have e2 := he 2 (by omega)
    simp only [K9.dim] at h e0 e1 e2
    simp [keyLt, lexB, K9.tup, h0, h, e0, e1, e2]
theorem key_same {p q : K9} (h0 : p.h = q.h) (he : ∀ k, k < 4 → p.dim k = q.dim k) : p = q := by
  have e0 := he 0 (by omega)
  have e1 := he 1 (by omega)
  have e2 := he 2 (by omega)
  have e3 := he 3 (by omega)
  cases p; cases q
  simp only [K9.dim] at e0 e1 e2 e3
  simp only [K9.mk.injEq]
  exact ⟨h0, e0, e1, e2, e3⟩
theorem bytes_same {a b : List UInt8} (h : Op.bytesLess a b = false) (g : Op.bytesLess b a = false) : a = b := by
  by_cases e : a = b
  · exact e
  · rw [rises_bytes.tot a b e h] at g
    cases g
theorem factLt_iff (f g : F9) : factLt f g = (decide (cmpK f.k g.k < 0) || (decide (cmpK f.k g.k = 0) && decide (f.v < g.v))) := by
  unfold factLt lexB
  rcases cmpK_cases f.k g.k with ⟨h, e, _⟩ | ⟨h, e, _⟩ | ⟨h, e⟩
  · rw [h, e]; rfl
  · rw [rises_key.asym h, e]
    have hne : f.k ≠ g.k := fun e2 => by rw [e2, rises_key.irr] at h; cases h
    simp [hne]
  · rw [e, h, rises_key.irr]
    simp

/-- What is wrong with a fact; of a batch: that, and where. -/
def okDims (n : Int) : Bool := decide (1 ≤ n) && decide (n ≤ 4)
def okText (n : Int) (i : Nat) (t : List UInt8) : Bool := decide (t.length ≤ 16) && (decide ((i : Int) < n) || t.isEmpty)
def okTexts (n : Int) (k : K9) : Bool := okText n 0 k.a && okText n 1 k.b && okText n 2 k.c && okText n 3 k.d
def chkF (f : F9) (n : Int) : Int :=
  if okDims n then if 0 ≤ f.k.h ∧ f.k.h ≤ 16777216 ∧ f.v ≤ 1152921504606846976 ∧ -1152921504606846976 ≤ f.v then if okTexts n f.k then 0 else 4 else 2 else 1
/-- The first wrong fact from place i on. -/
def badAt (n : Int) : List F9 → Nat → Int × Int
  | [], _ => (0, 0)
  | f :: t, i => if chkF f n = 0 then badAt n t (i + 1) else (chkF f n, (i : Int))
def allB (l : List F9) (n : Int) : Int × Int := if okDims n ∧ 1 ≤ l.length ∧ l.length ≤ 50 then badAt n l 0 else (1, 0)
theorem okTexts_all {n : Int} {k : K9} (h : ∀ i, i < 4 → okText n i (k.dim i) = true) : okTexts n k = true := by
  have e0 := h 0 (by omega)
  have e1 := h 1 (by omega)
  have e2 := h 2 (by omega)
  have e3 := h 3 (by omega)
  simp only [K9.dim] at e0 e1 e2 e3
  simp [okTexts, e0, e1, e2, e3]
theorem okTexts_not {n : Int} {k : K9} {i : Nat} (hi : i < 4) (h : okText n i (k.dim i) = false) : okTexts n k = false := by
  match i, hi with
  | 0, _ => simp only [K9.dim] at h; simp [okTexts, h]
  | 1, _ => simp only [K9.dim] at h; simp [okTexts, h]
  | 2, _ => simp only [K9.dim] at h; simp [okTexts, h]
  | 3, _ => simp only [K9.dim] at h; simp [okTexts, h]
theorem bad_step {n : Int} {l : List F9} {i : Nat} {f : F9} (h : l[i]? = some f) (hf : chkF f n = 0) : badAt n (l.drop i) i = badAt n (l.drop (i + 1)) (i + 1) := by
  obtain ⟨h0, e⟩ := List.getElem?_eq_some_iff.1 h
  rw [List.drop_eq_getElem_cons h0, e]
  simp [badAt, hf]
theorem bad_here {n : Int} {l : List F9} {i : Nat} {f : F9} (h : l[i]? = some f) (hf : chkF f n ≠ 0) : badAt n (l.drop i) i = (chkF f n, (i : Int)) := by
  obtain ⟨h0, e⟩ := List.getElem?_eq_some_iff.1 h
  rw [List.drop_eq_getElem_cons h0, e]
  simp [badAt, hf]

end Go.Proofs.Ytieffpngknglpaa

/-
  Words for memory: what a call may turn, a row of bytes that a call owns.
-/
namespace Go.Proofs.Ytieffpngknglpaa
open Go.RowKit

/-- From w to w' nothing has turned but blocks of S, and new ones. -/
structure Turn (S : Nat → Prop) (w w' : World) : Prop where
  os : w'.os = w.os
  tape : w'.tape = w.tape
  output : w'.output = w.output
  size : w.heap.size ≤ w'.heap.size
  block : ∀ k, k < w.heap.size → ¬ S k → w'.heap[k]? = w.heap[k]?

section
variable {S T : Nat → Prop} {a b c w w' : World}
theorem Turn.refl (S : Nat → Prop) (w : World) : Turn S w w := ⟨rfl, rfl, rfl, Nat.le_refl _, fun _ _ _ => rfl⟩
theorem Turn.trans (h : Turn S a b) (g : Turn T b c) (hs : ∀ k, k < a.heap.size → T k → S k) : Turn S a c :=
  ⟨g.os.trans h.os, g.tape.trans h.tape, g.output.trans h.output, Nat.le_trans h.size g.size,
    fun k hk hn => (g.block k (Nat.lt_of_lt_of_le hk h.size) (fun t => hn (hs k hk t))).trans (h.block k hk hn)⟩
theorem Turn.mono (h : Turn S a b) (hs : ∀ k, k < a.heap.size → S k → T k) : Turn T a b :=
  ⟨h.os, h.tape, h.output, h.size, fun k hk hn => h.block k hk (fun s => hn (hs k hk s))⟩
theorem Turn.drew (h : Turn S a w) : Turn S a w.drew := ⟨h.os, h.tape, h.output, h.size, h.block⟩
theorem Turn.drewN (h : Turn S a w) (n : Nat) : Turn S a (w.drewN n) := ⟨h.os, h.tape, h.output, h.size, h.block⟩
theorem Turn.alloc (h : Turn S a w) (o : Obj) : Turn S a (w.alloc o) :=
  ⟨h.os, h.tape, h.output, Nat.le_trans h.size (by simp), fun k hk hn => (Below.heap_alloc w o k (Nat.lt_of_lt_of_le hk h.size)).trans (h.block k hk hn)⟩
theorem Turn.setCell (h : Turn S a w) {p : Addr} (hp : p.block < a.heap.size → S p.block) (u : Value) : Turn S a (w.setCell p u) :=
  ⟨h.os, h.tape, h.output, Nat.le_trans h.size (by simp [World.setCell]), fun k hk hn =>
    (Below.heap_setCell w p u k (fun e => hn (by subst e; exact hp hk))).trans (h.block k hk hn)⟩
theorem Turn.grown (h : Turn S a w) {row : Option Nat} (hg : w.grownBy w' row) (hr : ∀ k, k < a.heap.size → row = some k → S k) : Turn S a w' :=
  ⟨hg.os.trans h.os, hg.tape.trans h.tape, hg.output.trans h.output, Nat.le_trans h.size hg.size,
    fun k hk hn => (hg.block k (Nat.lt_of_lt_of_le hk h.size) (fun e => hn (hr k hk e.symm))).trans (h.block k hk hn)⟩
theorem Turn.below (h : Turn S a b) {B : Nat} (hB : B ≤ a.heap.size) (hs : ∀ k, S k → B ≤ k) : Below B a b :=
  ⟨h.os, h.tape, h.output, h.size, fun k hk => h.block k (by omega) (fun s => by have := hs k s; omega)⟩
theorem Turn.cell (h : Turn S w w') {p : Addr} (hp : p.block < w.heap.size) (hn : ¬ S p.block) : w'.cell? p = w.cell? p := World.cell?_of_block (w := w) (h.block _ hp hn)
theorem Turn.frozen (h : Turn S w w') {p : Addr} (hp : p.block < w.heap.size) (hn : ¬ S p.block) : w'.frozen? p = w.frozen? p := World.frozen?_of_block (w := w) (h.block _ hp hn)
end

/-- A byte in memory. -/
def bv (b : UInt8) : Value := .int .u8 (b.toNat : Int)

/-- Block g is just the cells cs of type t, none frozen. -/
def Box (w : World) (g : Nat) (t : TypeId) (cs : Array Value) : Prop := w.heap[g]? = some (.cells cs t (0, 0))

section
variable {w w' : World} {g : Nat} {t : TypeId} {cs : Array Value}
theorem Box.lt (h : Box w g t cs) : g < w.heap.size := (Array.getElem?_eq_some_iff.1 h).1
theorem Box.cell (h : Box w g t cs) (i : Nat) : w.cell? ⟨g, i, none⟩ = cs[i]? := cell_of_row w g i cs t (0, 0) h
theorem Box.free (h : Box w g t cs) (i : Nat) : w.frozen? ⟨g, i, none⟩ = false := by
  unfold Box at h
  simp [World.frozen?, h]
theorem Box.alloc (h : Box w g t cs) (o : Obj) : Box (w.alloc o) g t cs := (Below.heap_alloc w o g h.lt).trans h
theorem Box.new (w : World) (t : TypeId) (cs : Array Value) : Box (w.alloc (.cells cs t)) w.heap.size t cs := heap_alloc_new w _
theorem Box.turn {S : Nat → Prop} (h : Box w g t cs) (ht : Turn S w w') (hn : ¬ S g) : Box w' g t cs := (ht.block g h.lt hn).trans h
theorem Box.grown {row : Option Nat} (h : Box w g t cs) (hg : w.grownBy w' row) (hn : some g ≠ row) : Box w' g t cs := (hg.block g h.lt hn).trans h
theorem Box.set (h : Box w g t cs) (i : Nat) (u : Value) : Box (w.setCell ⟨g, i, none⟩ u) g t (cs.setIfInBounds i u) := by
  unfold Box at h ⊢
  simp [World.setCell, Array.getElem?_modify, h]
theorem Box.far (h : Box w g t cs) {p : Addr} (hp : g ≠ p.block) (u : Value) : Box (w.setCell p u) g t cs := (Below.heap_setCell w p u g hp).trans h
end

/-- Slice value v, at the head of a row of its own, or nil: its bytes are l. -/
def By (w : World) (v : Value) (l : List UInt8) : Prop := w.ownsRow 0 5 1 v l.length (l.map bv)

section
variable {w w' : World} {v : Value} {l : List UInt8}
theorem By.nil (w : World) : By w (.slice none 0 0) [] := World.ownsRow_nil w 0 _ 1
theorem By.lt (h : By w v l) {k : Nat} (hk : v.ownBlock = some k) : k < w.heap.size := (World.ownsRow.lt h k hk).2
theorem By.turn {S : Nat → Prop} (h : By w v l) (ht : Turn S w w') (hn : ∀ k, v.ownBlock = some k → ¬ S k) : By w' v l := by
  refine ⟨h.1, ?_⟩
  rcases h.2 with h0 | ⟨g, cap, cur, rfl, hb, hg, rest⟩
  · exact .inl h0
  · exact .inr ⟨g, cap, cur, rfl, hb, (ht.block g (Array.getElem?_eq_some_iff.1 hg).1 (hn g rfl)).trans hg, rest⟩
theorem By.alloc (h : By w v l) (o : Obj) : By (w.alloc o) v l := h.turn ((Turn.refl (fun _ => False) w).alloc o) (fun _ _ f => f)
theorem By.grown {row : Option Nat} (h : By w v l) (hg : w.grownBy w' row) (hn : v.ownBlock = none ∨ v.ownBlock ≠ row) : By w' v l := World.ownsRow.kept h hg hn
theorem By.form (h : By w v l) : (v = .slice none 0 0 ∧ l = []) ∨ ∃ g cap cur, v = .slice (some ⟨g, 0, none⟩) l.length cap ∧ Box w g 5 cur ∧ l.length ≤ cap ∧ cap ≤ maxLen ∧ cur.size = cap ∧ cur.toList.take l.length = l.map bv := by
  rcases h.2 with ⟨h0, h1⟩ | ⟨g, cap, cur, hv, _, hg, hn, hm, hs, ht⟩
  · exact .inl ⟨h0, List.eq_nil_of_length_eq_zero h1⟩
  · exact .inr ⟨g, cap, cur, hv, hg, hn, hm, by simpa using hs, by simpa using ht⟩
theorem By.ne_box (h : By w v l) {g : Nat} {t : TypeId} {cs : Array Value} (hb : Box w g t cs) (hne : 5 ≠ t) : v.ownBlock ≠ some g := by
  rcases h.form with ⟨rfl, _⟩ | ⟨g', cap, cur, rfl, hb', _⟩
  · simp [Value.ownBlock]
  · intro e
    obtain rfl : g' = g := by simpa [Value.ownBlock] using e
    have e2 := hb'.symm.trans hb
    injection e2 with e2
    injection e2 with _ e3
    exact hne e3
theorem By.len_le (h : By w v l) : l.length ≤ maxLen := by
  rcases h.form with ⟨_, rfl⟩ | ⟨g, cap, cur, _, _, h1, h2, _⟩
  · simp
  · omega
end

theorem By.cap {w : World} {A : Option Addr} {n c : Nat} {l : List UInt8} (h : By w (.slice A n c) l) : n = l.length ∧ l.length ≤ c ∧ c ≤ maxLen ∧ (A = none → l = [] ∧ c = 0) ∧ ∀ ad, A = some ad → ad.off = 0 ∧ ad.spot = none := by
  rcases h.form with ⟨e, rfl⟩ | ⟨g, cap, cur, e, _, h1, h2, _⟩
  · injection e with e1 e2 e3
    subst e1 e2 e3
    exact ⟨rfl, by simp, by simp, fun _ => ⟨rfl, rfl⟩, fun _ e => by cases e⟩
  · injection e with e1 e2 e3
    subst e1 e2 e3
    exact ⟨rfl, h1, h2, (fun e => by cases e), fun ad e => by cases e; exact ⟨rfl, rfl⟩⟩

/-- append onto a row of one's own, or nil, of whatever is appended. -/
theorem run_app {P : Program} (w : World) (t tx ty e : TypeId) (i : TypeInfo) (z : Value) (ht : P.underlying t = some (.slice e)) (hi : P.info? e = some i) (hz : i.zero = some z)
    (hzs : z.cells.size = i.size) (v : Value) (n : Nat) (xs : List Value) (hown : w.ownsRow 0 e i.size v n xs) (x : Value) (m : Nat) (news : List Value) (hs : Src P i.size tx x m news w)
    (h63 : n + m ≤ maxLen) (hbytes : (n + m) * i.bytes ≤ 140737488355328) :
    ∃ A n' c w', (Builtin.append_ #[t, tx] ty #[v, x]).run P w = .ok (.slice A n' c) w' ∧ w'.ownsRow 0 e i.size (.slice A n' c) (n + m) (xs ++ news) ∧ w.grownBy w' v.ownBlock ∧
      ((Value.slice A n' c).ownBlock = v.ownBlock ∨ (Value.slice A n' c).ownBlock = some w.heap.size) := by
  have hlen : (xs ++ news).length = (n + m) * i.size := by rw [List.length_append, hown.1, hs.newsLen, Nat.add_mul]
  have hm1 : n + m ≤ 9223372036854775807 := by simp only [maxLen] at h63; omega
  have grow : ∀ (old : Nat), old < n + m → ∀ (row : Option Nat),
      (w.drew.alloc (.cells ((xs ++ news).toArray ++ Builtin.zeroCells z.cells (grownCap w (n + m) old e - (n + m))) e)).ownsRow 0 e i.size
        (.slice (some ⟨w.heap.size, 0, none⟩) (n + m) (grownCap w (n + m) old e)) (n + m) (xs ++ news) ∧
      w.grownBy (w.drew.alloc (.cells ((xs ++ news).toArray ++ Builtin.zeroCells z.cells (grownCap w (n + m) old e - (n + m))) e)) row := by
    intro old _ row
    have hge := grownCap_ge w (n + m) old e
    refine ⟨⟨hlen, .inr ⟨w.heap.size, _, _, rfl, Nat.zero_le _, heap_alloc_new w.drew _, hge, grownCap_le_maxLen w (n + m) old e h63, ?_, ?_⟩⟩, ⟨rfl, rfl, rfl, by simp, fun k hk _ => Below.heap_alloc w.drew _ k hk⟩⟩
    · rw [Array.size_append, size_zeroCells, hzs, List.size_toArray, hlen, ← Nat.add_mul]
      congr 1
      omega
    · rw [Array.toList_append, ← hlen]
      exact List.take_left
  rcases hown.2 with ⟨rfl, rfl⟩ | ⟨g, cap, cur, rfl, hb0, hg, hnc, hcm, hcs, htake⟩
  · have hx : xs = [] := List.eq_nil_of_length_eq_zero (by simpa using hown.1)
    subst hx
    by_cases hm : m = 0
    · subst hm
      have hn : news = [] := List.eq_nil_of_length_eq_zero (by simpa using hs.newsLen)
      subst hn
      refine ⟨none, 0, 0, w, ?_, World.ownsRow_nil w 0 e i.size, ⟨rfl, rfl, rfl, Nat.le_refl _, fun _ _ _ => rfl⟩, .inl rfl⟩
      rcases hs.kind with ⟨e', hk⟩ | hk <;> simp [Builtin.append_, run_underlying ht, run_underlying hk, sizeOf, typeInfo, hi, hs.len, hs.cells]
    · have hr := run_append_grow_src (P := P) w t tx ty e i z ht hi hz none 0 0 [] (run_firstCells_none w.drew i.size 0 0 0) x m news hs (by omega) (by omega) (growslice_fits (by omega) hbytes)
      have hgr := grow 0 (by omega) (Value.ownBlock (.slice none 0 0))
      exact ⟨_, _, _, _, hr, hgr.1, hgr.2, .inr rfl⟩
  · by_cases hroom : n + m ≤ cap
    · have hfit : n * i.size + news.length ≤ cur.size := by rw [hs.newsLen, hcs, ← Nat.add_mul]; exact Nat.mul_le_mul_right _ hroom
      have hst := run_storeCells_at P g (n * i.size) e news 0 cur w hg (by simpa using hfit) hs.one
      simp only [Nat.add_zero] at hst
      have hr : (Builtin.append_ #[t, tx] ty #[.slice (some ⟨g, 0, none⟩) n cap, x]).run P w =
          .ok (.slice (some ⟨g, 0, none⟩) (n + m) cap) (w.setRow g (cur.toList.take (n * i.size) ++ news ++ cur.toList.drop (n * i.size + news.length)).toArray) := by
        rcases hs.kind with ⟨e', hk⟩ | hk <;> simp [Builtin.append_, run_underlying ht, run_underlying hk, sizeOf, typeInfo, hi, hs.len, hs.cells, hroom, Addr.add_lit, hst]
      refine ⟨_, _, _, _, hr, ⟨hlen, .inr ⟨g, cap, _, rfl, hb0, setRow_heap w g cur _ e _ hg, hroom, hcm, ?_, ?_⟩⟩, ⟨rfl, rfl, rfl, by simp, fun k _ hk => setRow_other w g k _ (fun e => hk (by simp [Value.ownBlock, e]))⟩, .inl rfl⟩
      · simp only [List.size_toArray, List.length_append, List.length_take, List.length_drop, Array.length_toList]
        omega
      · rw [htake, ← hlen]
        exact List.take_left
    · have hold : (Builtin.firstCells i.size n (.slice (some ⟨g, 0, none⟩) n cap)).run P w.drew = .ok xs.toArray w.drew :=
        run_firstCells_some (P := P) w.drew i.size n ⟨g, 0, none⟩ n cap xs hown.1 (hown.cells (g := g) rfl)
      have hr := run_append_grow_src (P := P) w t tx ty e i z ht hi hz (some ⟨g, 0, none⟩) n cap xs hold x m news hs (by omega) (by omega) (growslice_fits (by omega) hbytes)
      have hgr := grow cap (by omega) (Value.ownBlock (.slice (some ⟨g, 0, none⟩) n cap))
      exact ⟨_, _, _, _, hr, hgr.1, hgr.2, .inr rfl⟩

theorem u8_info : (Try.prog.info? 5).map (fun i => (i.zero, i.size, i.bytes)) = some (some (.int .u8 0), 1, 1) := by kernel_rfl

/-- What is appended to bytes yields the bytes l. -/
def Yields (w : World) (tx : TypeId) (x : Value) (l : List UInt8) : Prop := Src Try.prog 1 tx x l.length (l.map bv) w

theorem bv_one (l : List UInt8) : ∀ u ∈ l.map bv, u.oneCell' = true := by
  intro u hu
  obtain ⟨b, _, rfl⟩ := List.mem_map.1 hu
  rfl

theorem yields_one (w : World) (b : UInt8) (c : Int) (hc : c = (b.toNat : Int)) : Yields (w.alloc (.cells #[.int .u8 c] 5)) 34 (.slice (some ⟨w.heap.size, 0, none⟩) 1 1) [b] := by
  subst hc
  exact  Src.ofSlice (P := Try.prog) (w.alloc (.cells #[bv b] 5)) (size := 1) Try.underlying34 ⟨w.heap.size, 0, none⟩ 1 1 [bv b] rfl (cell_one_new w (bv b) 5) (by intro u hu; simp at hu; subst hu; rfl)

theorem By.yields {w : World} {v : Value} {l : List UInt8} (h : By w v l) : Yields w 34 v l := by
  rcases h.form with ⟨rfl, rfl⟩ | ⟨g, cap, cur, rfl, _⟩
  · exact Src.ofNil (P := Try.prog) w (size := 1) Try.underlying34 0
  · exact Src.ofSlice (P := Try.prog) w (size := 1) Try.underlying34 ⟨g, 0, none⟩ l.length cap (l.map bv) (by simp) (World.ownsRow.cells h (g := g) rfl) (bv_one l)

theorem yields_string (w : World) (s : ByteArray) : Yields w 9 (.string s) s.data.toList := by
  have h := Src.ofString (P := Try.prog) w (tx := 9) Try.underlying9 s
  have e : s.data.toList.length = s.size := by rw [Array.length_toList]; rfl
  unfold Yields
  rw [e]
  exact h

/-- append onto bytes of one's own: at the operation, for the walk. -/
theorem wpList_app (w : World) {ops : Array Oper} {rest : List Oper} {o : Oper} {a : Act} {Q : Exit → Act → World → Prop} (hgd : o.guard = none) (s x : Operand) (tx : TypeId)
    (ho : o.op = .call { callee := .builtin .append, args := #[s, x], argTypes := #[34, tx] }) (v : Value) (l : List UInt8) (hs : a.eval s = v) (hown : By w v l)
    (y : Value) (hx : a.eval x = y) (news : List UInt8) (hy : Yields w tx y news) (hl : l.length + news.length ≤ 1000000000)
    (h : ∀ A n c w', By w' (.slice A n c) (l ++ news) → w.grownBy w' v.ownBlock → ((Value.slice A n c).ownBlock = v.ownBlock ∨ (Value.slice A n c).ownBlock = some w.heap.size) → wpList Try.prog ops Q rest (a.put o.dst (.slice A n c)) w') :
    wpList Try.prog ops Q (o :: rest) a w := by
  refine wpList_plain hgd fun K hK => ?_
  obtain ⟨i, hi, hz, h1, h2⟩ := info_parts u8_info
  unfold By at hown
  unfold Yields at hy
  rw [← h1] at hown hy
  obtain ⟨A, n, c, w', hr, g1, g2, g3⟩ := run_app (P := Try.prog) w 34 tx o.type 5 i _ Try.underlying34 hi hz (by rw [h1]; rfl) v l.length _ hown y news.length _ hy
    (by simp only [maxLen]; omega) (by rw [h2]; omega)
  unfold Oper.wp execOp
  simp only [ho, resolve, invoke, builtin, Sem.run_bind, Sem.run_pure, Result.andThen_ok, List.map_toArray, List.map_cons, List.map_nil, hs, hx, hr]
  refine hK _ _ (h A n c w' ?_ g2 g3)
  unfold By
  rw [List.length_append, List.map_append, ← h1]
  exact g1

end Go.Proofs.Ytieffpngknglpaa
