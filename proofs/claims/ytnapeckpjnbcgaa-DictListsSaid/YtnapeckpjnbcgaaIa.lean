
/-
  A range over a function whose iterator hands out memory of its own: what such an iterator promises ('Gives'), and the statement's law ('over').
-/
import Derived.Test.YtnapeckpjnbcgaaBb
import Derived.RangeFuncFrom
import Derived.RangeFuncCalls
import Derived.RangeFuncLeaves
import Derived.Shelf.Abstract
import Derived.Shelf.RegionOpen
import Derived.OwnWalkIn
import Derived.TacticsInMore
import Derived.LoopNIn
import Derived.LoopIn
namespace Go.Proofs.Ytnapeckpjnbcgaa
open Go.RowKit

/-- Blocks from D on that hold no cells; that hold a walk. -/
def odd (D : Nat) (A : World) (k : Nat) : Prop := D ≤ k ∧ ∃ o, A.heap[k]? = some o ∧ o.isCells = false
def strides (D : Nat) (A : World) (k : Nat) : Prop := D ≤ k ∧ ∃ o, A.heap[k]? = some o ∧ o.isWalk = true

theorem Turn.none {S : Nat → Prop} {A B : World} (h : Turn (fun _ => False) A B) : Turn S A B := h.mono (fun _ _ f => f.elim)
theorem Turn.ofStrides {D D' : Nat} {A B : World} (h : Turn (strides D A) A B) (hd : D' ≤ D) : Turn (odd D' A) A B :=
  h.mono (fun _ _ ⟨h1, o, h2, h3⟩ => ⟨Nat.le_trans hd h1, o, h2, Obj.not_cells_of_walk h3⟩)
theorem Turn.putObj (A : World) (l : Nat) (o : Obj) {S : Nat → Prop} (hl : S l) : Turn S A (A.putObj l o) :=
  ⟨rfl, rfl, rfl, by simp [World.putObj], fun k _ hn => World.putObj_heap_other (fun e => hn (e ▸ hl))⟩
theorem Box.odd {w w' : World} {g D : Nat} {t : TypeId} {cs : Array Value} (h : Box w g t cs) (ht : Turn (odd D w) w w') : Box w' g t cs := by
  refine h.turn ht ?_
  rintro ⟨_, o, ho, hc⟩
  rw [show w.heap[g]? = _ from h] at ho
  cases ho
  cases hc
theorem Rd.odd {w w' : World} {D : Nat} {v : Value} {l : List UInt8} (h : Rd w v l) (ht : Turn (odd D w) w w') : Rd w' v l := by
  obtain ⟨A, c, rfl, hk, hn, hc⟩ := h
  refine ⟨A, c, rfl, hk, hn, fun ad e j b hj => ?_⟩
  have h1 := hc ad e j b hj
  have hlt := World.block_lt_of_cell? w _ h1
  rw [ht.cell hlt ?_]
  · exact h1
  · rintro ⟨_, o, ho, hf⟩
    obtain ⟨o', ho', hf'⟩ := cells_of_cell h1
    rw [ho] at ho'
    cases ho'
    rw [hf] at hf'
    cases hf'

/-- What abides that blocks which hold no cells, from D on, are turned, and new ones laid. -/
def Holds {β : Type} (D : Nat) (I : β → World → Prop) : Prop := ∀ s A B, I s A → Turn (odd D A) A B → I s B
def Walks {β : Type} (D : Nat) (I : β → World → Prop) : Prop := ∀ s A B, I s A → Turn (strides D A) A B → I s B

theorem Holds.walks {β : Type} {D D' : Nat} {I : β → World → Prop} (h : Holds D I) (hd : D ≤ D') : Walks D' I := fun s A B hs ht => h s A B hs (ht.ofStrides hd)
theorem Holds.put {β : Type} {D : Nat} {I : β → World → Prop} (h : Holds D I) {s : β} {A : World} {l : Nat} {o : Obj} (o' : Obj) (hs : I s A) (hD : D ≤ l) (hl : A.heap[l]? = some o) (ho : o.isCells = false) : I s (A.putObj l o') :=
  h s A _ hs (Turn.putObj A l o' ⟨hD, o, hl, ho⟩)
theorem Holds.and {β : Type} {D : Nat} {I K : β → World → Prop} (h : Holds D I) (k : Holds D K) : Holds D (fun s W => I s W ∧ K s W) := fun s A B hs ht => ⟨h s A B hs.1 ht, k s A B hs.2 ht⟩
theorem holds_pure {β : Type} (D : Nat) (p : β → Prop) : Holds D (fun s (_ : World) => p s) := fun _ _ _ hs _ => hs
theorem holds_box {β : Type} (D g : Nat) (t : TypeId) (f : β → Array Value) : Holds D (fun s W => Box W g t (f s)) := fun _ _ _ hs ht => hs.odd ht
theorem holds_rd {β : Type} (D : Nat) (v : Value) (l : β → List UInt8) : Holds D (fun s W => Rd W v (l s)) := fun _ _ _ hs ht => hs.odd ht
theorem holds_turn {β : Type} {D : Nat} {w : World} {S : Nat → Prop} (hS : ∀ k, k < w.heap.size → D ≤ k → S k) : Holds D (fun (_ : β) W => Turn S w W) := fun _ _ _ hs ht => hs.trans ht (fun k hk h => hS k hk h.1)

/-- The contract of an iterator value: what it hands a round ('Gv'), what a round that goes on may turn ('S'), what has come when it is done ('All'), or stopped ('Part'). -/
def Gives {α : Type} (n : Nat) (g : Nat) (lb : Array Value) (encs : α → Array Value) (S : Nat → Prop) (Gv : List α → α → World → Prop) (All Part : List α → Prop) (w : World) : Prop :=
  ∀ (l : Nat) (J Jx : List α → World → Prop) (W : World), Turn (fun _ => False) w W → Walks W.heap.size J → Walks W.heap.size Jx →
    (∀ pre x W1, J pre W1 → Gv pre x W1 → YieldAt Fence.wide (n - 1) Try.prog l (encs x) W1 fun e W' =>
      (e = .returned (.bool true) ∧ J (pre ++ [x]) W' ∧ Turn S W1 W') ∨ (e = .returned (.bool false) ∧ Jx (pre ++ [x]) W')) →
    J [] W →
    CallsIn Fence.wide n Try.prog g (#[.func (.yield l) #[] #[]] ++ lb) W fun e W' => (∃ v, e = .returned v) ∧ ((∃ xs, All xs ∧ J xs W') ∨ (∃ pre, Part pre ∧ Jx pre W'))

/-- 'for .. := range g { body }' over an iterator that has such a contract. -/
theorem over {α : Type} {n : Nat} {g : Operand} {ps : Array Tmp} {assign body : Code} {Q : Exit → Act → World → Prop} {a : Act} {w w0 : World} (h1 : 1 ≤ n)
    {gf : Nat} {lb : Array Value} (hg : a.eval g = .func (.func gf) #[] lb) (eg : ∀ args w, (callFunc gf args).run Try.prog w = .ok (.enter gf args) w)
    {encs : α → Array Value} {S : Nat → Prop} {Gv : List α → α → World → Prop} {All Part : List α → Prop} (hseq : Gives (n - 1) gf lb encs S Gv All Part w0) (hb0 : Turn (fun _ => False) w0 w)
    (hS : ∀ k, w.heap.size ≤ k → S k) (hG : ∀ pre, Holds w.heap.size (Gv pre)) (hps : ∀ x, (encs x).size = ps.size)
    (I : List α → World → Prop) (Ix : Code → List α → World → Prop) (hI : Holds w.heap.size I) (hIx : ∀ c, Holds w.heap.size (Ix c)) (h0 : I [] w) (a₁ : α → Act)
    (hassign : ∀ (l : Nat) (x : α) (W : World) (K : Act → World → Prop), K (a₁ x) W →
      assign.wpIn (Fence.wide.inRound l) (n - 1 - 1) Try.prog (Exit.then K (fun _ _ _ => False)) { tmps := (ps.zip (encs x)).foldl (fun t (p, v) => t.setIfInBounds p v) a.tmps, defers := [] } W)
    (hbody : ∀ (l : Nat) (pre : List α) (x : α) (W : World), I pre W → Gv pre x W → body.wpIn (Fence.wide.inRound l) (n - 1 - 1) Try.prog (ownPostK (Turn S) I Ix (pre ++ [x]) W) (a₁ x) W)
    (hdone : ∀ (D : Nat) (xs : List α) (W : World), w.heap.size ≤ D → All xs → I xs W → W.heap[D]? = some (.deferred (some [])) → Q .normal { a with defers := { target := .collected D, args := #[] } :: a.defers } W)
    (hstop : ∀ (D : Nat) (c : Code) (pre : List α) (W : World), w.heap.size ≤ D → Part pre → Ix c pre W → W.heap[D]? = some (.deferred (some [])) → c.wpIn Fence.wide n Try.prog Q { a with defers := { target := .collected D, args := #[] } :: a.defers } W) :
    (Code.rangeFunc g ps assign body).wpIn Fence.wide n Try.prog Q a w := by
  refine wpIn_rangeFunc fun fn hfn => ?_
  obtain ⟨R, hR⟩ : ∃ R : LoopState → Option Code → Obj, R = fun st pe => .loop { state := st, pending := pe, fn, tmps := a.tmps, params := ps, assign, body, defers := w.heap.size } := ⟨_, rfl⟩
  -- the two blocks of the statement: the rounds' deferred calls, and its record, in a state
  obtain ⟨Bk, hBk⟩ : ∃ Bk : LoopState → Option Code → World → Prop, Bk = fun st pe W => W.heap[w.heap.size + 1]? = some (R st pe) ∧ W.heap[w.heap.size]? = some (.deferred (some [])) := ⟨_, rfl⟩
  obtain ⟨W1, hW1⟩ : ∃ W1, (w.alloc (.deferred (some []))).alloc (R .ready none) = W1 := ⟨_, rfl⟩
  have hsz : W1.heap.size = w.heap.size + 2 := by rw [← hW1]; simp
  have t1 : Turn (fun _ => False) w W1 := by rw [← hW1]; exact ((Turn.refl _ w).alloc _).alloc _
  have k1 : Bk .ready none W1 := by
    rw [hBk]
    refine ⟨?_, ?_⟩
    · have := World.alloc_heap_new (w.alloc (.deferred (some []))) (R .ready none)
      rw [World.size_alloc] at this
      rw [← hW1]
      exact this
    · rw [← hW1]
      exact (Below.heap_alloc _ _ _ (by simp)).trans (World.alloc_heap_new w _)
  have move : ∀ {D : Nat} {st : LoopState} {pe : Option Code} {A B : World}, w.heap.size + 2 ≤ D → Turn (strides D A) A B → Bk st pe A → Bk st pe B := by
    intro D st pe A B hD ht hk
    rw [hBk] at hk ⊢
    have far : ∀ k, k < w.heap.size + 2 → k < A.heap.size → B.heap[k]? = A.heap[k]? := fun k hk1 hk2 => ht.block k hk2 (fun s => by have := s.1; omega)
    exact ⟨(far _ (by omega) (Array.getElem?_eq_some_iff.1 hk.1).1).trans hk.1, (far _ (by omega) (Array.getElem?_eq_some_iff.1 hk.2).1).trans hk.2⟩
  have put : ∀ {st st' : LoopState} {pe pe' : Option Code} {A : World}, Bk st pe A → Bk st' pe' (A.putObj (w.heap.size + 1) (R st' pe')) ∧ Turn (odd w.heap.size A) A (A.putObj (w.heap.size + 1) (R st' pe')) := by
    intro st st' pe pe' A hk
    rw [hBk] at hk ⊢
    refine ⟨⟨World.putObj_heap_same (Array.getElem?_eq_some_iff.1 hk.1).1, (World.putObj_heap_other (by omega)).trans hk.2⟩, Turn.putObj _ _ _ ⟨by omega, _, hk.1, ?_⟩⟩
    rw [hR]
    rfl
  have toS : ∀ {A B : World}, Turn (odd w.heap.size A) A B → Turn S A B := fun h => h.mono (fun k _ s => hS k s.1)
  have keep : ∀ {st : LoopState} {pe : Option Code} {A B : World}, KeepsOthers A B → Bk st pe A → Bk st pe B := by
    intro st pe A B h hk
    rw [hBk] at hk ⊢
    exact ⟨h.same _ _ hk.1 (by rw [hR]; rfl), h.same _ _ hk.2 rfl⟩
  refine ⟨w.heap.size + 1, [{ target := .collected w.heap.size, args := #[] }], W1, { target := .fn (.func gf) lb, args := #[.func (.yield (w.heap.size + 1)) #[] #[]] }, W1, gf,
    #[.func (.yield (w.heap.size + 1)) #[] #[]] ++ lb, W1, ?_, ?_, ?_, ?_, fun _ => h1, ?_⟩
  · rw [← hW1, hR]
    exact run_enterLoop_outer _ _ _ _ _
  · simp only [resolve, hg]
    simp [go_sem]
  · intro f' _
    trivial
  · simp [invoke, go_sem, eg]
  · refine (hseq (w.heap.size + 1) (fun pre W => I pre W ∧ Bk .ready none W) (fun pre W => ∃ c, Ix c pre W ∧ Bk .done (some c) W) W1 (hb0.trans t1 (fun _ _ f => f))
      (fun s A B hs ht => ⟨(hI.walks (by omega)) s A B hs.1 ht, move (by omega) ht hs.2⟩)
      (fun s A B hs ht => by
        obtain ⟨c, hc, hk⟩ := hs
        exact ⟨c, ((hIx c).walks (by omega)) s A B hc ht, move (by omega) ht hk⟩)
      ?_ ⟨hI _ _ _ h0 t1.none, k1⟩).mono ?_
    · rintro pre x W ⟨hi, hk⟩ hgv
      have hl : W.heap[w.heap.size + 1]? = some (R .ready none) := by rw [hBk] at hk; exact hk.1
      rw [hR] at hl
      have hy := run_yield (P := Try.prog) (args := encs x) hl (hps x)
      refine ⟨fn, _, assign, body, hy, roundIn_of_wpIn hfn (hassign _ x W _ ⟨_, run_beginRound hl rfl, ?_⟩)⟩
      have hp := put (st' := .busy) (pe' := none) hk
      rw [hR] at hp
      refine wpIn_mono (hbody _ pre x _ (hI _ _ _ hi hp.2) (hG _ _ _ _ hgv hp.2)) ?_
      have ends : ∀ (jump : Option Code) (W3 : World), KeepsOthers (W.putObj (w.heap.size + 1) (.loop { state := .busy, pending := none, fn, tmps := a.tmps, params := ps, assign, body, defers := w.heap.size })) W3 →
          ∃ W4, (Instr.endRound (w.heap.size + 1) jump).run Try.prog W3 = .ok (.bool jump.isNone) W4 ∧ Bk (if jump.isNone then .ready else .done) jump W4 ∧ Turn (odd w.heap.size W3) W3 W4 := by
        intro jump W3 hk3
        have h3 := keep hk3 hp.1
        have hl3 : W3.heap[w.heap.size + 1]? = some (R .busy none) := by rw [hBk] at h3; exact h3.1
        have h4 := put (st' := if jump.isNone then .ready else .done) (pe' := jump) h3
        rw [hR] at hl3 h4
        exact ⟨_, run_endRound jump hl3, h4.1, h4.2⟩
      rintro e a3 W3 hpost
      cases e with
      | normal =>
        obtain ⟨hk3, ht3, hi3⟩ := hpost
        obtain ⟨W4, hr, hb4, ht4⟩ := ends none W3 hk3
        exact ⟨_, _, hr, .inl ⟨rfl, ⟨hI _ _ _ hi3 ht4, hb4⟩, ((toS hp.2).trans ht3 (fun _ _ s => s)).trans (toS ht4) (fun _ _ s => s)⟩⟩
      | ret =>
        obtain ⟨hk3, hi3⟩ := hpost
        obtain ⟨W4, hr, hb4, ht4⟩ := ends (some .ret) W3 hk3
        exact ⟨_, _, hr, .inr ⟨rfl, .ret, hIx _ _ _ _ hi3 ht4, hb4⟩⟩
      | exit id =>
        obtain ⟨hk3, hi3⟩ := hpost
        obtain ⟨W4, hr, hb4, ht4⟩ := ends (some (.exit id)) W3 hk3
        exact ⟨_, _, hr, .inr ⟨rfl, .exit id, hIx _ _ _ _ hi3 ht4, hb4⟩⟩
      | goto t =>
        obtain ⟨hk3, hi3⟩ := hpost
        obtain ⟨W4, hr, hb4, ht4⟩ := ends (some (.goto t)) W3 hk3
        exact ⟨_, _, hr, .inr ⟨rfl, .goto t, hIx _ _ _ _ hi3 ht4, hb4⟩⟩
      | panic ch => exact hpost.elim
      | outgrown => exact hpost.elim
    · have shut : ∀ {st : LoopState} {pe : Option Code} {W2 : World}, st ≠ .busy → Bk st pe W2 → ∃ W3, (Instr.endLoop (w.heap.size + 1)).run Try.prog W2 = .ok pe W3 ∧ W3.heap[w.heap.size]? = some (.deferred (some [])) ∧ Turn (odd w.heap.size W2) W2 W3 := by
        intro st pe W2 hst hk
        have hl : W2.heap[w.heap.size + 1]? = some (R st pe) := by rw [hBk] at hk; exact hk.1
        have h4 := put (st' := .exhausted) (pe' := pe) hk
        have h5 : (W2.putObj (w.heap.size + 1) (R .exhausted pe)).heap[w.heap.size]? = some (.deferred (some [])) := by have h6 := h4.1; rw [hBk] at h6; exact h6.2
        rw [hR] at hl h4 h5
        exact ⟨_, run_endLoop hl hst, h5, h4.2⟩
      rintro e W2 ⟨⟨v, rfl⟩, (⟨xs, hA, hi, hk⟩ | ⟨pre, hP, c, hi, hk⟩)⟩
      · obtain ⟨W3, hr, hd, ht⟩ := shut (by simp) hk
        exact ⟨none, W3, hr, hdone _ xs _ (Nat.le_refl _) hA (hI _ _ _ hi ht) hd⟩
      · obtain ⟨W3, hr, hd, ht⟩ := shut (by simp) hk
        exact ⟨some c, W3, hr, hstop _ c pre _ (Nat.le_refl _) hP (hIx c _ _ _ hi ht) hd⟩

theorem KeepsOthers.turned {A B : World} (h : Turn (fun _ => False) A B) : KeepsOthers A B := ⟨h.size, fun k _ hk _ => (h.block k (Array.getElem?_eq_some_iff.1 hk).1 (fun f => f)).trans hk⟩

end Go.Proofs.Ytnapeckpjnbcgaa
