/-
  Texts laid one behind the other: Ia Ic R4i R4j R4k R4l R4p Ig.
-/
import Derived.Test.YtgbphkbbedkepaaJocaa
import Derived.RangeFuncFrom
import Derived.RangeFuncCalls
import Derived.RangeFuncLeaves
import Derived.Shelf.Abstract
import Derived.Shelf.RegionOpen
import Derived.OwnWalkIn
import Derived.TacticsInMore
import Derived.LoopNIn
import Derived.LoopIn
import Derived.Test.YtgbphkbbedkepaaJocah

/-
  A range over a function whose iterator hands out memory of its own: what such an iterator promises ('Gives'), and the statement's law ('over').
-/
namespace Go.Proofs.Ytgbphkbbedkepaa
open Go.RowKit

/-- Blocks from D on that hold no cells; that hold a walk. -/
def odd (D : Nat) (A : World) (k : Nat) : Prop := D ≤ k ∧ ∃ o, A.heap[k]? = some o ∧ o.isCells = false
def strides (D : Nat) (A : World) (k : Nat) : Prop := D ≤ k ∧ ∃ o, A.heap[k]? = some o ∧ o.isWalk = true

theorem Turn.none {S : Nat → Prop} {A B : World} (h : Turn (fun _ => False) A B) : Turn S A B := h.mono (fun _ _ f => f.elim)
theorem Turn.ofStrides {D D' : Nat} {A B : World} (h : Turn (strides D A) A B) (hd : D' ≤ D) : Turn (odd D' A) A B :=
  h.mono (fun _ _ ⟨h1, o, h2, h3⟩ => ⟨Nat.le_trans hd h1, o, h2, Obj.not_cells_of_walk h3⟩)
theorem Turn.putObj (A : World) (l : Nat) (o : Obj) {S : Nat → Prop} (hl : S l) : Turn S A (A.putObj l o) :=
  ⟨rfl, rfl, rfl, by simp [World.putObj], fun k _ hn => World.putObj_heap_other (fun e => hn (e ▸ hl))⟩
theorem Box.odd {w w' : World} {g D : Nat} {t : TypeId} {cs : Array Value} (h : Box w g t cs) (ht : Turn (odd D w) w w') : Box w' g t cs := by
  refine h.turn ht ?_
  rintro ⟨_, o, ho, hc⟩
  rw [show w.heap[g]? = _ from h] at ho
  cases ho
  cases hc
theorem Rd.odd {w w' : World} {D : Nat} {v : Value} {l : List UInt8} (h : Rd w v l) (ht : Turn (odd D w) w w') : Rd w' v l := by
  obtain ⟨A, c, rfl, hk, hn, hc⟩ := h
  refine ⟨A, c, rfl, hk, hn, fun ad e j b hj => ?_⟩
  have h1 := hc ad e j b hj
  have hlt := World.block_lt_of_cell? w _ h1
  rw [ht.cell hlt ?_]
  · exact h1
  · rintro ⟨_, o, ho, hf⟩
    obtain ⟨o', ho', hf'⟩ := cells_of_cell h1
    rw [ho] at ho'
    cases ho'
    rw [hf] at hf'
    cases hf'

/-- What abides that blocks which hold no cells, from D on, are turned, and new ones laid. -/
def Holds {β : Type} (D : Nat) (I : β → World → Prop) : Prop := ∀ s A B, I s A → Turn (odd D A) A B → I s B
def Walks {β : Type} (D : Nat) (I : β → World → Prop) : Prop := ∀ s A B, I s A → Turn (strides D A) A B → I s B

theorem Holds.walks {β : Type} {D D' : Nat} {I : β → World → Prop} (h : Holds D I) (hd : D ≤ D') : Walks D' I := fun s A B hs ht => h s A B hs (ht.ofStrides hd)
theorem Holds.put {β : Type} {D : Nat} {I : β → World → Prop} (h : Holds D I) {s : β} {A : World} {l : Nat} {o : Obj} (o' : Obj) (hs : I s A) (hD : D ≤ l) (hl : A.heap[l]? = some o) (ho : o.isCells = false) : I s (A.putObj l o') :=
  h s A _ hs (Turn.putObj A l o' ⟨hD, o, hl, ho⟩)
theorem Holds.and {β : Type} {D : Nat} {I K : β → World → Prop} (h : Holds D I) (k : Holds D K) : Holds D (fun s W => I s W ∧ K s W) := fun s A B hs ht => ⟨h s A B hs.1 ht, k s A B hs.2 ht⟩
theorem holds_pure {β : Type} (D : Nat) (p : β → Prop) : Holds D (fun s (_ : World) => p s) := fun _ _ _ hs _ => hs
theorem holds_box {β : Type} (D g : Nat) (t : TypeId) (f : β → Array Value) : Holds D (fun s W => Box W g t (f s)) := fun _ _ _ hs ht => hs.odd ht
theorem holds_rd {β : Type} (D : Nat) (v : Value) (l : β → List UInt8) : Holds D (fun s W => Rd W v (l s)) := fun _ _ _ hs ht => hs.odd ht
theorem holds_turn {β : Type} {D : Nat} {w : World} {S : Nat → Prop} (hS : ∀ k, k < w.heap.size → D ≤ k → S k) : Holds D (fun (_ : β) W => Turn S w W) := fun _ _ _ hs ht => hs.trans ht (fun k hk h => hS k hk h.1)

/-- The contract of an iterator value: what it hands a round ('Gv'), what a round that goes on may turn ('S'), what has come when it is done ('All'), or stopped ('Part'). -/
def Gives {α : Type} (n : Nat) (g : Nat) (lb : Array Value) (encs : α → Array Value) (S : Nat → Prop) (Gv : List α → α → World → Prop) (All Part : List α → Prop) (w : World) : Prop :=
  ∀ (l : Nat) (J Jx : List α → World → Prop) (W : World), Turn (fun _ => False) w W → Walks W.heap.size J → Walks W.heap.size Jx →
    (∀ pre x W1, J pre W1 → Gv pre x W1 → YieldAt Fence.wide (n - 1) Try.prog l (encs x) W1 fun e W' =>
      (e = .returned (.bool true) ∧ J (pre ++ [x]) W' ∧ Turn S W1 W') ∨ (e = .returned (.bool false) ∧ Jx (pre ++ [x]) W')) →
    J [] W →
    CallsIn Fence.wide n Try.prog g (#[.func (.yield l) #[] #[]] ++ lb) W fun e W' => (∃ v, e = .returned v) ∧ ((∃ xs, All xs ∧ J xs W') ∨ (∃ pre, Part pre ∧ Jx pre W'))

/-- 'for .. := range g { body }' over an iterator that has such a contract. -/
theorem over {α : Type} {n : Nat} {g : Operand} {ps : Array Tmp} {assign body : Code} {Q : Exit → Act → World → Prop} {a : Act} {w w0 : World} (h1 : 1 ≤ n)
    {gf : Nat} {lb : Array Value} (hg : a.eval g = .func (.func gf) #[] lb) (eg : ∀ args w, (callFunc gf args).run Try.prog w = .ok (.enter gf args) w)
    {encs : α → Array Value} {S : Nat → Prop} {Gv : List α → α → World → Prop} {All Part : List α → Prop} (hseq : Gives (n - 1) gf lb encs S Gv All Part w0) (hb0 : Turn (fun _ => False) w0 w)
    (hS : ∀ k, w.heap.size ≤ k → S k) (hG : ∀ pre, Holds w.heap.size (Gv pre)) (hps : ∀ x, (encs x).size = ps.size)
    (I : List α → World → Prop) (Ix : Code → List α → World → Prop) (hI : Holds w.heap.size I) (hIx : ∀ c, Holds w.heap.size (Ix c)) (h0 : I [] w) (a₁ : α → Act)
    (hassign : ∀ (l : Nat) (x : α) (W : World) (K : Act → World → Prop), K (a₁ x) W →
      assign.wpIn (Fence.wide.inRound l) (n - 1 - 1) Try.prog (Exit.then K (fun _ _ _ => False)) { tmps := (ps.zip (encs x)).foldl (fun t (p, v) => t.setIfInBounds p v) a.tmps, defers := [] } W)
    (hbody : ∀ (l : Nat) (pre : List α) (x : α) (W : World), I pre W → Gv pre x W → body.wpIn (Fence.wide.inRound l) (n - 1 - 1) Try.prog (ownPostK (Turn S) I Ix (pre ++ [x]) W) (a₁ x) W)
    (hdone : ∀ (D : Nat) (xs : List α) (W : World), w.heap.size ≤ D → All xs → I xs W → W.heap[D]? = some (.deferred (some [])) → Q .normal { a with defers := { target := .collected D, args := #[] } :: a.defers } W)
    (hstop : ∀ (D : Nat) (c : Code) (pre : List α) (W : World), w.heap.size ≤ D → Part pre → Ix c pre W → W.heap[D]? = some (.deferred (some [])) → c.wpIn Fence.wide n Try.prog Q { a with defers := { target := .collected D, args := #[] } :: a.defers } W) :
    (Code.rangeFunc g ps assign body).wpIn Fence.wide n Try.prog Q a w := by
  refine wpIn_rangeFunc fun fn hfn => ?_
  obtain ⟨R, hR⟩ : ∃ R : LoopState → Option Code → Obj, R = fun st pe => .loop { state := st, pending := pe, fn, tmps := a.tmps, params := ps, assign, body, defers := w.heap.size } := ⟨_, rfl⟩
  -- the two blocks of the statement: the rounds' deferred calls, and its record, in a state
  obtain ⟨Bk, hBk⟩ : ∃ Bk : LoopState → Option Code → World → Prop, Bk = fun st pe W => W.heap[w.heap.size + 1]? = some (R st pe) ∧ W.heap[w.heap.size]? = some (.deferred (some [])) := ⟨_, rfl⟩
  obtain ⟨W1, hW1⟩ : ∃ W1, (w.alloc (.deferred (some []))).alloc (R .ready none) = W1 := ⟨_, rfl⟩
  have hsz : W1.heap.size = w.heap.size + 2 := by rw [← hW1]; simp
  have t1 : Turn (fun _ => False) w W1 := by rw [← hW1]; exact ((Turn.refl _ w).alloc _).alloc _
  have k1 : Bk .ready none W1 := by
    rw [hBk]
    refine ⟨?_, ?_⟩
    · have := World.alloc_heap_new (w.alloc (.deferred (some []))) (R .ready none)
      rw [World.size_alloc] at this
      rw [← hW1]
      exact this
    · rw [← hW1]
      exact (Below.heap_alloc _ _ _ (by simp)).trans (World.alloc_heap_new w _)
  have move : ∀ {D : Nat} {st : LoopState} {pe : Option Code} {A B : World}, w.heap.size + 2 ≤ D → Turn (strides D A) A B → Bk st pe A → Bk st pe B := by
    intro D st pe A B hD ht hk
    rw [hBk] at hk ⊢
    have far : ∀ k, k < w.heap.size + 2 → k < A.heap.size → B.heap[k]? = A.heap[k]? := fun k hk1 hk2 => ht.block k hk2 (fun s => by have := s.1; omega)
    exact ⟨(far _ (by omega) (Array.getElem?_eq_some_iff.1 hk.1).1).trans hk.1, (far _ (by omega) (Array.getElem?_eq_some_iff.1 hk.2).1).trans hk.2⟩
  have put : ∀ {st st' : LoopState} {pe pe' : Option Code} {A : World}, Bk st pe A → Bk st' pe' (A.putObj (w.heap.size + 1) (R st' pe')) ∧ Turn (odd w.heap.size A) A (A.putObj (w.heap.size + 1) (R st' pe')) := by
    intro st st' pe pe' A hk
    rw [hBk] at hk ⊢
    refine ⟨⟨World.putObj_heap_same (Array.getElem?_eq_some_iff.1 hk.1).1, (World.putObj_heap_other (by omega)).trans hk.2⟩, Turn.putObj _ _ _ ⟨by omega, _, hk.1, ?_⟩⟩
    rw [hR]
    rfl
  have toS : ∀ {A B : World}, Turn (odd w.heap.size A) A B → Turn S A B := fun h => h.mono (fun k _ s => hS k s.1)
  have keep : ∀ {st : LoopState} {pe : Option Code} {A B : World}, KeepsOthers A B → Bk st pe A → Bk st pe B := by
    intro st pe A B h hk
    rw [hBk] at hk ⊢
    exact ⟨h.same _ _ hk.1 (by rw [hR]; rfl), h.same _ _ hk.2 rfl⟩
  refine ⟨w.heap.size + 1, [{ target := .collected w.heap.size, args := #[] }], W1, { target := .fn (.func gf) lb, args := #[.func (.yield (w.heap.size + 1)) #[] #[]] }, W1, gf,
    #[.func (.yield (w.heap.size + 1)) #[] #[]] ++ lb, W1, ?_, ?_, ?_, ?_, fun _ => h1, ?_⟩
  · rw [← hW1, hR]
    exact run_enterLoop_outer _ _ _ _ _
  · simp only [resolve, hg]
    simp [go_sem]
  · intro f' _
    trivial
  · simp [invoke, go_sem, eg]
  · refine (hseq (w.heap.size + 1) (fun pre W => I pre W ∧ Bk .ready none W) (fun pre W => ∃ c, Ix c pre W ∧ Bk .done (some c) W) W1 (hb0.trans t1 (fun _ _ f => f))
      (fun s A B hs ht => ⟨(hI.walks (by omega)) s A B hs.1 ht, move (by omega) ht hs.2⟩)
      (fun s A B hs ht => by
        obtain ⟨c, hc, hk⟩ := hs
        exact ⟨c, ((hIx c).walks (by omega)) s A B hc ht, move (by omega) ht hk⟩)
      ?_ ⟨hI _ _ _ h0 t1.none, k1⟩).mono ?_
    · rintro pre x W ⟨hi, hk⟩ hgv
      have hl : W.heap[w.heap.size + 1]? = some (R .ready none) := by rw [hBk] at hk; exact hk.1
      rw [hR] at hl
      have hy := run_yield (P := Try.prog) (args := encs x) hl (hps x)
      refine ⟨fn, _, assign, body, hy, roundIn_of_wpIn hfn (hassign _ x W _ ⟨_, run_beginRound hl rfl, ?_⟩)⟩
      have hp := put (st' := .busy) (pe' := none) hk
      rw [hR] at hp
      refine wpIn_mono (hbody _ pre x _ (hI _ _ _ hi hp.2) (hG _ _ _ _ hgv hp.2)) ?_
      have ends : ∀ (jump : Option Code) (W3 : World), KeepsOthers (W.putObj (w.heap.size + 1) (.loop { state := .busy, pending := none, fn, tmps := a.tmps, params := ps, assign, body, defers := w.heap.size })) W3 →
          ∃ W4, (Instr.endRound (w.heap.size + 1) jump).run Try.prog W3 = .ok (.bool jump.isNone) W4 ∧ Bk (if jump.isNone then .ready else .done) jump W4 ∧ Turn (odd w.heap.size W3) W3 W4 := by
        intro jump W3 hk3
        have h3 := keep hk3 hp.1
        have hl3 : W3.heap[w.heap.size + 1]? = some (R .busy none) := by rw [hBk] at h3; exact h3.1
        have h4 := put (st' := if jump.isNone then .ready else .done) (pe' := jump) h3
        rw [hR] at hl3 h4
        exact ⟨_, run_endRound jump hl3, h4.1, h4.2⟩
      rintro e a3 W3 hpost
      cases e with
      | normal =>
        obtain ⟨hk3, ht3, hi3⟩ := hpost
        obtain ⟨W4, hr, hb4, ht4⟩ := ends none W3 hk3
        exact ⟨_, _, hr, .inl ⟨rfl, ⟨hI _ _ _ hi3 ht4, hb4⟩, ((toS hp.2).trans ht3 (fun _ _ s => s)).trans (toS ht4) (fun _ _ s => s)⟩⟩
      | ret =>
        obtain ⟨hk3, hi3⟩ := hpost
        obtain ⟨W4, hr, hb4, ht4⟩ := ends (some .ret) W3 hk3
        exact ⟨_, _, hr, .inr ⟨rfl, .ret, hIx _ _ _ _ hi3 ht4, hb4⟩⟩
      | exit id =>
        obtain ⟨hk3, hi3⟩ := hpost
        obtain ⟨W4, hr, hb4, ht4⟩ := ends (some (.exit id)) W3 hk3
        exact ⟨_, _, hr, .inr ⟨rfl, .exit id, hIx _ _ _ _ hi3 ht4, hb4⟩⟩
      | goto t =>
        obtain ⟨hk3, hi3⟩ := hpost
        obtain ⟨W4, hr, hb4, ht4⟩ := ends (some (.goto t)) W3 hk3
        exact ⟨_, _, hr, .inr ⟨rfl, .goto t, hIx _ _ _ _ hi3 ht4, hb4⟩⟩
      | panic ch => exact hpost.elim
      | outgrown => exact hpost.elim
    · have shut : ∀ {st : LoopState} {pe : Option Code} {W2 : World}, st ≠ .busy → Bk st pe W2 → ∃ W3, (Instr.endLoop (w.heap.size + 1)).run Try.prog W2 = .ok pe W3 ∧ W3.heap[w.heap.size]? = some (.deferred (some [])) ∧ Turn (odd w.heap.size W2) W2 W3 := by
        intro st pe W2 hst hk
        have hl : W2.heap[w.heap.size + 1]? = some (R st pe) := by rw [hBk] at hk; exact hk.1
        have h4 := put (st' := .exhausted) (pe' := pe) hk
        have h5 : (W2.putObj (w.heap.size + 1) (R .exhausted pe)).heap[w.heap.size]? = some (.deferred (some [])) := by have h6 := h4.1; rw [hBk] at h6; exact h6.2
        rw [hR] at hl h4 h5
        exact ⟨_, run_endLoop hl hst, h5, h4.2⟩
      rintro e W2 ⟨⟨v, rfl⟩, (⟨xs, hA, hi, hk⟩ | ⟨pre, hP, c, hi, hk⟩)⟩
      · obtain ⟨W3, hr, hd, ht⟩ := shut (by simp) hk
        exact ⟨none, W3, hr, hdone _ xs _ (Nat.le_refl _) hA (hI _ _ _ hi ht) hd⟩
      · obtain ⟨W3, hr, hd, ht⟩ := shut (by simp) hk
        exact ⟨some c, W3, hr, hstop _ c pre _ (Nat.le_refl _) hP (hIx c _ _ _ hi ht) hd⟩

theorem KeepsOthers.turned {A B : World} (h : Turn (fun _ => False) A B) : KeepsOthers A B := ⟨h.size, fun k _ hk _ => (h.block k (Array.getElem?_eq_some_iff.1 hk).1 (fun f => f)).trans hk⟩

end Go.Proofs.Ytgbphkbbedkepaa

/-
  A range over a function that may stand in an iterator itself: what an iterator promises ('Feeds'), where a round tells that what holds no cells, behind the record of its loop, is as it was; and the statement's law ('over2').
-/
namespace Go.Proofs.Ytgbphkbbedkepaa
open Go.RowKit

/-- What holds no cells, from block B on, is as it was. -/
structure Still (B : Nat) (W W' : World) : Prop where
  size : W.heap.size ≤ W'.heap.size
  same : ∀ (k : Nat) (o : Obj), B ≤ k → W.heap[k]? = some o → o.isCells = false → W'.heap[k]? = some o
theorem Still.refl (B : Nat) (W : World) : Still B W W := ⟨Nat.le_refl _, fun _ _ _ h _ => h⟩
theorem Still.trans {B : Nat} {W1 W2 W3 : World} (h : Still B W1 W2) (k : Still B W2 W3) : Still B W1 W3 := ⟨Nat.le_trans h.size k.size, fun i o hb hi ho => k.same i o hb (h.same i o hb hi ho) ho⟩
theorem Still.le {B B' : Nat} {W W' : World} (h : Still B W W') (hb : B ≤ B') : Still B' W W' := ⟨h.size, fun k o hk hw ho => h.same k o (Nat.le_trans hb hk) hw ho⟩
theorem Still.turned {B : Nat} {W W' : World} (h : Turn (fun _ => False) W W') : Still B W W' := ⟨h.size, fun k _ _ hk _ => (h.block k (Array.getElem?_eq_some_iff.1 hk).1 (fun f => f)).trans hk⟩
theorem Still.others {B : Nat} {W W' : World} (h : KeepsOthers W W') : Still B W W' := ⟨h.size, fun k o _ hk ho => h.same k o hk ho⟩
theorem Still.setCell {B : Nat} (W : World) (a : Addr) (v : Value) : Still B W (W.setCell a v) := Still.others (KeepsOthers.setCell W a v)
theorem Still.put {B : Nat} (W : World) (l : Nat) (o : Obj) (hl : l < B) : Still B W (W.putObj l o) := ⟨by simp [World.putObj], fun k _ hk hw _ => (World.putObj_heap_other (by omega)).trans hw⟩

/-- What a round's body owes. -/
def postF {α : Type} (B : Nat) (S : Nat → Prop) (I : List α → World → Prop) (Ix : Code → List α → World → Prop) (xs : List α) (W : World) : Exit → Act → World → Prop
  | .normal, _, W' => Still B W W' ∧ Turn S W W' ∧ I xs W'
  | .ret, _, W' => Still B W W' ∧ Ix .ret xs W'
  | .exit id, _, W' => Still B W W' ∧ Ix (.exit id) xs W'
  | .goto t, _, W' => Still B W W' ∧ Ix (.goto t) xs W'
  | .panic _, _, _ => False
  | .outgrown, _, _ => False

theorem Holds.le {β : Type} {D D' : Nat} {I : β → World → Prop} (h : Holds D I) (hd : D ≤ D') : Holds D' I :=
  fun s A B hs ht => h s A B hs (ht.mono (fun _ _ ⟨h1, o, h2, h3⟩ => ⟨Nat.le_trans hd h1, o, h2, h3⟩))

/-- The contract of an iterator value: what it hands a round ('Gv'), what a round that goes on may turn ('S'), what has come when it is done ('All'), or stopped ('Part'). -/
def Feeds {α : Type} (n : Nat) (g : Nat) (lb : Array Value) (encs : α → Array Value) (S : Nat → Prop) (Gv : List α → α → World → Prop) (All Part : List α → Prop) (w : World) : Prop :=
  ∀ (l : Nat) (J Jx : List α → World → Prop) (W : World), Turn (fun _ => False) w W → l < W.heap.size → (∀ k, S k → k < W.heap.size) → Holds W.heap.size J → Holds W.heap.size Jx →
    (∀ pre x W1, J pre W1 → Gv pre x W1 → YieldAt Fence.wide (n - 1) Try.prog l (encs x) W1 fun e W' =>
      (e = .returned (.bool true) ∧ J (pre ++ [x]) W' ∧ Turn S W1 W' ∧ Still (l + 1) W1 W') ∨ (e = .returned (.bool false) ∧ Jx (pre ++ [x]) W' ∧ Still (l + 1) W1 W')) →
    J [] W →
    CallsIn Fence.wide n Try.prog g (#[.func (.yield l) #[] #[]] ++ lb) W fun e W' => (∃ v, e = .returned v) ∧ ((∃ xs, All xs ∧ J xs W') ∨ (∃ pre, Part pre ∧ Jx pre W'))

/-- 'for .. := range g { body }' over an iterator that has such a contract. -/
theorem over2 {α : Type} {n : Nat} {g : Operand} {ps : Array Tmp} {assign body : Code} {Q : Exit → Act → World → Prop} {a : Act} {w w0 : World} (h1 : 1 ≤ n)
    {gf : Nat} {lb : Array Value} (hg : a.eval g = .func (.func gf) #[] lb) (eg : ∀ args w, (callFunc gf args).run Try.prog w = .ok (.enter gf args) w)
    {encs : α → Array Value} {S : Nat → Prop} {Gv : List α → α → World → Prop} {All Part : List α → Prop} (hseq : Feeds (n - 1) gf lb encs S Gv All Part w0) (hb0 : Turn (fun _ => False) w0 w)
    (hS : S (w.heap.size + 1)) (hS2 : ∀ k, S k → k < w.heap.size + 2) (hG : ∀ pre, Holds w.heap.size (Gv pre)) (hps : ∀ x, (encs x).size = ps.size)
    (I : List α → World → Prop) (Ix : Code → List α → World → Prop) (hI : Holds w.heap.size I) (hIx : ∀ c, Holds w.heap.size (Ix c)) (h0 : I [] w) (a₁ : α → Act)
    (hassign : ∀ (l : Nat) (x : α) (W : World) (K : Act → World → Prop), K (a₁ x) W →
      assign.wpIn (Fence.wide.inRound l) (n - 1 - 1) Try.prog (Exit.then K (fun _ _ _ => False)) { tmps := (ps.zip (encs x)).foldl (fun t (p, v) => t.setIfInBounds p v) a.tmps, defers := [] } W)
    (hbody : ∀ (l : Nat) (pre : List α) (x : α) (W : World), I pre W → Gv pre x W → body.wpIn (Fence.wide.inRound l) (n - 1 - 1) Try.prog (postF w.heap.size S I Ix (pre ++ [x]) W) (a₁ x) W)
    (hdone : ∀ (D : Nat) (xs : List α) (W : World), w.heap.size ≤ D → All xs → I xs W → W.heap[D]? = some (.deferred (some [])) → Q .normal { a with defers := { target := .collected D, args := #[] } :: a.defers } W)
    (hstop : ∀ (D : Nat) (c : Code) (pre : List α) (W : World), w.heap.size ≤ D → Part pre → Ix c pre W → W.heap[D]? = some (.deferred (some [])) → c.wpIn Fence.wide n Try.prog Q { a with defers := { target := .collected D, args := #[] } :: a.defers } W) :
    (Code.rangeFunc g ps assign body).wpIn Fence.wide n Try.prog Q a w := by
  refine wpIn_rangeFunc fun fn hfn => ?_
  obtain ⟨R, hR⟩ : ∃ R : LoopState → Option Code → Obj, R = fun st pe => .loop { state := st, pending := pe, fn, tmps := a.tmps, params := ps, assign, body, defers := w.heap.size } := ⟨_, rfl⟩
  -- the two blocks of the statement: the rounds' deferred calls, and its record, in a state
  obtain ⟨Bk, hBk⟩ : ∃ Bk : LoopState → Option Code → World → Prop, Bk = fun st pe W => W.heap[w.heap.size + 1]? = some (R st pe) ∧ W.heap[w.heap.size]? = some (.deferred (some [])) := ⟨_, rfl⟩
  obtain ⟨W1, hW1⟩ : ∃ W1, (w.alloc (.deferred (some []))).alloc (R .ready none) = W1 := ⟨_, rfl⟩
  have hsz : W1.heap.size = w.heap.size + 2 := by rw [← hW1]; simp
  have t1 : Turn (fun _ => False) w W1 := by rw [← hW1]; exact ((Turn.refl _ w).alloc _).alloc _
  have k1 : Bk .ready none W1 := by
    rw [hBk]
    refine ⟨?_, ?_⟩
    · have := World.alloc_heap_new (w.alloc (.deferred (some []))) (R .ready none)
      rw [World.size_alloc] at this
      rw [← hW1]
      exact this
    · rw [← hW1]
      exact (Below.heap_alloc _ _ _ (by simp)).trans (World.alloc_heap_new w _)
  have move : ∀ {D : Nat} {st : LoopState} {pe : Option Code} {A B : World}, w.heap.size + 2 ≤ D → Turn (odd D A) A B → Bk st pe A → Bk st pe B := by
    intro D st pe A B hD ht hk
    rw [hBk] at hk ⊢
    have far : ∀ k, k < w.heap.size + 2 → k < A.heap.size → B.heap[k]? = A.heap[k]? := fun k hk1 hk2 => ht.block k hk2 (fun s => by have := s.1; omega)
    exact ⟨(far _ (by omega) (Array.getElem?_eq_some_iff.1 hk.1).1).trans hk.1, (far _ (by omega) (Array.getElem?_eq_some_iff.1 hk.2).1).trans hk.2⟩
  have put : ∀ {st st' : LoopState} {pe pe' : Option Code} {A : World}, Bk st pe A → Bk st' pe' (A.putObj (w.heap.size + 1) (R st' pe')) ∧ Turn (odd w.heap.size A) A (A.putObj (w.heap.size + 1) (R st' pe')) ∧ Turn S A (A.putObj (w.heap.size + 1) (R st' pe')) := by
    intro st st' pe pe' A hk
    rw [hBk] at hk ⊢
    refine ⟨⟨World.putObj_heap_same (Array.getElem?_eq_some_iff.1 hk.1).1, (World.putObj_heap_other (by omega)).trans hk.2⟩, Turn.putObj _ _ _ ⟨by omega, _, hk.1, ?_⟩, Turn.putObj _ _ _ hS⟩
    rw [hR]
    rfl
  have keepS : True := trivial
  have keep : ∀ {st : LoopState} {pe : Option Code} {A B : World}, Still w.heap.size A B → Bk st pe A → Bk st pe B := by
    intro st pe A B h hk
    rw [hBk] at hk ⊢
    exact ⟨h.same _ _ (Nat.le_succ _) hk.1 (by rw [hR]; rfl), h.same _ _ (Nat.le_refl _) hk.2 rfl⟩
  refine ⟨w.heap.size + 1, [{ target := .collected w.heap.size, args := #[] }], W1, { target := .fn (.func gf) lb, args := #[.func (.yield (w.heap.size + 1)) #[] #[]] }, W1, gf,
    #[.func (.yield (w.heap.size + 1)) #[] #[]] ++ lb, W1, ?_, ?_, ?_, ?_, fun _ => h1, ?_⟩
  · rw [← hW1, hR]
    exact run_enterLoop_outer _ _ _ _ _
  · simp only [resolve, hg]
    simp [go_sem]
  · intro f' _
    trivial
  · simp [invoke, go_sem, eg]
  · refine (hseq (w.heap.size + 1) (fun pre W => I pre W ∧ Bk .ready none W) (fun pre W => ∃ c, Ix c pre W ∧ Bk .done (some c) W) W1 (hb0.trans t1 (fun _ _ f => f)) (by omega) (fun k hk => by have := hS2 k hk; omega)
      (fun s A B hs ht => ⟨(hI.le (by omega)) s A B hs.1 ht, move (by omega) ht hs.2⟩)
      (fun s A B hs ht => by
        obtain ⟨c, hc, hk⟩ := hs
        exact ⟨c, ((hIx c).le (by omega)) s A B hc ht, move (by omega) ht hk⟩)
      ?_ ⟨hI _ _ _ h0 t1.none, k1⟩).mono ?_
    · rintro pre x W ⟨hi, hk⟩ hgv
      have hl : W.heap[w.heap.size + 1]? = some (R .ready none) := by rw [hBk] at hk; exact hk.1
      rw [hR] at hl
      have hy := run_yield (P := Try.prog) (args := encs x) hl (hps x)
      refine ⟨fn, _, assign, body, hy, roundIn_of_wpIn hfn (hassign _ x W _ ⟨_, run_beginRound hl rfl, ?_⟩)⟩
      have hp := put (st' := .busy) (pe' := none) hk
      rw [hR] at hp
      refine wpIn_mono (hbody _ pre x _ (hI _ _ _ hi hp.2.1) (hG _ _ _ _ hgv hp.2.1)) ?_
      have ends : ∀ (jump : Option Code) (W3 : World), Still w.heap.size (W.putObj (w.heap.size + 1) (.loop { state := .busy, pending := none, fn, tmps := a.tmps, params := ps, assign, body, defers := w.heap.size })) W3 →
          ∃ W4, (Instr.endRound (w.heap.size + 1) jump).run Try.prog W3 = .ok (.bool jump.isNone) W4 ∧ Bk (if jump.isNone then .ready else .done) jump W4 ∧ Turn (odd w.heap.size W3) W3 W4 ∧ Turn S W3 W4 ∧ Still (w.heap.size + 1 + 1) W W4 := by
        intro jump W3 hk3
        have h3 := keep hk3 hp.1
        have hl3 : W3.heap[w.heap.size + 1]? = some (R .busy none) := by rw [hBk] at h3; exact h3.1
        have h4 := put (st' := if jump.isNone then .ready else .done) (pe' := jump) h3
        rw [hR] at hl3 h4
        exact ⟨_, run_endRound jump hl3, h4.1, h4.2.1, h4.2.2, ((Still.put W _ _ (Nat.lt_succ_self _)).trans (hk3.le (by omega))).trans (Still.put W3 _ _ (Nat.lt_succ_self _))⟩
      rintro e a3 W3 hpost
      cases e with
      | normal =>
        obtain ⟨hk3, ht3, hi3⟩ := hpost
        obtain ⟨W4, hr, hb4, ht4, hu4, hs4⟩ := ends none W3 hk3
        exact ⟨_, _, hr, .inl ⟨rfl, ⟨hI _ _ _ hi3 ht4, hb4⟩, (hp.2.2.trans ht3 (fun _ _ s => s)).trans hu4 (fun _ _ s => s), hs4⟩⟩
      | ret =>
        obtain ⟨hk3, hi3⟩ := hpost
        obtain ⟨W4, hr, hb4, ht4, hu4, hs4⟩ := ends (some .ret) W3 hk3
        exact ⟨_, _, hr, .inr ⟨rfl, ⟨.ret, hIx _ _ _ _ hi3 ht4, hb4⟩, hs4⟩⟩
      | exit id =>
        obtain ⟨hk3, hi3⟩ := hpost
        obtain ⟨W4, hr, hb4, ht4, hu4, hs4⟩ := ends (some (.exit id)) W3 hk3
        exact ⟨_, _, hr, .inr ⟨rfl, ⟨.exit id, hIx _ _ _ _ hi3 ht4, hb4⟩, hs4⟩⟩
      | goto t =>
        obtain ⟨hk3, hi3⟩ := hpost
        obtain ⟨W4, hr, hb4, ht4, hu4, hs4⟩ := ends (some (.goto t)) W3 hk3
        exact ⟨_, _, hr, .inr ⟨rfl, ⟨.goto t, hIx _ _ _ _ hi3 ht4, hb4⟩, hs4⟩⟩
      | panic ch => exact hpost.elim
      | outgrown => exact hpost.elim
    · have shut : ∀ {st : LoopState} {pe : Option Code} {W2 : World}, st ≠ .busy → Bk st pe W2 → ∃ W3, (Instr.endLoop (w.heap.size + 1)).run Try.prog W2 = .ok pe W3 ∧ W3.heap[w.heap.size]? = some (.deferred (some [])) ∧ Turn (odd w.heap.size W2) W2 W3 := by
        intro st pe W2 hst hk
        have hl : W2.heap[w.heap.size + 1]? = some (R st pe) := by rw [hBk] at hk; exact hk.1
        have h4 := put (st' := .exhausted) (pe' := pe) hk
        have h5 : (W2.putObj (w.heap.size + 1) (R .exhausted pe)).heap[w.heap.size]? = some (.deferred (some [])) := by have h6 := h4.1; rw [hBk] at h6; exact h6.2
        rw [hR] at hl h4 h5
        exact ⟨_, run_endLoop hl hst, h5, h4.2.1⟩
      rintro e W2 ⟨⟨v, rfl⟩, (⟨xs, hA, hi, hk⟩ | ⟨pre, hP, c, hi, hk⟩)⟩
      · obtain ⟨W3, hr, hd, ht⟩ := shut (by simp) hk
        exact ⟨none, W3, hr, hdone _ xs _ (Nat.le_refl _) hA (hI _ _ _ hi ht) hd⟩
      · obtain ⟨W3, hr, hd, ht⟩ := shut (by simp) hk
        exact ⟨some c, W3, hr, hstop _ c pre _ (Nat.le_refl _) hP (hIx c _ _ _ hi ht) hd⟩

end Go.Proofs.Ytgbphkbbedkepaa

/-
  Stage 20: what is asked of the program's catalog, whatever it lies in (Prog20); entry, Back, alive.
-/
namespace Go.Proofs.Ytgbphkbbedkepaa
open Go.RowKit

set_option maxRecDepth 100000

/-- Behind a call that changes the program's catalog alone. -/
def Does20 (M : World → (Nat → Prop) → Nat → List N20 → Prop) (w : World) (F : Nat → Prop) (g : Nat) (l : List N20) (v : Value) (e : Ending) (w' : World) : Prop :=
  e = .returned v ∧ ∃ F', M w' F' g l ∧ Turn F w w' ∧ ∀ k, F' k → F k ∨ w.heap.size ≤ k
/-- Behind a call that lays a catalog. -/
def Lays20 (M : World → (Nat → Prop) → Nat → List N20 → Prop) (w : World) (l : List N20) (e : Ending) (w' : World) : Prop :=
  ∃ g F, e = .returned (.pointer (some ⟨g, 0, none⟩)) ∧ M w' F g l ∧ Turn (fun _ => False) w w' ∧ ∀ k, F k → w.heap.size ≤ k
/-- Behind All: an iterator, of whatever a round turns that is a number's box, or new. -/
def All20 (w : World) (l : List N20) (e : Ending) (w' : World) : Prop :=
  ∃ gf lb, e = .returned (.func (.func gf) #[] lb) ∧ (∀ args w, (callFunc gf args).run Try.prog w = .ok (.enter gf args) w) ∧ Turn (fun _ => False) w w' ∧
    ∀ (n : Nat) (S : Nat → Prop), (∀ k, S k → (∃ x, Box w k 3 #[x]) ∨ w'.heap.size ≤ k) → Feeds n gf lb (fun e => #[ev20 e]) S (fun pre y _ => pre ++ [y] <+: l) (fun xs => xs = l) (fun pre => pre <+: l) w'
def SaysC20 (w : World) (v : Value) (e : Ending) (w' : World) : Prop := e = .returned v ∧ Turn (fun _ => False) w w'
/-- The bounds within which the program is called. -/
structure Bd20 (l : List N20) : Prop where
  ok : Ok20 l
  len : l.length ≤ 5000
/-- M w F g l: the program's catalog of the entries l, at block g, in the blocks F. -/
structure Prog20 (M : World → (Nat → Prop) → Nat → List N20 → Prop) : Prop where
  lt : ∀ {w F g l}, M w F g l → ∀ k, F k → k < w.heap.size
  later : ∀ {w w' F g l}, M w F g l → Turn (fun _ => False) w w' → M w' F g l
  apart : ∀ {w w' F g l F2 g2 l2}, M w F g l → M w F2 g2 l2 → (∀ k, F k → ¬ F2 k) → Turn F2 w w' → M w' F g l
  right : ∀ (e : N20) (w : World), e.fits → Calls Try.prog 52 #[ev20 e] w fun e' w' => SaysC20 w (.bool (right20 e)) e' w'
  new : ∀ w, Calls Try.prog 21 #[] w fun e w' => Lays20 M w [] e w'
  apply : ∀ {w F g l} (dv pv : Value) (D : List T19) (C : List N20), M w F g l → Bd20 l → RdE ET20 w dv D → RdE EN20 w pv C → (D = [] ∨ ∀ k, dv.ownBlock = some k → ¬ F k) → (C = [] ∨ ∀ k, pv.ownBlock = some k → ¬ F k) → D.length ≤ 30 → C.length ≤ 30 → (∀ x ∈ D, x.fits) → (∀ x ∈ C, x.fits) →
    Calls Try.prog 18 #[.pointer (some ⟨g, 0, none⟩), .agg #[dv, pv]] w fun e w' => Does20 M w F g (apply20 l D C).1 (.int .i64 (apply20 l D C).2) e w'
  at_ : ∀ {w F g l} (h : Int), rng19 h → M w F g l → Bd20 l → Calls Try.prog 10 #[.pointer (some ⟨g, 0, none⟩), .int .i64 h] w fun e w' => Look20 w (at20 l h) e w'
  get : ∀ {w F g l} (p : T19), p.fits → M w F g l → Bd20 l → Calls Try.prog 12 #[.pointer (some ⟨g, 0, none⟩), tv19 p] w fun e w' => Look20 w (get20 l p) e w'
  over : ∀ {w F g l} (lo hi : Int), rng19 lo → rng19 hi → M w F g l → Bd20 l → Calls Try.prog 15 #[.pointer (some ⟨g, 0, none⟩), .int .i64 lo, .int .i64 hi] w fun e w' => Ents20 w (over20 l lo hi) e w'
  len : ∀ {w F g l}, M w F g l → Bd20 l → Calls Try.prog 22 #[.pointer (some ⟨g, 0, none⟩)] w fun e w' => SaysC20 w (.int .i64 (l.length : Int)) e w'
  segs : ∀ {w F g l}, M w F g l → Bd20 l → Calls Try.prog 23 #[.pointer (some ⟨g, 0, none⟩)] w fun e w' => Numbs20 w (segs20 l) e w'
  copy : ∀ {w F g l}, M w F g l → Bd20 l → Calls Try.prog 17 #[.pointer (some ⟨g, 0, none⟩)] w fun e w' => Lays20 M w l e w'
  all : ∀ {w F g l}, M w F g l → Bd20 l → Calls Try.prog 20 #[.pointer (some ⟨g, 0, none⟩)] w fun e w' => All20 w l e w'

theorem Bd20.apply {l : List N20} (h : Bd20 l) {D : List T19} {C : List N20} (hl : l.length + C.length ≤ 5000) : Bd20 (apply20 l D C).1 := ⟨(apply_ok20 h.ok D C).1, Nat.le_trans (apply_ok20 h.ok D C).2 hl⟩
theorem Bd20.nil : Bd20 [] := ⟨Ok20.nil, Nat.zero_le _⟩

theorem entry_any20 (t i : Int) (w : World) : Calls Try.prog 24 #[.int .i64 t, .int .i64 i] w fun e w' => e = .returned (ev20 ⟨⟨t, i⟩, 1, 0, 1, false⟩) ∧ Turn (fun _ => False) w w' := by
  have HT : Hid (∀ o, Turn (fun _ => False) w (w.alloc o)) := fun o => (Turn.refl _ w).alloc _
  go_enter Try.func24, Try.ntmps24
  go_wp2_with fail
  refine bodyPost_ret (v := ev20 ⟨⟨t, i⟩, 1, 0, 1, false⟩) ?_ rfl ⟨rfl, HT.out _⟩
  rw [results_cell rfl]
  have h := Box.new w 32 #[.int .i64 t, .int .i64 i, .int .i64 1, .int .i64 0, .int .i64 1, .bool false]
  have c0 := h.cell 0; have c1 := h.cell 1; have c2 := h.cell 2; have c3 := h.cell 3; have c4 := h.cell 4; have c5 := h.cell 5
  go_simp
section
variable {M : World → (Nat → Prop) → Nat → List N20 → Prop}
theorem back_any20 (P : Prog20 M) {w : World} {F : Nat → Prop} {g : Nat} {l : List N20} (h : M w F g l) (hb : Bd20 l) : Calls Try.prog 19 #[.pointer (some ⟨g, 0, none⟩)] w fun e w' => Ents20 w l e w' := by
  have ho := P.over (-4611686018427387904) 4611686018427387904 ⟨by decide, by decide⟩ ⟨by decide, by decide⟩ h hb
  rw [ok_over20 hb.ok] at ho
  have HO := Lib.hid ho
  clear ho h hb
  go_enter Try.func19, Try.ntmps19
  go_wp2_with fail
  refine HO.out.mono ?_
  rintro e w1 ⟨v, rfl, r1, t1, n1⟩
  have HR := Lib.hid r1; have HT := Lib.hid t1; have HN := Lib.hid n1
  clear r1 t1 n1
  go_wp2
  go_ret
  exact ⟨_, rfl, HR.out, HT.out, HN.out⟩

def hE20 : N20 := ⟨⟨1, 5⟩, 1, 0, 1, false⟩
def dE20 : N20 := ⟨⟨2, 0⟩, 1, 0, 1, false⟩
theorem alive_is20 : apply20 [] [] [hE20] = ([hE20], 0) ∧ apply20 [hE20] [] [dE20] = ([hE20], 12) ∧ apply20 [hE20] [⟨1, 5⟩] [dE20] = ([dE20], 0) ∧ at20 [dE20] 7 = (dE20, true) := ⟨rfl, rfl, rfl, rfl⟩
theorem alive_ok20 : Ok20 [hE20] ∧ Ok20 [dE20] := by
  have h1 := (apply_ok20 Ok20.nil [] [hE20]).1
  rw [alive_is20.1] at h1
  have h2 := (apply_ok20 h1 [⟨1, 5⟩] [dE20]).1
  rw [alive_is20.2.2.1] at h2
  exact ⟨h1, h2⟩

end
end Go.Proofs.Ytgbphkbbedkepaa

/-
  Stage 20: alive, of any catalog of the program (Prog20).
-/
namespace Go.Proofs.Ytgbphkbbedkepaa
open Go.RowKit

set_option maxRecDepth 100000

set_option maxHeartbeats 8000000 in
theorem alive_any20 {M : World → (Nat → Prop) → Nat → List N20 → Prop} (P : Prog20 M) (w : World) : Calls Try.prog 8 #[] w fun e w' => e = .returned (.bool true) ∧ Turn (fun _ => False) w w' := by
  have HP := Lib.hid P
  obtain ⟨hE, hhE⟩ : ∃ h, h = hE20 := ⟨_, rfl⟩
  obtain ⟨dE, hdE⟩ : ∃ h, h = dE20 := ⟨_, rfl⟩
  obtain ⟨s1, s2, s3, s4⟩ := alive_is20
  obtain ⟨k1, k2⟩ := alive_ok20
  rw [← hhE] at s1 s2 s3 k1
  rw [← hdE] at s2 s3 s4 k2
  have HS1 := Lib.hid s1; have HS2 := Lib.hid s2; have HS3 := Lib.hid s3; have HS4 := Lib.hid s4
  have HK1 : Hid (Bd20 [hE]) := ⟨k1, by simp⟩
  have HK2 : Hid (Bd20 [dE]) := ⟨k2, by simp⟩
  have HEH : Hid (∀ W, Calls Try.prog 24 #[.int .i64 1, .int .i64 5] W fun e w' => e = .returned (ev20 hE) ∧ Turn (fun _ => False) W w') := fun W => by rw [hhE]; exact entry_any20 1 5 W
  have HED : Hid (∀ W, Calls Try.prog 24 #[.int .i64 2, .int .i64 0] W fun e w' => e = .returned (ev20 dE) ∧ Turn (fun _ => False) W w') := fun W => by rw [hdE]; exact entry_any20 2 0 W
  have HHP : Hid (hE.p = ⟨1, 5⟩) := by rw [hhE]; rfl
  have HFH : Hid (hE.fits ∧ dE.fits) := ⟨right_fits20 (k1.right _ (List.mem_singleton_self _)), right_fits20 (k2.right _ (List.mem_singleton_self _))⟩
  clear s1 s2 s3 s4 k1 k2 hhE hdE
  go_enter Try.func8, Try.ntmps8
  go_wp2_with fail
  refine (HP.out.new w).mono ?_
  rintro e w1 ⟨g, F, rfl, hm1, t1, hF⟩
  have HM1 := Lib.hid hm1; have HT1 := Lib.hid t1; have HF := Lib.hid hF
  clear hm1 t1 hF
  go_wp2_with fail
  refine (HEH.out w1).mono ?_
  rintro e w2 ⟨rfl, t2⟩
  obtain ⟨q1, hq1⟩ : ∃ q, q = w2.heap.size := ⟨_, rfl⟩
  obtain ⟨w3, hw3⟩ : ∃ w3, w3 = w2.alloc (.cells (ecells20 hE) 32) := ⟨_, rfl⟩
  have HB3 : Hid (Box w3 q1 32 (ecells20 hE)) := by rw [hw3, hq1]; exact Box.new w2 _ _
  have HT3 : Hid (Turn (fun _ => False) w1 w3) := by rw [hw3]; exact t2.alloc _
  have HL1 : Hid (w1.heap.size ≤ q1) := by rw [hq1]; exact t2.size
  have HW3 := Lib.hid hw3; have HQ1 := Lib.hid hq1
  clear t2 hw3 hq1
  go_wp2_with fail
  rw [← HW3.out, ← HQ1.out]
  refine (HED.out w3).mono ?_
  rintro e w4 ⟨rfl, t4⟩
  obtain ⟨q2, hq2⟩ : ∃ q, q = w4.heap.size := ⟨_, rfl⟩
  obtain ⟨w5, hw5⟩ : ∃ w5, w5 = w4.alloc (.cells (ecells20 dE) 32) := ⟨_, rfl⟩
  have HB5 : Hid (Box w5 q2 32 (ecells20 dE)) := by rw [hw5, hq2]; exact Box.new w4 _ _
  have HA5 : Hid (Box w5 q1 32 (ecells20 hE)) := by rw [hw5]; exact (HB3.out.turn t4 (fun f => f)).alloc _
  have HT5 : Hid (Turn (fun _ => False) w1 w5) := by rw [hw5]; exact (HT3.out.trans t4 (fun _ _ f => f)).alloc _
  have HL2 : Hid (w1.heap.size ≤ q2) := by rw [hq2]; exact (HT3.out.trans t4 (fun _ _ f => f)).size
  obtain ⟨c0, c1, c2, c3, c4, c5⟩ := box_n20 (HA5.out)
  have HFA : Hid (∀ k, F k → k ≠ q1 ∧ k ≠ q2 ∧ k < w5.heap.size) := fun k hk => by
    have h1 := HP.out.lt HM1.out k hk
    have h2 := HL1.out; have h3 := HL2.out
    have h4 := HT5.out.size
    omega
  have HW5 := Lib.hid hw5; have HQ2 := Lib.hid hq2
  rw [hw5] at c0 c1 c2 c3 c4 c5
  clear t4 hw5 hq2 HW3 HQ1 HB3 HT3
  obtain ⟨w6, hw6⟩ : ∃ w6, w6 = w5.alloc (.cells (EN20.enc hE).toArray 32) := ⟨_, rfl⟩
  have HR6 : Hid (RdE EN20 w6 (.slice (some ⟨w5.heap.size, 0, none⟩) 1 1) [hE]) := by rw [hw6]; exact one_row EN20 _ w5 hE
  have HT6 : Hid (Turn (fun _ => False) w5 w6) := by rw [hw6]; exact (Turn.refl _ w5).alloc _
  have hap := HP.out.apply (.slice none 0 0) (.slice (some ⟨w5.heap.size, 0, none⟩) 1 1) [] [hE] (HP.out.later HM1.out (HT5.out.trans HT6.out (fun _ _ f => f))) Bd20.nil (RdE.nil _) HR6.out (.inl rfl) (.inr (fun k hk hf => by
    have h1 := (HFA.out k hf).2.2
    have h2 : w5.heap.size = k := by simpa [Value.ownBlock] using hk
    omega)) (by simp) (by simp) (fun _ h => nomatch h) (fun x hx => by rw [List.mem_singleton.1 hx]; exact HFH.out.1)
  rw [HS1.out] at hap
  unfold Does20 at hap
  have HAP := Lib.hid hap
  have HW6 := Lib.hid hw6
  clear hap hw6
  go_wp2_with fail
  have e6 : q2 + 1 = w5.heap.size := by rw [HW5.out, World.size_alloc, HQ2.out]
  rw [← HW5.out, ← HQ2.out, show w5.alloc (.cells #[.int .i64 hE.p.t, .int .i64 hE.p.i, .int .i64 hE.seg, .int .i64 hE.mark, .int .i64 hE.rows, .bool hE.cold] 32) = w6 from HW6.out.symm, e6]
  refine HAP.out.mono ?_
  rintro e w7 ⟨rfl, F1, hm7, t7, hF1⟩
  have HM7 := Lib.hid hm7
  have HA7 : Hid (Box w7 q1 32 (ecells20 hE)) := (HA5.out.turn HT6.out (fun f => f)).turn t7 (fun h => (HFA.out q1 h).1 rfl)
  have HB7 : Hid (Box w7 q2 32 (ecells20 dE)) := (HB5.out.turn HT6.out (fun f => f)).turn t7 (fun h => (HFA.out q2 h).2.1 rfl)
  have HG7 : Hid (∀ k, F1 k → k ≠ q1 ∧ k ≠ q2 ∧ k < w7.heap.size) := fun k hk => by
    have h1 := HP.out.lt hm7 k hk
    have h2 := HA5.out.lt; have h3 := HB5.out.lt; have h4 := HT6.out.size
    rcases hF1 k hk with h | h
    · have h5 := HFA.out k h; omega
    · omega
  have HT7 : Hid (Turn (fun _ => False) w w7) := ((HT1.out.trans HT5.out (fun _ _ f => f)).trans HT6.out (fun _ _ f => f)).trans t7 (fun k hk h => by have := HF.out k h; omega)
  have HF1 : Hid (∀ k, F1 k → w.heap.size ≤ k) := fun k hk => by
    rcases hF1 k hk with h | h
    · exact HF.out k h
    · exact Nat.le_trans ((HT1.out.trans HT5.out (fun _ _ f => f)).trans HT6.out (fun _ _ f => f)).size h
  clear hm7 t7 hF1 HAP HW6 HR6 HT6 HA5 HB5 HFA HM1 HF HT5 HT1 HL1 HL2 HW5 HQ2 e6 c0 c1 c2 c3 c4 c5
  obtain ⟨c0, c1, c2, c3, c4, c5⟩ := box_n20 (HB7.out)
  obtain ⟨w8, hw8⟩ : ∃ w8, w8 = w7.alloc (.cells (EN20.enc dE).toArray 32) := ⟨_, rfl⟩
  have HR8 : Hid (RdE EN20 w8 (.slice (some ⟨w7.heap.size, 0, none⟩) 1 1) [dE]) := by rw [hw8]; exact one_row EN20 _ w7 dE
  have HT8 : Hid (Turn (fun _ => False) w7 w8) := by rw [hw8]; exact (Turn.refl _ w7).alloc _
  have hap := HP.out.apply (.slice none 0 0) (.slice (some ⟨w7.heap.size, 0, none⟩) 1 1) [] [dE] (HP.out.later HM7.out HT8.out) HK1.out (RdE.nil _) HR8.out (.inl rfl) (.inr (fun k hk hf => by
    have h1 := (HG7.out k hf).2.2
    have h2 : w7.heap.size = k := by simpa [Value.ownBlock] using hk
    omega)) (by simp) (by simp) (fun _ h => nomatch h) (fun x hx => by rw [List.mem_singleton.1 hx]; exact HFH.out.2)
  rw [HS2.out] at hap
  unfold Does20 at hap
  have HAP := Lib.hid hap
  have HW8 := Lib.hid hw8
  clear hap hw8
  go_wp2_with fail
  rw [show w7.alloc (.cells #[.int .i64 dE.p.t, .int .i64 dE.p.i, .int .i64 dE.seg, .int .i64 dE.mark, .int .i64 dE.rows, .bool dE.cold] 32) = w8 from HW8.out.symm]
  refine HAP.out.mono ?_
  rintro e w9 ⟨rfl, F2, hm9, t9, hF2⟩
  have HM9 := Lib.hid hm9
  have HA9 : Hid (Box w9 q1 32 (ecells20 hE)) := (HA7.out.turn HT8.out (fun f => f)).turn t9 (fun h => (HG7.out q1 h).1 rfl)
  have HB9 : Hid (Box w9 q2 32 (ecells20 dE)) := (HB7.out.turn HT8.out (fun f => f)).turn t9 (fun h => (HG7.out q2 h).2.1 rfl)
  have HG9 : Hid (∀ k, F2 k → k ≠ q1 ∧ k ≠ q2 ∧ k < w9.heap.size) := fun k hk => by
    have h1 := HP.out.lt hm9 k hk
    have h2 := HA7.out.lt; have h3 := HB7.out.lt; have h4 := HT8.out.size
    rcases hF2 k hk with h | h
    · have h5 := HG7.out k h; omega
    · omega
  have HT9 : Hid (Turn (fun _ => False) w w9) := (HT7.out.trans HT8.out (fun _ _ f => f)).trans t9 (fun k hk h => by have := HF1.out k h; omega)
  have HF2 : Hid (∀ k, F2 k → w.heap.size ≤ k) := fun k hk => by
    rcases hF2 k hk with h | h
    · exact HF1.out k h
    · exact Nat.le_trans (HT7.out.trans HT8.out (fun _ _ f => f)).size h
  clear hm9 t9 hF2 HAP HW8 HR8 HT8 HA7 HB7 HG7 HM7 HF1 HT7 c0 c1 c2 c3 c4 c5
  obtain ⟨c0, c1, -⟩ := box_n20 (HA9.out)
  obtain ⟨wa, hwa⟩ : ∃ wa, wa = w9.alloc (.cells (tcells19 hE.p) 24) := ⟨_, rfl⟩
  have HRa : Hid (RdE ET20 wa (.slice (some ⟨w9.heap.size, 0, none⟩) 1 1) [hE.p]) := by rw [hwa]; exact one_row ET20 _ w9 hE.p
  have HTa : Hid (Turn (fun _ => False) w9 wa) := by rw [hwa]; exact (Turn.refl _ w9).alloc _
  have hsa : wa.heap.size = w9.heap.size + 1 := by rw [hwa]; exact Array.size_push _
  obtain ⟨d0, d1, d2, d3, d4, d5⟩ := box_n20 (HB9.out.turn HTa.out (fun f => f))
  rw [hwa] at d0 d1 d2 d3 d4 d5
  obtain ⟨wb, hwb⟩ : ∃ wb, wb = wa.alloc (.cells (EN20.enc dE).toArray 32) := ⟨_, rfl⟩
  have HRb : Hid (RdE EN20 wb (.slice (some ⟨w9.heap.size + 1, 0, none⟩) 1 1) [dE]) := by
    have h := one_row EN20 32 wa dE
    rw [hsa] at h
    rw [hwb]; exact h
  have HTb : Hid (Turn (fun _ => False) w9 wb) := by rw [hwb]; exact HTa.out.alloc _
  have HRc : Hid (RdE ET20 wb (.slice (some ⟨w9.heap.size, 0, none⟩) 1 1) [hE.p]) := by rw [hwb]; exact HRa.out.later ((Turn.refl _ wa).alloc _)
  have hap := HP.out.apply (.slice (some ⟨w9.heap.size, 0, none⟩) 1 1) (.slice (some ⟨w9.heap.size + 1, 0, none⟩) 1 1) [hE.p] [dE] (HP.out.later HM9.out HTb.out) HK1.out HRc.out HRb.out (.inr (fun k hk hf => by
    have h1 := (HG9.out k hf).2.2
    have h2 : w9.heap.size = k := by simpa [Value.ownBlock] using hk
    omega)) (.inr (fun k hk hf => by
    have h1 := (HG9.out k hf).2.2
    have h2 : w9.heap.size + 1 = k := by simpa [Value.ownBlock] using hk
    omega)) (by simp) (by simp) (fun x hx => by rw [List.mem_singleton.1 hx]; exact HFH.out.1.1) (fun x hx => by rw [List.mem_singleton.1 hx]; exact HFH.out.2)
  have h3 := HS3.out
  rw [← HHP.out] at h3
  rw [h3] at hap
  unfold Does20 at hap
  have HAP := Lib.hid hap
  have HWa := Lib.hid hwa; have HWb := Lib.hid hwb
  clear hap hwa hwb h3 hsa
  go_wp2_with fail
  rw [show w9.alloc (.cells #[.int .i64 hE.p.t, .int .i64 hE.p.i] 24) = wa from HWa.out.symm, show wa.alloc (.cells #[.int .i64 dE.p.t, .int .i64 dE.p.i, .int .i64 dE.seg, .int .i64 dE.mark, .int .i64 dE.rows, .bool dE.cold] 32) = wb from HWb.out.symm]
  refine HAP.out.mono ?_
  rintro e wc ⟨rfl, F3, hmc, tc, hF3⟩
  have HMc := Lib.hid hmc
  have HBc : Hid (Box wc q2 32 (ecells20 dE)) := (HB9.out.turn HTb.out (fun f => f)).turn tc (fun h => (HG9.out q2 h).2.1 rfl)
  have HTc : Hid (Turn (fun _ => False) w wc) := (HT9.out.trans HTb.out (fun _ _ f => f)).trans tc (fun k hk h => by have := HF2.out k h; omega)
  clear hmc tc hF3 HAP HWa HWb HRa HRb HRc HTa HTb HA9 HB9 HG9 HM9 HF2 HT9 c0 c1 d0 d1 d2 d3 d4 d5
  have hat := HP.out.at_ 7 ⟨by decide, by decide⟩ HMc.out HK2.out
  rw [HS4.out] at hat
  unfold Look20 at hat
  have HAT := Lib.hid hat
  clear hat
  go_wp2_with fail
  refine HAT.out.mono ?_
  rintro e wd ⟨rfl, td⟩
  obtain ⟨q3, hq3⟩ : ∃ q, q = wd.heap.size := ⟨_, rfl⟩
  obtain ⟨we, hwe⟩ : ∃ we, we = wd.alloc (.cells (ecells20 dE) 32) := ⟨_, rfl⟩
  have HBe : Hid (Box we q3 32 (ecells20 dE)) := by rw [hwe, hq3]; exact Box.new wd _ _
  have HCe : Hid (Turn (fun _ => False) wc we) := by rw [hwe]; exact td.alloc _
  obtain ⟨c0, c1, c2, c3, c4, c5⟩ := box_n20 HBe.out
  obtain ⟨d0, d1, d2, d3, d4, d5⟩ := box_n20 (HBc.out.turn HCe.out (fun f => f))
  have hln := HP.out.len (HP.out.later HMc.out HCe.out) HK2.out
  unfold SaysC20 at hln
  have HLN := Lib.hid hln
  have heq : ∀ W, Sem.run Try.prog (binOp .eql 32 (ev20 dE) (ev20 dE)) W = .ok (.bool true) W := fun W => (run_eql_ent20 dE dE W).trans (by rw [eqN_iff.2 rfl])
  have HWe := Lib.hid hwe; have HQ3 := Lib.hid hq3
  rw [hwe, hq3] at c0 c1 c2 c3 c4 c5
  rw [hwe] at d0 d1 d2 d3 d4 d5
  clear hln hwe hq3 td HAT
  go_wp2_with fail
  rw [← HWe.out]
  refine HLN.out.mono ?_
  rintro e wf ⟨rfl, tf⟩
  have HTf : Hid (Turn (fun _ => False) w wf) := (HTc.out.trans HCe.out (fun _ _ f => f)).trans tf (fun _ _ f => f)
  have hl1 : (([dE] : List N20).length : Int) = 1 := rfl
  clear tf
  go_wp2
  go_ret
  exact ⟨rfl, HTf.out⟩

end Go.Proofs.Ytgbphkbbedkepaa

/-
  Stage 20: the program's catalog and the document's row behind edits; made.
-/
namespace Go.Proofs.Ytgbphkbbedkepaa
open Go.RowKit

set_option maxRecDepth 100000
set_option linter.unusedSimpArgs false
set_option linter.unusedVariables false

theorem RdE.keep20 {T : Type} {E : El T} {w w' : World} {v : Value} {l : List T} {S : Nat → Prop} (h : RdE E w v l) (ht : Turn S w w') (hs : l ≠ [] → ∀ b, v.ownBlock = some b → b < w.heap.size → ¬ S b) : RdE E w' v l := by
  obtain ⟨A, c, rfl, hk, hn, hc⟩ := h
  refine ⟨A, c, rfl, hk, hn, fun ad e i u hi => ?_⟩
  have h1 := hc ad e i u hi
  have hlt := World.block_lt_of_cell? w _ h1
  rw [eadd_block] at hlt
  have hne : l ≠ [] := fun e => by rw [e] at hi; simp [El.flat] at hi
  rw [ht.cell (by rw [eadd_block]; exact hlt) (by subst e; rw [eadd_block]; exact hs hne _ rfl hlt)]
  exact h1
/-- Behind the edits, one behind the other. -/
def run20 (L : List AC20) : List N20 := L.foldl (fun l a => (apply20 l a.d a.p).1) []
theorem run_next20 {L : List AC20} {i : Nat} {a : AC20} (h : L[i]? = some a) : run20 (L.take (i + 1)) = (apply20 (run20 (L.take i)) a.d a.p).1 := by
  obtain ⟨h0, e⟩ := List.getElem?_eq_some_iff.1 h
  unfold run20
  rw [List.take_succ_eq_append_getElem h0, e, List.foldl_append]
  rfl
/-- The program's catalog and the document's row hold the same entries. -/
structure Both20 (M : World → (Nat → Prop) → Nat → List N20 → Prop) (w0 w : World) (g : Nat) (rv : Value) (F : Nat → Prop) (i : Nat) (l : List N20) : Prop where
  mem : M w F g l
  ok : Ok20 l
  len : l.length ≤ 30 * i
  row : RdE EN20 w rv l
  far : l ≠ [] → ∀ k, rv.ownBlock = some k → ¬ F k
  turn : Turn (fun _ => False) w0 w
  foot : ∀ k, F k → w0.heap.size ≤ k
theorem off_lt20 {T : Type} {E : El T} {w : World} {v : Value} {l : List T} (h : RdE E w v l) (hz : 0 < E.sz) (hne : l ≠ []) {k : Nat} (hk : v.ownBlock = some k) : k < w.heap.size := by
  obtain ⟨A, c, rfl⟩ := h.shape
  obtain ⟨x, hx⟩ : ∃ x, l[0]? = some x := by
    cases l with
    | nil => exact absurd rfl hne
    | cons x r => exact ⟨x, rfl⟩
  obtain ⟨ad, rfl, hc⟩ := h.cells hx
  have h1 := hc 0 _ (List.getElem?_eq_getElem (by rw [E.len]; exact hz))
  have h2 := World.block_lt_of_cell? w _ h1
  have h3 : ad.block = k := by simpa [Value.ownBlock] using hk
  rw [eadd_block] at h2
  omega
section
variable {M : World → (Nat → Prop) → Nat → List N20 → Prop} {w0 w : World} {g : Nat} {rv : Value} {F : Nat → Prop} {i : Nat} {l : List N20}
theorem Both20.bd (h : Both20 M w0 w g rv F i l) (hi : i ≤ 41) : Bd20 l := ⟨h.ok, by have := h.len; omega⟩
theorem Both20.later (P : Prog20 M) (h : Both20 M w0 w g rv F i l) {W : World} (ht : Turn (fun _ => False) w W) : Both20 M w0 W g rv F i l :=
  ⟨P.later h.mem ht, h.ok, h.len, h.row.later ht, h.far, h.turn.trans ht (fun _ _ f => f), h.foot⟩
/-- What came in lies in no block of the program's catalog. -/
theorem far_in20 {T : Type} {E : El T} {v : Value} {m : List T} (h : RdE E w0 v m) (hz : 0 < E.sz) (hf : ∀ k, F k → w0.heap.size ≤ k) : m = [] ∨ ∀ k, v.ownBlock = some k → ¬ F k := by
  cases m with
  | nil => exact .inl rfl
  | cons x r => exact .inr (fun k hk hF => by have h1 := off_lt20 h hz (List.cons_ne_nil x r) hk; have h2 := hf k hF; omega)
/-- One edit, by both. -/
theorem Both20.prog (P : Prog20 M) (h : Both20 M w0 w g rv F i l) (hi : i ≤ 40) {a : AC20} (ha : AcOk20 w0 a) (h1 : a.d.length ≤ 30) (h2 : a.p.length ≤ 30) :
    Calls Try.prog 18 #[.pointer (some ⟨g, 0, none⟩), av20 a] w fun e w' => Does20 M w F g (apply20 l a.d a.p).1 (.int .i64 (apply20 l a.d a.p).2) e w' :=
  P.apply a.ds a.ps a.d a.p h.mem (h.bd (by omega)) (ha.d.later h.turn) (ha.p.later h.turn) (far_in20 ha.d (by decide) h.foot) (far_in20 ha.p (by decide) h.foot) h1 h2 ha.df ha.pf
theorem Both20.doc (P : Prog20 M) (h : Both20 M w0 w g rv F i l) (hi : i ≤ 40) {a : AC20} (ha : AcOk20 w0 a) (h1 : a.d.length ≤ 30) (h2 : a.p.length ≤ 30) {W : World} (ht : Turn F w W) :
    Calls Try.prog 25 #[rv, a.ds, a.ps] W fun e w' => Applied20 W rv l (apply20 l a.d a.p) e w' :=
  ref_apply20 rv a.ds a.ps l a.d a.p W (h.row.keep20 ht (fun hne b hb _ => h.far hne b hb)) (ha.d.later (h.turn.trans ht (fun k hk hF => by have := h.foot k hF; omega))) (ha.p.later (h.turn.trans ht (fun k hk hF => by have := h.foot k hF; omega))) (by have := h.len; omega) (by omega) (by omega)
theorem Both20.next (P : Prog20 M) (h : Both20 M w0 w g rv F i l) {a : AC20} (h2 : a.p.length ≤ 30) {F' : Nat → Prop} {W W2 : World} {u : Value} (hm : M W F' g (apply20 l a.d a.p).1) (ht : Turn F w W) (hF : ∀ k, F' k → F k ∨ w.heap.size ≤ k)
    (hr : RdE EN20 W2 u (apply20 l a.d a.p).1) (ht2 : Turn (fun _ => False) W W2) (hu : Mine20 W rv l u (apply20 l a.d a.p).1) : Both20 M w0 W2 g u F' (i + 1) (apply20 l a.d a.p).1 := by
  refine ⟨P.later hm ht2, (apply_ok20 h.ok _ _).1, by have h3 := (apply_ok20 h.ok a.d a.p).2; have h4 := h.len; omega, hr, fun hne k hk hk' => ?_, (h.turn.trans ht (fun k hk hF => by have := h.foot k hF; omega)).trans ht2 (fun _ _ f => f), fun k hk => ?_⟩
  · rcases hu with ⟨rfl, e⟩ | hu
    · rw [e] at hne
      have h3 := off_lt20 h.row (by decide) hne hk
      rcases hF k hk' with h4 | h4
      · exact h.far hne k hk h4
      · omega
    · have h3 := hu k hk
      have h4 := P.lt hm k hk'
      omega
  · rcases hF k hk with h4 | h4
    · exact h.foot k h4
    · exact Nat.le_trans h.turn.size h4
end

end Go.Proofs.Ytgbphkbbedkepaa

/-
  Stage 20: made.
-/
namespace Go.Proofs.Ytgbphkbbedkepaa
open Go.RowKit

set_option maxRecDepth 100000
set_option linter.unusedSimpArgs false
set_option linter.unusedVariables false

/-- Behind made. -/
def Made20 (M : World → (Nat → Prop) → Nat → List N20 → Prop) (w : World) (L : List AC20) (e : Ending) (w' : World) : Prop := ∃ g rv F, e = .returned (.tuple #[.pointer (some ⟨g, 0, none⟩), rv]) ∧ Both20 M w w' g rv F L.length (run20 L)

set_option maxHeartbeats 16000000 in
theorem made_any20 {M : World → (Nat → Prop) → Nat → List N20 → Prop} (P : Prog20 M) (v : Value) (L : List AC20) (w : World) (hv : RdE EA20 w v L) (hl : L.length ≤ 40) (hs : ∀ a ∈ L, a.d.length ≤ 30 ∧ a.p.length ≤ 30) (ho : ∀ a ∈ L, AcOk20 w a) :
    Calls Try.prog 9 #[v] w fun e w' => Made20 M w L e w' := by
  have HP := Lib.hid P; have HV := Lib.hid hv; have HS := Lib.hid hs; have HO := Lib.hid ho
  obtain ⟨A, c, rfl⟩ := hv.shape
  obtain ⟨N, hN⟩ : ∃ N, N = L.length := ⟨_, rfl⟩
  rw [← hN] at HV hl ⊢
  have HN := Lib.hid hN
  have HL := Lib.hid hl
  clear hv hs ho hN
  go_enter Try.func9, Try.ntmps9
  go_wp2_with fail
  refine (HP.out.new w).mono ?_
  rintro e w1 ⟨g, F, rfl, hm, t1, hF⟩
  have HB0 : Hid (∃ F, Both20 M w w1 g (.slice none 0 0) F 0 (run20 (L.take 0))) := ⟨F, hm, Ok20.nil, Nat.zero_le _, RdE.nil _, fun h => absurd rfl h, t1, hF⟩
  clear hm t1 hF
  go_wp2_with fail
  go_loopw [5, 6] (fun x5 x6 wr => ∃ (rv : Value) (i : Nat) (F : Nat → Prop), x5 = rv ∧ x6 = .int .i64 (i : Int) ∧ i ≤ N ∧ Both20 M w wr g rv F i (run20 (L.take i))) (fun _ x6 _ => N - (intOf x6).toNat)
  case atStart =>
    obtain ⟨F, h⟩ := HB0.out
    exact ⟨_, 0, F, rfl, rfl, Nat.zero_le _, h⟩
  case round =>
    clear HB0 hl
    obtain ⟨rv, i, F, hrv, rfl, hi, hb⟩ := hrel
    have hrv := hrv.symm
    subst hrv
    have HB := Lib.hid hb
    clear hb
    by_cases hlt : i < N
    · have hil : (i : Int) < N := by omega
      obtain ⟨a, ha⟩ : ∃ a, L[i]? = some a := ⟨_, List.getElem?_eq_getElem (by rw [← HN.out]; exact hlt)⟩
      obtain ⟨ad, rfl, hc⟩ := act_at20 HV.out ha
      have HC := Lib.hid hc
      obtain ⟨s1, s2⟩ := HS.out a (List.mem_of_getElem? ha)
      have hok := HO.out a (List.mem_of_getElem? ha)
      have HPA : Hid (∀ W, Turn (fun _ => False) wr W → Calls Try.prog 18 #[.pointer (some ⟨g, 0, none⟩), av20 a] W fun e w' => Does20 M W F g (run20 (L.take (i + 1))) (.int .i64 (apply20 (run20 (L.take i)) a.d a.p).2) e w') := fun W ht => by
        rw [run_next20 ha]
        exact (HB.out.later HP.out ht).prog HP.out (by have := HL.out; omega) hok s1 s2
      have HDA : Hid (∀ W W1, Turn (fun _ => False) wr W → Turn F W W1 → Calls Try.prog 25 #[rv, a.ds, a.ps] W1 fun e w' => Applied20 W1 rv (run20 (L.take i)) (run20 (L.take (i + 1)), (apply20 (run20 (L.take i)) a.d a.p).2) e w') := fun W W1 ht t1 => by
        rw [run_next20 ha]
        exact (HB.out.later HP.out ht).doc HP.out (by have := HL.out; omega) hok s1 s2 t1
      have HNX : Hid (∀ W W1 W2 F' u, Turn (fun _ => False) wr W → M W1 F' g (run20 (L.take (i + 1))) → Turn F W W1 → (∀ k, F' k → F k ∨ W.heap.size ≤ k) → RdE EN20 W2 u (run20 (L.take (i + 1))) → Turn (fun _ => False) W1 W2 → Mine20 W1 rv (run20 (L.take i)) u (run20 (L.take (i + 1))) → Both20 M w W2 g u F' (i + 1) (run20 (L.take (i + 1)))) := fun W W1 W2 F' u ht hm t1 hF hr t2 hu => by
        rw [run_next20 ha] at hm hr hu ⊢
        exact (HB.out.later HP.out ht).next HP.out s2 hm t1 hF hr t2 hu
      clear hc ha hok s1 s2
      generalize apply20 (run20 (L.take i)) a.d a.p = q at *
      have HTW : Hid (Turn (fun _ => False) w wr) := HB.out.turn
      have HFT := Lib.hid HB.out.foot
      clear HB
      go_wp2_with fail
      refine drawn_region (fun W => Turn (fun _ => False) w W) [12] (by kernel_rfl) ?_
      have HD0 : Hid (Turn (fun _ => False) wr (World.drew wr)) := (Turn.refl _ wr).drew
      have hS0 : Turn (fun _ => False) w (World.drew wr) := HTW.out.trans HD0.out (fun _ _ f => f)
      generalize World.drew wr = wd at *
      refine drawn_take 0 14 (.pointer (some ⟨g, 0, none⟩)) rfl rfl (by kernel_rfl) (by kernel_rfl) (by kernel_rfl) (by kernel_rfl) (fun _ _ _ h => h) (by rfl) (by assumption) (by intro w hSw; obtain hS1 := hSw; go_simp) ?_
      try simp only [List.setIfInBounds_toArray, List.set_cons_zero, List.set_cons_succ]
      refine drawn_take 1 15 (.slice (some ad) N c) rfl rfl (by kernel_rfl) (by kernel_rfl) (by kernel_rfl) (by kernel_rfl) (fun _ _ _ h => h) (by rfl) (by assumption) (by intro w hSw; obtain hS1 := hSw; go_simp) ?_
      try simp only [List.setIfInBounds_toArray, List.set_cons_zero, List.set_cons_succ]
      refine drawn_take 2 16 (.int .i64 (i : Int)) rfl rfl (by kernel_rfl) (by kernel_rfl) (by kernel_rfl) (by kernel_rfl) (fun _ _ _ h => h) (by rfl) (by assumption) (by intro w hSw; obtain hS1 := hSw; go_simp) ?_
      try simp only [List.setIfInBounds_toArray, List.set_cons_zero, List.set_cons_succ]
      refine drawn_take 3 17 (.pointer (some (ad.add (i * 2)))) rfl rfl (by kernel_rfl) (by kernel_rfl) (by kernel_rfl) (by kernel_rfl) (fun _ _ _ h => h) (by rfl) (by assumption) (by intro w hSw; obtain hS1 := hSw; go_simp) ?_
      try simp only [List.setIfInBounds_toArray, List.set_cons_zero, List.set_cons_succ]
      refine drawn_take 4 18 (.pointer (some (ad.add (i * 2)))) rfl rfl (by kernel_rfl) (by kernel_rfl) (by kernel_rfl) (by kernel_rfl) (fun _ _ _ h => h) (by rfl) (by assumption) (by intro w hSw; obtain hS1 := hSw; go_simp) ?_
      try simp only [List.setIfInBounds_toArray, List.set_cons_zero, List.set_cons_succ]
      refine drawn_take 5 19 (a.ds) rfl rfl (by kernel_rfl) (by kernel_rfl) (by kernel_rfl) (by kernel_rfl) (fun _ _ _ h => h) (by rfl) (by assumption) (by intro w hSw; obtain ⟨a0, a1⟩ := HC.out w hSw; clear hSw; go_simp) ?_
      try simp only [List.setIfInBounds_toArray, List.set_cons_zero, List.set_cons_succ]
      refine drawn_take 6 20 (.slice (some ad) N c) rfl rfl (by kernel_rfl) (by kernel_rfl) (by kernel_rfl) (by kernel_rfl) (fun _ _ _ h => h) (by rfl) (by assumption) (by intro w hSw; obtain hS1 := hSw; go_simp) ?_
      try simp only [List.setIfInBounds_toArray, List.set_cons_zero, List.set_cons_succ]
      refine drawn_take 7 21 (.int .i64 (i : Int)) rfl rfl (by kernel_rfl) (by kernel_rfl) (by kernel_rfl) (by kernel_rfl) (fun _ _ _ h => h) (by rfl) (by assumption) (by intro w hSw; obtain hS1 := hSw; go_simp) ?_
      try simp only [List.setIfInBounds_toArray, List.set_cons_zero, List.set_cons_succ]
      refine drawn_take 8 22 (.pointer (some (ad.add (i * 2)))) rfl rfl (by kernel_rfl) (by kernel_rfl) (by kernel_rfl) (by kernel_rfl) (fun _ _ _ h => h) (by rfl) (by assumption) (by intro w hSw; obtain hS1 := hSw; go_simp) ?_
      try simp only [List.setIfInBounds_toArray, List.set_cons_zero, List.set_cons_succ]
      refine drawn_take 9 23 (.pointer (some ⟨(ad.add (i * 2)).block, (ad.add (i * 2)).off + 1, none⟩)) rfl rfl (by kernel_rfl) (by kernel_rfl) (by kernel_rfl) (by kernel_rfl) (fun _ _ _ h => h) (by rfl) (by assumption) (by intro w hSw; obtain hS1 := hSw; go_simp) ?_
      try simp only [List.setIfInBounds_toArray, List.set_cons_zero, List.set_cons_succ]
      refine drawn_take 10 24 (a.ps) rfl rfl (by kernel_rfl) (by kernel_rfl) (by kernel_rfl) (by kernel_rfl) (fun _ _ _ h => h) (by rfl) (by assumption) (by intro w hSw; obtain ⟨a0, a1⟩ := HC.out w hSw; clear hSw; go_simp) ?_
      try simp only [List.setIfInBounds_toArray, List.set_cons_zero, List.set_cons_succ]
      refine drawn_take 11 25 (av20 a) rfl rfl (by kernel_rfl) (by kernel_rfl) (by kernel_rfl) (by kernel_rfl) (fun _ _ _ h => h) (by rfl) (by assumption) (by intro w hSw; obtain hS1 := hSw; go_simp) ?_
      try simp only [List.setIfInBounds_toArray, List.set_cons_zero, List.set_cons_succ]
      refine drawn_last (z := 12) rfl (by kernel_rfl) (by kernel_rfl) (by kernel_rfl) (fun K hK => ?_)
      go_simp
      refine (HPA.out wd HD0.out).mono ?_
      unfold Does20
      rintro e w4 ⟨rfl, F4, m4, t4, f4⟩
      have HM4 := Lib.hid m4; have HT4 := Lib.hid t4; have HF4 := Lib.hid f4
      have HTW4 : Hid (Turn (fun _ => False) w w4) := hS0.trans t4 (fun k hk hF => by have := HFT.out k hF; omega)
      clear m4 t4 f4 hS0
      refine hK.out _ _ ?_
      clear hK K
      go_wp2_with fail
      refine drawn_region (fun W => Turn (fun _ => False) w W) [] (by kernel_rfl) ?_
      have HD4 : Hid (Turn (fun _ => False) w4 (World.drew w4)) := (Turn.refl _ w4).drew
      have hS4 : Turn (fun _ => False) w (World.drew w4) := HTW4.out.trans HD4.out (fun _ _ f => f)
      generalize World.drew w4 = w5 at *
      refine drawn_take 0 28 rv rfl rfl (by kernel_rfl) (by kernel_rfl) (by kernel_rfl) (by kernel_rfl) (fun _ _ _ h => h) (by rfl) (by assumption) (by intro w hSw; obtain hS1 := hSw; go_simp) ?_
      try simp only [List.setIfInBounds_toArray, List.set_cons_zero, List.set_cons_succ]
      refine drawn_take 1 29 (.slice (some ad) N c) rfl rfl (by kernel_rfl) (by kernel_rfl) (by kernel_rfl) (by kernel_rfl) (fun _ _ _ h => h) (by rfl) (by assumption) (by intro w hSw; obtain hS1 := hSw; go_simp) ?_
      try simp only [List.setIfInBounds_toArray, List.set_cons_zero, List.set_cons_succ]
      refine drawn_take 2 30 (.int .i64 (i : Int)) rfl rfl (by kernel_rfl) (by kernel_rfl) (by kernel_rfl) (by kernel_rfl) (fun _ _ _ h => h) (by rfl) (by assumption) (by intro w hSw; obtain hS1 := hSw; go_simp) ?_
      try simp only [List.setIfInBounds_toArray, List.set_cons_zero, List.set_cons_succ]
      refine drawn_take 3 31 (.pointer (some (ad.add (i * 2)))) rfl rfl (by kernel_rfl) (by kernel_rfl) (by kernel_rfl) (by kernel_rfl) (fun _ _ _ h => h) (by rfl) (by assumption) (by intro w hSw; obtain hS1 := hSw; go_simp) ?_
      try simp only [List.setIfInBounds_toArray, List.set_cons_zero, List.set_cons_succ]
      refine drawn_take 4 32 (.pointer (some (ad.add (i * 2)))) rfl rfl (by kernel_rfl) (by kernel_rfl) (by kernel_rfl) (by kernel_rfl) (fun _ _ _ h => h) (by rfl) (by assumption) (by intro w hSw; obtain hS1 := hSw; go_simp) ?_
      try simp only [List.setIfInBounds_toArray, List.set_cons_zero, List.set_cons_succ]
      refine drawn_take 5 33 (a.ds) rfl rfl (by kernel_rfl) (by kernel_rfl) (by kernel_rfl) (by kernel_rfl) (fun _ _ _ h => h) (by rfl) (by assumption) (by intro w hSw; obtain ⟨a0, a1⟩ := HC.out w hSw; clear hSw; go_simp) ?_
      try simp only [List.setIfInBounds_toArray, List.set_cons_zero, List.set_cons_succ]
      refine drawn_take 6 34 (.slice (some ad) N c) rfl rfl (by kernel_rfl) (by kernel_rfl) (by kernel_rfl) (by kernel_rfl) (fun _ _ _ h => h) (by rfl) (by assumption) (by intro w hSw; obtain hS1 := hSw; go_simp) ?_
      try simp only [List.setIfInBounds_toArray, List.set_cons_zero, List.set_cons_succ]
      refine drawn_take 7 35 (.int .i64 (i : Int)) rfl rfl (by kernel_rfl) (by kernel_rfl) (by kernel_rfl) (by kernel_rfl) (fun _ _ _ h => h) (by rfl) (by assumption) (by intro w hSw; obtain hS1 := hSw; go_simp) ?_
      try simp only [List.setIfInBounds_toArray, List.set_cons_zero, List.set_cons_succ]
      refine drawn_take 8 36 (.pointer (some (ad.add (i * 2)))) rfl rfl (by kernel_rfl) (by kernel_rfl) (by kernel_rfl) (by kernel_rfl) (fun _ _ _ h => h) (by rfl) (by assumption) (by intro w hSw; obtain hS1 := hSw; go_simp) ?_
      try simp only [List.setIfInBounds_toArray, List.set_cons_zero, List.set_cons_succ]
      refine drawn_take 9 37 (.pointer (some ⟨(ad.add (i * 2)).block, (ad.add (i * 2)).off + 1, none⟩)) rfl rfl (by kernel_rfl) (by kernel_rfl) (by kernel_rfl) (by kernel_rfl) (fun _ _ _ h => h) (by rfl) (by assumption) (by intro w hSw; obtain hS1 := hSw; go_simp) ?_
      try simp only [List.setIfInBounds_toArray, List.set_cons_zero, List.set_cons_succ]
      refine drawn_take 10 38 (a.ps) rfl rfl (by kernel_rfl) (by kernel_rfl) (by kernel_rfl) (by kernel_rfl) (fun _ _ _ h => h) (by rfl) (by assumption) (by intro w hSw; obtain ⟨a0, a1⟩ := HC.out w hSw; clear hSw; go_simp) ?_
      try simp only [List.setIfInBounds_toArray, List.set_cons_zero, List.set_cons_succ]
      refine drawn_any [11] (by kernel_rfl) (by simp) ?_
      refine drawn_cons rfl (fun K hK => ?_) drawn_nil
      go_simp
      refine (HDA.out wd w5 HD0.out (HT4.out.trans HD4.out (fun _ _ f => f.elim))).mono ?_
      unfold Applied20
      rintro e w6 ⟨u, rfl, r6, t6, m6⟩
      have HBN : Hid (Both20 M w w6 g u F4 (i + 1) (run20 (L.take (i + 1)))) := HNX.out wd w5 w6 F4 u HD0.out (HP.out.later HM4.out HD4.out) (HT4.out.trans HD4.out (fun _ _ f => f.elim)) HF4.out r6 t6 m6
      have hS6 : Turn (fun _ => False) w w6 := hS4.trans t6 (fun _ _ f => f)
      clear r6 t6 m6 hS4 HNX HDA HPA
      refine hK.out _ _ _ hS6 ?_
      clear hK K
      try simp only [List.setIfInBounds_toArray, List.set_cons_zero, List.set_cons_succ]
      refine drawn_take 12 27 (.tuple #[u, .int .i64 q.2]) rfl rfl (by kernel_rfl) (by kernel_rfl) (by kernel_rfl) (by kernel_rfl) (fun _ _ _ h => h) (by rfl) (by assumption) (by intro w hSw; obtain hS1 := hSw; go_simp) ?_
      try simp only [List.setIfInBounds_toArray, List.set_cons_zero, List.set_cons_succ]
      refine drawn_take 13 40 u rfl rfl (by kernel_rfl) (by kernel_rfl) (by kernel_rfl) (by kernel_rfl) (fun _ _ _ h => h) (by rfl) (by assumption) (by intro w hSw; obtain hS1 := hSw; go_simp) ?_
      try simp only [List.setIfInBounds_toArray, List.set_cons_zero, List.set_cons_succ]
      refine drawn_take 14 41 (.int .i64 q.2) rfl rfl (by kernel_rfl) (by kernel_rfl) (by kernel_rfl) (by kernel_rfl) (fun _ _ _ h => h) (by rfl) (by assumption) (by intro w hSw; obtain hS1 := hSw; go_simp) ?_
      try simp only [List.setIfInBounds_toArray, List.set_cons_zero, List.set_cons_succ]
      refine drawn_last1 15 5 u rfl rfl (by kernel_rfl) (by kernel_rfl) (by rfl) (by intro w; go_simp) hS6 ?_
      try simp only [List.setIfInBounds_toArray, List.set_cons_zero, List.set_cons_succ]
      clear hS6
      have hl := HL.out
      go_wp2
      go_roundw
      case rel => exact ⟨u, i + 1, F4, rfl, by go_num, hlt, HBN.out⟩
      case measure => simp [intOf]; omega
    · obtain rfl : i = N := by omega
      go_wp2
      go_ret2
      refine ⟨g, rv, F, rfl, ?_⟩
      have h := HB.out
      rw [HN.out, List.take_length] at h
      exact h

end Go.Proofs.Ytgbphkbbedkepaa

/-
  Stage 20: CatalogOnce, of any catalog of the program.
-/
namespace Go.Proofs.Ytgbphkbbedkepaa
open Go.RowKit

set_option maxRecDepth 100000

/-- The program's catalog, behind edits. -/
structure Has20 (M : World → (Nat → Prop) → Nat → List N20 → Prop) (w0 w : World) (g : Nat) (F : Nat → Prop) (i : Nat) (l : List N20) : Prop where
  mem : M w F g l
  ok : Ok20 l
  len : l.length ≤ 30 * i
  turn : Turn (fun _ => False) w0 w
  foot : ∀ k, F k → w0.heap.size ≤ k
section
variable {M : World → (Nat → Prop) → Nat → List N20 → Prop} {w0 w : World} {g : Nat} {F : Nat → Prop} {i : Nat} {l : List N20}
theorem Has20.bd (h : Has20 M w0 w g F i l) (hi : i ≤ 41) : Bd20 l := ⟨h.ok, by have := h.len; omega⟩
theorem Has20.later (P : Prog20 M) (h : Has20 M w0 w g F i l) {W : World} (ht : Turn (fun _ => False) w W) : Has20 M w0 W g F i l :=
  ⟨P.later h.mem ht, h.ok, h.len, h.turn.trans ht (fun _ _ f => f), h.foot⟩
theorem Has20.prog (P : Prog20 M) (h : Has20 M w0 w g F i l) (hi : i ≤ 40) {a : AC20} (ha : AcOk20 w0 a) (h1 : a.d.length ≤ 30) (h2 : a.p.length ≤ 30) :
    Calls Try.prog 18 #[.pointer (some ⟨g, 0, none⟩), av20 a] w fun e w' => e = .returned (.int .i64 (apply20 l a.d a.p).2) ∧ ∃ F', Has20 M w0 w' g F' (i + 1) (apply20 l a.d a.p).1 ∧ Turn F w w' :=
  (P.apply a.ds a.ps a.d a.p h.mem (h.bd (by omega)) (ha.d.later h.turn) (ha.p.later h.turn) (far_in20 ha.d (by decide) h.foot) (far_in20 ha.p (by decide) h.foot) h1 h2 ha.df ha.pf).mono fun e w' hd => by
    obtain ⟨rfl, F', hm, ht, hF⟩ := hd
    refine ⟨rfl, F', ⟨hm, (apply_ok20 h.ok _ _).1, by have h3 := (apply_ok20 h.ok a.d a.p).2; have h4 := h.len; omega, h.turn.trans ht (fun k hk hF => by have := h.foot k hF; omega), fun k hk => ?_⟩, ht⟩
    rcases hF k hk with h4 | h4
    · exact h.foot k h4
    · exact Nat.le_trans h.turn.size h4
/-- A row that was handed out stays as it was. -/
theorem Has20.keep (P : Prog20 M) (h : Has20 M w0 w g F i l) {W W2 : World} {v : Value} {m : List N20} (hr : RdE EN20 W v m) (hn : ∀ k, v.ownBlock = some k → w.heap.size ≤ k) (ht : Turn F W W2) : RdE EN20 W2 v m :=
  hr.keep20 ht (fun _ b hb _ hF => by have h1 := hn b hb; have h2 := P.lt h.mem b hF; omega)
end
theorem count_next20 {l : List N20} {k : Nat} {e : N20} {x : Int} (h : l[k]? = some e) : ((l.take (k + 1)).filter fun e => has19 e.p x).length = ((l.take k).filter fun e => has19 e.p x).length + (if has19 e.p x = true then 1 else 0) := by
  rw [take_filter20 h, List.length_append]
  split <;> rfl

set_option maxHeartbeats 40000000 in
theorem once_any20 {M : World → (Nat → Prop) → Nat → List N20 → Prop} (P : Prog20 M) (v u : Value) (L : List AC20) (H : List Int) (w : World) (hv : RdE EA20 w v L) (hl : L.length ≤ maxLen) (ho : ∀ a ∈ L, AcOk20 w a) (hu : RdE EI20 w u H) (hh : H.length ≤ maxLen) :
    Calls Try.prog 5 #[v, u] w fun e w' => e = .returned (.bool true) ∧ Turn (fun _ => False) w w' := by
  have HP := Lib.hid P; have HV := Lib.hid hv; have HO := Lib.hid ho; have HU := Lib.hid hu
  have HLI := Lib.hid (light_any20 v L w hv hl (fun a ha => ⟨(ho a ha).dn, (ho a ha).pn⟩))
  have HAL : Hid (∀ W, Calls Try.prog 8 #[] W fun e w' => e = .returned (.bool true) ∧ Turn (fun _ => False) W w') := fun W => alive_any20 HP.out W
  obtain ⟨A, c, rfl⟩ := hv.shape
  obtain ⟨B, d, rfl⟩ := hu.shape
  obtain ⟨S, hS⟩ : ∃ S, S = H.length := ⟨_, rfl⟩
  rw [← hS] at HU hh ⊢
  unfold maxLen at hh
  have HSN := Lib.hid hS
  clear P hv ho hl hu hS
  cases hL : light20 L with
  | false =>
    rw [hL] at HLI
    clear hL
    go_enter Try.func5, Try.ntmps5
    go_wp2_with fail
    refine HLI.out.mono ?_
    rintro e w1 ⟨rfl, hw1⟩
    subst w1
    clear HLI
    go_wp2_with fail
    refine (HAL.out w).mono ?_
    rintro e w2 ⟨rfl, t2⟩
    have HT2 := Lib.hid t2
    clear t2
    go_wp2
    go_ret
    exact ⟨rfl, HT2.out⟩
  | true =>
    rw [hL] at HLI
    by_cases h60 : S ≤ 60
    · have h60' : ¬ ((60 : Int) < S) := by omega
      obtain ⟨h40, hs⟩ := light_short20 hL
      have HS := Lib.hid hs
      obtain ⟨N, hN⟩ : ∃ N, N = L.length := ⟨_, rfl⟩
      rw [← hN] at HV HLI h40 ⊢
      have HN := Lib.hid hN
      have HL := Lib.hid h40
      clear hL hs h40 hN hh
      go_enter Try.func5, Try.ntmps5
      go_wp2_with fail
      refine HLI.out.mono ?_
      rintro e w1 ⟨rfl, hw1⟩
      subst w1
      clear HLI
      go_wp2_with fail
      refine (HP.out.new w).mono ?_
      rintro e w1 ⟨g, F, rfl, hm, t1, hF⟩
      have HB0 : Hid (∃ F l, Has20 M w w1 g F 0 l) := ⟨F, [], hm, Ok20.nil, Nat.zero_le _, t1, hF⟩
      clear hm t1 hF
      go_wp2_with fail
      go_loopw [6] (fun x6 wr => ∃ (i : Nat) (F : Nat → Prop) (l : List N20), x6 = .int .i64 (i : Int) ∧ i ≤ N ∧ Has20 M w wr g F i l) (fun x6 _ => N - (intOf x6).toNat)
      case atStart =>
        obtain ⟨F, l, h⟩ := HB0.out
        exact ⟨0, F, l, rfl, Nat.zero_le _, h⟩
      case round =>
        clear HB0
        obtain ⟨i, F, l, rfl, hi, hb⟩ := hrel
        have HB := Lib.hid hb
        clear hb
        by_cases hlt : i < N
        · have hil : (i : Int) < N := by omega
          obtain ⟨a, ha⟩ : ∃ a, L[i]? = some a := ⟨_, List.getElem?_eq_getElem (by rw [← HN.out]; exact hlt)⟩
          obtain ⟨ad, rfl, hc⟩ := act_at20 HV.out ha
          have HC := Lib.hid hc
          obtain ⟨s1, s2⟩ := HS.out a (List.mem_of_getElem? ha)
          have hok := HO.out a (List.mem_of_getElem? ha)
          have HBD : Hid (Bd20 l) := HB.out.bd (by have := HL.out; omega)
          have HBK := Lib.hid (back_any20 HP.out HB.out.mem HBD.out)
          have HPA : Hid (∀ W, Turn (fun _ => False) wr W → Calls Try.prog 18 #[.pointer (some ⟨g, 0, none⟩), av20 a] W fun e w' => e = .returned (.int .i64 (apply20 l a.d a.p).2) ∧ ∃ F', Has20 M w w' g F' (i + 1) (apply20 l a.d a.p).1 ∧ Turn F W w') := fun W ht => (HB.out.later HP.out ht).prog HP.out (by have := HL.out; omega) hok s1 s2
          have HSA : Hid ((apply20 l a.d a.p).2 ≠ 0 → (apply20 l a.d a.p).1 = l) := fun h => apply_bad20 h
          have HBN : Hid (∀ F' W, Has20 M w W g F' (i + 1) (apply20 l a.d a.p).1 → Bd20 (apply20 l a.d a.p).1) := fun F' W h => h.bd (by have := HL.out; omega)
          have HLL : Hid (l.length ≤ 1000000) := Nat.le_trans HBD.out.len (by decide)
          clear hc ha hok s1 s2
          generalize apply20 l a.d a.p = q at *
          obtain ⟨l2, q2⟩ := q
          dsimp only at HPA HSA HBN
          go_wp2_with fail
          refine HBK.out.mono ?_
          rintro e w2 ⟨v7, rfl, r7, t7, n7⟩
          have HR7 := Lib.hid r7; have HT7 := Lib.hid t7; have HN7 := Lib.hid n7
          have HTW2 : Hid (Turn (fun _ => False) w w2) := HB.out.turn.trans t7 (fun _ _ f => f)
          have HFT := Lib.hid HB.out.foot
          clear r7 t7 n7 HBK
          go_wp2_with fail
          refine drawn_region (fun W => Turn (fun _ => False) w W) [] (by kernel_rfl) ?_
          have HD0 : Hid (Turn (fun _ => False) w2 (World.drew w2)) := (Turn.refl _ w2).drew
          have hS0 : Turn (fun _ => False) w (World.drew w2) := HTW2.out.trans HD0.out (fun _ _ f => f)
          generalize World.drew w2 = wd at *
          refine drawn_take 0 32 (.pointer (some ⟨g, 0, none⟩)) rfl rfl (by kernel_rfl) (by kernel_rfl) (by kernel_rfl) (by kernel_rfl) (fun _ _ _ h => h) (by rfl) (by assumption) (by intro w hSw; obtain hS1 := hSw; go_simp) ?_
          try simp only [List.setIfInBounds_toArray, List.set_cons_zero, List.set_cons_succ]
          refine drawn_take 1 33 (.slice (some ad) N c) rfl rfl (by kernel_rfl) (by kernel_rfl) (by kernel_rfl) (by kernel_rfl) (fun _ _ _ h => h) (by rfl) (by assumption) (by intro w hSw; obtain hS1 := hSw; go_simp) ?_
          try simp only [List.setIfInBounds_toArray, List.set_cons_zero, List.set_cons_succ]
          refine drawn_take 2 34 (.int .i64 (i : Int)) rfl rfl (by kernel_rfl) (by kernel_rfl) (by kernel_rfl) (by kernel_rfl) (fun _ _ _ h => h) (by rfl) (by assumption) (by intro w hSw; obtain hS1 := hSw; go_simp) ?_
          try simp only [List.setIfInBounds_toArray, List.set_cons_zero, List.set_cons_succ]
          refine drawn_take 3 35 (.pointer (some (ad.add (i * 2)))) rfl rfl (by kernel_rfl) (by kernel_rfl) (by kernel_rfl) (by kernel_rfl) (fun _ _ _ h => h) (by rfl) (by assumption) (by intro w hSw; obtain hS1 := hSw; go_simp) ?_
          try simp only [List.setIfInBounds_toArray, List.set_cons_zero, List.set_cons_succ]
          refine drawn_take 4 36 (.pointer (some (ad.add (i * 2)))) rfl rfl (by kernel_rfl) (by kernel_rfl) (by kernel_rfl) (by kernel_rfl) (fun _ _ _ h => h) (by rfl) (by assumption) (by intro w hSw; obtain hS1 := hSw; go_simp) ?_
          try simp only [List.setIfInBounds_toArray, List.set_cons_zero, List.set_cons_succ]
          refine drawn_take 5 37 (a.ds) rfl rfl (by kernel_rfl) (by kernel_rfl) (by kernel_rfl) (by kernel_rfl) (fun _ _ _ h => h) (by rfl) (by assumption) (by intro w hSw; obtain ⟨a0, a1⟩ := HC.out w hSw; clear hSw; go_simp) ?_
          try simp only [List.setIfInBounds_toArray, List.set_cons_zero, List.set_cons_succ]
          refine drawn_take 6 38 (.slice (some ad) N c) rfl rfl (by kernel_rfl) (by kernel_rfl) (by kernel_rfl) (by kernel_rfl) (fun _ _ _ h => h) (by rfl) (by assumption) (by intro w hSw; obtain hS1 := hSw; go_simp) ?_
          try simp only [List.setIfInBounds_toArray, List.set_cons_zero, List.set_cons_succ]
          refine drawn_take 7 39 (.int .i64 (i : Int)) rfl rfl (by kernel_rfl) (by kernel_rfl) (by kernel_rfl) (by kernel_rfl) (fun _ _ _ h => h) (by rfl) (by assumption) (by intro w hSw; obtain hS1 := hSw; go_simp) ?_
          try simp only [List.setIfInBounds_toArray, List.set_cons_zero, List.set_cons_succ]
          refine drawn_take 8 40 (.pointer (some (ad.add (i * 2)))) rfl rfl (by kernel_rfl) (by kernel_rfl) (by kernel_rfl) (by kernel_rfl) (fun _ _ _ h => h) (by rfl) (by assumption) (by intro w hSw; obtain hS1 := hSw; go_simp) ?_
          try simp only [List.setIfInBounds_toArray, List.set_cons_zero, List.set_cons_succ]
          refine drawn_take 9 41 (.pointer (some ⟨(ad.add (i * 2)).block, (ad.add (i * 2)).off + 1, none⟩)) rfl rfl (by kernel_rfl) (by kernel_rfl) (by kernel_rfl) (by kernel_rfl) (fun _ _ _ h => h) (by rfl) (by assumption) (by intro w hSw; obtain hS1 := hSw; go_simp) ?_
          try simp only [List.setIfInBounds_toArray, List.set_cons_zero, List.set_cons_succ]
          refine drawn_take 10 42 (a.ps) rfl rfl (by kernel_rfl) (by kernel_rfl) (by kernel_rfl) (by kernel_rfl) (fun _ _ _ h => h) (by rfl) (by assumption) (by intro w hSw; obtain ⟨a0, a1⟩ := HC.out w hSw; clear hSw; go_simp) ?_
          try simp only [List.setIfInBounds_toArray, List.set_cons_zero, List.set_cons_succ]
          refine drawn_take 11 43 (av20 a) rfl rfl (by kernel_rfl) (by kernel_rfl) (by kernel_rfl) (by kernel_rfl) (fun _ _ _ h => h) (by rfl) (by assumption) (by intro w hSw; obtain hS1 := hSw; go_simp) ?_
          try simp only [List.setIfInBounds_toArray, List.set_cons_zero, List.set_cons_succ]
          refine drawn_any [12] (by kernel_rfl) (by simp) ?_
          refine drawn_cons rfl (fun K hK => ?_) drawn_nil
          go_simp
          refine (HPA.out wd (HT7.out.trans HD0.out (fun _ _ f => f))).mono ?_
          rintro e w4 ⟨rfl, F4, hb4, t4⟩
          have HB4 := Lib.hid hb4
          have HR4 : Hid (RdE EN20 w4 v7 l) := HB.out.keep HP.out (HR7.out.later HD0.out) HN7.out t4
          have hS4 : Turn (fun _ => False) w w4 := hb4.turn
          have HBD4 : Hid (Bd20 l2) := HBN.out F4 w4 hb4
          clear hb4 t4 hS0 HPA HBN HR7 HT7 HN7 HTW2 HFT HD0
          refine hK.out _ _ _ hS4 ?_
          clear hK K
          try simp only [List.setIfInBounds_toArray, List.set_cons_zero, List.set_cons_succ]
          by_cases hq : q2 = 0
          · subst hq
            refine drawn_take 13 45 (.bool false) rfl rfl (by kernel_rfl) (by kernel_rfl) (by kernel_rfl) (by kernel_rfl) (fun _ _ _ h => h) (by rfl) (by assumption) (by intro w hSw; obtain hS1 := hSw; go_simp) ?_
            try simp only [List.setIfInBounds_toArray, List.set_cons_zero, List.set_cons_succ]
            refine drawn_take 14 46 (.bool false) rfl rfl (by kernel_rfl) (by kernel_rfl) (by kernel_rfl) (by kernel_rfl) (fun _ _ _ h => h) (by rfl) (by assumption) (by intro w hSw; obtain hS1 := hSw; go_simp) ?_
            try simp only [List.setIfInBounds_toArray, List.set_cons_zero, List.set_cons_succ]
            refine drawn_skip 15 47 rfl rfl (by kernel_rfl) (by kernel_rfl) (by kernel_rfl) (by kernel_rfl) (fun _ _ _ h => h) (by rfl) (fun _ => by assumption) ?_
            try simp only [List.setIfInBounds_toArray, List.set_cons_zero, List.set_cons_succ]
            refine drawn_skip 16 48 rfl rfl (by kernel_rfl) (by kernel_rfl) (by kernel_rfl) (by kernel_rfl) (fun _ _ _ h => h) (by rfl) (fun _ => by assumption) ?_
            try simp only [List.setIfInBounds_toArray, List.set_cons_zero, List.set_cons_succ]
            refine drawn_skip 17 49 rfl rfl (by kernel_rfl) (by kernel_rfl) (by kernel_rfl) (by kernel_rfl) (fun _ _ _ h => h) (by rfl) (fun _ => by assumption) ?_
            try simp only [List.setIfInBounds_toArray, List.set_cons_zero, List.set_cons_succ]
            refine drawn_skip 18 50 rfl rfl (by kernel_rfl) (by kernel_rfl) (by kernel_rfl) (by kernel_rfl) (fun _ _ _ h => h) (by rfl) (fun _ => by assumption) ?_
            try simp only [List.setIfInBounds_toArray, List.set_cons_zero, List.set_cons_succ]
            refine drawn_skip 19 51 rfl rfl (by kernel_rfl) (by kernel_rfl) (by kernel_rfl) (by kernel_rfl) (fun _ _ _ h => h) (by rfl) (fun _ => by assumption) ?_
            try simp only [List.setIfInBounds_toArray, List.set_cons_zero, List.set_cons_succ]
            refine drawn_last1 20 52 (.bool false) rfl rfl (by kernel_rfl) (by kernel_rfl) (by rfl) (by intro w; go_simp) hS4 ?_
            try simp only [List.setIfInBounds_toArray, List.set_cons_zero, List.set_cons_succ]
            clear hS4
            have hl := HL.out
            go_wp2
            go_roundw
            case rel => exact ⟨i + 1, F4, l2, by go_num, hlt, HB4.out⟩
            case measure => simp [intOf]; omega
          · obtain rfl : l2 = l := HSA.out hq
            have hb1 : (q2 == 0) = false := by rw [beq_eq_false_iff_ne]; exact hq
            have hb2 : (q2 != 0) = true := by rw [bne_iff_ne]; exact hq
            clear hq
            refine drawn_take 13 45 (.bool true) rfl rfl (by kernel_rfl) (by kernel_rfl) (by kernel_rfl) (by kernel_rfl) (fun _ _ _ h => h) (by rfl) (by assumption) (by intro w hSw; obtain hS1 := hSw; go_simp) ?_
            try simp only [List.setIfInBounds_toArray, List.set_cons_zero, List.set_cons_succ]
            refine drawn_take 14 46 (.bool true) rfl rfl (by kernel_rfl) (by kernel_rfl) (by kernel_rfl) (by kernel_rfl) (fun _ _ _ h => h) (by rfl) (by assumption) (by intro w hSw; obtain hS1 := hSw; go_simp) ?_
            try simp only [List.setIfInBounds_toArray, List.set_cons_zero, List.set_cons_succ]
            refine drawn_take 15 47 (.pointer (some ⟨g, 0, none⟩)) rfl rfl (by kernel_rfl) (by kernel_rfl) (by kernel_rfl) (by kernel_rfl) (fun _ _ _ h => h) (by rfl) (by assumption) (by intro w hSw; obtain hS1 := hSw; go_simp) ?_
            try simp only [List.setIfInBounds_toArray, List.set_cons_zero, List.set_cons_succ]
            refine drawn_take 17 49 v7 rfl rfl (by kernel_rfl) (by kernel_rfl) (by kernel_rfl) (by kernel_rfl) (fun _ _ _ h => h) (by rfl) (by assumption) (by intro w hSw; obtain hS1 := hSw; go_simp) ?_
            try simp only [List.setIfInBounds_toArray, List.set_cons_zero, List.set_cons_succ]
            refine drawn_any [16] (by kernel_rfl) (by simp) ?_
            refine drawn_cons rfl (fun K hK => ?_) drawn_nil
            go_simp
            refine (back_any20 HP.out HB4.out.mem HBD4.out).mono ?_
            rintro e w5 ⟨v8, rfl, r8, t8, -⟩
            have HR8 := Lib.hid r8; have HT8 := Lib.hid t8
            have hS5 : Turn (fun _ => False) w w5 := hS4.trans t8 (fun _ _ f => f)
            clear r8 t8 hS4
            refine hK.out _ _ _ hS5 ?_
            clear hK K
            try simp only [List.setIfInBounds_toArray, List.set_cons_zero, List.set_cons_succ]
            refine drawn_any [18] (by kernel_rfl) (by simp) ?_
            refine drawn_cons rfl (fun K hK => ?_) drawn_nil
            go_simp
            refine (ref_same20 v8 v7 l2 w5 HR8.out (HR4.out.later HT8.out) HLL.out).mono ?_
            rintro e w6 ⟨rfl, t6⟩
            have HT6 := Lib.hid (HT8.out.trans t6 (fun _ _ f => f))
            have hS6 : Turn (fun _ => False) w w6 := hS5.trans t6 (fun _ _ f => f)
            clear t6 hS5
            refine hK.out _ _ _ hS6 ?_
            clear hK K
            try simp only [List.setIfInBounds_toArray, List.set_cons_zero, List.set_cons_succ]
            refine drawn_take 19 51 (.bool false) rfl rfl (by kernel_rfl) (by kernel_rfl) (by kernel_rfl) (by kernel_rfl) (fun _ _ _ h => h) (by rfl) (by assumption) (by intro w hSw; obtain hS1 := hSw; go_simp) ?_
            try simp only [List.setIfInBounds_toArray, List.set_cons_zero, List.set_cons_succ]
            refine drawn_last1 20 52 (.bool false) rfl rfl (by kernel_rfl) (by kernel_rfl) (by rfl) (by intro w; go_simp) hS6 ?_
            try simp only [List.setIfInBounds_toArray, List.set_cons_zero, List.set_cons_succ]
            clear hS6
            have hl := HL.out
            go_wp2
            go_roundw
            case rel => exact ⟨i + 1, F4, l2, by go_num, hlt, HB4.out.later HP.out HT6.out⟩
            case measure => simp [intOf]; omega
        · obtain rfl : i = N := by omega
          have HBD : Hid (Bd20 l) := HB.out.bd (by have := HL.out; omega)
          have HBK := Lib.hid (back_any20 HP.out HB.out.mem HBD.out)
          go_wp2_with fail
          refine HBK.out.mono ?_
          rintro e w2 ⟨v7, rfl, r7, t7, -⟩
          obtain ⟨A7, c7, rfl⟩ := r7.shape
          have HR7 := Lib.hid r7
          have HB2 : Hid (Has20 M w w2 g F i l) := HB.out.later HP.out t7
          have hK5 := HBD.out.len
          obtain ⟨K, hK⟩ : ∃ K, K = l.length := ⟨_, rfl⟩
          rw [← hK] at HR7 hK5 ⊢
          have HKL := Lib.hid hK
          clear r7 t7 HBK HB hK
          go_wp2_with fail
          go_loopw [9] (fun x9 wk => ∃ j : Nat, x9 = .int .i64 (j : Int) ∧ j ≤ S ∧ Turn (fun _ => False) w2 wk) (fun x9 _ => S - (intOf x9).toNat)
          case atStart => exact ⟨0, rfl, Nat.zero_le _, Turn.refl _ _⟩
          case round =>
            obtain ⟨j, rfl, hj, ht⟩ := hrel
            rename World => wk
            have HX := Lib.hid ht
            have HTK : Hid (Turn (fun _ => False) w wk) := HB2.out.turn.trans ht (fun _ _ f => f)
            clear ht
            by_cases hlj : j < S
            · have hjl : (j : Int) < S := by omega
              obtain ⟨x, hx⟩ : ∃ x, H[j]? = some x := ⟨_, List.getElem?_eq_getElem (by rw [← HSN.out]; exact hlj)⟩
              obtain ⟨bd, rfl, hcx⟩ := num_at20 HU.out hx
              have HCX := Lib.hid hcx
              have x0 := hcx wk HTK.out
              clear hx hcx
              by_cases h0 : x < 0
              · skip
                go_wp2_with fail
                refine (HAL.out _).mono ?_
                rintro e wz ⟨rfl, tz⟩
                have HTZ := Lib.hid (HTK.out.trans tz (fun _ _ f => f))
                clear tz
                go_wp2
                go_ret
                exact ⟨rfl, HTZ.out⟩
              · by_cases h1 : (1099511627776 : Int) < x
                · skip
                  go_wp2_with fail
                  refine (HAL.out _).mono ?_
                  rintro e wz ⟨rfl, tz⟩
                  have HTZ := Lib.hid (HTK.out.trans tz (fun _ _ f => f))
                  clear tz
                  go_wp2
                  go_ret
                  exact ⟨rfl, HTZ.out⟩
                · have g0 : 0 ≤ x := by omega
                  have g1 : x ≤ 1099511627776 := by omega
                  have HC0 : Hid (0 = ((l.take 0).filter fun e => has19 e.p x).length) := rfl
                  go_wp2_with fail
                  clear x0 h0 h1
                  go_loopw [10, 11] (fun x10 x11 wm => ∃ (k n : Nat), x10 = .int .i64 (n : Int) ∧ x11 = .int .i64 (k : Int) ∧ k ≤ K ∧ n ≤ k ∧ n = ((l.take k).filter fun e => has19 e.p x).length ∧ Turn (fun _ => False) w2 wm) (fun _ x11 _ => K - (intOf x11).toNat)
                  case atStart => exact ⟨0, 0, rfl, rfl, Nat.zero_le _, Nat.le_refl _, HC0.out, HX.out⟩
                  case round =>
                    clear HC0 HX HTK
                    obtain ⟨k, n, rfl, rfl, hk, hn, hcnt, htm⟩ := hrel
                    rename World => wm
                    have HM := Lib.hid htm; have HCN := Lib.hid hcnt
                    clear htm hcnt
                    by_cases hlk : k < K
                    · have hkl : (k : Int) < K := by omega
                      obtain ⟨e, he⟩ : ∃ e, l[k]? = some e := ⟨_, List.getElem?_eq_getElem (by rw [← HKL.out]; exact hlk)⟩
                      obtain ⟨ed, rfl, hce⟩ := ent_at20 HR7.out he
                      have HCE := Lib.hid hce
                      have HCT := Lib.hid (count_next20 (x := x) he)
                      clear he hce
                      go_wp2_with fail
                      refine drawn_region (fun W => Turn (fun _ => False) w2 W) [] (by kernel_rfl) ?_
                      have hS0 : Turn (fun _ => False) w2 (World.drew wm) := HM.out.trans (Turn.refl _ wm).drew (fun _ _ f => f)
                      generalize World.drew wm = wd at *
                      refine drawn_take 0 80 (.slice (some ed) K c7) rfl rfl (by kernel_rfl) (by kernel_rfl) (by kernel_rfl) (by kernel_rfl) (fun _ _ _ h => h) (by rfl) (by assumption) (by intro w hSw; obtain hS1 := hSw; go_simp) ?_
                      try simp only [List.setIfInBounds_toArray, List.set_cons_zero, List.set_cons_succ]
                      refine drawn_take 1 81 (.int .i64 (k : Int)) rfl rfl (by kernel_rfl) (by kernel_rfl) (by kernel_rfl) (by kernel_rfl) (fun _ _ _ h => h) (by rfl) (by assumption) (by intro w hSw; obtain hS1 := hSw; go_simp) ?_
                      try simp only [List.setIfInBounds_toArray, List.set_cons_zero, List.set_cons_succ]
                      refine drawn_take 2 82 (.pointer (some (ed.add (k * 6)))) rfl rfl (by kernel_rfl) (by kernel_rfl) (by kernel_rfl) (by kernel_rfl) (fun _ _ _ h => h) (by rfl) (by assumption) (by intro w hSw; obtain hS1 := hSw; go_simp) ?_
                      try simp only [List.setIfInBounds_toArray, List.set_cons_zero, List.set_cons_succ]
                      refine drawn_take 3 83 (ev20 e) rfl rfl (by kernel_rfl) (by kernel_rfl) (by kernel_rfl) (by kernel_rfl) (fun _ _ _ h => h) (by rfl) (by assumption) (by intro w hSw; obtain ⟨a0, a1, a2, a3, a4, a5⟩ := HCE.out w hSw; clear hSw; go_simp) ?_
                      try simp only [List.setIfInBounds_toArray, List.set_cons_zero, List.set_cons_succ]
                      refine drawn_take 5 85 (.slice (some bd) S d) rfl rfl (by kernel_rfl) (by kernel_rfl) (by kernel_rfl) (by kernel_rfl) (fun _ _ _ h => h) (by rfl) (by assumption) (by intro w hSw; obtain hS1 := hSw; go_simp) ?_
                      try simp only [List.setIfInBounds_toArray, List.set_cons_zero, List.set_cons_succ]
                      refine drawn_take 6 86 (.int .i64 (j : Int)) rfl rfl (by kernel_rfl) (by kernel_rfl) (by kernel_rfl) (by kernel_rfl) (fun _ _ _ h => h) (by rfl) (by assumption) (by intro w hSw; obtain hS1 := hSw; go_simp) ?_
                      try simp only [List.setIfInBounds_toArray, List.set_cons_zero, List.set_cons_succ]
                      refine drawn_take 7 87 (.pointer (some (bd.add j))) rfl rfl (by kernel_rfl) (by kernel_rfl) (by kernel_rfl) (by kernel_rfl) (fun _ _ _ h => h) (by rfl) (by assumption) (by intro w hSw; obtain hS1 := hSw; go_simp) ?_
                      try simp only [List.setIfInBounds_toArray, List.set_cons_zero, List.set_cons_succ]
                      refine drawn_take 8 88 (.int .i64 x) rfl rfl (by kernel_rfl) (by kernel_rfl) (by kernel_rfl) (by kernel_rfl) (fun _ _ _ h => h) (by rfl) (by assumption) (by intro w hSw; have a0 := HCX.out w (HB2.out.turn.trans hSw (fun _ _ f => f)); clear hSw; go_simp) ?_
                      try simp only [List.setIfInBounds_toArray, List.set_cons_zero, List.set_cons_succ]
                      refine drawn_take 9 89 (.slice (some bd) S d) rfl rfl (by kernel_rfl) (by kernel_rfl) (by kernel_rfl) (by kernel_rfl) (fun _ _ _ h => h) (by rfl) (by assumption) (by intro w hSw; obtain hS1 := hSw; go_simp) ?_
                      try simp only [List.setIfInBounds_toArray, List.set_cons_zero, List.set_cons_succ]
                      refine drawn_take 10 90 (.int .i64 (j : Int)) rfl rfl (by kernel_rfl) (by kernel_rfl) (by kernel_rfl) (by kernel_rfl) (fun _ _ _ h => h) (by rfl) (by assumption) (by intro w hSw; obtain hS1 := hSw; go_simp) ?_
                      try simp only [List.setIfInBounds_toArray, List.set_cons_zero, List.set_cons_succ]
                      refine drawn_take 11 91 (.pointer (some (bd.add j))) rfl rfl (by kernel_rfl) (by kernel_rfl) (by kernel_rfl) (by kernel_rfl) (fun _ _ _ h => h) (by rfl) (by assumption) (by intro w hSw; obtain hS1 := hSw; go_simp) ?_
                      try simp only [List.setIfInBounds_toArray, List.set_cons_zero, List.set_cons_succ]
                      refine drawn_take 12 92 (.int .i64 x) rfl rfl (by kernel_rfl) (by kernel_rfl) (by kernel_rfl) (by kernel_rfl) (fun _ _ _ h => h) (by rfl) (by assumption) (by intro w hSw; have a0 := HCX.out w (HB2.out.turn.trans hSw (fun _ _ f => f)); clear hSw; go_simp) ?_
                      try simp only [List.setIfInBounds_toArray, List.set_cons_zero, List.set_cons_succ]
                      refine drawn_take 13 93 (.int .i64 (x + 1)) rfl rfl (by kernel_rfl) (by kernel_rfl) (by kernel_rfl) (by kernel_rfl) (fun _ _ _ h => h) (by rfl) (by assumption) (by intro w hSw; clear hSw; go_simp; exact IntWalk.i64_in _ (by omega)) ?_
                      try simp only [List.setIfInBounds_toArray, List.set_cons_zero, List.set_cons_succ]
                      refine drawn_any [4] (by kernel_rfl) (by simp) ?_
                      refine drawn_cons rfl (fun K' hK => ?_) drawn_nil
                      go_simp
                      obtain ⟨we, hwe⟩ : ∃ we, we = wd.alloc (.cells (EN20.enc e).toArray 32) := ⟨_, rfl⟩
                      have HRE : Hid (RdE EN20 we (.slice (some ⟨wd.heap.size, 0, none⟩) 1 1) [e]) := by rw [hwe]; exact one_row EN20 _ wd e
                      have hSe : Turn (fun _ => False) w2 we := by rw [hwe]; exact hS0.alloc _
                      obtain ⟨q4, hq4⟩ : ∃ q, q = wd.heap.size := ⟨_, rfl⟩
                      rw [← hq4] at HRE ⊢
                      rw [show wd.alloc (.cells #[.int .i64 e.p.t, .int .i64 e.p.i, .int .i64 e.seg, .int .i64 e.mark, .int .i64 e.rows, .bool e.cold] 32) = we from hwe.symm]
                      clear hwe hq4 hS0
                      refine hK.out _ _ _ hSe ?_
                      clear hK K'
                      try simp only [List.setIfInBounds_toArray, List.set_cons_zero, List.set_cons_succ]
                      refine drawn_any [14] (by kernel_rfl) (by simp) ?_
                      refine drawn_cons rfl (fun K' hK => ?_) drawn_nil
                      go_simp
                      refine (ref_over20 _ [e] x (x + 1) we HRE.out (by simp)).mono ?_
                      rintro e' wf ⟨vo, rfl, rf, tf, -⟩
                      have hSf : Turn (fun _ => False) w2 wf := hSe.trans tf (fun _ _ f => f)
                      have HMF := Lib.hid hSf
                      rw [over_has20] at rf
                      clear tf hSe HRE
                      by_cases hh : has19 e.p x = true
                      · rw [if_pos hh] at rf HCT
                        obtain ⟨Ao, co, rfl⟩ := rf.shape
                        clear rf hh
                        refine hK.out _ _ _ hSf ?_
                        clear hK K'
                        try simp only [List.setIfInBounds_toArray, List.set_cons_zero, List.set_cons_succ]
                        refine drawn_take 15 95 (.int .i64 1) rfl rfl (by kernel_rfl) (by kernel_rfl) (by kernel_rfl) (by kernel_rfl) (fun _ _ _ h => h) (by rfl) (by assumption) (by intro w hSw; obtain hS1 := hSw; go_simp) ?_
                        try simp only [List.setIfInBounds_toArray, List.set_cons_zero, List.set_cons_succ]
                        refine drawn_last1 16 96 (.bool true) rfl rfl (by kernel_rfl) (by kernel_rfl) (by rfl) (by intro w; go_simp) hSf ?_
                        try simp only [List.setIfInBounds_toArray, List.set_cons_zero, List.set_cons_succ]
                        clear hSf
                        go_wp2
                        go_roundw
                        case rel => exact ⟨k + 1, n + 1, by go_num, by go_num, hlk, by omega, by rw [HCT.out, ← HCN.out], HMF.out⟩
                        case measure => simp [intOf]; omega
                      · rw [if_neg hh] at rf HCT
                        obtain ⟨Ao, co, rfl⟩ := rf.shape
                        clear rf hh
                        refine hK.out _ _ _ hSf ?_
                        clear hK K'
                        try simp only [List.setIfInBounds_toArray, List.set_cons_zero, List.set_cons_succ]
                        refine drawn_take 15 95 (.int .i64 0) rfl rfl (by kernel_rfl) (by kernel_rfl) (by kernel_rfl) (by kernel_rfl) (fun _ _ _ h => h) (by rfl) (by assumption) (by intro w hSw; obtain hS1 := hSw; go_simp) ?_
                        try simp only [List.setIfInBounds_toArray, List.set_cons_zero, List.set_cons_succ]
                        refine drawn_last1 16 96 (.bool false) rfl rfl (by kernel_rfl) (by kernel_rfl) (by rfl) (by intro w; go_simp) hSf ?_
                        try simp only [List.setIfInBounds_toArray, List.set_cons_zero, List.set_cons_succ]
                        clear hSf
                        go_wp2
                        go_roundw
                        case rel => exact ⟨k + 1, n, rfl, by go_num, hlk, by omega, by rw [HCT.out, ← HCN.out]; rfl, HMF.out⟩
                        case measure => simp [intOf]; omega
                    · obtain rfl : k = K := by omega
                      have hon := once20 HBD.out.ok x
                      have hcn := HCN.out
                      rw [HKL.out, List.take_length] at hcn
                      rw [← hcn] at hon
                      obtain ⟨o1, o2⟩ := hon
                      have HAT : Hid (Calls Try.prog 10 #[.pointer (some ⟨g, 0, none⟩), .int .i64 x] wm fun e w' => Look20 wm (at20 l x) e w') := HP.out.at_ x ⟨by omega, by omega⟩ (HB2.out.later HP.out HM.out).mem HBD.out
                      generalize at20 l x = q at *
                      obtain ⟨n1, b⟩ := q
                      dsimp only at o2
                      unfold Look20 at HAT
                      have x0 := HCX.out wm (HB2.out.turn.trans HM.out (fun _ _ f => f))
                      clear hcn HCN hn
                      go_wp2_with fail
                      refine HAT.out.mono ?_
                      rintro e wx ⟨rfl, tx⟩
                      have HTX := Lib.hid (HM.out.trans tx (fun _ _ f => f))
                      clear tx x0 HAT
                      cases b with
                      | true =>
                        obtain rfl : n = 1 := o2.1 rfl
                        clear o1 o2
                        go_wp2
                        go_roundw
                        case rel => exact ⟨j + 1, by go_num, hlj, HTX.out.alloc _⟩
                        case measure => simp [intOf]; omega
                      | false =>
                        obtain rfl : n = 0 := by
                          by_cases h : n = 1
                          · have := o2.2 h; cases this
                          · omega
                        clear o1 o2
                        go_wp2
                        go_roundw
                        case rel => exact ⟨j + 1, by go_num, hlj, HTX.out.alloc _⟩
                        case measure => simp [intOf]; omega
            · obtain rfl : j = S := by omega
              go_wp2_with fail
              refine (HAL.out _).mono ?_
              rintro e wz ⟨rfl, tz⟩
              have HTZ := Lib.hid (HTK.out.trans tz (fun _ _ f => f))
              clear tz
              go_wp2
              go_ret
              exact ⟨rfl, HTZ.out⟩
    · have h60' : (60 : Int) < S := by omega
      clear hL
      go_enter Try.func5, Try.ntmps5
      go_wp2_with fail
      refine HLI.out.mono ?_
      rintro e w1 ⟨rfl, hw1⟩
      subst w1
      clear HLI
      go_wp2_with fail
      refine (HAL.out w).mono ?_
      rintro e w2 ⟨rfl, t2⟩
      have HT2 := Lib.hid t2
      clear t2
      go_wp2
      go_ret
      exact ⟨rfl, HT2.out⟩

end Go.Proofs.Ytgbphkbbedkepaa

/-
  A range over a function whose rounds may turn what they have laid themselves (a row that grows by append): the iterator's promise asks nothing of new blocks. No type is named.
-/
namespace Go.Proofs.Ytgbphkbbedkepaa
open Go.RowKit

/-- The contract of an iterator value, as Feeds, of whatever blocks may turn. -/
def Feeds3 {α : Type} (n : Nat) (g : Nat) (lb : Array Value) (encs : α → Array Value) (S : Nat → Prop) (Gv : List α → α → World → Prop) (All Part : List α → Prop) (w : World) : Prop :=
  ∀ (l : Nat) (J Jx : List α → World → Prop) (W : World), Turn (fun _ => False) w W → l < W.heap.size → Holds W.heap.size J → Holds W.heap.size Jx →
    (∀ pre x W1, J pre W1 → Gv pre x W1 → YieldAt Fence.wide (n - 1) Try.prog l (encs x) W1 fun e W' =>
      (e = .returned (.bool true) ∧ J (pre ++ [x]) W' ∧ Turn S W1 W' ∧ Still (l + 1) W1 W') ∨ (e = .returned (.bool false) ∧ Jx (pre ++ [x]) W' ∧ Still (l + 1) W1 W')) →
    J [] W →
    CallsIn Fence.wide n Try.prog g (#[.func (.yield l) #[] #[]] ++ lb) W fun e W' => (∃ v, e = .returned v) ∧ ((∃ xs, All xs ∧ J xs W') ∨ (∃ pre, Part pre ∧ Jx pre W'))
theorem Feeds3.feeds {α : Type} {n g : Nat} {lb : Array Value} {encs : α → Array Value} {S : Nat → Prop} {Gv : List α → α → World → Prop} {All Part : List α → Prop} {w : World} (h : Feeds3 n g lb encs S Gv All Part w) : Feeds n g lb encs S Gv All Part w :=
  fun l J Jx W hW hl _ hJ hJx hY h0 => h l J Jx W hW hl hJ hJx hY h0

/-- 'for .. := range g { body }' over an iterator that has such a contract: a round may turn what has been laid since the range began. -/
theorem over4 {α : Type} {n : Nat} {g : Operand} {ps : Array Tmp} {assign body : Code} {Q : Exit → Act → World → Prop} {a : Act} {w w0 : World} (h1 : 1 ≤ n)
    {gf : Nat} {lb : Array Value} (hg : a.eval g = .func (.func gf) #[] lb) (eg : ∀ args w, (callFunc gf args).run Try.prog w = .ok (.enter gf args) w)
    {encs : α → Array Value} {S : Nat → Prop} {Gv : List α → α → World → Prop} {All Part : List α → Prop} (hseq : Feeds3 (n - 1) gf lb encs S Gv All Part w0) (hb0 : Turn (fun _ => False) w0 w)
    (hS : S (w.heap.size + 1)) (hps : ∀ x, (encs x).size = ps.size)
    (I : List α → World → Prop) (Ix : Code → List α → World → Prop) (hI : Holds w.heap.size I) (hIx : ∀ c, Holds w.heap.size (Ix c)) (h0 : I [] w) (I2 : List α → α → Act → World → Prop) (hI2 : ∀ pre x a' A B, I2 pre x a' A → Turn (odd w.heap.size A) A B → I2 pre x a' B)
    (hassign : ∀ (l : Nat) (pre : List α) (x : α) (W : World) (K : Act → World → Prop), I pre W → Gv pre x W → (∀ a' W', I2 pre x a' W' → Turn (fun _ => False) W W' → K a' W') →
      assign.wpIn (Fence.wide.inRound l) (n - 1 - 1) Try.prog (Exit.then K (fun _ _ _ => False)) { tmps := (ps.zip (encs x)).foldl (fun t (p, v) => t.setIfInBounds p v) a.tmps, defers := [] } W)
    (hbody : ∀ (l : Nat) (pre : List α) (x : α) (a' : Act) (W : World), I2 pre x a' W → body.wpIn (Fence.wide.inRound l) (n - 1 - 1) Try.prog (postF w.heap.size S I Ix (pre ++ [x]) W) a' W)
    (hdone : ∀ (D : Nat) (xs : List α) (W : World), w.heap.size ≤ D → All xs → I xs W → W.heap[D]? = some (.deferred (some [])) → Q .normal { a with defers := { target := .collected D, args := #[] } :: a.defers } W)
    (hstop : ∀ (D : Nat) (c : Code) (pre : List α) (W : World), w.heap.size ≤ D → Part pre → Ix c pre W → W.heap[D]? = some (.deferred (some [])) → c.wpIn Fence.wide n Try.prog Q { a with defers := { target := .collected D, args := #[] } :: a.defers } W) :
    (Code.rangeFunc g ps assign body).wpIn Fence.wide n Try.prog Q a w := by
  refine wpIn_rangeFunc fun fn hfn => ?_
  obtain ⟨R, hR⟩ : ∃ R : LoopState → Option Code → Obj, R = fun st pe => .loop { state := st, pending := pe, fn, tmps := a.tmps, params := ps, assign, body, defers := w.heap.size } := ⟨_, rfl⟩
  -- the two blocks of the statement: the rounds' deferred calls, and its record, in a state
  obtain ⟨Bk, hBk⟩ : ∃ Bk : LoopState → Option Code → World → Prop, Bk = fun st pe W => W.heap[w.heap.size + 1]? = some (R st pe) ∧ W.heap[w.heap.size]? = some (.deferred (some [])) := ⟨_, rfl⟩
  obtain ⟨W1, hW1⟩ : ∃ W1, (w.alloc (.deferred (some []))).alloc (R .ready none) = W1 := ⟨_, rfl⟩
  have hsz : W1.heap.size = w.heap.size + 2 := by rw [← hW1]; simp
  have t1 : Turn (fun _ => False) w W1 := by rw [← hW1]; exact ((Turn.refl _ w).alloc _).alloc _
  have k1 : Bk .ready none W1 := by
    rw [hBk]
    refine ⟨?_, ?_⟩
    · have := World.alloc_heap_new (w.alloc (.deferred (some []))) (R .ready none)
      rw [World.size_alloc] at this
      rw [← hW1]
      exact this
    · rw [← hW1]
      exact (Below.heap_alloc _ _ _ (by simp)).trans (World.alloc_heap_new w _)
  have move : ∀ {D : Nat} {st : LoopState} {pe : Option Code} {A B : World}, w.heap.size + 2 ≤ D → Turn (odd D A) A B → Bk st pe A → Bk st pe B := by
    intro D st pe A B hD ht hk
    rw [hBk] at hk ⊢
    have far : ∀ k, k < w.heap.size + 2 → k < A.heap.size → B.heap[k]? = A.heap[k]? := fun k hk1 hk2 => ht.block k hk2 (fun s => by have := s.1; omega)
    exact ⟨(far _ (by omega) (Array.getElem?_eq_some_iff.1 hk.1).1).trans hk.1, (far _ (by omega) (Array.getElem?_eq_some_iff.1 hk.2).1).trans hk.2⟩
  have put : ∀ {st st' : LoopState} {pe pe' : Option Code} {A : World}, Bk st pe A → Bk st' pe' (A.putObj (w.heap.size + 1) (R st' pe')) ∧ Turn (odd w.heap.size A) A (A.putObj (w.heap.size + 1) (R st' pe')) ∧ Turn S A (A.putObj (w.heap.size + 1) (R st' pe')) := by
    intro st st' pe pe' A hk
    rw [hBk] at hk ⊢
    refine ⟨⟨World.putObj_heap_same (Array.getElem?_eq_some_iff.1 hk.1).1, (World.putObj_heap_other (by omega)).trans hk.2⟩, Turn.putObj _ _ _ ⟨by omega, _, hk.1, ?_⟩, Turn.putObj _ _ _ hS⟩
    rw [hR]
    rfl
  have keep : ∀ {st : LoopState} {pe : Option Code} {A B : World}, Still w.heap.size A B → Bk st pe A → Bk st pe B := by
    intro st pe A B h hk
    rw [hBk] at hk ⊢
    exact ⟨h.same _ _ (Nat.le_succ _) hk.1 (by rw [hR]; rfl), h.same _ _ (Nat.le_refl _) hk.2 rfl⟩
  refine ⟨w.heap.size + 1, [{ target := .collected w.heap.size, args := #[] }], W1, { target := .fn (.func gf) lb, args := #[.func (.yield (w.heap.size + 1)) #[] #[]] }, W1, gf,
    #[.func (.yield (w.heap.size + 1)) #[] #[]] ++ lb, W1, ?_, ?_, ?_, ?_, fun _ => h1, ?_⟩
  · rw [← hW1, hR]
    exact run_enterLoop_outer _ _ _ _ _
  · simp only [resolve, hg]
    simp [go_sem]
  · intro f' _
    trivial
  · simp [invoke, go_sem, eg]
  · refine (hseq (w.heap.size + 1) (fun pre W => I pre W ∧ Bk .ready none W) (fun pre W => ∃ c, Ix c pre W ∧ Bk .done (some c) W) W1 (hb0.trans t1 (fun _ _ f => f)) (by omega)
      (fun s A B hs ht => ⟨(hI.le (by omega)) s A B hs.1 ht, move (by omega) ht hs.2⟩)
      (fun s A B hs ht => by
        obtain ⟨c, hc, hk⟩ := hs
        exact ⟨c, ((hIx c).le (by omega)) s A B hc ht, move (by omega) ht hk⟩)
      ?_ ⟨hI _ _ _ h0 t1.none, k1⟩).mono ?_
    · rintro pre x W ⟨hi, hk⟩ hgv
      have hl : W.heap[w.heap.size + 1]? = some (R .ready none) := by rw [hBk] at hk; exact hk.1
      rw [hR] at hl
      have hy := run_yield (P := Try.prog) (args := encs x) hl (hps x)
      refine ⟨fn, _, assign, body, hy, roundIn_of_wpIn hfn (hassign _ pre x W _ hi hgv fun a5 W5 hx5 ht5 => ?_)⟩
      have hk5 : Bk .ready none W5 := by
        rw [hBk] at hk ⊢
        exact ⟨(ht5.block _ (Array.getElem?_eq_some_iff.1 hk.1).1 (fun f => f)).trans hk.1, (ht5.block _ (Array.getElem?_eq_some_iff.1 hk.2).1 (fun f => f)).trans hk.2⟩
      have hl5 : W5.heap[w.heap.size + 1]? = some (R .ready none) := by rw [hBk] at hk5; exact hk5.1
      rw [hR] at hl5
      refine ⟨_, run_beginRound hl5 rfl, ?_⟩
      have hp := put (st' := .busy) (pe' := none) hk5
      rw [hR] at hp
      refine wpIn_mono (hbody _ pre x a5 _ (hI2 _ _ _ _ _ hx5 hp.2.1)) ?_
      have ends : ∀ (jump : Option Code) (W3 : World), Still w.heap.size (W5.putObj (w.heap.size + 1) (.loop { state := .busy, pending := none, fn, tmps := a.tmps, params := ps, assign, body, defers := w.heap.size })) W3 →
          ∃ W4, (Instr.endRound (w.heap.size + 1) jump).run Try.prog W3 = .ok (.bool jump.isNone) W4 ∧ Bk (if jump.isNone then .ready else .done) jump W4 ∧ Turn (odd w.heap.size W3) W3 W4 ∧ Turn S W3 W4 ∧ Still (w.heap.size + 1 + 1) W W4 := by
        intro jump W3 hk3
        have h3 := keep hk3 hp.1
        have hl3 : W3.heap[w.heap.size + 1]? = some (R .busy none) := by rw [hBk] at h3; exact h3.1
        have h4 := put (st' := if jump.isNone then .ready else .done) (pe' := jump) h3
        rw [hR] at hl3 h4
        exact ⟨_, run_endRound jump hl3, h4.1, h4.2.1, h4.2.2, (((Still.turned ht5).trans (Still.put W5 _ _ (Nat.lt_succ_self _))).trans (hk3.le (by omega))).trans (Still.put W3 _ _ (Nat.lt_succ_self _))⟩
      rintro e a3 W3 hpost
      cases e with
      | normal =>
        obtain ⟨hk3, ht3, hi3⟩ := hpost
        obtain ⟨W4, hr, hb4, ht4, hu4, hs4⟩ := ends none W3 hk3
        exact ⟨_, _, hr, .inl ⟨rfl, ⟨hI _ _ _ hi3 ht4, hb4⟩, ((ht5.none.trans hp.2.2 (fun _ _ s => s)).trans ht3 (fun _ _ s => s)).trans hu4 (fun _ _ s => s), hs4⟩⟩
      | ret =>
        obtain ⟨hk3, hi3⟩ := hpost
        obtain ⟨W4, hr, hb4, ht4, hu4, hs4⟩ := ends (some .ret) W3 hk3
        exact ⟨_, _, hr, .inr ⟨rfl, ⟨.ret, hIx _ _ _ _ hi3 ht4, hb4⟩, hs4⟩⟩
      | exit id =>
        obtain ⟨hk3, hi3⟩ := hpost
        obtain ⟨W4, hr, hb4, ht4, hu4, hs4⟩ := ends (some (.exit id)) W3 hk3
        exact ⟨_, _, hr, .inr ⟨rfl, ⟨.exit id, hIx _ _ _ _ hi3 ht4, hb4⟩, hs4⟩⟩
      | goto t =>
        obtain ⟨hk3, hi3⟩ := hpost
        obtain ⟨W4, hr, hb4, ht4, hu4, hs4⟩ := ends (some (.goto t)) W3 hk3
        exact ⟨_, _, hr, .inr ⟨rfl, ⟨.goto t, hIx _ _ _ _ hi3 ht4, hb4⟩, hs4⟩⟩
      | panic ch => exact hpost.elim
      | outgrown => exact hpost.elim
    · have shut : ∀ {st : LoopState} {pe : Option Code} {W2 : World}, st ≠ .busy → Bk st pe W2 → ∃ W3, (Instr.endLoop (w.heap.size + 1)).run Try.prog W2 = .ok pe W3 ∧ W3.heap[w.heap.size]? = some (.deferred (some [])) ∧ Turn (odd w.heap.size W2) W2 W3 := by
        intro st pe W2 hst hk
        have hl : W2.heap[w.heap.size + 1]? = some (R st pe) := by rw [hBk] at hk; exact hk.1
        have h4 := put (st' := .exhausted) (pe' := pe) hk
        have h5 : (W2.putObj (w.heap.size + 1) (R .exhausted pe)).heap[w.heap.size]? = some (.deferred (some [])) := by have h6 := h4.1; rw [hBk] at h6; exact h6.2
        rw [hR] at hl h4 h5
        exact ⟨_, run_endLoop hl hst, h5, h4.2.1⟩
      rintro e W2 ⟨⟨v, rfl⟩, (⟨xs, hA, hi, hk⟩ | ⟨pre, hP, c, hi, hk⟩)⟩
      · obtain ⟨W3, hr, hd, ht⟩ := shut (by simp) hk
        exact ⟨none, W3, hr, hdone _ xs _ (Nat.le_refl _) hA (hI _ _ _ hi ht) hd⟩
      · obtain ⟨W3, hr, hd, ht⟩ := shut (by simp) hk
        exact ⟨some c, W3, hr, hstop _ c pre _ (Nat.le_refl _) hP (hIx c _ _ _ hi ht) hd⟩

end Go.Proofs.Ytgbphkbbedkepaa
