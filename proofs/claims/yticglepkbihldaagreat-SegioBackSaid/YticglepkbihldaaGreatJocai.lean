/-
  Texts laid one behind the other: Ic Iq Id Hjs Hks Dpbs Dpr Dpds.
-/
import Derived.Test.YticglepkbihldaaGreatJocah
import Derived.Sort.BigQuietIn
import Derived.Stop.RegionWithIn
import Derived.Test.YticglepkbihldaaGreatJocad
import Derived.Test.YticglepkbihldaaGreatJocag
import Derived.Test.YticglepkbihldaaGreatJocab
import Derived.OwnWalkIn

/-
  A range over a function that may stand in an iterator itself: what an iterator promises ('Feeds'), where a round tells that what holds no cells, behind the record of its loop, is as it was; and the statement's law ('over2').
-/
namespace Go.Proofs.YticglepkbihldaaGreat
open Go.RowKit

/-- What holds no cells, from block B on, is as it was. -/
structure Still (B : Nat) (W W' : World) : Prop where
  size : W.heap.size ≤ W'.heap.size
  same : ∀ (k : Nat) (o : Obj), B ≤ k → W.heap[k]? = some o → o.isCells = false → W'.heap[k]? = some o
theorem Still.refl (B : Nat) (W : World) : Still B W W := ⟨Nat.le_refl _, fun _ _ _ h _ => h⟩
theorem Still.trans {B : Nat} {W1 W2 W3 : World} (h : Still B W1 W2) (k : Still B W2 W3) : Still B W1 W3 := ⟨Nat.le_trans h.size k.size, fun i o hb hi ho => k.same i o hb (h.same i o hb hi ho) ho⟩
theorem Still.le {B B' : Nat} {W W' : World} (h : Still B W W') (hb : B ≤ B') : Still B' W W' := ⟨h.size, fun k o hk hw ho => h.same k o (Nat.le_trans hb hk) hw ho⟩
theorem Still.turned {B : Nat} {W W' : World} (h : Turn (fun _ => False) W W') : Still B W W' := ⟨h.size, fun k _ _ hk _ => (h.block k (Array.getElem?_eq_some_iff.1 hk).1 (fun f => f)).trans hk⟩
theorem Still.others {B : Nat} {W W' : World} (h : KeepsOthers W W') : Still B W W' := ⟨h.size, fun k o _ hk ho => h.same k o hk ho⟩
theorem Still.setCell {B : Nat} (W : World) (a : Addr) (v : Value) : Still B W (W.setCell a v) := Still.others (KeepsOthers.setCell W a v)
theorem Still.put {B : Nat} (W : World) (l : Nat) (o : Obj) (hl : l < B) : Still B W (W.putObj l o) := ⟨by simp [World.putObj], fun k _ hk hw _ => (World.putObj_heap_other (by omega)).trans hw⟩

/-- What a round's body owes. -/
def postF {α : Type} (B : Nat) (S : Nat → Prop) (I : List α → World → Prop) (Ix : Code → List α → World → Prop) (xs : List α) (W : World) : Exit → Act → World → Prop
  | .normal, _, W' => Still B W W' ∧ Turn S W W' ∧ I xs W'
  | .ret, _, W' => Still B W W' ∧ Ix .ret xs W'
  | .exit id, _, W' => Still B W W' ∧ Ix (.exit id) xs W'
  | .goto t, _, W' => Still B W W' ∧ Ix (.goto t) xs W'
  | .panic _, _, _ => False
  | .outgrown, _, _ => False

theorem Holds.le {β : Type} {D D' : Nat} {I : β → World → Prop} (h : Holds D I) (hd : D ≤ D') : Holds D' I :=
  fun s A B hs ht => h s A B hs (ht.mono (fun _ _ ⟨h1, o, h2, h3⟩ => ⟨Nat.le_trans hd h1, o, h2, h3⟩))

/-- The contract of an iterator value: what it hands a round ('Gv'), what a round that goes on may turn ('S'), what has come when it is done ('All'), or stopped ('Part'). -/
def Feeds {α : Type} (n : Nat) (g : Nat) (lb : Array Value) (encs : α → Array Value) (S : Nat → Prop) (Gv : List α → α → World → Prop) (All Part : List α → Prop) (w : World) : Prop :=
  ∀ (l : Nat) (J Jx : List α → World → Prop) (W : World), Turn (fun _ => False) w W → l < W.heap.size → (∀ k, S k → k < W.heap.size) → Holds W.heap.size J → Holds W.heap.size Jx →
    (∀ pre x W1, J pre W1 → Gv pre x W1 → YieldAt Fence.wide (n - 1) Tryz.prog l (encs x) W1 fun e W' =>
      (e = .returned (.bool true) ∧ J (pre ++ [x]) W' ∧ Turn S W1 W' ∧ Still (l + 1) W1 W') ∨ (e = .returned (.bool false) ∧ Jx (pre ++ [x]) W' ∧ Still (l + 1) W1 W')) →
    J [] W →
    CallsIn Fence.wide n Tryz.prog g (#[.func (.yield l) #[] #[]] ++ lb) W fun e W' => (∃ v, e = .returned v) ∧ ((∃ xs, All xs ∧ J xs W') ∨ (∃ pre, Part pre ∧ Jx pre W'))

/-- 'for .. := range g { body }' over an iterator that has such a contract. -/
theorem over2 {α : Type} {n : Nat} {g : Operand} {ps : Array Tmp} {assign body : Code} {Q : Exit → Act → World → Prop} {a : Act} {w w0 : World} (h1 : 1 ≤ n)
    {gf : Nat} {lb : Array Value} (hg : a.eval g = .func (.func gf) #[] lb) (eg : ∀ args w, (callFunc gf args).run Tryz.prog w = .ok (.enter gf args) w)
    {encs : α → Array Value} {S : Nat → Prop} {Gv : List α → α → World → Prop} {All Part : List α → Prop} (hseq : Feeds (n - 1) gf lb encs S Gv All Part w0) (hb0 : Turn (fun _ => False) w0 w)
    (hS : S (w.heap.size + 1)) (hS2 : ∀ k, S k → k < w.heap.size + 2) (hG : ∀ pre, Holds w.heap.size (Gv pre)) (hps : ∀ x, (encs x).size = ps.size)
    (I : List α → World → Prop) (Ix : Code → List α → World → Prop) (hI : Holds w.heap.size I) (hIx : ∀ c, Holds w.heap.size (Ix c)) (h0 : I [] w) (a₁ : α → Act)
    (hassign : ∀ (l : Nat) (x : α) (W : World) (K : Act → World → Prop), K (a₁ x) W →
      assign.wpIn (Fence.wide.inRound l) (n - 1 - 1) Tryz.prog (Exit.then K (fun _ _ _ => False)) { tmps := (ps.zip (encs x)).foldl (fun t (p, v) => t.setIfInBounds p v) a.tmps, defers := [] } W)
    (hbody : ∀ (l : Nat) (pre : List α) (x : α) (W : World), I pre W → Gv pre x W → body.wpIn (Fence.wide.inRound l) (n - 1 - 1) Tryz.prog (postF w.heap.size S I Ix (pre ++ [x]) W) (a₁ x) W)
    (hdone : ∀ (D : Nat) (xs : List α) (W : World), w.heap.size ≤ D → All xs → I xs W → W.heap[D]? = some (.deferred (some [])) → Q .normal { a with defers := { target := .collected D, args := #[] } :: a.defers } W)
    (hstop : ∀ (D : Nat) (c : Code) (pre : List α) (W : World), w.heap.size ≤ D → Part pre → Ix c pre W → W.heap[D]? = some (.deferred (some [])) → c.wpIn Fence.wide n Tryz.prog Q { a with defers := { target := .collected D, args := #[] } :: a.defers } W) :
    (Code.rangeFunc g ps assign body).wpIn Fence.wide n Tryz.prog Q a w := by
  refine wpIn_rangeFunc fun fn hfn => ?_
  obtain ⟨R, hR⟩ : ∃ R : LoopState → Option Code → Obj, R = fun st pe => .loop { state := st, pending := pe, fn, tmps := a.tmps, params := ps, assign, body, defers := w.heap.size } := ⟨_, rfl⟩
  -- the two blocks of the statement: the rounds' deferred calls, and its record, in a state
  obtain ⟨Bk, hBk⟩ : ∃ Bk : LoopState → Option Code → World → Prop, Bk = fun st pe W => W.heap[w.heap.size + 1]? = some (R st pe) ∧ W.heap[w.heap.size]? = some (.deferred (some [])) := ⟨_, rfl⟩
  obtain ⟨W1, hW1⟩ : ∃ W1, (w.alloc (.deferred (some []))).alloc (R .ready none) = W1 := ⟨_, rfl⟩
  have hsz : W1.heap.size = w.heap.size + 2 := by rw [← hW1]; simp
  have t1 : Turn (fun _ => False) w W1 := by rw [← hW1]; exact ((Turn.refl _ w).alloc _).alloc _
  have k1 : Bk .ready none W1 := by
    rw [hBk]
    refine ⟨?_, ?_⟩
    · have := World.alloc_heap_new (w.alloc (.deferred (some []))) (R .ready none)
      rw [World.size_alloc] at this
      rw [← hW1]
      exact this
    · rw [← hW1]
      exact (Below.heap_alloc _ _ _ (by simp)).trans (World.alloc_heap_new w _)
  have move : ∀ {D : Nat} {st : LoopState} {pe : Option Code} {A B : World}, w.heap.size + 2 ≤ D → Turn (odd D A) A B → Bk st pe A → Bk st pe B := by
    intro D st pe A B hD ht hk
    rw [hBk] at hk ⊢
    have far : ∀ k, k < w.heap.size + 2 → k < A.heap.size → B.heap[k]? = A.heap[k]? := fun k hk1 hk2 => ht.block k hk2 (fun s => by have := s.1; omega)
    exact ⟨(far _ (by omega) (Array.getElem?_eq_some_iff.1 hk.1).1).trans hk.1, (far _ (by omega) (Array.getElem?_eq_some_iff.1 hk.2).1).trans hk.2⟩
  have put : ∀ {st st' : LoopState} {pe pe' : Option Code} {A : World}, Bk st pe A → Bk st' pe' (A.putObj (w.heap.size + 1) (R st' pe')) ∧ Turn (odd w.heap.size A) A (A.putObj (w.heap.size + 1) (R st' pe')) ∧ Turn S A (A.putObj (w.heap.size + 1) (R st' pe')) := by
    intro st st' pe pe' A hk
    rw [hBk] at hk ⊢
    refine ⟨⟨World.putObj_heap_same (Array.getElem?_eq_some_iff.1 hk.1).1, (World.putObj_heap_other (by omega)).trans hk.2⟩, Turn.putObj _ _ _ ⟨by omega, _, hk.1, ?_⟩, Turn.putObj _ _ _ hS⟩
    rw [hR]
    rfl
  have keepS : True := trivial
  have keep : ∀ {st : LoopState} {pe : Option Code} {A B : World}, Still w.heap.size A B → Bk st pe A → Bk st pe B := by
    intro st pe A B h hk
    rw [hBk] at hk ⊢
    exact ⟨h.same _ _ (Nat.le_succ _) hk.1 (by rw [hR]; rfl), h.same _ _ (Nat.le_refl _) hk.2 rfl⟩
  refine ⟨w.heap.size + 1, [{ target := .collected w.heap.size, args := #[] }], W1, { target := .fn (.func gf) lb, args := #[.func (.yield (w.heap.size + 1)) #[] #[]] }, W1, gf,
    #[.func (.yield (w.heap.size + 1)) #[] #[]] ++ lb, W1, ?_, ?_, ?_, ?_, fun _ => h1, ?_⟩
  · rw [← hW1, hR]
    exact run_enterLoop_outer _ _ _ _ _
  · simp only [resolve, hg]
    simp [go_sem]
  · intro f' _
    trivial
  · simp [invoke, go_sem, eg]
  · refine (hseq (w.heap.size + 1) (fun pre W => I pre W ∧ Bk .ready none W) (fun pre W => ∃ c, Ix c pre W ∧ Bk .done (some c) W) W1 (hb0.trans t1 (fun _ _ f => f)) (by omega) (fun k hk => by have := hS2 k hk; omega)
      (fun s A B hs ht => ⟨(hI.le (by omega)) s A B hs.1 ht, move (by omega) ht hs.2⟩)
      (fun s A B hs ht => by
        obtain ⟨c, hc, hk⟩ := hs
        exact ⟨c, ((hIx c).le (by omega)) s A B hc ht, move (by omega) ht hk⟩)
      ?_ ⟨hI _ _ _ h0 t1.none, k1⟩).mono ?_
    · rintro pre x W ⟨hi, hk⟩ hgv
      have hl : W.heap[w.heap.size + 1]? = some (R .ready none) := by rw [hBk] at hk; exact hk.1
      rw [hR] at hl
      have hy := run_yield (P := Tryz.prog) (args := encs x) hl (hps x)
      refine ⟨fn, _, assign, body, hy, roundIn_of_wpIn hfn (hassign _ x W _ ⟨_, run_beginRound hl rfl, ?_⟩)⟩
      have hp := put (st' := .busy) (pe' := none) hk
      rw [hR] at hp
      refine wpIn_mono (hbody _ pre x _ (hI _ _ _ hi hp.2.1) (hG _ _ _ _ hgv hp.2.1)) ?_
      have ends : ∀ (jump : Option Code) (W3 : World), Still w.heap.size (W.putObj (w.heap.size + 1) (.loop { state := .busy, pending := none, fn, tmps := a.tmps, params := ps, assign, body, defers := w.heap.size })) W3 →
          ∃ W4, (Instr.endRound (w.heap.size + 1) jump).run Tryz.prog W3 = .ok (.bool jump.isNone) W4 ∧ Bk (if jump.isNone then .ready else .done) jump W4 ∧ Turn (odd w.heap.size W3) W3 W4 ∧ Turn S W3 W4 ∧ Still (w.heap.size + 1 + 1) W W4 := by
        intro jump W3 hk3
        have h3 := keep hk3 hp.1
        have hl3 : W3.heap[w.heap.size + 1]? = some (R .busy none) := by rw [hBk] at h3; exact h3.1
        have h4 := put (st' := if jump.isNone then .ready else .done) (pe' := jump) h3
        rw [hR] at hl3 h4
        exact ⟨_, run_endRound jump hl3, h4.1, h4.2.1, h4.2.2, ((Still.put W _ _ (Nat.lt_succ_self _)).trans (hk3.le (by omega))).trans (Still.put W3 _ _ (Nat.lt_succ_self _))⟩
      rintro e a3 W3 hpost
      cases e with
      | normal =>
        obtain ⟨hk3, ht3, hi3⟩ := hpost
        obtain ⟨W4, hr, hb4, ht4, hu4, hs4⟩ := ends none W3 hk3
        exact ⟨_, _, hr, .inl ⟨rfl, ⟨hI _ _ _ hi3 ht4, hb4⟩, (hp.2.2.trans ht3 (fun _ _ s => s)).trans hu4 (fun _ _ s => s), hs4⟩⟩
      | ret =>
        obtain ⟨hk3, hi3⟩ := hpost
        obtain ⟨W4, hr, hb4, ht4, hu4, hs4⟩ := ends (some .ret) W3 hk3
        exact ⟨_, _, hr, .inr ⟨rfl, ⟨.ret, hIx _ _ _ _ hi3 ht4, hb4⟩, hs4⟩⟩
      | exit id =>
        obtain ⟨hk3, hi3⟩ := hpost
        obtain ⟨W4, hr, hb4, ht4, hu4, hs4⟩ := ends (some (.exit id)) W3 hk3
        exact ⟨_, _, hr, .inr ⟨rfl, ⟨.exit id, hIx _ _ _ _ hi3 ht4, hb4⟩, hs4⟩⟩
      | goto t =>
        obtain ⟨hk3, hi3⟩ := hpost
        obtain ⟨W4, hr, hb4, ht4, hu4, hs4⟩ := ends (some (.goto t)) W3 hk3
        exact ⟨_, _, hr, .inr ⟨rfl, ⟨.goto t, hIx _ _ _ _ hi3 ht4, hb4⟩, hs4⟩⟩
      | panic ch => exact hpost.elim
      | outgrown => exact hpost.elim
    · have shut : ∀ {st : LoopState} {pe : Option Code} {W2 : World}, st ≠ .busy → Bk st pe W2 → ∃ W3, (Instr.endLoop (w.heap.size + 1)).run Tryz.prog W2 = .ok pe W3 ∧ W3.heap[w.heap.size]? = some (.deferred (some [])) ∧ Turn (odd w.heap.size W2) W2 W3 := by
        intro st pe W2 hst hk
        have hl : W2.heap[w.heap.size + 1]? = some (R st pe) := by rw [hBk] at hk; exact hk.1
        have h4 := put (st' := .exhausted) (pe' := pe) hk
        have h5 : (W2.putObj (w.heap.size + 1) (R .exhausted pe)).heap[w.heap.size]? = some (.deferred (some [])) := by have h6 := h4.1; rw [hBk] at h6; exact h6.2
        rw [hR] at hl h4 h5
        exact ⟨_, run_endLoop hl hst, h5, h4.2.1⟩
      rintro e W2 ⟨⟨v, rfl⟩, (⟨xs, hA, hi, hk⟩ | ⟨pre, hP, c, hi, hk⟩)⟩
      · obtain ⟨W3, hr, hd, ht⟩ := shut (by simp) hk
        exact ⟨none, W3, hr, hdone _ xs _ (Nat.le_refl _) hA (hI _ _ _ hi ht) hd⟩
      · obtain ⟨W3, hr, hd, ht⟩ := shut (by simp) hk
        exact ⟨some c, W3, hr, hstop _ c pre _ (Nat.le_refl _) hP (hIx c _ _ _ hi ht) hd⟩

end Go.Proofs.YticglepkbihldaaGreat

/-
  A region that draws its order and only reads, in a round of a range over a function: one walk of the text's order serves every order.
-/
namespace Go.Proofs.YticglepkbihldaaGreat
open Go.RowKit

def noDefer : Op → Bool
  | .defer _ => false
  | _ => true
theorem noDefer_ne {o : Op} (h : noDefer o = true) : ∀ c, o ≠ .defer c := by
  rintro c rfl
  cases h

section
variable {F : Fence} {n : Nat} {P : Program} {C : World → Prop} {ops : Array Oper} {md : Region.Mode}

theorem quiet_op {o : Oper} {a : Act} {K : Act → Prop} {K' : Act → World → Prop} {Q' : Exit → Act → World → Prop} {w : World} (hd : noDefer o.op = true) (hw : C w) (h : ∀ a w', C w' → K a → K' a w')
    (ha : o.askedIn F P a C) (hh : o.quietIn F n P a C K) : o.wpIn F n P a w K' Q' := by
  obtain ⟨v, h1, h2⟩ := hh
  have h3 := h1 w hw
  unfold Oper.quietAtIn at h3
  unfold Oper.wpIn
  rw [Oper.semAt_eq _ _ _ (noDefer_ne hd)]
  refine ⟨ha w hw, ?_⟩
  generalize (execOp a.eval o).run P w = r at *
  rcases r with ⟨x, w'⟩ | ⟨x, w'⟩
  · cases x <;> simp only [Oper.quietUponIn] at h3 <;> simp only [Oper.uponIn]
    case value u =>
      rw [h3.1, h3.2]
      exact h _ _ hw h2
    case skip =>
      rw [h3.1, ← h3.2]
      exact h _ _ hw h2
    case enter f args =>
      rw [h3.1]
      exact ⟨h3.2.1, h3.2.2.mono fun e w'' ⟨he, hw''⟩ => by subst he; exact h _ _ hw'' h2⟩
  · simp only [Oper.quietUponIn] at h3

theorem quiet_at (hnd : ∀ o ∈ ops.toList, noDefer o.op = true) {i : Nat} {a : Act} {K : Act → Prop} {K' : Act → World → Prop} {Q' : Exit → Act → World → Prop} {w : World} (hC : C w) (h : ∀ a w', C w' → K a → K' a w')
    (hh : qOpIn F n P ops C i K a) : wpOpIn F n P ops Q' i K' a w := by
  unfold qOpIn at hh
  unfold wpOpIn
  cases ho : ops[i]? with
  | none =>
    simp only [ho] at hh
    exact h _ _ hC hh
  | some o =>
    simp only [ho] at hh
    have hm : noDefer o.op = true := hnd o (Array.mem_toList_iff.2 (Array.mem_of_getElem? ho))
    by_cases hw : Region.wanted o (yielded ops a.tmps)
    · simp only [hw, if_true] at hh ⊢
      exact quiet_op hm hC h hh.1 hh.2
    · simp only [hw] at hh ⊢
      exact ⟨hh.1 w hC, h _ _ hC hh.2⟩

theorem quiet_any (hnd : ∀ o ∈ ops.toList, noDefer o.op = true) {Q : Act → Prop} {Q' : Exit → Act → World → Prop} (hQ : ∀ a w, C w → Q a → Q' .normal a w) : ∀ (fuel : Nat) (listed : Array Bool) (a : Act) (w : World), C w →
    wpAnyQIn F n P md ops C Q fuel listed a → wpAnyIn F n P md ops Q' fuel listed a w
  | 0, _, _, _, hw, h => ⟨h.1, hQ _ _ hw h.2⟩
  | fuel + 1, _, _, _, hw, h => ⟨fun h0 => hQ _ _ hw (h.1 h0), fun i hi => quiet_at hnd hw (fun a' w' hw' => quiet_any hnd hQ fuel _ a' w' hw') (h.2 i hi)⟩

theorem quiet_region {id : Nat} {Q : Exit → Act → World → Prop} {a : Act} {w : World} {l : List Oper} (hnd : (l.all fun o => noDefer o.op) = true) (hm : P.follows .mixedOrders = true) (hB : Region.lexB .any l.toArray = true)
    (h : wpQuietIn F n P l.toArray (fun w' => ∃ n, w' = w.drewN n) (fun a' => ∀ w', (∃ n, w' = w.drewN n) → Q .normal a' w') l a) : (Code.region id l.toArray true).wpIn F n P Q a w := by
  simp only [Region.lexB, Bool.and_eq_true] at hB
  have hnd' : ∀ o ∈ l.toArray.toList, noDefer o.op = true := fun o ho => by
    rw [List.all_eq_true] at hnd
    exact hnd o (by simpa using ho)
  refine wpIn_region_any hm (quiet_any hnd' (C := fun w' => ∃ n, w' = w.drewN n) (Q := fun a' => ∀ w', (∃ n, w' = w.drewN n) → Q .normal a' w') (fun _ w' hw' h => h w' hw') _ _ _ _ ⟨1, rfl⟩ ?_)
  have := wpAnyQIn_lex (F := F) (n := n) (P := P) (ops := l.toArray) (C := fun w' => ∃ n, w' = w.drewN n) (md := .any) hB.1 l 0 (Array.replicate l.toArray.size false) a (by simp) (by simpa using hB.2) h
  simpa using this
end

theorem wide_fn (f : FuncId) : Fence.wide.fn f = True := rfl

theorem quiet_same {P : Program} {l0 : Nat} {n : Nat} {f : FuncId} {args : Array Value} {w : World} {k : Nat} {v : Value}
    (h : Calls P f args (w.drewN k) fun e w' => e = .returned v ∧ w.drewN k = w') : CallsIn (Fence.wide.inRound l0) n P f args (w.drewN k) fun e w'' => e = .returned v ∧ ∃ m, w'' = w.drewN m :=
  CallsIn.inRound l0 (callsIn_wide.2 (h.mono fun _ _ ⟨he, hm⟩ => ⟨he, k, hm.symm⟩))

end Go.Proofs.YticglepkbihldaaGreat

/-
  A region that draws its order, walked by hand: an operation is taken first, the activation written out.
-/
namespace Go.Proofs.YticglepkbihldaaGreat
open Go.RowKit

theorem take_at {F : Fence} {n : Nat} {P : Program} {ops : Array Oper} {Q : Exit → Act → World → Prop} {md : Region.Mode} (i d : Nat) {oi : Oper} (v : Value) {fuel : Nat} {listed : Array Bool} {ts : Array Value} {ds : List Deferred} {w : World}
    (hro : F.round = none) (hi : ops[i]? = some oi) (hd : oi.dst = some d)
    (hs : Region.noSelect ops = true) (hf : Region.free md ops listed i = true) (hr : (Region.ready md ops listed).contains i = true)
    (hQ : ∀ c (a : Act) w, Q (.panic c) (a.put oi.dst v) w → Q (.panic c) a w) (hy : YieldsFenced P ops oi v { tmps := ts, defers := ds })
    (h : wpAnyIn F n P md ops Q fuel (listed.setIfInBounds i true) { tmps := ts.setIfInBounds d v, defers := ds } w) : wpAnyIn F n P md ops Q (fuel + 1) listed { tmps := ts, defers := ds } w := by
  refine wpAnyIn_take hro hi hs hf hr hQ hy ?_
  rw [hd]
  exact h

end Go.Proofs.YticglepkbihldaaGreat

/-
  A tree's keys, rising, handed to a round each, as far as it wants them (keys string, values int).
-/
namespace Go.Proofs.YticglepkbihldaaGreat.oms
open Go.RowKit Go.Shelf
attribute [local go_sem] Oper.semAt_some wide_fn

/-- A pair, handed to a round. -/
abbrev prs (x : (List UInt8) × Int) : Array Value := #[(.string ⟨x.1.toArray⟩), (.int .i64 x.2)]
/-- What a tree has to tell: what is not ahead. -/
def Kept (ah : (List UInt8) → Bool) (x : Tr (List UInt8) Int) : List ((List UInt8) × Int) := x.flat.filter fun p => !ah p.1
/-- What is ahead stands ahead. -/
def Falls (ah : (List UInt8) → Bool) : Prop := ∀ a b, Op.bytesLess a b = true → ah b = true → ah a = true
theorem kept_ahead {ah : (List UInt8) → Bool} (hf : Falls ah) {l r : Tr (List UInt8) Int} {k : (List UInt8)} {v : Int} (hu : Up Op.bytesLess (Tr.node l k v r).flat) (hk : ah k = true) : Kept ah (.node l k v r) = Kept ah r := by
  obtain ⟨_, _, h3⟩ := up_parts hu
  unfold Kept
  rw [flat_node, List.filter_append, List.filter_cons, if_neg (by simp [hk])]
  have : l.flat.filter (fun p => !ah p.1) = [] := by
    rw [List.filter_eq_nil_iff]
    intro p hp
    simp [hf _ _ (h3 p hp) hk]
  rw [this, List.nil_append]
theorem kept_node {ah : (List UInt8) → Bool} {l r : Tr (List UInt8) Int} {k : (List UInt8)} {v : Int} (hk : ah k = false) : Kept ah (.node l k v r) = Kept ah l ++ (k, v) :: Kept ah r := by
  unfold Kept
  rw [flat_node, List.filter_append, List.filter_cons, if_pos (by simp [hk])]

/-- A tree that lay at W0, in a world behind rounds. -/
structure Base (S : Nat → Prop) (W0 : World) : Prop where
  far : ∀ g cs, Box W0 g 189 cs → ¬ S g
theorem Base.nd {S : Nat → Prop} {W0 W : World} (h : Base S W0) (ht : Turn S W0 W) {x : Tr (List UInt8) Int} {p : Value} (hx : Nd W0 x p) : Nd W x p := hx.turn ht h.far
theorem Base.one {S : Nat → Prop} {W0 W : World} (h : Base S W0) (ht : Turn S W0 W) {g : Nat} {k : (List UInt8)} {v : Int} {pl pr : Value} {n : Nat} (hx : One W0 g k v pl pr n) : One W g k v pl pr n := Box.turn hx ht (h.far g _ hx)

/-- Behind a tree that was told, or a round that wanted no more. -/
def Told (l : Nat) (S : Nat → Prop) (W0 W : World) (J Jx : List ((List UInt8) × Int) → World → Prop) (L : List ((List UInt8) × Int)) (e : Ending) (W' : World) : Prop :=
  (e = .returned (.bool true) ∧ J L W' ∧ Turn S W0 W' ∧ Still (l + 1) W W') ∨ (e = .returned (.bool false) ∧ (∃ q, q <+: L ∧ Jx q W') ∧ Still (l + 1) W W')

/-- What a round, and what says what is ahead, promise. -/
structure Rounds (l : Nat) (fa : Nat) (caps : Array Value) (ah : (List UInt8) → Bool) (S : Nat → Prop) (W0 : World) (J Jx : List ((List UInt8) × Int) → World → Prop) (T : List ((List UInt8) × Int)) : Prop where
  draws : ∀ pre W, J pre W → J pre W.drew
  enters : ∀ args w, (callFunc fa args).run Tryz.prog w = .ok (.enter fa args) w
  ahead : ∀ key W, Turn S W0 W → Calls Tryz.prog fa (#[(.string ⟨key.toArray⟩)] ++ caps) W fun e W' => e = .returned (.bool (ah key)) ∧ W = W'
  yield : ∀ pre x W, J pre W → Turn S W0 W → pre ++ [x] <+: T → YieldAt Fence.wide 0 Tryz.prog l (prs x) W fun e W' => (e = .returned (.bool true) ∧ J (pre ++ [x]) W' ∧ Turn S W W' ∧ Still (l + 1) W W') ∨ (e = .returned (.bool false) ∧ Jx (pre ++ [x]) W' ∧ Still (l + 1) W W')

set_option maxRecDepth 100000 in
set_option maxHeartbeats 2000000 in
theorem each_any (l fa : Nat) (caps : Array Value) (ah : (List UInt8) → Bool) (S : Nat → Prop) (W0 : World) (J Jx : List ((List UInt8) × Int) → World → Prop) (T : List ((List UInt8) × Int)) (hR : Rounds l fa caps ah S W0 J Jx T) (hB : Base S W0) (hfa : Falls ah) (x : Tr (List UInt8) Int) :
    ∀ (p : Value) (pre : List ((List UInt8) × Int)) (W : World), Nd W0 x p → Turn S W0 W → J pre W → Up Op.bytesLess x.flat → pre ++ Kept ah x <+: T →
    CallsIn Fence.wide 0 Tryz.prog 135 #[p, .func (.func fa) #[] caps, .func (.yield l) #[] #[]] W fun e W' => Told l S W0 W J Jx (pre ++ Kept ah x) e W' := by
  induction x with
  | nil =>
    intro p pre W hx ht hj _ _
    obtain rfl : p = .pointer none := hx
    refine callsIn_of_wp Tryz.func135 rfl trivial ?_ rfl
    simp only [Tryz.ntmps135, List.size_toArray, List.length_cons, List.length_nil, Nat.reduceAdd, Nat.reduceSub, Array.replicate_succ, Array.replicate_zero, List.push_toArray, List.append_toArray, List.nil_append, List.cons_append]
    gi_wp2
    go_ret
    exact .inl ⟨rfl, by show J (pre ++ []) W; rw [List.append_nil]; exact hj, ht, Still.refl _ _⟩
  | node tl k v tr ihl ihr =>
    intro p pre W hx ht hj hu hT
    obtain ⟨g, pl, pr, rfl, hg, hl, hr⟩ := nd_node hx
    have HG : Hid (∀ W, Turn S W0 W → One W g k v pl pr (tl.cnt + tr.cnt + 1)) := fun W ht => hB.one ht hg
    have HL := Lib.hid hl; have HR := Lib.hid hr; have HRR := Lib.hid hR; have HJ := Lib.hid hj; have HT := Lib.hid ht; have HPT := Lib.hid hT
    obtain ⟨hu1, hu2, _⟩ := up_parts hu
    obtain ⟨pl, rfl⟩ := hl.shape
    obtain ⟨pr, rfl⟩ := hr.shape
    obtain ⟨c0, c1, c2, c3, -⟩ := (HG.out W ht).cells
    have HA := Lib.hid (hR.ahead k W ht)
    have HE := hR.enters
    cases hk : ah k with
    | true =>
      rw [hk] at HA
      have HKE := Lib.hid (kept_ahead hfa hu hk)
      rw [HKE.out] at HPT ⊢
      have HI : Hid (∀ W, Turn S W0 W → J pre W → CallsIn Fence.wide 0 Tryz.prog 135 #[.pointer pr, .func (.func fa) #[] caps, .func (.yield l) #[] #[]] W fun e W' => Told l S W0 W J Jx (pre ++ Kept ah tr) e W') := fun W ht hj => ihr _ pre W HR.out ht hj hu2 HPT.out
      clear hk hu hu1 hu2 hx hg hl hr hR hj ht hT ihl ihr hB
      refine callsIn_of_wp Tryz.func135 rfl trivial ?_ rfl
      simp only [Tryz.ntmps135, List.size_toArray, List.length_cons, List.length_nil, Nat.reduceAdd, Nat.reduceSub, Array.replicate_succ, Array.replicate_zero, List.push_toArray, List.append_toArray, List.nil_append, List.cons_append]
      gi_wp2_with fail
      refine ⟨rfl, (callsIn_wide.2 HA.out).mono ?_⟩
      rintro e w' ⟨rfl, rfl⟩
      gi_wp2_with fail
      refine ⟨rfl, (HI.out W HT.out HJ.out).mono ?_⟩
      rintro e w' (⟨rfl, hh⟩ | ⟨rfl, hh⟩)
      · have HH := Lib.hid hh; clear hh
        gi_wp2
        go_ret
        exact .inl ⟨rfl, HH.out⟩
      · have HH := Lib.hid hh; clear hh
        gi_wp2
        go_ret
        exact .inr ⟨rfl, HH.out⟩
    | false =>
      rw [hk] at HA
      have HKE := Lib.hid (kept_node (l := tl) (r := tr) (v := v) hk)
      have HI : Hid (∀ W, Turn S W0 W → J pre W → CallsIn Fence.wide 0 Tryz.prog 135 #[.pointer pl, .func (.func fa) #[] caps, .func (.yield l) #[] #[]] W fun e W' => Told l S W0 W J Jx (pre ++ Kept ah tl) e W') :=
        fun W ht hj => ihl _ pre W HL.out ht hj hu1 ((List.prefix_append_right_inj pre).2 (by rw [HKE.out]; exact List.prefix_append _ _) |>.trans HPT.out)
      have HI2 : Hid (∀ W, Turn S W0 W → J (pre ++ Kept ah tl ++ [(k, v)]) W → CallsIn Fence.wide 0 Tryz.prog 135 #[.pointer pr, .func (.func fa) #[] caps, .func (.yield l) #[] #[]] W fun e W' => Told l S W0 W J Jx (pre ++ Kept ah (Tr.node tl k v tr)) e W') := fun W ht hj => by
        have h := ihr _ (pre ++ Kept ah tl ++ [(k, v)]) W HR.out ht hj hu2
        have e : pre ++ Kept ah tl ++ [(k, v)] ++ Kept ah tr = pre ++ Kept ah (Tr.node tl k v tr) := by rw [HKE.out]; simp
        rw [e] at h
        exact h HPT.out
      have HY : Hid (∀ W, Turn S W0 W → J (pre ++ Kept ah tl) W → YieldAt Fence.wide 0 Tryz.prog l #[(.string ⟨k.toArray⟩), (.int .i64 v)] W fun e W' => (e = .returned (.bool true) ∧ J (pre ++ Kept ah tl ++ [(k, v)]) W' ∧ Turn S W W' ∧ Still (l + 1) W W') ∨ (e = .returned (.bool false) ∧ Jx (pre ++ Kept ah tl ++ [(k, v)]) W' ∧ Still (l + 1) W W')) :=
        fun W ht hj => HRR.out.yield _ (k, v) W hj ht (List.IsPrefix.trans ⟨Kept ah tr, by rw [HKE.out]; simp⟩ HPT.out)
      clear hk hu hu1 hu2 hx hg hl hr hR hj ht hT ihl ihr hB
      refine callsIn_of_wp Tryz.func135 rfl trivial ?_ rfl
      simp only [Tryz.ntmps135, List.size_toArray, List.length_cons, List.length_nil, Nat.reduceAdd, Nat.reduceSub, Array.replicate_succ, Array.replicate_zero, List.push_toArray, List.append_toArray, List.nil_append, List.cons_append]
      gi_wp2_with fail
      refine ⟨rfl, (callsIn_wide.2 HA.out).mono ?_⟩
      rintro e w' ⟨rfl, rfl⟩
      gi_wp2_with fail
      obtain ⟨d0, d1, d2, d3, -⟩ := (HG.out _ HT.out.drew).cells
      refine wpIn_region_any (by kernel_rfl) ?_
      change wpAnyIn _ _ _ _ _ _ _ _ _ (World.drew _)
      refine take_at 0 22 (.pointer (some ⟨g, 0, none⟩)) rfl rfl rfl (by kernel_rfl) (by kernel_rfl) (by kernel_rfl) (fun _ _ _ h => h) ⟨Or.inl ⟨by rfl, by intro w; go_simp⟩, fun _ => rfl⟩ ?_
      simp only [List.setIfInBounds_toArray, List.set_cons_zero, List.set_cons_succ]
      refine take_at 1 23 (.pointer (some ⟨g, 0, none⟩)) rfl rfl rfl (by kernel_rfl) (by kernel_rfl) (by kernel_rfl) (fun _ _ _ h => h) ⟨Or.inl ⟨by rfl, by intro w; go_simp⟩, fun _ => rfl⟩ ?_
      simp only [List.setIfInBounds_toArray, List.set_cons_zero, List.set_cons_succ]
      refine take_at 2 24 (.pointer (some ⟨g, 2, none⟩)) rfl rfl rfl (by kernel_rfl) (by kernel_rfl) (by kernel_rfl) (fun _ _ _ h => h) ⟨Or.inl ⟨by rfl, by intro w; go_simp⟩, fun _ => rfl⟩ ?_
      simp only [List.setIfInBounds_toArray, List.set_cons_zero, List.set_cons_succ]
      refine take_at 4 26 (.func (.func fa) #[] caps) rfl rfl rfl (by kernel_rfl) (by kernel_rfl) (by kernel_rfl) (fun _ _ _ h => h) ⟨Or.inl ⟨by rfl, by intro w; go_simp⟩, fun _ => rfl⟩ ?_
      simp only [List.setIfInBounds_toArray, List.set_cons_zero, List.set_cons_succ]
      refine take_at 5 27 (.func (.yield l) #[] #[]) rfl rfl rfl (by kernel_rfl) (by kernel_rfl) (by kernel_rfl) (fun _ _ _ h => h) ⟨Or.inl ⟨by rfl, by intro w; go_simp⟩, fun _ => rfl⟩ ?_
      simp only [List.setIfInBounds_toArray, List.set_cons_zero, List.set_cons_succ]
      refine wpAnyIn_ready (rs := [3]) (by kernel_rfl) (by simp) (AllReadyIn.cons rfl (fun K hK => ?_) AllReadyIn.nil)
      go_simp
      refine hK _ _ ?_
      clear hK K
      refine wpAnyIn_ready (rs := [6]) (by kernel_rfl) (by simp) (AllReadyIn.cons rfl (fun K hK => ?_) AllReadyIn.nil)
      go_simp
      refine ⟨rfl, (HI.out _ HT.out.drew (HRR.out.draws _ _ HJ.out)).mono ?_⟩
      rintro e W1 (⟨rfl, hj1, ht1, hs1⟩ | ⟨rfl, hq1, hs1⟩)
      · have HS1 := Lib.hid hs1; have HT1 := Lib.hid ht1
        obtain ⟨e0, e1, e2, e3, -⟩ := (HG.out _ ht1).cells
        obtain ⟨fn, tm, asg, bo, hy, hrr⟩ := HY.out W1 ht1 hj1
        have HRO := Lib.hid hrr
        clear hj1 ht1 hs1 hrr d0 d1 d2 d3
        refine hK _ _ ?_
        clear hK K
        refine take_at 7 29 (.bool true) rfl rfl rfl (by kernel_rfl) (by kernel_rfl) (by kernel_rfl) (fun _ _ _ h => h) ⟨Or.inl ⟨by rfl, by intro w; go_simp⟩, fun _ => rfl⟩ ?_
        simp only [List.setIfInBounds_toArray, List.set_cons_zero, List.set_cons_succ]
        refine take_at 8 30 (.func (.yield l) #[] #[]) rfl rfl rfl (by kernel_rfl) (by kernel_rfl) (by kernel_rfl) (fun _ _ _ h => h) ⟨Or.inl ⟨by rfl, by intro w; go_simp⟩, fun _ => rfl⟩ ?_
        simp only [List.setIfInBounds_toArray, List.set_cons_zero, List.set_cons_succ]
        refine take_at 9 31 (.pointer (some ⟨g, 0, none⟩)) rfl rfl rfl (by kernel_rfl) (by kernel_rfl) (by kernel_rfl) (fun _ _ _ h => h) ⟨Or.inl ⟨by rfl, by intro w; go_simp⟩, fun _ => rfl⟩ ?_
        simp only [List.setIfInBounds_toArray, List.set_cons_zero, List.set_cons_succ]
        refine take_at 10 32 (.pointer (some ⟨g, 0, none⟩)) rfl rfl rfl (by kernel_rfl) (by kernel_rfl) (by kernel_rfl) (fun _ _ _ h => h) ⟨Or.inl ⟨by rfl, by intro w; go_simp⟩, fun _ => rfl⟩ ?_
        simp only [List.setIfInBounds_toArray, List.set_cons_zero, List.set_cons_succ]
        refine take_at 11 33 (.pointer (some ⟨g, 0, none⟩)) rfl rfl rfl (by kernel_rfl) (by kernel_rfl) (by kernel_rfl) (fun _ _ _ h => h) ⟨Or.inl ⟨by rfl, by intro w; go_simp⟩, fun _ => rfl⟩ ?_
        simp only [List.setIfInBounds_toArray, List.set_cons_zero, List.set_cons_succ]
        refine take_at 13 35 (.pointer (some ⟨g, 0, none⟩)) rfl rfl rfl (by kernel_rfl) (by kernel_rfl) (by kernel_rfl) (fun _ _ _ h => h) ⟨Or.inl ⟨by rfl, by intro w; go_simp⟩, fun _ => rfl⟩ ?_
        simp only [List.setIfInBounds_toArray, List.set_cons_zero, List.set_cons_succ]
        refine take_at 14 36 (.pointer (some ⟨g, 0, none⟩)) rfl rfl rfl (by kernel_rfl) (by kernel_rfl) (by kernel_rfl) (fun _ _ _ h => h) ⟨Or.inl ⟨by rfl, by intro w; go_simp⟩, fun _ => rfl⟩ ?_
        simp only [List.setIfInBounds_toArray, List.set_cons_zero, List.set_cons_succ]
        refine take_at 15 37 (.pointer (some ⟨g, 1, none⟩)) rfl rfl rfl (by kernel_rfl) (by kernel_rfl) (by kernel_rfl) (fun _ _ _ h => h) ⟨Or.inl ⟨by rfl, by intro w; go_simp⟩, fun _ => rfl⟩ ?_
        simp only [List.setIfInBounds_toArray, List.set_cons_zero, List.set_cons_succ]
        refine wpAnyIn_ready (rs := [12, 16]) (by kernel_rfl) (by simp) (AllReadyIn.cons rfl (fun K hK => ?_) (AllReadyIn.cons rfl (fun K hK => ?_) AllReadyIn.nil))
        · go_simp
          refine hK _ _ ?_
          clear hK K
          refine wpAnyIn_ready (rs := [16]) (by kernel_rfl) (by simp) (AllReadyIn.cons rfl (fun K hK => ?_) AllReadyIn.nil)
          go_simp
          refine hK _ _ ?_
          clear hK K
          refine wpAnyIn_ready (rs := [17]) (by kernel_rfl) (by simp) (AllReadyIn.cons rfl (fun K hK => ?_) AllReadyIn.nil)
          go_simp
          refine ⟨rfl, HRO.out.mono ?_⟩
          rintro e W2 (⟨rfl, hj2, ht2, hs2⟩ | ⟨rfl, hx2, hs2⟩)
          · have HS2 := Lib.hid hs2; have HT2 := Lib.hid (HT1.out.trans ht2 (fun _ _ s => s)); have HJ2 := Lib.hid hj2
            obtain ⟨f0, f1, f2, f3, -⟩ := (HG.out _ HT2.out).cells
            clear hs2 ht2 hj2 e0 e1 e2 e3
            refine hK _ _ ?_
            clear hK K
            refine take_at 18 40 (.bool true) rfl rfl rfl (by kernel_rfl) (by kernel_rfl) (by kernel_rfl) (fun _ _ _ h => h) ⟨Or.inl ⟨by rfl, by intro w; go_simp⟩, fun _ => rfl⟩ ?_
            simp only [List.setIfInBounds_toArray, List.set_cons_zero, List.set_cons_succ]
            refine take_at 19 41 (.bool true) rfl rfl rfl (by kernel_rfl) (by kernel_rfl) (by kernel_rfl) (fun _ _ _ h => h) ⟨Or.inl ⟨by rfl, by intro w; go_simp⟩, fun _ => rfl⟩ ?_
            simp only [List.setIfInBounds_toArray, List.set_cons_zero, List.set_cons_succ]
            refine take_at 20 42 (.pointer (some ⟨g, 0, none⟩)) rfl rfl rfl (by kernel_rfl) (by kernel_rfl) (by kernel_rfl) (fun _ _ _ h => h) ⟨Or.inl ⟨by rfl, by intro w; go_simp⟩, fun _ => rfl⟩ ?_
            simp only [List.setIfInBounds_toArray, List.set_cons_zero, List.set_cons_succ]
            refine take_at 21 43 (.pointer (some ⟨g, 0, none⟩)) rfl rfl rfl (by kernel_rfl) (by kernel_rfl) (by kernel_rfl) (fun _ _ _ h => h) ⟨Or.inl ⟨by rfl, by intro w; go_simp⟩, fun _ => rfl⟩ ?_
            simp only [List.setIfInBounds_toArray, List.set_cons_zero, List.set_cons_succ]
            refine take_at 22 44 (.pointer (some ⟨g, 3, none⟩)) rfl rfl rfl (by kernel_rfl) (by kernel_rfl) (by kernel_rfl) (fun _ _ _ h => h) ⟨Or.inl ⟨by rfl, by intro w; go_simp⟩, fun _ => rfl⟩ ?_
            simp only [List.setIfInBounds_toArray, List.set_cons_zero, List.set_cons_succ]
            refine take_at 24 46 (.func (.func fa) #[] caps) rfl rfl rfl (by kernel_rfl) (by kernel_rfl) (by kernel_rfl) (fun _ _ _ h => h) ⟨Or.inl ⟨by rfl, by intro w; go_simp⟩, fun _ => rfl⟩ ?_
            simp only [List.setIfInBounds_toArray, List.set_cons_zero, List.set_cons_succ]
            refine take_at 25 47 (.func (.yield l) #[] #[]) rfl rfl rfl (by kernel_rfl) (by kernel_rfl) (by kernel_rfl) (fun _ _ _ h => h) ⟨Or.inl ⟨by rfl, by intro w; go_simp⟩, fun _ => rfl⟩ ?_
            simp only [List.setIfInBounds_toArray, List.set_cons_zero, List.set_cons_succ]
            refine wpAnyIn_ready (rs := [23]) (by kernel_rfl) (by simp) (AllReadyIn.cons rfl (fun K hK => ?_) AllReadyIn.nil)
            go_simp
            refine hK _ _ ?_
            clear hK K
            refine wpAnyIn_ready (rs := [26]) (by kernel_rfl) (by simp) (AllReadyIn.cons rfl (fun K hK => ?_) AllReadyIn.nil)
            go_simp
            refine ⟨rfl, (HI2.out W2 HT2.out HJ2.out).mono ?_⟩
            rintro e W3 (⟨rfl, hj3, ht3, hs3⟩ | ⟨rfl, hq3, hs3⟩)
            · have HS3 := Lib.hid hs3; have HT3 := Lib.hid ht3; have HJ3 := Lib.hid hj3
              clear hs3 ht3 hj3
              refine hK _ _ ?_
              clear hK K
              refine take_at 27 49 (.bool true) rfl rfl rfl (by kernel_rfl) (by kernel_rfl) (by kernel_rfl) (fun _ _ _ h => h) ⟨Or.inl ⟨by rfl, by intro w; go_simp⟩, fun _ => rfl⟩ ?_
              simp only [List.setIfInBounds_toArray, List.set_cons_zero, List.set_cons_succ]
              refine take_at 28 6 (.bool true) rfl rfl rfl (by kernel_rfl) (by kernel_rfl) (by kernel_rfl) (fun _ _ _ h => h) ⟨Or.inl ⟨by rfl, by intro w; go_simp⟩, fun _ => rfl⟩ ?_
              simp only [List.setIfInBounds_toArray, List.set_cons_zero, List.set_cons_succ]
              refine wpAnyIn_done (by kernel_rfl) ?_ _
              gi_wp2
              go_ret
              exact .inl ⟨rfl, HJ3.out, HT3.out, (Still.turned (Turn.refl _ W).drew).trans (HS1.out.trans (HS2.out.trans HS3.out))⟩
            · have HS3 := Lib.hid hs3; have HQ3 := Lib.hid hq3
              clear hs3 hq3
              refine hK _ _ ?_
              clear hK K
              refine take_at 27 49 (.bool false) rfl rfl rfl (by kernel_rfl) (by kernel_rfl) (by kernel_rfl) (fun _ _ _ h => h) ⟨Or.inl ⟨by rfl, by intro w; go_simp⟩, fun _ => rfl⟩ ?_
              simp only [List.setIfInBounds_toArray, List.set_cons_zero, List.set_cons_succ]
              refine take_at 28 6 (.bool false) rfl rfl rfl (by kernel_rfl) (by kernel_rfl) (by kernel_rfl) (fun _ _ _ h => h) ⟨Or.inl ⟨by rfl, by intro w; go_simp⟩, fun _ => rfl⟩ ?_
              simp only [List.setIfInBounds_toArray, List.set_cons_zero, List.set_cons_succ]
              refine wpAnyIn_done (by kernel_rfl) ?_ _
              gi_wp2
              go_ret
              exact .inr ⟨rfl, HQ3.out, (Still.turned (Turn.refl _ W).drew).trans (HS1.out.trans (HS2.out.trans HS3.out))⟩
          · have HS2 := Lib.hid hs2; have HX2 := Lib.hid hx2
            clear hs2 hx2
            refine hK _ _ ?_
            clear hK K
            refine take_at 18 40 (.bool false) rfl rfl rfl (by kernel_rfl) (by kernel_rfl) (by kernel_rfl) (fun _ _ _ h => h) ⟨Or.inl ⟨by rfl, by intro w; go_simp⟩, fun _ => rfl⟩ ?_
            simp only [List.setIfInBounds_toArray, List.set_cons_zero, List.set_cons_succ]
            refine take_at 19 41 (.bool false) rfl rfl rfl (by kernel_rfl) (by kernel_rfl) (by kernel_rfl) (fun _ _ _ h => h) ⟨Or.inl ⟨by rfl, by intro w; go_simp⟩, fun _ => rfl⟩ ?_
            simp only [List.setIfInBounds_toArray, List.set_cons_zero, List.set_cons_succ]
            refine take_at 20 42 undef rfl rfl rfl (by kernel_rfl) (by kernel_rfl) (by kernel_rfl) (fun _ _ _ h => h) ⟨Or.inr ⟨by rfl, rfl⟩, fun _ => rfl⟩ ?_
            simp only [List.setIfInBounds_toArray, List.set_cons_zero, List.set_cons_succ]
            refine take_at 21 43 undef rfl rfl rfl (by kernel_rfl) (by kernel_rfl) (by kernel_rfl) (fun _ _ _ h => h) ⟨Or.inr ⟨by rfl, rfl⟩, fun _ => rfl⟩ ?_
            simp only [List.setIfInBounds_toArray, List.set_cons_zero, List.set_cons_succ]
            refine take_at 22 44 undef rfl rfl rfl (by kernel_rfl) (by kernel_rfl) (by kernel_rfl) (fun _ _ _ h => h) ⟨Or.inr ⟨by rfl, rfl⟩, fun _ => rfl⟩ ?_
            simp only [List.setIfInBounds_toArray, List.set_cons_zero, List.set_cons_succ]
            refine take_at 23 45 undef rfl rfl rfl (by kernel_rfl) (by kernel_rfl) (by kernel_rfl) (fun _ _ _ h => h) ⟨Or.inr ⟨by rfl, rfl⟩, fun _ => rfl⟩ ?_
            simp only [List.setIfInBounds_toArray, List.set_cons_zero, List.set_cons_succ]
            refine take_at 24 46 undef rfl rfl rfl (by kernel_rfl) (by kernel_rfl) (by kernel_rfl) (fun _ _ _ h => h) ⟨Or.inr ⟨by rfl, rfl⟩, fun _ => rfl⟩ ?_
            simp only [List.setIfInBounds_toArray, List.set_cons_zero, List.set_cons_succ]
            refine take_at 25 47 undef rfl rfl rfl (by kernel_rfl) (by kernel_rfl) (by kernel_rfl) (fun _ _ _ h => h) ⟨Or.inr ⟨by rfl, rfl⟩, fun _ => rfl⟩ ?_
            simp only [List.setIfInBounds_toArray, List.set_cons_zero, List.set_cons_succ]
            refine wpAnyIn_ready (rs := [26]) (by kernel_rfl) (by simp) (AllReadyIn.cons rfl (fun K hK => ?_) AllReadyIn.nil)
            rw [if_neg (by simp [Region.wanted, yielded])]
            refine ⟨fun f hf => trivial, ?_⟩
            refine hK _ _ ?_
            clear hK K
            refine take_at 27 49 (.bool false) rfl rfl rfl (by kernel_rfl) (by kernel_rfl) (by kernel_rfl) (fun _ _ _ h => h) ⟨Or.inl ⟨by rfl, by intro w; go_simp⟩, fun _ => rfl⟩ ?_
            simp only [List.setIfInBounds_toArray, List.set_cons_zero, List.set_cons_succ]
            refine take_at 28 6 (.bool false) rfl rfl rfl (by kernel_rfl) (by kernel_rfl) (by kernel_rfl) (fun _ _ _ h => h) ⟨Or.inl ⟨by rfl, by intro w; go_simp⟩, fun _ => rfl⟩ ?_
            simp only [List.setIfInBounds_toArray, List.set_cons_zero, List.set_cons_succ]
            refine wpAnyIn_done (by kernel_rfl) ?_ _
            gi_wp2
            go_ret
            exact .inr ⟨rfl, ⟨_, by rw [HKE.out]; exact ⟨Kept ah tr, by simp⟩, HX2.out⟩, (Still.turned (Turn.refl _ W).drew).trans (HS1.out.trans HS2.out)⟩
        · go_simp
          refine hK _ _ ?_
          clear hK K
          refine wpAnyIn_ready (rs := [12]) (by kernel_rfl) (by simp) (AllReadyIn.cons rfl (fun K hK => ?_) AllReadyIn.nil)
          go_simp
          refine hK _ _ ?_
          clear hK K
          refine wpAnyIn_ready (rs := [17]) (by kernel_rfl) (by simp) (AllReadyIn.cons rfl (fun K hK => ?_) AllReadyIn.nil)
          go_simp
          refine ⟨rfl, HRO.out.mono ?_⟩
          rintro e W2 (⟨rfl, hj2, ht2, hs2⟩ | ⟨rfl, hx2, hs2⟩)
          · have HS2 := Lib.hid hs2; have HT2 := Lib.hid (HT1.out.trans ht2 (fun _ _ s => s)); have HJ2 := Lib.hid hj2
            obtain ⟨f0, f1, f2, f3, -⟩ := (HG.out _ HT2.out).cells
            clear hs2 ht2 hj2 e0 e1 e2 e3
            refine hK _ _ ?_
            clear hK K
            refine take_at 18 40 (.bool true) rfl rfl rfl (by kernel_rfl) (by kernel_rfl) (by kernel_rfl) (fun _ _ _ h => h) ⟨Or.inl ⟨by rfl, by intro w; go_simp⟩, fun _ => rfl⟩ ?_
            simp only [List.setIfInBounds_toArray, List.set_cons_zero, List.set_cons_succ]
            refine take_at 19 41 (.bool true) rfl rfl rfl (by kernel_rfl) (by kernel_rfl) (by kernel_rfl) (fun _ _ _ h => h) ⟨Or.inl ⟨by rfl, by intro w; go_simp⟩, fun _ => rfl⟩ ?_
            simp only [List.setIfInBounds_toArray, List.set_cons_zero, List.set_cons_succ]
            refine take_at 20 42 (.pointer (some ⟨g, 0, none⟩)) rfl rfl rfl (by kernel_rfl) (by kernel_rfl) (by kernel_rfl) (fun _ _ _ h => h) ⟨Or.inl ⟨by rfl, by intro w; go_simp⟩, fun _ => rfl⟩ ?_
            simp only [List.setIfInBounds_toArray, List.set_cons_zero, List.set_cons_succ]
            refine take_at 21 43 (.pointer (some ⟨g, 0, none⟩)) rfl rfl rfl (by kernel_rfl) (by kernel_rfl) (by kernel_rfl) (fun _ _ _ h => h) ⟨Or.inl ⟨by rfl, by intro w; go_simp⟩, fun _ => rfl⟩ ?_
            simp only [List.setIfInBounds_toArray, List.set_cons_zero, List.set_cons_succ]
            refine take_at 22 44 (.pointer (some ⟨g, 3, none⟩)) rfl rfl rfl (by kernel_rfl) (by kernel_rfl) (by kernel_rfl) (fun _ _ _ h => h) ⟨Or.inl ⟨by rfl, by intro w; go_simp⟩, fun _ => rfl⟩ ?_
            simp only [List.setIfInBounds_toArray, List.set_cons_zero, List.set_cons_succ]
            refine take_at 24 46 (.func (.func fa) #[] caps) rfl rfl rfl (by kernel_rfl) (by kernel_rfl) (by kernel_rfl) (fun _ _ _ h => h) ⟨Or.inl ⟨by rfl, by intro w; go_simp⟩, fun _ => rfl⟩ ?_
            simp only [List.setIfInBounds_toArray, List.set_cons_zero, List.set_cons_succ]
            refine take_at 25 47 (.func (.yield l) #[] #[]) rfl rfl rfl (by kernel_rfl) (by kernel_rfl) (by kernel_rfl) (fun _ _ _ h => h) ⟨Or.inl ⟨by rfl, by intro w; go_simp⟩, fun _ => rfl⟩ ?_
            simp only [List.setIfInBounds_toArray, List.set_cons_zero, List.set_cons_succ]
            refine wpAnyIn_ready (rs := [23]) (by kernel_rfl) (by simp) (AllReadyIn.cons rfl (fun K hK => ?_) AllReadyIn.nil)
            go_simp
            refine hK _ _ ?_
            clear hK K
            refine wpAnyIn_ready (rs := [26]) (by kernel_rfl) (by simp) (AllReadyIn.cons rfl (fun K hK => ?_) AllReadyIn.nil)
            go_simp
            refine ⟨rfl, (HI2.out W2 HT2.out HJ2.out).mono ?_⟩
            rintro e W3 (⟨rfl, hj3, ht3, hs3⟩ | ⟨rfl, hq3, hs3⟩)
            · have HS3 := Lib.hid hs3; have HT3 := Lib.hid ht3; have HJ3 := Lib.hid hj3
              clear hs3 ht3 hj3
              refine hK _ _ ?_
              clear hK K
              refine take_at 27 49 (.bool true) rfl rfl rfl (by kernel_rfl) (by kernel_rfl) (by kernel_rfl) (fun _ _ _ h => h) ⟨Or.inl ⟨by rfl, by intro w; go_simp⟩, fun _ => rfl⟩ ?_
              simp only [List.setIfInBounds_toArray, List.set_cons_zero, List.set_cons_succ]
              refine take_at 28 6 (.bool true) rfl rfl rfl (by kernel_rfl) (by kernel_rfl) (by kernel_rfl) (fun _ _ _ h => h) ⟨Or.inl ⟨by rfl, by intro w; go_simp⟩, fun _ => rfl⟩ ?_
              simp only [List.setIfInBounds_toArray, List.set_cons_zero, List.set_cons_succ]
              refine wpAnyIn_done (by kernel_rfl) ?_ _
              gi_wp2
              go_ret
              exact .inl ⟨rfl, HJ3.out, HT3.out, (Still.turned (Turn.refl _ W).drew).trans (HS1.out.trans (HS2.out.trans HS3.out))⟩
            · have HS3 := Lib.hid hs3; have HQ3 := Lib.hid hq3
              clear hs3 hq3
              refine hK _ _ ?_
              clear hK K
              refine take_at 27 49 (.bool false) rfl rfl rfl (by kernel_rfl) (by kernel_rfl) (by kernel_rfl) (fun _ _ _ h => h) ⟨Or.inl ⟨by rfl, by intro w; go_simp⟩, fun _ => rfl⟩ ?_
              simp only [List.setIfInBounds_toArray, List.set_cons_zero, List.set_cons_succ]
              refine take_at 28 6 (.bool false) rfl rfl rfl (by kernel_rfl) (by kernel_rfl) (by kernel_rfl) (fun _ _ _ h => h) ⟨Or.inl ⟨by rfl, by intro w; go_simp⟩, fun _ => rfl⟩ ?_
              simp only [List.setIfInBounds_toArray, List.set_cons_zero, List.set_cons_succ]
              refine wpAnyIn_done (by kernel_rfl) ?_ _
              gi_wp2
              go_ret
              exact .inr ⟨rfl, HQ3.out, (Still.turned (Turn.refl _ W).drew).trans (HS1.out.trans (HS2.out.trans HS3.out))⟩
          · have HS2 := Lib.hid hs2; have HX2 := Lib.hid hx2
            clear hs2 hx2
            refine hK _ _ ?_
            clear hK K
            refine take_at 18 40 (.bool false) rfl rfl rfl (by kernel_rfl) (by kernel_rfl) (by kernel_rfl) (fun _ _ _ h => h) ⟨Or.inl ⟨by rfl, by intro w; go_simp⟩, fun _ => rfl⟩ ?_
            simp only [List.setIfInBounds_toArray, List.set_cons_zero, List.set_cons_succ]
            refine take_at 19 41 (.bool false) rfl rfl rfl (by kernel_rfl) (by kernel_rfl) (by kernel_rfl) (fun _ _ _ h => h) ⟨Or.inl ⟨by rfl, by intro w; go_simp⟩, fun _ => rfl⟩ ?_
            simp only [List.setIfInBounds_toArray, List.set_cons_zero, List.set_cons_succ]
            refine take_at 20 42 undef rfl rfl rfl (by kernel_rfl) (by kernel_rfl) (by kernel_rfl) (fun _ _ _ h => h) ⟨Or.inr ⟨by rfl, rfl⟩, fun _ => rfl⟩ ?_
            simp only [List.setIfInBounds_toArray, List.set_cons_zero, List.set_cons_succ]
            refine take_at 21 43 undef rfl rfl rfl (by kernel_rfl) (by kernel_rfl) (by kernel_rfl) (fun _ _ _ h => h) ⟨Or.inr ⟨by rfl, rfl⟩, fun _ => rfl⟩ ?_
            simp only [List.setIfInBounds_toArray, List.set_cons_zero, List.set_cons_succ]
            refine take_at 22 44 undef rfl rfl rfl (by kernel_rfl) (by kernel_rfl) (by kernel_rfl) (fun _ _ _ h => h) ⟨Or.inr ⟨by rfl, rfl⟩, fun _ => rfl⟩ ?_
            simp only [List.setIfInBounds_toArray, List.set_cons_zero, List.set_cons_succ]
            refine take_at 23 45 undef rfl rfl rfl (by kernel_rfl) (by kernel_rfl) (by kernel_rfl) (fun _ _ _ h => h) ⟨Or.inr ⟨by rfl, rfl⟩, fun _ => rfl⟩ ?_
            simp only [List.setIfInBounds_toArray, List.set_cons_zero, List.set_cons_succ]
            refine take_at 24 46 undef rfl rfl rfl (by kernel_rfl) (by kernel_rfl) (by kernel_rfl) (fun _ _ _ h => h) ⟨Or.inr ⟨by rfl, rfl⟩, fun _ => rfl⟩ ?_
            simp only [List.setIfInBounds_toArray, List.set_cons_zero, List.set_cons_succ]
            refine take_at 25 47 undef rfl rfl rfl (by kernel_rfl) (by kernel_rfl) (by kernel_rfl) (fun _ _ _ h => h) ⟨Or.inr ⟨by rfl, rfl⟩, fun _ => rfl⟩ ?_
            simp only [List.setIfInBounds_toArray, List.set_cons_zero, List.set_cons_succ]
            refine wpAnyIn_ready (rs := [26]) (by kernel_rfl) (by simp) (AllReadyIn.cons rfl (fun K hK => ?_) AllReadyIn.nil)
            rw [if_neg (by simp [Region.wanted, yielded])]
            refine ⟨fun f hf => trivial, ?_⟩
            refine hK _ _ ?_
            clear hK K
            refine take_at 27 49 (.bool false) rfl rfl rfl (by kernel_rfl) (by kernel_rfl) (by kernel_rfl) (fun _ _ _ h => h) ⟨Or.inl ⟨by rfl, by intro w; go_simp⟩, fun _ => rfl⟩ ?_
            simp only [List.setIfInBounds_toArray, List.set_cons_zero, List.set_cons_succ]
            refine take_at 28 6 (.bool false) rfl rfl rfl (by kernel_rfl) (by kernel_rfl) (by kernel_rfl) (fun _ _ _ h => h) ⟨Or.inl ⟨by rfl, by intro w; go_simp⟩, fun _ => rfl⟩ ?_
            simp only [List.setIfInBounds_toArray, List.set_cons_zero, List.set_cons_succ]
            refine wpAnyIn_done (by kernel_rfl) ?_ _
            gi_wp2
            go_ret
            exact .inr ⟨rfl, ⟨_, by rw [HKE.out]; exact ⟨Kept ah tr, by simp⟩, HX2.out⟩, (Still.turned (Turn.refl _ W).drew).trans (HS1.out.trans HS2.out)⟩
      · have HS1 := Lib.hid hs1; have HQ1 := Lib.hid hq1
        clear hs1 hq1 d0 d1 d2 d3
        refine hK _ _ ?_
        clear hK K
        refine take_at 7 29 (.bool false) rfl rfl rfl (by kernel_rfl) (by kernel_rfl) (by kernel_rfl) (fun _ _ _ h => h) ⟨Or.inl ⟨by rfl, by intro w; go_simp⟩, fun _ => rfl⟩ ?_
        simp only [List.setIfInBounds_toArray, List.set_cons_zero, List.set_cons_succ]
        refine take_at 8 30 undef rfl rfl rfl (by kernel_rfl) (by kernel_rfl) (by kernel_rfl) (fun _ _ _ h => h) ⟨Or.inr ⟨by rfl, rfl⟩, fun _ => rfl⟩ ?_
        simp only [List.setIfInBounds_toArray, List.set_cons_zero, List.set_cons_succ]
        refine take_at 9 31 undef rfl rfl rfl (by kernel_rfl) (by kernel_rfl) (by kernel_rfl) (fun _ _ _ h => h) ⟨Or.inr ⟨by rfl, rfl⟩, fun _ => rfl⟩ ?_
        simp only [List.setIfInBounds_toArray, List.set_cons_zero, List.set_cons_succ]
        refine take_at 10 32 undef rfl rfl rfl (by kernel_rfl) (by kernel_rfl) (by kernel_rfl) (fun _ _ _ h => h) ⟨Or.inr ⟨by rfl, rfl⟩, fun _ => rfl⟩ ?_
        simp only [List.setIfInBounds_toArray, List.set_cons_zero, List.set_cons_succ]
        refine take_at 11 33 undef rfl rfl rfl (by kernel_rfl) (by kernel_rfl) (by kernel_rfl) (fun _ _ _ h => h) ⟨Or.inr ⟨by rfl, rfl⟩, fun _ => rfl⟩ ?_
        simp only [List.setIfInBounds_toArray, List.set_cons_zero, List.set_cons_succ]
        refine take_at 12 34 undef rfl rfl rfl (by kernel_rfl) (by kernel_rfl) (by kernel_rfl) (fun _ _ _ h => h) ⟨Or.inr ⟨by rfl, rfl⟩, fun _ => rfl⟩ ?_
        simp only [List.setIfInBounds_toArray, List.set_cons_zero, List.set_cons_succ]
        refine take_at 13 35 undef rfl rfl rfl (by kernel_rfl) (by kernel_rfl) (by kernel_rfl) (fun _ _ _ h => h) ⟨Or.inr ⟨by rfl, rfl⟩, fun _ => rfl⟩ ?_
        simp only [List.setIfInBounds_toArray, List.set_cons_zero, List.set_cons_succ]
        refine take_at 14 36 undef rfl rfl rfl (by kernel_rfl) (by kernel_rfl) (by kernel_rfl) (fun _ _ _ h => h) ⟨Or.inr ⟨by rfl, rfl⟩, fun _ => rfl⟩ ?_
        simp only [List.setIfInBounds_toArray, List.set_cons_zero, List.set_cons_succ]
        refine take_at 15 37 undef rfl rfl rfl (by kernel_rfl) (by kernel_rfl) (by kernel_rfl) (fun _ _ _ h => h) ⟨Or.inr ⟨by rfl, rfl⟩, fun _ => rfl⟩ ?_
        simp only [List.setIfInBounds_toArray, List.set_cons_zero, List.set_cons_succ]
        refine take_at 16 38 undef rfl rfl rfl (by kernel_rfl) (by kernel_rfl) (by kernel_rfl) (fun _ _ _ h => h) ⟨Or.inr ⟨by rfl, rfl⟩, fun _ => rfl⟩ ?_
        simp only [List.setIfInBounds_toArray, List.set_cons_zero, List.set_cons_succ]
        refine wpAnyIn_ready (rs := [17]) (by kernel_rfl) (by simp) (AllReadyIn.cons rfl (fun K hK => ?_) AllReadyIn.nil)
        rw [if_neg (by simp [Region.wanted, yielded])]
        refine ⟨fun f hf => trivial, ?_⟩
        refine hK _ _ ?_
        clear hK K
        refine take_at 18 40 (.bool false) rfl rfl rfl (by kernel_rfl) (by kernel_rfl) (by kernel_rfl) (fun _ _ _ h => h) ⟨Or.inl ⟨by rfl, by intro w; go_simp⟩, fun _ => rfl⟩ ?_
        simp only [List.setIfInBounds_toArray, List.set_cons_zero, List.set_cons_succ]
        refine take_at 19 41 (.bool false) rfl rfl rfl (by kernel_rfl) (by kernel_rfl) (by kernel_rfl) (fun _ _ _ h => h) ⟨Or.inl ⟨by rfl, by intro w; go_simp⟩, fun _ => rfl⟩ ?_
        simp only [List.setIfInBounds_toArray, List.set_cons_zero, List.set_cons_succ]
        refine take_at 20 42 undef rfl rfl rfl (by kernel_rfl) (by kernel_rfl) (by kernel_rfl) (fun _ _ _ h => h) ⟨Or.inr ⟨by rfl, rfl⟩, fun _ => rfl⟩ ?_
        simp only [List.setIfInBounds_toArray, List.set_cons_zero, List.set_cons_succ]
        refine take_at 21 43 undef rfl rfl rfl (by kernel_rfl) (by kernel_rfl) (by kernel_rfl) (fun _ _ _ h => h) ⟨Or.inr ⟨by rfl, rfl⟩, fun _ => rfl⟩ ?_
        simp only [List.setIfInBounds_toArray, List.set_cons_zero, List.set_cons_succ]
        refine take_at 22 44 undef rfl rfl rfl (by kernel_rfl) (by kernel_rfl) (by kernel_rfl) (fun _ _ _ h => h) ⟨Or.inr ⟨by rfl, rfl⟩, fun _ => rfl⟩ ?_
        simp only [List.setIfInBounds_toArray, List.set_cons_zero, List.set_cons_succ]
        refine take_at 23 45 undef rfl rfl rfl (by kernel_rfl) (by kernel_rfl) (by kernel_rfl) (fun _ _ _ h => h) ⟨Or.inr ⟨by rfl, rfl⟩, fun _ => rfl⟩ ?_
        simp only [List.setIfInBounds_toArray, List.set_cons_zero, List.set_cons_succ]
        refine take_at 24 46 undef rfl rfl rfl (by kernel_rfl) (by kernel_rfl) (by kernel_rfl) (fun _ _ _ h => h) ⟨Or.inr ⟨by rfl, rfl⟩, fun _ => rfl⟩ ?_
        simp only [List.setIfInBounds_toArray, List.set_cons_zero, List.set_cons_succ]
        refine take_at 25 47 undef rfl rfl rfl (by kernel_rfl) (by kernel_rfl) (by kernel_rfl) (fun _ _ _ h => h) ⟨Or.inr ⟨by rfl, rfl⟩, fun _ => rfl⟩ ?_
        simp only [List.setIfInBounds_toArray, List.set_cons_zero, List.set_cons_succ]
        refine wpAnyIn_ready (rs := [26]) (by kernel_rfl) (by simp) (AllReadyIn.cons rfl (fun K hK => ?_) AllReadyIn.nil)
        rw [if_neg (by simp [Region.wanted, yielded])]
        refine ⟨fun f hf => trivial, ?_⟩
        refine hK _ _ ?_
        clear hK K
        refine take_at 27 49 (.bool false) rfl rfl rfl (by kernel_rfl) (by kernel_rfl) (by kernel_rfl) (fun _ _ _ h => h) ⟨Or.inl ⟨by rfl, by intro w; go_simp⟩, fun _ => rfl⟩ ?_
        simp only [List.setIfInBounds_toArray, List.set_cons_zero, List.set_cons_succ]
        refine take_at 28 6 (.bool false) rfl rfl rfl (by kernel_rfl) (by kernel_rfl) (by kernel_rfl) (fun _ _ _ h => h) ⟨Or.inl ⟨by rfl, by intro w; go_simp⟩, fun _ => rfl⟩ ?_
        simp only [List.setIfInBounds_toArray, List.set_cons_zero, List.set_cons_succ]
        refine wpAnyIn_done (by kernel_rfl) ?_ _
        gi_wp2
        go_ret
        obtain ⟨q, hq, hx⟩ := HQ1.out
        exact .inr ⟨rfl, ⟨q, hq.trans (by rw [HKE.out]; exact ⟨(k, v) :: Kept ah tr, by simp⟩), hx⟩, (Still.turned (Turn.refl _ W).drew).trans HS1.out⟩

end Go.Proofs.YticglepkbihldaaGreat.oms

/-
  A map's keys, rising, by a range over a function: rising, All (keys string, values int).
-/
namespace Go.Proofs.YticglepkbihldaaGreat.oms
open Go.RowKit Go.Shelf
attribute [local go_sem] Oper.semAt_some wide_fn

theorem yield_depth {m m' : Nat} {P : Program} {l : Nat} {args : Array Value} {W : World} {R : Ending → World → Prop} (h : YieldAt Fence.wide m P l args W R) : YieldAt Fence.wide m' P l args W R := by
  obtain ⟨fn, tmps, assign, body, hy, hR⟩ := h
  exact ⟨fn, tmps, assign, body, hy, hR.1, fun c cs _ => hR.2 c cs (room_wide _)⟩
theorem calls_depth {m m' : Nat} {P : Program} {f : FuncId} {args : Array Value} {W : World} {R : Ending → World → Prop} (h : CallsIn Fence.wide m P f args W R) : CallsIn Fence.wide m' P f args W R := callsIn_wide.2 (callsIn_wide.1 h)

/-- What a range over a map has at hand: where its tree's root, and what says what is ahead, lie; the tree; what is ahead. -/
structure Src (w : World) (q1 q2 : Nat) (A : Option Addr) (fa : Nat) (caps : Array Value) (x : Tr (List UInt8) Int) (ah : (List UInt8) → Bool) : Prop where
  root : Box w q1 165 #[.pointer A]
  fun' : Box w q2 164 #[.func (.func fa) #[] caps]
  tree : Nd w x (.pointer A)
  up : Up Op.bytesLess x.flat
  enters : ∀ args w, (callFunc fa args).run Tryz.prog w = .ok (.enter fa args) w
  falls : Falls ah

set_option maxRecDepth 100000 in
set_option maxHeartbeats 1000000 in
theorem rising_feeds (n : Nat) {w : World} {q1 q2 : Nat} {A : Option Addr} {fa : Nat} {caps : Array Value} {x : Tr (List UInt8) Int} {ah : (List UInt8) → Bool} (h : Src w q1 q2 A fa caps x ah) (S : Nat → Prop) (h1 : ¬ S q1) (h2 : ¬ S q2) (hB : Base S w)
    (hA : ∀ key W, Turn S w W → Calls Tryz.prog fa (#[(.string ⟨key.toArray⟩)] ++ caps) W fun e W' => e = .returned (.bool (ah key)) ∧ W = W') :
    Feeds n 134 #[.pointer (some ⟨q1, 0, none⟩), .pointer (some ⟨q2, 0, none⟩)] prs S (fun pre y _ => pre ++ [y] <+: Kept ah x) (fun xs => xs = Kept ah x) (fun pre => pre <+: Kept ah x) w := fun l J Jx W hW _ _ hJ hJx hY h0 => by
  have hWS : Turn S w W := hW.none
  have hc1 := (h.root.turn hWS h1).cell 0
  have hc2 := (h.fun'.turn hWS h2).cell 0
  have HR : Hid (Rounds l fa caps ah S w J Jx (Kept ah x)) := ⟨fun pre W1 hj => hJ _ _ _ hj ((Turn.refl (fun _ => False) W1).drew.none), h.enters, hA, fun pre y W1 hj _ hp => yield_depth (hY pre y W1 hj hp)⟩
  have HE := Lib.hid (each_any l fa caps ah S w J Jx (Kept ah x) HR.out hB h.falls x (.pointer A) [] W h.tree hWS h0 h.up (by rw [List.nil_append]; exact List.prefix_refl _))
  clear h0 hJ hJx hY hA h hB HR
  refine callsIn_of_wp Tryz.func134 rfl trivial ?_ rfl
  simp only [Tryz.ntmps134, List.size_toArray, List.length_cons, List.length_nil, Nat.reduceAdd, Nat.reduceSub, Array.replicate_succ, Array.replicate_zero, List.push_toArray, List.append_toArray, List.nil_append, List.cons_append]
  gi_wp2_with fail
  refine ⟨fun h => by (cases h), (calls_depth HE.out).mono ?_⟩
  rintro e W1 (⟨rfl, hj, _, _⟩ | ⟨rfl, ⟨q, hq, hx⟩, _⟩)
  · have HJ := Lib.hid hj; clear hj
    gi_wp2
    go_end0
    exact ⟨⟨_, rfl⟩, .inl ⟨_, rfl, by have := HJ.out; rwa [List.nil_append] at this⟩⟩
  · have HX := Lib.hid hx; have HQ := Lib.hid hq; clear hx hq
    gi_wp2
    go_end0
    exact ⟨⟨_, rfl⟩, .inr ⟨q, by have := HQ.out; rwa [List.nil_append] at this, HX.out⟩⟩

/-- The range over a map that rising makes. -/
def RisV (q1 q2 : Nat) : Value := .func (.func 134) #[] #[.pointer (some ⟨q1, 0, none⟩), .pointer (some ⟨q2, 0, none⟩)]
structure Ris (w w' : World) (q1 q2 : Nat) (fa : Nat) (caps : Array Value) (L : List ((List UInt8) × Int)) : Prop where
  out : ∃ (A : Option Addr) (x : Tr (List UInt8) Int), Box w' q1 165 #[.pointer A] ∧ Box w' q2 164 #[.func (.func fa) #[] caps] ∧ Nd w' x (.pointer A) ∧ x.flat = L
  up : Up Op.bytesLess L
  new1 : w.heap.size ≤ q1
  new2 : w.heap.size ≤ q2
  turn : Turn (fun _ => False) w w'

set_option maxRecDepth 100000 in
theorem rising_any (fa : Nat) (caps : Array Value) {w : World} {g : Nat} {L : List ((List UInt8) × Int)} (h : MP w g L) :
    Calls Tryz.prog 118 #[.pointer (some ⟨g, 0, none⟩), .func (.func fa) #[] caps] w fun e w' => ∃ q1 q2, e = .returned (RisV q1 q2) ∧ Ris w w' q1 q2 fa caps L := by
  have HU := Lib.hid h.up
  obtain ⟨x, A, hb, hx, hf⟩ := h.out
  have hne1 : w.heap.size ≠ g := by have := hb.lt; omega
  have hne2 : w.heap.size + 1 ≠ g := by have := hb.lt; omega
  have hc := ((hb.alloc (.cells #[.func (.func fa) #[] caps] 164)).alloc (.cells #[.pointer none] 165)).cell 0
  have HX := Lib.hid hx; have HF := Lib.hid hf
  clear h hb hx hf
  go_enter Tryz.func118, Tryz.ntmps118
  go_wp2
  go_ret
  exact ⟨w.heap.size + 1, w.heap.size, rfl, ⟨A, x, by have := Box.new (w.alloc (.cells #[.func (.func fa) #[] caps] 164)) 165 #[.pointer (A)]; rw [World.size_alloc] at this; exact this, (Box.new w 164 #[.func (.func fa) #[] caps]).alloc _, HX.out.later (((Turn.refl _ w).alloc _).alloc _), HF.out⟩, HU.out, Nat.le_succ _, Nat.le_refl _, ((Turn.refl _ w).alloc _).alloc _⟩

set_option maxRecDepth 100000 in
theorem rising_nil (fa : Nat) (caps : Array Value) (w : World) :
    Calls Tryz.prog 118 #[.pointer none, .func (.func fa) #[] caps] w fun e w' => ∃ q1 q2, e = .returned (RisV q1 q2) ∧ Ris w w' q1 q2 fa caps [] := by
  have HU : Hid (Up Op.bytesLess ([] : List ((List UInt8) × Int))) := up_nil
  go_enter Tryz.func118, Tryz.ntmps118
  go_wp2
  go_ret
  exact ⟨w.heap.size + 1, w.heap.size, rfl, ⟨none, .nil, by have := Box.new (w.alloc (.cells #[.func (.func fa) #[] caps] 164)) 165 #[.pointer (none)]; rw [World.size_alloc] at this; exact this, (Box.new w 164 #[.func (.func fa) #[] caps]).alloc _, rfl, rfl⟩, HU.out, Nat.le_succ _, Nat.le_refl _, ((Turn.refl _ w).alloc _).alloc _⟩

set_option maxRecDepth 100000 in
theorem none_any (key : (List UInt8)) (w : World) : Calls Tryz.prog 119 #[(.string ⟨key.toArray⟩)] w fun e w' => e = .returned (.bool false) ∧ w = w' := by
  go_enter Tryz.func119, Tryz.ntmps119
  go_wp2
  go_ret
  exact ⟨rfl, rfl⟩

/-- What All makes, of a map whose list is L. -/
def AllPost (w : World) (L : List ((List UInt8) × Int)) (e : Ending) (w' : World) : Prop := ∃ q1 q2, e = .returned (RisV q1 q2) ∧ Ris w w' q1 q2 119 #[] L

set_option maxRecDepth 100000 in
theorem all_any {w : World} {g : Nat} {L : List ((List UInt8) × Int)} (h : MP w g L) :
    Calls Tryz.prog 92 #[.pointer (some ⟨g, 0, none⟩)] w fun e w' => AllPost w L e w' := by
  have HR := Lib.hid (rising_any 119 #[] h)
  clear h
  go_enter Tryz.func92, Tryz.ntmps92
  go_wp2_with (go_at_call 118; refine HR.out.mono ?_; rintro e w' ⟨q1, q2, rfl, hr⟩; have HX := Lib.hid hr; clear hr; unfold RisV)
  go_ret
  exact ⟨q1, q2, rfl, HX.out⟩
set_option maxRecDepth 100000 in
theorem all_nil (w : World) : Calls Tryz.prog 92 #[.pointer none] w fun e w' => AllPost w [] e w' := by
  have HR := Lib.hid (rising_nil 119 #[] w)
  go_enter Tryz.func92, Tryz.ntmps92
  go_wp2_with (go_at_call 118; refine HR.out.mono ?_; rintro e w' ⟨q1, q2, rfl, hr⟩; have HX := Lib.hid hr; clear hr; unfold RisV)
  go_ret
  exact ⟨q1, q2, rfl, HX.out⟩

theorem kept_none (x : Tr (List UInt8) Int) : Kept (fun _ => false) x = x.flat := by unfold Kept; simp

theorem all_feeds (n : Nat) {w w' : World} {q1 q2 : Nat} {L : List ((List UInt8) × Int)} (h : Ris w w' q1 q2 119 #[] L) (S : Nat → Prop) (h1 : ¬ S q1) (h2 : ¬ S q2) (hB : Base S w') :
    Feeds n 134 #[.pointer (some ⟨q1, 0, none⟩), .pointer (some ⟨q2, 0, none⟩)] prs S (fun pre y _ => pre ++ [y] <+: L) (fun xs => xs = L) (fun pre => pre <+: L) w' := by
  obtain ⟨A, x, hb1, hb2, hx, hf⟩ := h.out
  have hs : Src w' q1 q2 A 119 #[] x (fun _ => false) := ⟨hb1, hb2, hx, by rw [hf]; exact h.up, enters_of Tryz.func119 (by kernel_rfl) rfl, fun _ _ _ h => h⟩
  have := rising_feeds n hs S h1 h2 hB (fun key W _ => none_any key W)
  rw [kept_none, hf] at this
  exact this

end Go.Proofs.YticglepkbihldaaGreat.oms

/-
  Stage 10: the program's dictionary in memory; Len, At, Code (things string).
-/
namespace Go.Proofs.YticglepkbihldaaGreat
open Go.RowKit

set_option maxRecDepth 100000

/-- A dictionary's things; a nil one has none. -/
structure DV10 (w : World) (v : Value) (L : List (List UInt8)) : Prop where
  out : (v = .pointer none ∧ L = []) ∨ ∃ d g sl, v = .pointer (some ⟨d, 0, none⟩) ∧ Box w d 141 #[.pointer (some ⟨g, 0, none⟩), sl] ∧ oms.MP w g (numFrom 0 L) ∧ RdE ET10 w sl L
  up : L.Pairwise fun x y => Op.bytesLess x y = true
  len : L.length ≤ 20000
  typ : v ≠ .pointer none → ∃ b x sl, v = .pointer (some ⟨b, 0, none⟩) ∧ Box w b 141 #[x, sl] ∧ ∀ k, sl.ownBlock = some k → ∃ cs, Box w k 9 cs
theorem DV10.later {w w' : World} {v : Value} {L : List (List UInt8)} (h : DV10 w v L) (ht : Turn (fun _ => False) w w') : DV10 w' v L :=
  ⟨h.out.imp id fun ⟨d, g, sl, e, hb, hm, hr⟩ => ⟨d, g, sl, e, hb.turn ht (fun f => f), hm.later ht, hr.later ht⟩, h.up, h.len, fun hn => (h.typ hn).imp fun _ ⟨x, sl, e, hb, hk⟩ => ⟨x, sl, e, hb.turn ht (fun f => f), fun k e => (hk k e).imp fun _ hc => hc.turn ht (fun f => f)⟩⟩
theorem DV10.nil (w : World) : DV10 w (.pointer none) [] := ⟨.inl ⟨rfl, rfl⟩, List.Pairwise.nil, Nat.zero_le _, fun h => absurd rfl h⟩
theorem DV10.ptr {w : World} {v : Value} {L : List (List UInt8)} (h : DV10 w v L) : ∃ p, v = .pointer p := by
  rcases h.out with ⟨rfl, _⟩ | ⟨d, g, sl, rfl, _⟩
  · exact ⟨_, rfl⟩
  · exact ⟨_, rfl⟩

theorem len_same_any10 (d : Value) (L : List (List UInt8)) (w : World) (h : DV10 w d L) : Calls Tryz.prog 107 #[d] w fun e w' => e = .returned (.int .i64 (L.length : Int)) ∧ w = w' := by
  rcases h.out with ⟨rfl, rfl⟩ | ⟨d, g, sl, rfl, hb, hm, hr⟩
  · clear h
    go_enter Tryz.func107, Tryz.ntmps107
    go_wp2
    go_ret
    exact ⟨rfl, rfl⟩
  · obtain ⟨A, c, rfl⟩ := hr.shape
    have c1 := hb.cell 1
    clear h hb hm hr
    go_enter Tryz.func107, Tryz.ntmps107
    go_wp2
    go_ret
    exact ⟨rfl, rfl⟩
theorem len_any10 (d : Value) (L : List (List UInt8)) (w : World) (h : DV10 w d L) : Calls Tryz.prog 107 #[d] w fun e w' => e = .returned (.int .i64 (L.length : Int)) ∧ Turn (fun _ => False) w w' :=
  (len_same_any10 d L w h).mono fun _ _ ⟨he, hw⟩ => ⟨he, by rw [← hw]; exact Turn.refl _ w⟩

/-- What is answered. -/
def codeA (x : List UInt8) (L : List (List UInt8)) : Value := .tuple #[.int .i64 (if idxG x L < L.length then (idxG x L : Int) else 0), .bool (decide (idxG x L < L.length))]
def atT (n : Int) (L : List (List UInt8)) : Option (List UInt8) := if 0 ≤ n then L[n.toNat]? else none
def atA (n : Int) (L : List (List UInt8)) : Value := .tuple #[sv10 ((atT n L).getD []), .bool (atT n L).isSome]

set_option maxHeartbeats 2000000 in
theorem code_any10 (d : Value) (L : List (List UInt8)) (x : List UInt8) (w : World) (h : DV10 w d L) : Calls Tryz.prog 52 #[d, sv10 x] w fun e w' => e = .returned (codeA x L) ∧ Turn (fun _ => False) w w' := by
  rcases h.out with ⟨rfl, rfl⟩ | ⟨d, g, sl, rfl, hb, hm, hr⟩
  · clear h
    go_enter Tryz.func52, Tryz.ntmps52
    go_wp2
    go_ret2
    exact ⟨by simp [codeA, idxG], Turn.refl _ w⟩
  · have HG := Lib.hid (oms.get_any x hm)
    rw [numFrom_get rises_bytes x 0 h.up] at HG
    have c0 := hb.cell 0
    clear h hb hm hr
    unfold sv10
    by_cases hi : idxG x L < L.length
    · rw [if_pos hi] at HG
      go_enter Tryz.func52, Tryz.ntmps52
      go_wp2_with (go_at_call 93; refine (HG.out).mono ?_; rintro e w' ⟨rfl, ht⟩; have HT := Lib.hid ht; clear ht; unfold oms.getA)
      go_ret2
      exact ⟨by simp [codeA, hi], HT.out⟩
    · rw [if_neg hi] at HG
      go_enter Tryz.func52, Tryz.ntmps52
      go_wp2_with (go_at_call 93; refine (HG.out).mono ?_; rintro e w' ⟨rfl, ht⟩; have HT := Lib.hid ht; clear ht; unfold oms.getA)
      go_ret2
      exact ⟨by simp [codeA, hi], HT.out⟩

set_option maxHeartbeats 2000000 in
theorem at_any10 (d : Value) (L : List (List UInt8)) (n : Int) (w : World) (h : DV10 w d L) : Calls Tryz.prog 129 #[d, .int .i64 n] w fun e w' => e = .returned (atA n L) ∧ Turn (fun _ => False) w w' := by
  have HLN := Lib.hid (len_same_any10 d L w h)
  obtain ⟨p, rfl⟩ := h.ptr
  by_cases hn : 0 ≤ n ∧ n < L.length
  · obtain ⟨n0, n1⟩ := hn
    obtain ⟨N, rfl⟩ := Int.eq_ofNat_of_zero_le n0
    have hNl : N < L.length := by omega
    obtain ⟨y, hy⟩ : ∃ y, L[N]? = some y := ⟨_, List.getElem?_eq_getElem hNl⟩
    have EA : Hid (atA (N : Int) L = .tuple #[sv10 y, .bool true]) := by show _ = _; unfold atA atT; rw [if_pos n0, Int.toNat_natCast, hy]; rfl
    rcases h.out with ⟨_, rfl⟩ | ⟨d, g, sl, e0, hb, hm, hr⟩
    · simp at hy
    · cases e0
      obtain ⟨A, c, rfl⟩ := hr.shape
      obtain ⟨ad, rfl, hc⟩ := str_at10 hr hy
      have HC := Lib.hid hc
      have c1 := hb.cell 1
      have e1 := hc w (Turn.refl _ w)
      unfold sv10 at e1 EA
      clear h hb hm hr hc hy
      go_enter Tryz.func129, Tryz.ntmps129
      go_wp2_with (go_at_call 107; with_reducible refine (HLN.out).mono ?_; rintro e w' ⟨rfl, rfl⟩)
      go_ret2
      exact ⟨by rw [EA.out]; rfl, Turn.refl _ w⟩
  · have EA : Hid (atA n L = .tuple #[(sv10 []), .bool false]) := by
      show _ = _
      have ey : atT n L = none := by
        unfold atT
        split
        · rw [List.getElem?_eq_none (by omega)]
        · rfl
      unfold atA
      rw [ey]
      rfl
    unfold sv10 at EA
    clear h
    by_cases n0 : n < 0
    · clear hn
      go_enter Tryz.func129, Tryz.ntmps129
      go_wp2_with (go_at_call 107; with_reducible refine (HLN.out).mono ?_; rintro e w' ⟨rfl, rfl⟩)
      go_ret2
      exact ⟨by rw [EA.out]; rfl, Turn.refl _ w⟩
    · have n1 : (L.length : Int) ≤ n := by omega
      clear hn
      go_enter Tryz.func129, Tryz.ntmps129
      go_wp2_with (go_at_call 107; with_reducible refine (HLN.out).mono ?_; rintro e w' ⟨rfl, rfl⟩)
      go_ret2
      exact ⟨by rw [EA.out]; rfl, Turn.refl _ w⟩

end Go.Proofs.YticglepkbihldaaGreat

/-
  append onto a row of one's own that has room: the row stays where it is. No type is named here.
-/
namespace Go.Proofs.YticglepkbihldaaGreat
open Go.RowKit

theorem run_app_room {P : Program} (w : World) (t tx ty e : TypeId) (i : TypeInfo) (ht : P.underlying t = some (.slice e)) (hi : P.info? e = some i)
    (g n cap : Nat) (xs : List Value) (hown : w.ownsRow 0 e i.size (.slice (some ⟨g, 0, none⟩) n cap) n xs) (x : Value) (m : Nat) (news : List Value) (hs : Src P i.size tx x m news w) (hroom : n + m ≤ cap) :
    ∃ w', (Builtin.append_ #[t, tx] ty #[.slice (some ⟨g, 0, none⟩) n cap, x]).run P w = .ok (.slice (some ⟨g, 0, none⟩) (n + m) cap) w' ∧ w'.ownsRow 0 e i.size (.slice (some ⟨g, 0, none⟩) (n + m) cap) (n + m) (xs ++ news) ∧ w.grownBy w' (some g) := by
  have hlen : (xs ++ news).length = (n + m) * i.size := by rw [List.length_append, hown.1, hs.newsLen, Nat.add_mul]
  rcases hown.2 with ⟨e1, _⟩ | ⟨g', cap', cur, e1, hb0, hg, hnc, hcm, hcs, htake⟩
  · cases e1
  · cases e1
    have hfit : n * i.size + news.length ≤ cur.size := by rw [hs.newsLen, hcs, ← Nat.add_mul]; exact Nat.mul_le_mul_right _ hroom
    have hst := run_storeCells_at P g (n * i.size) e news 0 cur w hg (by simpa using hfit) hs.one
    simp only [Nat.add_zero] at hst
    have hr : (Builtin.append_ #[t, tx] ty #[.slice (some ⟨g, 0, none⟩) n cap, x]).run P w =
        .ok (.slice (some ⟨g, 0, none⟩) (n + m) cap) (w.setRow g (cur.toList.take (n * i.size) ++ news ++ cur.toList.drop (n * i.size + news.length)).toArray) := by
      rcases hs.kind with ⟨e', hk⟩ | hk <;> simp [Builtin.append_, run_underlying ht, run_underlying hk, sizeOf, typeInfo, hi, hs.len, hs.cells, hroom, Addr.add_lit, hst]
    refine ⟨_, hr, ⟨hlen, .inr ⟨g, cap, _, rfl, hb0, setRow_heap w g cur _ e _ hg, hroom, hcm, ?_, ?_⟩⟩, ⟨rfl, rfl, rfl, by simp, fun k _ hk => setRow_other w g k _ (fun e => hk (by simp [e]))⟩⟩
    · simp only [List.size_toArray, List.length_append, List.length_take, List.length_drop, Array.length_toList]
      omega
    · rw [htake, ← hlen]
      exact List.take_left
theorem app_room {P : Program} {T : Type} {E : El T} {tS e : TypeId} {z : Value} {by' : Nat} (ht : P.underlying tS = some (.slice e)) (hi0 : (P.info? e).map (fun i => (i.zero, i.size, i.bytes)) = some (some z, E.sz, by'))
    (w : World) (tx ty : TypeId) (g n c : Nat) (l : List T) (hown : OwE E e w (.slice (some ⟨g, 0, none⟩) n c) l) (y : Value) (m : List T) (hy : Src P E.sz tx y m.length (E.flat m) w) (hroom : l.length + m.length ≤ c) :
    ∃ w', (Builtin.append_ #[tS, tx] ty #[.slice (some ⟨g, 0, none⟩) n c, y]).run P w = .ok (.slice (some ⟨g, 0, none⟩) (l.length + m.length) c) w' ∧ OwE E e w' (.slice (some ⟨g, 0, none⟩) (l.length + m.length) c) (l ++ m) ∧ Turn (fun k => k = g) w w' := by
  obtain ⟨i, hi, hz0, h1, h2⟩ := info_parts hi0
  obtain ⟨_, _, hsh⟩ := hown.shape
  obtain rfl : n = l.length := by injection hsh
  unfold OwE at hown
  rw [← h1] at hown hy
  obtain ⟨w', hr, g1, g2⟩ := run_app_room (P := P) w tS tx ty e i ht hi g _ c _ hown y m.length _ hy hroom
  refine ⟨w', hr, ?_, (Turn.refl _ w).grown g2 (fun k _ e => by cases e; rfl)⟩
  unfold OwE
  rw [List.length_append, E.flat_append, ← h1]
  exact g1

/-- append where there is room, in a round of a range over a function. -/
theorem wpListIn_room {F : Fence} {k : Nat} {P : Program} {T : Type} {E : El T} {tS e : TypeId} {z : Value} {by' : Nat} (ht : P.underlying tS = some (.slice e)) (hi0 : (P.info? e).map (fun i => (i.zero, i.size, i.bytes)) = some (some z, E.sz, by'))
    (w : World) {ops : Array Oper} {rest : List Oper} {o : Oper} {a : Act} {Q : Exit → Act → World → Prop} (hgd : o.guard = none) (s x : Operand)
    (ho : o.op = .call { callee := .builtin .append, args := #[s, x], argTypes := #[tS, tS] }) (g n c : Nat) (l : List T) (hs : a.eval s = .slice (some ⟨g, 0, none⟩) n c) (hown : OwE E e w (.slice (some ⟨g, 0, none⟩) n c) l)
    (y : Value) (hx : a.eval x = y) (m : List T) (hy : Src P E.sz tS y m.length (E.flat m) w) (hroom : l.length + m.length ≤ c)
    (h : ∀ w', OwE E e w' (.slice (some ⟨g, 0, none⟩) (l.length + m.length) c) (l ++ m) → Turn (fun k => k = g) w w' → wpListIn F k P ops Q rest (a.put o.dst (.slice (some ⟨g, 0, none⟩) (l.length + m.length) c)) w') :
    wpListIn F k P ops Q (o :: rest) a w := by
  refine wpListIn_plain hgd fun K hK' => ?_
  obtain ⟨w', hrun, r1, r2⟩ := app_room (P := P) ht hi0 w tS o.type g n c l hown y m hy hroom
  unfold Oper.wpIn
  refine ⟨?_, ?_⟩
  · simp [Oper.about, ho, resolve, Target.leads, Sem.run_pure]
  · rw [Oper.semAt_plain F _ _ (by rw [ho]; intro c hc'; cases hc')]
    simp [execOp, ho, resolve, invoke, builtin, hs, hx, hrun, Result.andThen]
    exact hK' _ _ (h w' r1 r2)
/-- A row of one's own holds cells: no record of a loop is in it. -/
theorem holds_own {T : Type} {E : El T} {e : TypeId} {β : Type} (D : Nat) (v : β → Value) (f : β → List T) : Holds D (fun s W => OwE E e W (v s) (f s)) := fun s A B hs ht => by
  refine hs.turn ht fun k hk => ?_
  rintro ⟨_, o, ho, hc⟩
  rcases hs.form with ⟨e1, _⟩ | ⟨g, cap, cur, e1, hb, _⟩
  · rw [e1] at hk; cases hk
  · rw [e1] at hk
    cases hk
    rw [show A.heap[g]? = _ from hb] at ho
    cases ho
    cases hc
/-- Where a row of one's own turns alone, what holds no cells stays. -/
theorem own_still {w w' : World} {g B : Nat} (ht : Turn (fun k => k = g) w w') (hw : ∀ o, w.heap[g]? = some o → o.isCells = true) : Still B w w' := ⟨ht.size, fun k o _ hk ho => by
  by_cases e : k = g
  · subst e
    rw [hw o hk] at ho
    cases ho
  · exact (ht.block k (Array.getElem?_eq_some_iff.1 hk).1 e).trans hk⟩
theorem own_cells {T : Type} {E : El T} {e : TypeId} {w : World} {v : Value} {l : List T} {g : Nat} (h : OwE E e w v l) (hv : v.ownBlock = some g) : ∀ o, w.heap[g]? = some o → o.isCells = true := fun o ho => by
  rcases h.form with ⟨e1, _⟩ | ⟨g', cap, cur, e1, hb, _⟩
  · rw [e1] at hv; cases hv
  · rw [e1] at hv
    cases hv
    rw [show w.heap[g']? = _ from hb] at ho
    cases ho
    rfl
/-- What a range has told: as far as a place of the list, one by one. -/
theorem pre_at10 {A : Type} {L pre : List A} {y : A} (hp : pre ++ [y] <+: L) : L[pre.length]? = some y ∧ pre.length < L.length := by
  obtain ⟨r, hr⟩ := hp
  have h : L[pre.length]? = some y := by
    rw [← hr, List.append_assoc, List.getElem?_append_right (Nat.le_refl _), Nat.sub_self]; rfl
  exact ⟨h, (List.getElem?_eq_some_iff.1 h).1⟩
theorem box_ne10 {w : World} {i g : Nat} {t t' : TypeId} {cs cs' : Array Value} (h : Box w i t cs) (h' : Box w g t' cs') (ht : t ≠ t') : i ≠ g := by
  rintro rfl
  have e := (show w.heap[i]? = _ from h).symm.trans h'
  injection e with e
  injection e with _ e3
  exact ht e3
theorem box_not_own {T : Type} {E : El T} {e t : TypeId} {w : World} {v : Value} {l : List T} {i g : Nat} {cs : Array Value} (h : Box w i t cs) (h' : OwE E e w v l) (hv : v.ownBlock = some g) (ht : e ≠ t) : i ≠ g := by
  rintro rfl
  exact h'.not_box h ht hv

end Go.Proofs.YticglepkbihldaaGreat

/-
  Stage 10: the program's Of: all things put, then told in order, then each with its number (things string).
-/
namespace Go.Proofs.YticglepkbihldaaGreat
open Go.RowKit Go.Shelf
attribute [local go_sem] Oper.semAt_some wide_fn

/-- Behind Of. -/
def Of_any10 (w : World) (l : List (List UInt8)) (e : Ending) (w' : World) : Prop := ∃ d, e = .returned d ∧ DV10 w' d (setG Op.bytesLess l) ∧ d ≠ .pointer none ∧ Turn (fun _ => False) w w'

set_option maxRecDepth 100000 in
set_option maxHeartbeats 8000000 in
theorem of_post_any10 (v : Value) (l : List (List UInt8)) (w : World) (hv : RdE ET10 w v l) (hl : l.length ≤ 20000) : Calls Tryz.prog 51 #[v] w fun e w' => Of_any10 w l e w' := by
  have HV := Lib.hid hv
  obtain ⟨A, c, rfl⟩ := hv.shape
  clear hv
  refine (callsIn_wide (n := 5)).1 ?_
  refine callsIn_of_wp_marks Tryz.func51 rfl trivial ?_ rfl
  simp only [Tryz.ntmps51, List.size_toArray, List.length_cons, List.length_nil, Nat.reduceAdd, Nat.reduceSub, Array.replicate_succ, Array.replicate_zero, List.push_toArray, List.append_toArray, List.nil_append, List.cons_append]
  refine wpIn_wide.2 ?_
  go_wp2_with fail
  refine (oms.new_any _).mono ?_
  rintro e w1 ⟨rfl, hm1, t1⟩
  obtain ⟨g, hg⟩ : ∃ g : Nat, g = w.heap.size := ⟨_, rfl⟩
  rw [← hg] at hm1 ⊢
  have HG := Lib.hid hg
  have HM1 := Lib.hid hm1; have HT1 := Lib.hid t1
  clear hm1 t1 hg
  go_wp2_with fail
  go_loopw [13] (fun x13 wr => ∃ (i : Nat) (M : List ((List UInt8) × Int)), x13 = .int .i64 (i : Int) ∧ i ≤ l.length ∧ oms.MP wr g M ∧ AllPut Op.bytesLess l i M ∧ Turn (fun _ => False) w wr) (fun x13 _ => l.length - (intOf x13).toNat)
  case atStart => exact ⟨0, [], rfl, Nat.zero_le _, HM1.out, AllPut.start l, HT1.out⟩
  case round =>
    obtain ⟨i, M, rfl, hi, hm, hp, ht⟩ := hrel
    have HM := Lib.hid hm; have HP := Lib.hid hp; have HT := Lib.hid ht
    have hml := hp.len
    clear hm hp ht
    by_cases hlt : i < l.length
    · obtain ⟨x, hx⟩ : ∃ x, l[i]? = some x := ⟨_, List.getElem?_eq_getElem hlt⟩
      obtain ⟨ad, rfl, hc⟩ := str_at10 HV.out hx
      have e0 := hc _ HT.out
      unfold sv10 at e0
      have hil : (i : Int) < l.length := by omega
      have HP2 := Lib.hid (HP.out.step rises_bytes hx 0)
      clear hc hx
      go_wp2_with fail
      refine (oms.put_any x 0 HM.out (by omega)).mono ?_
      rintro e w2 ⟨rfl, hm2, t2⟩
      have HM2 := Lib.hid hm2
      have HT2 : Hid (Turn (fun _ => False) w w2) := HT.out.trans t2 (fun k hk e => by have := HG.out; omega)
      clear hm2 t2
      go_wp2
      go_roundw
      case rel => exact ⟨i + 1, _, by go_num, hlt, HM2.out, HP2.out, HT2.out⟩
      case measure => simp [intOf]; omega
    · obtain rfl : i = l.length := by omega
      have HK : Hid (M.map (·.1) = setG Op.bytesLess l) := HP.out.keys rises_bytes
      generalize hL : setG Op.bytesLess l = L at *
      have hLM : M.length = L.length := by rw [← HK.out, List.length_map]
      go_wp2_with fail
      refine (oms.len_any HM.out).mono ?_
      rintro e w2 ⟨rfl, rfl⟩
      rw [hLM] 
      have hmk := made_texts10 L.length (by omega) wr
      have HR0 := Lib.hid (own_texts10 L.length (by omega) wr)
      go_wp2_with fail
      clear hmk
      obtain ⟨R, hR⟩ : ∃ R : Nat, R = wr.heap.size := ⟨_, rfl⟩
      obtain ⟨wb, hwb⟩ : ∃ wb, wb = (wr.alloc (.cells (madeCells #[.string ⟨#[]⟩] L.length) 9)).alloc (.cells #[.slice (some ⟨R, 0, none⟩) 0 L.length] 31) := ⟨_, rfl⟩
      have HTB : Hid (Turn (fun _ => False) wr wb) := by rw [hwb]; exact ((Turn.refl _ wr).alloc _).alloc _
      have HBX : Hid (Box wb (R + 1) 31 #[.slice (some ⟨R, 0, none⟩) 0 L.length]) := by
        rw [hwb, hR]
        have h := Box.new (wr.alloc (.cells (madeCells #[.string ⟨#[]⟩] L.length) 9)) 31 #[.slice (some ⟨wr.heap.size, 0, none⟩) 0 L.length]
        rw [World.size_alloc] at h
        exact h
      have HRO : Hid (OwE ET10 9 wb (.slice (some ⟨R, 0, none⟩) 0 L.length) []) := by
        rw [hwb, hR]
        exact HR0.out.turn ((Turn.refl (fun _ => False) _).alloc _) (fun _ _ f => f)
      have HGR : Hid (g < R) := by obtain ⟨_, _, hb, _⟩ := HM.out.out; rw [hR]; exact hb.lt
      rw [← hR]
      rw [← hwb]
      clear hwb hR HR0
      refine (oms.all_any (HM.out.later HTB.out)).mono ?_
      rintro e w5 ⟨q1, q2, rfl, hr⟩
      have HRA := Lib.hid hr
      have HB5 := Lib.hid (HBX.out.turn hr.turn (fun f => f))
      have HO5 := Lib.hid (HRO.out.later hr.turn)
      have HT5 : Hid (Turn (fun _ => False) wr w5) := HTB.out.trans hr.turn (fun _ _ f => f)
      have HM5 := Lib.hid (HM.out.later HT5.out)
      have HTW5 : Hid (Turn (fun _ => False) w w5) := HT.out.trans HT5.out (fun _ _ f => f)
      obtain ⟨A5, x5, hq1, hq2, -, -⟩ := hr.out
      have hz := HBX.out.lt
      have HQ : Hid (R + 1 < q1 ∧ R + 1 < q2 ∧ q1 < w5.heap.size ∧ q2 < w5.heap.size ∧ R + 1 < w5.heap.size) := ⟨by have := hr.new1; omega, by have := hr.new2; omega, hq1.lt, hq2.lt, HB5.out.lt⟩
      clear hr hq1 hq2 hz
      unfold oms.RisV
      go_wp2_with fail
      refine (wpIn_wide (n := 5)).1 ?_
      refine' over2 (n := 5) (by omega) (gf := 134) (lb := #[.pointer (some ⟨q1, 0, none⟩), .pointer (some ⟨q2, 0, none⟩)]) rfl (enters_of Tryz.func134 (by kernel_rfl) rfl)
        (oms.all_feeds 4 HRA.out (fun k => k = R ∨ k = R + 1 ∨ k = w5.heap.size + 1) (by have := HQ.out; omega) (by have := HQ.out; omega) ⟨fun g cs hb e => by
          rcases e with e | e | e
          · exact box_not_own hb HO5.out rfl (by decide) e
          · exact box_ne10 hb HB5.out (by decide) e
          · have := hb.lt; omega⟩) (Turn.refl _ _) (Or.inr (Or.inr rfl)) (fun k e => by have := HQ.out; omega) (fun pre => fun _ _ _ h _ => h) (fun _ => rfl)
        (fun (pre : List ((List UInt8) × Int)) V => Box V (R + 1) 31 #[.slice (some ⟨R, 0, none⟩) pre.length L.length] ∧ OwE ET10 9 V (.slice (some ⟨R, 0, none⟩) pre.length L.length) (pre.map (·.1)) ∧ Turn (fun k => k = R ∨ k = R + 1) w5 V)
        (fun _ _ _ => False) (Holds.and (holds_box _ _ _ (fun (pre : List ((List UInt8) × Int)) => #[.slice (some ⟨R, 0, none⟩) pre.length L.length])) (Holds.and (holds_own _ (fun (pre : List ((List UInt8) × Int)) => .slice (some ⟨R, 0, none⟩) pre.length L.length) (fun pre => pre.map (·.1))) (holds_turn (fun k h1 h2 => by omega)))) (fun _ _ _ _ h _ => h) ⟨HB5.out, HO5.out, Turn.refl _ _⟩ _ ?assign ?body ?done ?stop
      case assign =>
        intro l0 x W K hK
        have HK := Lib.hid hK; clear hK
        gi_wp2
        exact HK.out
      case stop =>
        rintro D c0 pre V _ _ h _
        exact h.elim
      case body =>
        rintro l0 pre y V ⟨hb, ho, ht⟩ hgv
        obtain ⟨k, n⟩ := y
        dsimp only
        have cB := hb.cell 0
        have fB := hb.free 0
        have hpl := (pre_at10 hgv).2
        have HB := Lib.hid hb; have HO := Lib.hid ho; have HTV := Lib.hid ht
        clear hb ho ht hgv
        have hpn : (pre.map (·.1)).length = pre.length := List.length_map _
        have HN1 := Lib.hid (HO.out.later ((Turn.refl (fun _ => False) V).alloc (.cells #[(sv10 k)] 9)))
        have HSR := Lib.hid ((one_row ET10 9 V k).src Tryz.underlying31)
        gi_wp2_with (gi_at_builtin; refine wpListIn_room Tryz.underlying31 str_info10 _ rfl _ _ rfl R pre.length L.length _ rfl HN1.out _ rfl [k] HSR.out (by rw [hpn]; simp only [List.length_cons, List.length_nil]; omega) ?_; intro w6 ho6 ht6; have HO6 := Lib.hid ho6; have HT6 := Lib.hid ht6; have b6 := (HB.out.turn ((Turn.refl (fun _ => False) V).alloc (.cells #[(sv10 k)] 9)) (fun f => f)).turn ht6 (by omega); have c6 := b6.cell 0; have f6 := b6.free 0; have HB6 := Lib.hid b6; clear ho6 ht6 b6)
        have e9 : (pre ++ [(k, n)] : List ((List UInt8) × Int)).length = pre.length + 1 := by rw [List.length_append]; rfl
        have HT16 : Hid (Turn (fun k => k = R ∨ k = R + 1) V w6) := ((Turn.refl (fun k => k = R ∨ k = R + 1) V).alloc (.cells #[(sv10 k)] 9)).trans HT6.out (fun _ _ e => .inl e)
        refine ⟨?_, ?_, ?_⟩
        · exact (Still.turned ((Turn.refl (fun _ => False) V).alloc (.cells #[(sv10 k)] 9))).trans ((own_still HT6.out (own_cells HN1.out rfl)).trans (Still.setCell _ _ _))
        · exact (HT16.out.mono (fun _ _ e => e.imp id .inl)).setCell (p := ⟨R + 1, 0, none⟩) (fun _ => .inr (.inl rfl)) _
        · refine ⟨?_, ?_, ?_⟩
          · rw [e9]
            exact HB6.out.set 0 (.slice (some ⟨R, 0, none⟩) (pre.length + 1) L.length)
          · rw [e9, List.map_append]
            have h := HO6.out.turn ((Turn.refl (fun k => k = R + 1) w6).setCell (p := ⟨R + 1, 0, none⟩) (fun _ => rfl) (.slice (some ⟨R, 0, none⟩) (pre.length + 1) L.length)) (fun k hk e => by simp only [Value.ownBlock, Option.some.injEq] at hk; omega)
            rw [hpn] at h
            exact h
          · exact (HTV.out.trans HT16.out (fun _ _ e => e)).setCell (p := ⟨R + 1, 0, none⟩) (fun _ => .inr rfl) _
      case done =>
        rintro D xs V hD hA ⟨hb, ho, ht⟩ hK
        obtain rfl : xs = M := hA
        have hm5 : oms.MP V g xs := HM5.out.turn ht (fun e => by have := HGR.out; omega) (fun i cs hi e => by
          rcases e with e | e
          · exact box_not_own hi HO5.out rfl (by decide) e
          · exact box_ne10 hi HB5.out (by decide) e)
        have hbr : ∃ cs, Box V R 9 cs := by
          rcases ho.form with ⟨e1, _⟩ | ⟨g', cap, cur, e1, hb', _⟩
          · cases e1
          · have e2 := congrArg Value.ownBlock e1
            simp only [Value.ownBlock, Option.some.injEq] at e2
            subst e2
            exact ⟨_, hb'⟩
        have HBR := Lib.hid hbr
        clear hbr
        have hrd := ho.rd
        rw [HK.out, hLM] at hrd
        rw [hLM] at hb
        have cB := hb.cell 0
        have HB := Lib.hid hb; have HR := Lib.hid hrd; have HTV := Lib.hid ht; have HMV := Lib.hid hm5; have HKD := Lib.hid hK; have HDD := Lib.hid hD
        clear hb ho ht hm5 hK hD hrd
        have HN0 : Hid (oms.MP V g (Numbered L xs 0)) := by show oms.MP _ _ _; rw [numbered_start]; exact HMV.out
        go_wp2_with fail
        go_loopw [34] (fun x34 wz => ∃ j : Nat, x34 = .int .i64 (j : Int) ∧ j ≤ L.length ∧ oms.MP wz g (Numbered L xs j) ∧ Turn (fun k => k = g) V wz) (fun x34 _ => L.length - (intOf x34).toNat)
        case atStart => exact ⟨0, rfl, Nat.zero_le _, HN0.out, Turn.refl _ _⟩
        case round =>
          obtain ⟨j, rfl, hj, hmz, htz⟩ := hrel
          have HMZ := Lib.hid hmz; have HTZ := Lib.hid htz
          have hrz := HR.out.turn htz (fun b hb e => by simp only [Value.ownBlock, Option.some.injEq] at hb; have := HGR.out; omega)
          have HRZ := Lib.hid hrz
          clear hmz htz
          by_cases hlt2 : j < L.length
          · obtain ⟨x, hx⟩ : ∃ x, L[j]? = some x := ⟨_, List.getElem?_eq_getElem hlt2⟩
            obtain ⟨ad, ead, hc⟩ := str_at10 hrz hx
            cases ead
            have e0 := hc _ (Turn.refl _ _)
            rw [own_add] at e0
            unfold sv10 at e0
            have hjl : (j : Int) < L.length := by omega
            have HNX := Lib.hid (numbered_step rises_bytes HK.out hx HMZ.out.up)
            have HNL := Lib.hid (numbered_len (L := L) HK.out j)
            clear hc hx hrz
            go_wp2_with fail
            refine (oms.put_any x (j : Int) HMZ.out (by rw [HNL.out]; omega)).mono ?_
            rintro e w7 ⟨rfl, hm7, t7⟩
            rw [HNX.out] at hm7
            have HM7 := Lib.hid hm7
            have HT7 : Hid (Turn (fun k => k = g) V w7) := HTZ.out.trans t7 (fun _ _ e => e)
            clear hm7 t7
            go_wp2
            go_roundw
            case rel => exact ⟨j + 1, by go_num, hlt2, HM7.out, HT7.out⟩
            case measure => simp [intOf]; omega
          · obtain rfl : j = L.length := by omega
            have hmz := HMZ.out
            rw [numbered_end HK.out] at hmz
            have HME := Lib.hid hmz
            have hbz := HB.out.turn HTZ.out (by have := HGR.out; omega)
            have cz := hbz.cell 0
            have HKZ : Hid (wr.heap[D]? = some (.deferred (some []))) := ((HTZ.out.block D (Array.getElem?_eq_some_iff.1 HKD.out).1 (by have := HGR.out; have := HDD.out; have := HQ.out; omega)).trans HKD.out)
            clear hmz hbz hrz cB
            go_wp2
            have k1 : (wr.alloc (.cells #[.pointer (some ⟨g, 0, none⟩), .slice (some ⟨R, 0, none⟩) L.length L.length] 141)).heap[D]? = some (.deferred (some [])) := (Below.heap_alloc wr _ D (Array.getElem?_eq_some_iff.1 HKZ.out).1).trans HKZ.out
            have b9 : Box (wr.alloc (.cells #[.pointer (some ⟨g, 0, none⟩), .slice (some ⟨R, 0, none⟩) L.length L.length] 141)) wr.heap.size 141 #[.pointer (some ⟨g, 0, none⟩), .slice (some ⟨R, 0, none⟩) L.length L.length] := Box.new _ _ _
            have t9 : Turn (fun _ => False) wr (wr.alloc (.cells #[.pointer (some ⟨g, 0, none⟩), .slice (some ⟨R, 0, none⟩) L.length L.length] 141)) := (Turn.refl _ wr).alloc _
            have m9 := HME.out.later t9
            have r9 := HRZ.out.later t9
            have HR9 : Hid (∃ cs, Box (wr.alloc (.cells #[.pointer (some ⟨g, 0, none⟩), .slice (some ⟨R, 0, none⟩) L.length L.length] 141)) R 9 cs) := HBR.out.imp fun cs hc => (hc.turn HTZ.out (by have := HGR.out; omega)).turn t9 (fun f => f)
            have hwr : w.heap.size ≤ g := by rw [HG.out]; exact Nat.le_refl _
            have tall : Turn (fun _ => False) w (wr.alloc (.cells #[.pointer (some ⟨g, 0, none⟩), .slice (some ⟨R, 0, none⟩) L.length L.length] 141)) :=
              ((HTW5.out.trans HTV.out (fun k hk e => by have := HGR.out; omega)).trans HTZ.out (fun k hk e => by omega)).trans t9 (fun _ _ f => f)
            generalize wr.alloc (.cells #[.pointer (some ⟨g, 0, none⟩), .slice (some ⟨R, 0, none⟩) L.length L.length] 141) = w9 at *
            have u1 : Turn (fun k => k = D) w9 (w9.putObj D (.deferred none)) := Turn.putObj _ D _ rfl
            have hnc : ∀ i t cs, Box w9 i t cs → ¬ i = D := fun i t cs hb e => by rw [← e, show w9.heap[i]? = _ from hb] at k1; cases k1
            refine ⟨by simp, .inl ⟨_, _, rfl, run_takeDeferred k1, ?_⟩⟩
            refine ⟨.pointer (some ⟨wr.heap.size, 0, none⟩), ?_, ?_⟩
            · simp [results, Tryz.f51, go_sem]
            · have hset := setG_is Op.bytesLess rises_bytes l
              rw [hL] at hset
              have hDg : w.heap.size ≤ D := Nat.le_trans (HT.out.trans HT5.out (fun _ _ f => f)).size HDD.out
              obtain ⟨_, _, hbg, _⟩ := m9.out
              have hfin : DV10 (w9.putObj D (.deferred none)) (.pointer (some ⟨wr.heap.size, 0, none⟩)) L := by
                refine ⟨.inr ⟨wr.heap.size, g, .slice (some ⟨R, 0, none⟩) L.length L.length, rfl, b9.turn u1 (hnc _ _ _ b9), m9.turn u1 (hnc _ _ _ hbg) (fun i cs hb => hnc _ _ _ hb), r9.turn u1 ?_⟩, hset.1, by omega, fun _ => ⟨wr.heap.size, _, _, rfl, b9.turn u1 (hnc _ _ _ b9), fun k hk => by
                  simp only [Value.ownBlock, Option.some.injEq] at hk
                  subst hk
                  exact HR9.out.imp fun cs hc => hc.turn u1 (hnc _ _ _ hc)⟩⟩
                intro b hb e
                simp only [Value.ownBlock, Option.some.injEq] at hb
                have h0 := HDD.out; have h1 := HQ.out
                omega
              rw [← hL] at hfin
              exact ⟨_, rfl, hfin, (fun e => by cases e), tall.trans u1 (fun k hk e => by omega)⟩

end Go.Proofs.YticglepkbihldaaGreat
