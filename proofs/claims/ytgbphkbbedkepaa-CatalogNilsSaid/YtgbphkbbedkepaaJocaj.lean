/-
  Texts laid one behind the other: Ip Iq Ih Ez R4q R4r R4m R4n.
-/
import Derived.Test.YtgbphkbbedkepaaJocai
import Derived.Sort.BigQuietIn
import Derived.Test.YtgbphkbbedkepaaJocab

/-
  A range over a function, its loop variable boxed, what a round may turn bounded: so that an iterator may range over another one and keep boxes of its own (over6, over7: over4, over5 for Feeds). No type is named.
-/
namespace Go.Proofs.Ytgbphkbbedkepaa
open Go.RowKit

/-- over4 for Feeds. -/
theorem over6 {α : Type} {n : Nat} {g : Operand} {ps : Array Tmp} {assign body : Code} {Q : Exit → Act → World → Prop} {a : Act} {w w0 : World} (h1 : 1 ≤ n)
    {gf : Nat} {lb : Array Value} (hg : a.eval g = .func (.func gf) #[] lb) (eg : ∀ args w, (callFunc gf args).run Try.prog w = .ok (.enter gf args) w)
    {encs : α → Array Value} {S : Nat → Prop} {Gv : List α → α → World → Prop} {All Part : List α → Prop} (hseq : Feeds (n - 1) gf lb encs S Gv All Part w0) (hb0 : Turn (fun _ => False) w0 w)
    (hS : S (w.heap.size + 1)) (hS2 : ∀ k, S k → k < w.heap.size + 2) (hps : ∀ x, (encs x).size = ps.size)
    (I : List α → World → Prop) (Ix : Code → List α → World → Prop) (hI : Holds w.heap.size I) (hIx : ∀ c, Holds w.heap.size (Ix c)) (h0 : I [] w) (I2 : List α → α → Act → World → Prop) (hI2 : ∀ pre x a' A B, I2 pre x a' A → Turn (odd w.heap.size A) A B → I2 pre x a' B)
    (hassign : ∀ (l : Nat) (pre : List α) (x : α) (W : World) (K : Act → World → Prop), I pre W → Gv pre x W → (∀ a' W', I2 pre x a' W' → Turn (fun _ => False) W W' → K a' W') →
      assign.wpIn (Fence.wide.inRound l) (n - 1 - 1) Try.prog (Exit.then K (fun _ _ _ => False)) { tmps := (ps.zip (encs x)).foldl (fun t (p, v) => t.setIfInBounds p v) a.tmps, defers := [] } W)
    (hbody : ∀ (l : Nat) (pre : List α) (x : α) (a' : Act) (W : World), I2 pre x a' W → body.wpIn (Fence.wide.inRound l) (n - 1 - 1) Try.prog (postF w.heap.size S I Ix (pre ++ [x]) W) a' W)
    (hdone : ∀ (D : Nat) (xs : List α) (W : World), w.heap.size ≤ D → All xs → I xs W → W.heap[D]? = some (.deferred (some [])) → Q .normal { a with defers := { target := .collected D, args := #[] } :: a.defers } W)
    (hstop : ∀ (D : Nat) (c : Code) (pre : List α) (W : World), w.heap.size ≤ D → Part pre → Ix c pre W → W.heap[D]? = some (.deferred (some [])) → c.wpIn Fence.wide n Try.prog Q { a with defers := { target := .collected D, args := #[] } :: a.defers } W) :
    (Code.rangeFunc g ps assign body).wpIn Fence.wide n Try.prog Q a w := by
  refine wpIn_rangeFunc fun fn hfn => ?_
  obtain ⟨R, hR⟩ : ∃ R : LoopState → Option Code → Obj, R = fun st pe => .loop { state := st, pending := pe, fn, tmps := a.tmps, params := ps, assign, body, defers := w.heap.size } := ⟨_, rfl⟩
  -- the two blocks of the statement: the rounds' deferred calls, and its record, in a state
  obtain ⟨Bk, hBk⟩ : ∃ Bk : LoopState → Option Code → World → Prop, Bk = fun st pe W => W.heap[w.heap.size + 1]? = some (R st pe) ∧ W.heap[w.heap.size]? = some (.deferred (some [])) := ⟨_, rfl⟩
  obtain ⟨W1, hW1⟩ : ∃ W1, (w.alloc (.deferred (some []))).alloc (R .ready none) = W1 := ⟨_, rfl⟩
  have hsz : W1.heap.size = w.heap.size + 2 := by rw [← hW1]; simp
  have t1 : Turn (fun _ => False) w W1 := by rw [← hW1]; exact ((Turn.refl _ w).alloc _).alloc _
  have k1 : Bk .ready none W1 := by
    rw [hBk]
    refine ⟨?_, ?_⟩
    · have := World.alloc_heap_new (w.alloc (.deferred (some []))) (R .ready none)
      rw [World.size_alloc] at this
      rw [← hW1]
      exact this
    · rw [← hW1]
      exact (Below.heap_alloc _ _ _ (by simp)).trans (World.alloc_heap_new w _)
  have move : ∀ {D : Nat} {st : LoopState} {pe : Option Code} {A B : World}, w.heap.size + 2 ≤ D → Turn (odd D A) A B → Bk st pe A → Bk st pe B := by
    intro D st pe A B hD ht hk
    rw [hBk] at hk ⊢
    have far : ∀ k, k < w.heap.size + 2 → k < A.heap.size → B.heap[k]? = A.heap[k]? := fun k hk1 hk2 => ht.block k hk2 (fun s => by have := s.1; omega)
    exact ⟨(far _ (by omega) (Array.getElem?_eq_some_iff.1 hk.1).1).trans hk.1, (far _ (by omega) (Array.getElem?_eq_some_iff.1 hk.2).1).trans hk.2⟩
  have put : ∀ {st st' : LoopState} {pe pe' : Option Code} {A : World}, Bk st pe A → Bk st' pe' (A.putObj (w.heap.size + 1) (R st' pe')) ∧ Turn (odd w.heap.size A) A (A.putObj (w.heap.size + 1) (R st' pe')) ∧ Turn S A (A.putObj (w.heap.size + 1) (R st' pe')) := by
    intro st st' pe pe' A hk
    rw [hBk] at hk ⊢
    refine ⟨⟨World.putObj_heap_same (Array.getElem?_eq_some_iff.1 hk.1).1, (World.putObj_heap_other (by omega)).trans hk.2⟩, Turn.putObj _ _ _ ⟨by omega, _, hk.1, ?_⟩, Turn.putObj _ _ _ hS⟩
    rw [hR]
    rfl
  have keep : ∀ {st : LoopState} {pe : Option Code} {A B : World}, Still w.heap.size A B → Bk st pe A → Bk st pe B := by
    intro st pe A B h hk
    rw [hBk] at hk ⊢
    exact ⟨h.same _ _ (Nat.le_succ _) hk.1 (by rw [hR]; rfl), h.same _ _ (Nat.le_refl _) hk.2 rfl⟩
  refine ⟨w.heap.size + 1, [{ target := .collected w.heap.size, args := #[] }], W1, { target := .fn (.func gf) lb, args := #[.func (.yield (w.heap.size + 1)) #[] #[]] }, W1, gf,
    #[.func (.yield (w.heap.size + 1)) #[] #[]] ++ lb, W1, ?_, ?_, ?_, ?_, fun _ => h1, ?_⟩
  · rw [← hW1, hR]
    exact run_enterLoop_outer _ _ _ _ _
  · simp only [resolve, hg]
    simp [go_sem]
  · intro f' _
    trivial
  · simp [invoke, go_sem, eg]
  · refine (hseq (w.heap.size + 1) (fun pre W => I pre W ∧ Bk .ready none W) (fun pre W => ∃ c, Ix c pre W ∧ Bk .done (some c) W) W1 (hb0.trans t1 (fun _ _ f => f)) (by omega) (fun k hk => by have := hS2 k hk; omega)
      (fun s A B hs ht => ⟨(hI.le (by omega)) s A B hs.1 ht, move (by omega) ht hs.2⟩)
      (fun s A B hs ht => by
        obtain ⟨c, hc, hk⟩ := hs
        exact ⟨c, ((hIx c).le (by omega)) s A B hc ht, move (by omega) ht hk⟩)
      ?_ ⟨hI _ _ _ h0 t1.none, k1⟩).mono ?_
    · rintro pre x W ⟨hi, hk⟩ hgv
      have hl : W.heap[w.heap.size + 1]? = some (R .ready none) := by rw [hBk] at hk; exact hk.1
      rw [hR] at hl
      have hy := run_yield (P := Try.prog) (args := encs x) hl (hps x)
      refine ⟨fn, _, assign, body, hy, roundIn_of_wpIn hfn (hassign _ pre x W _ hi hgv fun a5 W5 hx5 ht5 => ?_)⟩
      have hk5 : Bk .ready none W5 := by
        rw [hBk] at hk ⊢
        exact ⟨(ht5.block _ (Array.getElem?_eq_some_iff.1 hk.1).1 (fun f => f)).trans hk.1, (ht5.block _ (Array.getElem?_eq_some_iff.1 hk.2).1 (fun f => f)).trans hk.2⟩
      have hl5 : W5.heap[w.heap.size + 1]? = some (R .ready none) := by rw [hBk] at hk5; exact hk5.1
      rw [hR] at hl5
      refine ⟨_, run_beginRound hl5 rfl, ?_⟩
      have hp := put (st' := .busy) (pe' := none) hk5
      rw [hR] at hp
      refine wpIn_mono (hbody _ pre x a5 _ (hI2 _ _ _ _ _ hx5 hp.2.1)) ?_
      have ends : ∀ (jump : Option Code) (W3 : World), Still w.heap.size (W5.putObj (w.heap.size + 1) (.loop { state := .busy, pending := none, fn, tmps := a.tmps, params := ps, assign, body, defers := w.heap.size })) W3 →
          ∃ W4, (Instr.endRound (w.heap.size + 1) jump).run Try.prog W3 = .ok (.bool jump.isNone) W4 ∧ Bk (if jump.isNone then .ready else .done) jump W4 ∧ Turn (odd w.heap.size W3) W3 W4 ∧ Turn S W3 W4 ∧ Still (w.heap.size + 1 + 1) W W4 := by
        intro jump W3 hk3
        have h3 := keep hk3 hp.1
        have hl3 : W3.heap[w.heap.size + 1]? = some (R .busy none) := by rw [hBk] at h3; exact h3.1
        have h4 := put (st' := if jump.isNone then .ready else .done) (pe' := jump) h3
        rw [hR] at hl3 h4
        exact ⟨_, run_endRound jump hl3, h4.1, h4.2.1, h4.2.2, (((Still.turned ht5).trans (Still.put W5 _ _ (Nat.lt_succ_self _))).trans (hk3.le (by omega))).trans (Still.put W3 _ _ (Nat.lt_succ_self _))⟩
      rintro e a3 W3 hpost
      cases e with
      | normal =>
        obtain ⟨hk3, ht3, hi3⟩ := hpost
        obtain ⟨W4, hr, hb4, ht4, hu4, hs4⟩ := ends none W3 hk3
        exact ⟨_, _, hr, .inl ⟨rfl, ⟨hI _ _ _ hi3 ht4, hb4⟩, ((ht5.none.trans hp.2.2 (fun _ _ s => s)).trans ht3 (fun _ _ s => s)).trans hu4 (fun _ _ s => s), hs4⟩⟩
      | ret =>
        obtain ⟨hk3, hi3⟩ := hpost
        obtain ⟨W4, hr, hb4, ht4, hu4, hs4⟩ := ends (some .ret) W3 hk3
        exact ⟨_, _, hr, .inr ⟨rfl, ⟨.ret, hIx _ _ _ _ hi3 ht4, hb4⟩, hs4⟩⟩
      | exit id =>
        obtain ⟨hk3, hi3⟩ := hpost
        obtain ⟨W4, hr, hb4, ht4, hu4, hs4⟩ := ends (some (.exit id)) W3 hk3
        exact ⟨_, _, hr, .inr ⟨rfl, ⟨.exit id, hIx _ _ _ _ hi3 ht4, hb4⟩, hs4⟩⟩
      | goto t =>
        obtain ⟨hk3, hi3⟩ := hpost
        obtain ⟨W4, hr, hb4, ht4, hu4, hs4⟩ := ends (some (.goto t)) W3 hk3
        exact ⟨_, _, hr, .inr ⟨rfl, ⟨.goto t, hIx _ _ _ _ hi3 ht4, hb4⟩, hs4⟩⟩
      | panic ch => exact hpost.elim
      | outgrown => exact hpost.elim
    · have shut : ∀ {st : LoopState} {pe : Option Code} {W2 : World}, st ≠ .busy → Bk st pe W2 → ∃ W3, (Instr.endLoop (w.heap.size + 1)).run Try.prog W2 = .ok pe W3 ∧ W3.heap[w.heap.size]? = some (.deferred (some [])) ∧ Turn (odd w.heap.size W2) W2 W3 := by
        intro st pe W2 hst hk
        have hl : W2.heap[w.heap.size + 1]? = some (R st pe) := by rw [hBk] at hk; exact hk.1
        have h4 := put (st' := .exhausted) (pe' := pe) hk
        have h5 : (W2.putObj (w.heap.size + 1) (R .exhausted pe)).heap[w.heap.size]? = some (.deferred (some [])) := by have h6 := h4.1; rw [hBk] at h6; exact h6.2
        rw [hR] at hl h4 h5
        exact ⟨_, run_endLoop hl hst, h5, h4.2.1⟩
      rintro e W2 ⟨⟨v, rfl⟩, (⟨xs, hA, hi, hk⟩ | ⟨pre, hP, c, hi, hk⟩)⟩
      · obtain ⟨W3, hr, hd, ht⟩ := shut (by simp) hk
        exact ⟨none, W3, hr, hdone _ xs _ (Nat.le_refl _) hA (hI _ _ _ hi ht) hd⟩
      · obtain ⟨W3, hr, hd, ht⟩ := shut (by simp) hk
        exact ⟨some c, W3, hr, hstop _ c pre _ (Nat.le_refl _) hP (hIx c _ _ _ hi ht) hd⟩
/-- over5 for Feeds. -/
theorem over7 {α : Type} {n : Nat} {g : Operand} {ps : Array Tmp} {assign body : Code} {Q : Exit → Act → World → Prop} {a : Act} {w w0 : World} (h1 : 1 ≤ n)
    {gf : Nat} {lb : Array Value} (hg : a.eval g = .func (.func gf) #[] lb) (eg : ∀ args w, (callFunc gf args).run Try.prog w = .ok (.enter gf args) w)
    {encs : α → Array Value} {S : Nat → Prop} {Gv : List α → α → World → Prop} {All Part : List α → Prop} (hseq : Feeds (n - 1) gf lb encs S Gv All Part w0) (hb0 : Turn (fun _ => False) w0 w)
    (hS : S (w.heap.size + 1)) (hS2 : ∀ k, S k → k < w.heap.size + 2) (hps : ∀ x, (encs x).size = ps.size) (A : α → Nat → Act)
    (I : List α → World → Prop) (Ix : Code → List α → World → Prop) (hI : Holds w.heap.size I) (hIx : ∀ c, Holds w.heap.size (Ix c)) (h0 : I [] w) (I2 : List α → α → Nat → World → Prop) (hI2 : ∀ pre x q A B, I2 pre x q A → Turn (odd w.heap.size A) A B → I2 pre x q B)
    (hassign : ∀ (l : Nat) (pre : List α) (x : α) (W : World) (K : Act → World → Prop), I pre W → Gv pre x W → (∀ q W', I2 pre x q W' → Turn (fun _ => False) W W' → K (A x q) W') →
      assign.wpIn (Fence.wide.inRound l) (n - 1 - 1) Try.prog (Exit.then K (fun _ _ _ => False)) { tmps := (ps.zip (encs x)).foldl (fun t (p, v) => t.setIfInBounds p v) a.tmps, defers := [] } W)
    (hbody : ∀ (l : Nat) (pre : List α) (x : α) (q : Nat) (W : World), I2 pre x q W → body.wpIn (Fence.wide.inRound l) (n - 1 - 1) Try.prog (postF w.heap.size S I Ix (pre ++ [x]) W) (A x q) W)
    (hdone : ∀ (D : Nat) (xs : List α) (W : World), w.heap.size ≤ D → All xs → I xs W → W.heap[D]? = some (.deferred (some [])) → Q .normal { a with defers := { target := .collected D, args := #[] } :: a.defers } W)
    (hstop : ∀ (D : Nat) (c : Code) (pre : List α) (W : World), w.heap.size ≤ D → Part pre → Ix c pre W → W.heap[D]? = some (.deferred (some [])) → c.wpIn Fence.wide n Try.prog Q { a with defers := { target := .collected D, args := #[] } :: a.defers } W) :
    (Code.rangeFunc g ps assign body).wpIn Fence.wide n Try.prog Q a w :=
  over6 h1 hg eg hseq hb0 hS hS2 hps I Ix hI hIx h0 (fun pre x a' W => ∃ q, a' = A x q ∧ I2 pre x q W) (fun pre x a' B C ⟨q, h, k⟩ ht => ⟨q, h, hI2 pre x q B C k ht⟩)
    (fun l pre x W K hi hgv hK => hassign l pre x W K hi hgv fun q W' h ht => hK _ _ ⟨q, rfl, h⟩ ht)
    (fun l pre x a' W ⟨q, h, k⟩ => by subst h; exact hbody l pre x q W k) hdone hstop

end Go.Proofs.Ytgbphkbbedkepaa

/-
  A region that draws its order and only reads, in a round of a range over a function: one walk of the text's order serves every order.
-/
namespace Go.Proofs.Ytgbphkbbedkepaa
open Go.RowKit

def noDefer : Op → Bool
  | .defer _ => false
  | _ => true
theorem noDefer_ne {o : Op} (h : noDefer o = true) : ∀ c, o ≠ .defer c := by
  rintro c rfl
  cases h

section
variable {F : Fence} {n : Nat} {P : Program} {C : World → Prop} {ops : Array Oper} {md : Region.Mode}

theorem quiet_op {o : Oper} {a : Act} {K : Act → Prop} {K' : Act → World → Prop} {Q' : Exit → Act → World → Prop} {w : World} (hd : noDefer o.op = true) (hw : C w) (h : ∀ a w', C w' → K a → K' a w')
    (ha : o.askedIn F P a C) (hh : o.quietIn F n P a C K) : o.wpIn F n P a w K' Q' := by
  obtain ⟨v, h1, h2⟩ := hh
  have h3 := h1 w hw
  unfold Oper.quietAtIn at h3
  unfold Oper.wpIn
  rw [Oper.semAt_eq _ _ _ (noDefer_ne hd)]
  refine ⟨ha w hw, ?_⟩
  generalize (execOp a.eval o).run P w = r at *
  rcases r with ⟨x, w'⟩ | ⟨x, w'⟩
  · cases x <;> simp only [Oper.quietUponIn] at h3 <;> simp only [Oper.uponIn]
    case value u =>
      rw [h3.1, h3.2]
      exact h _ _ hw h2
    case skip =>
      rw [h3.1, ← h3.2]
      exact h _ _ hw h2
    case enter f args =>
      rw [h3.1]
      exact ⟨h3.2.1, h3.2.2.mono fun e w'' ⟨he, hw''⟩ => by subst he; exact h _ _ hw'' h2⟩
  · simp only [Oper.quietUponIn] at h3

theorem quiet_at (hnd : ∀ o ∈ ops.toList, noDefer o.op = true) {i : Nat} {a : Act} {K : Act → Prop} {K' : Act → World → Prop} {Q' : Exit → Act → World → Prop} {w : World} (hC : C w) (h : ∀ a w', C w' → K a → K' a w')
    (hh : qOpIn F n P ops C i K a) : wpOpIn F n P ops Q' i K' a w := by
  unfold qOpIn at hh
  unfold wpOpIn
  cases ho : ops[i]? with
  | none =>
    simp only [ho] at hh
    exact h _ _ hC hh
  | some o =>
    simp only [ho] at hh
    have hm : noDefer o.op = true := hnd o (Array.mem_toList_iff.2 (Array.mem_of_getElem? ho))
    by_cases hw : Region.wanted o (yielded ops a.tmps)
    · simp only [hw, if_true] at hh ⊢
      exact quiet_op hm hC h hh.1 hh.2
    · simp only [hw] at hh ⊢
      exact ⟨hh.1 w hC, h _ _ hC hh.2⟩

theorem quiet_any (hnd : ∀ o ∈ ops.toList, noDefer o.op = true) {Q : Act → Prop} {Q' : Exit → Act → World → Prop} (hQ : ∀ a w, C w → Q a → Q' .normal a w) : ∀ (fuel : Nat) (listed : Array Bool) (a : Act) (w : World), C w →
    wpAnyQIn F n P md ops C Q fuel listed a → wpAnyIn F n P md ops Q' fuel listed a w
  | 0, _, _, _, hw, h => ⟨h.1, hQ _ _ hw h.2⟩
  | fuel + 1, _, _, _, hw, h => ⟨fun h0 => hQ _ _ hw (h.1 h0), fun i hi => quiet_at hnd hw (fun a' w' hw' => quiet_any hnd hQ fuel _ a' w' hw') (h.2 i hi)⟩

theorem quiet_region {id : Nat} {Q : Exit → Act → World → Prop} {a : Act} {w : World} {l : List Oper} (hnd : (l.all fun o => noDefer o.op) = true) (hm : P.follows .mixedOrders = true) (hB : Region.lexB .any l.toArray = true)
    (h : wpQuietIn F n P l.toArray (fun w' => ∃ n, w' = w.drewN n) (fun a' => ∀ w', (∃ n, w' = w.drewN n) → Q .normal a' w') l a) : (Code.region id l.toArray true).wpIn F n P Q a w := by
  simp only [Region.lexB, Bool.and_eq_true] at hB
  have hnd' : ∀ o ∈ l.toArray.toList, noDefer o.op = true := fun o ho => by
    rw [List.all_eq_true] at hnd
    exact hnd o (by simpa using ho)
  refine wpIn_region_any hm (quiet_any hnd' (C := fun w' => ∃ n, w' = w.drewN n) (Q := fun a' => ∀ w', (∃ n, w' = w.drewN n) → Q .normal a' w') (fun _ w' hw' h => h w' hw') _ _ _ _ ⟨1, rfl⟩ ?_)
  have := wpAnyQIn_lex (F := F) (n := n) (P := P) (ops := l.toArray) (C := fun w' => ∃ n, w' = w.drewN n) (md := .any) hB.1 l 0 (Array.replicate l.toArray.size false) a (by simp) (by simpa using hB.2) h
  simpa using this
end

theorem wide_fn (f : FuncId) : Fence.wide.fn f = True := rfl

theorem quiet_same {P : Program} {l0 : Nat} {n : Nat} {f : FuncId} {args : Array Value} {w : World} {k : Nat} {v : Value}
    (h : Calls P f args (w.drewN k) fun e w' => e = .returned v ∧ w.drewN k = w') : CallsIn (Fence.wide.inRound l0) n P f args (w.drewN k) fun e w'' => e = .returned v ∧ ∃ m, w'' = w.drewN m :=
  CallsIn.inRound l0 (callsIn_wide.2 (h.mono fun _ _ ⟨he, hm⟩ => ⟨he, k, hm.symm⟩))

end Go.Proofs.Ytgbphkbbedkepaa

/-
  A region that draws its order, walked by hand (drawn_region's words), in a round of a range over a function. No type is named here.
-/
namespace Go.Proofs.Ytgbphkbbedkepaa
open Go.RowKit

/-- Nothing but going on is owed. -/
def goesOn (Q : Exit → Act → World → Prop) : Exit → Act → World → Prop
  | .normal, a, w => Q .normal a w
  | _, _, _ => False
theorem goes_on {Q : Exit → Act → World → Prop} {a : Act} {w : World} (h : Q .normal a w) : goesOn Q .normal a w := h

section
variable {P : Program} {l0 n : Nat} {ops : Array Oper} {md : Region.Mode} {Q : Exit → Act → World → Prop}
theorem op_in {o : Oper} {a : Act} {w : World} {K K' : Act → World → Prop} (hd : noDefer o.op = true) (hK : ∀ a w, K a w → K' a w) (h : o.wp P a w K (goesOn Q) ∨ (o.asks P a w ∧ LetsOut (goesOn Q))) :
    o.wpIn (Fence.wide.inRound l0) n P a w K' Q := by
  rcases h with h | ⟨_, a', w', h⟩
  · unfold Oper.wp at h
    unfold Oper.wpIn
    refine ⟨fun f _ => trivial, ?_⟩
    rw [Oper.semAt_eq _ _ _ (noDefer_ne hd)]
    generalize (execOp a.eval o).run P w = r at *
    rcases r with ⟨x, w'⟩ | ⟨x, w'⟩
    · cases x <;> simp only [Oper.upon] at h <;> simp only [Oper.uponIn]
      case value => exact hK _ _ h
      case skip => exact hK _ _ h
      case defer => exact hK _ _ h
      case enter f args =>
        refine ⟨fun h0 => (by cases h0), CallsIn.inRound l0 (callsIn_wide.2 (h.mono fun e w'' he => ?_))⟩
        cases e with
        | returned v => exact hK _ _ he
        | panicked c => exact he.elim
        | outgrown =>
          obtain ⟨a', w', h⟩ := he
          exact h.elim
      case row row args =>
        refine ⟨fun h0 => (by cases h0), fun c cs _ => ?_⟩
        obtain ⟨v, w'', hv, hs⟩ := h c cs
        exact ⟨v, w'', hK _ _ hv, stepsIn_wide.2 hs⟩
    · cases x <;> simp only [Oper.upon] at h
      exact h.elim
  · exact h.elim
theorem any_in (hnd : ∀ o ∈ ops.toList, noDefer o.op = true) : ∀ (fuel : Nat) (listed : Array Bool) (a : Act) (w : World), wpAny P md ops (goesOn Q) fuel listed a w → wpAnyIn (Fence.wide.inRound l0) n P md ops Q fuel listed a w
  | 0, _, _, _, h => ⟨h.1, h.2⟩
  | fuel + 1, listed, a, w, h => ⟨fun h0 => h.1 h0, fun i hi => by
    have h1 := h.2 i hi
    unfold wpOp at h1
    unfold wpOpIn
    cases ho : ops[i]? with
    | none =>
      simp only [ho] at h1
      exact any_in hnd fuel _ a w h1
    | some o =>
      simp only [ho] at h1
      have hm : noDefer o.op = true := hnd o (Array.mem_toList_iff.2 (Array.mem_of_getElem? ho))
      by_cases hw : Region.wanted o (yielded ops a.tmps)
      · simp only [hw, if_true] at h1 ⊢
        exact op_in hm (fun a' w' => any_in hnd fuel _ a' w') h1
      · simp only [hw] at h1 ⊢
        exact ⟨fun f _ => trivial, any_in hnd fuel _ _ _ h1⟩⟩
theorem drawn_region_in (S : World → Prop) (zs : List Nat) {id : Nat} {ts : Array Value} {ds : List Deferred} {w : World} (hnd : (ops.toList.all fun o => noDefer o.op) = true) (hm : P.follows .mixedOrders = true)
    (h : Drawn P ops (goesOn Q) S zs ops.size (Array.replicate ops.size false) ts ds w.drew) : (Code.region id ops true).wpIn (Fence.wide.inRound l0) n P Q { tmps := ts, defers := ds } w :=
  wpIn_region_any hm (any_in (fun o ho => by rw [List.all_eq_true] at hnd; exact hnd o ho) _ _ _ _ (wpAny_ofG _ _ _ _ (h Shutd.start)))
end

end Go.Proofs.Ytgbphkbbedkepaa

/-
  A region that draws, walked by hand in a function that holds a range over a function: no panic is owed. No type is named here.
-/
namespace Go.Proofs.Ytgbphkbbedkepaa
open Go.RowKit

def calm (Q : Exit → Act → World → Prop) : Exit → Act → World → Prop
  | .panic _, _, _ => False
  | .normal, a, w => Q .normal a w
  | .ret, a, w => Q .ret a w
  | .exit c, a, w => Q (.exit c) a w
  | .goto t, a, w => Q (.goto t) a w
  | .outgrown, a, w => Q .outgrown a w
theorem calm_normal {Q : Exit → Act → World → Prop} {a : Act} {w : World} (h : Q .normal a w) : calm Q .normal a w := h
theorem drawn_region_calm {P : Program} {ops : Array Oper} {Q : Exit → Act → World → Prop} (S : World → Prop) (zs : List Nat) {id : Nat} {ts : Array Value} {ds : List Deferred} {w : World} (hm : P.follows .mixedOrders = true) (h : Drawn P ops (calm Q) S zs ops.size (Array.replicate ops.size false) ts ds w.drew) : (Code.region id ops true).wp P Q { tmps := ts, defers := ds } w :=
  Code.wp_mono (fun e a w h => by cases e <;> first | exact h | exact h.elim) (drawn_region S zs hm h)

end Go.Proofs.Ytgbphkbbedkepaa

/-
  Stage 20: CatalogEach, of any catalog of the program.
-/
namespace Go.Proofs.Ytgbphkbbedkepaa
open Go.RowKit Go.Shelf
attribute [local go_sem] Oper.semAt_some wide_fn

set_option maxRecDepth 100000

/-- The edit, the number at which to stop, the answer: boxes at the head. -/
structure LK20 (w V : World) (a : AC20) (stop : Int) : Prop where
  act : Box V w.heap.size 44 #[a.ds, a.ps]
  stp : Box V (w.heap.size + 1) 3 #[.int .i64 stop]
  res : Box V (w.heap.size + 2) 4 #[.bool false]
  turn : Turn (fun _ => False) w V
theorem LK20.later {w V V' : World} {a : AC20} {stop : Int} (h : LK20 w V a stop) (ht : Turn (fun _ => False) V V') : LK20 w V' a stop :=
  ⟨h.act.turn ht (fun f => f), h.stp.turn ht (fun f => f), h.res.turn ht (fun f => f), h.turn.trans ht (fun _ _ f => f)⟩
theorem LK20.turned {w V V' : World} {a : AC20} {stop : Int} {S : Nat → Prop} (h : LK20 w V a stop) (ht : Turn S V V') (hs : ∀ g, S g → w.heap.size + 3 ≤ g) : LK20 w V' a stop :=
  ⟨h.act.turn ht (fun e => by have := hs _ e; omega), h.stp.turn ht (fun e => by have := hs _ e; omega), h.res.turn ht (fun e => by have := hs _ e; omega), h.turn.trans ht (fun g hg e => by have := hs _ e; omega)⟩
theorem LK20.start (w : World) (a : AC20) (stop : Int) : LK20 w (((w.alloc (.cells #[a.ds, a.ps] 44)).alloc (.cells #[.int .i64 stop] 3)).alloc (.cells #[.bool false] 4)) a stop := by
  refine ⟨((Box.new w _ _).alloc _).alloc _, ?_, ?_, (((Turn.refl _ w).alloc _).alloc _).alloc _⟩
  · have h := (Box.new (w.alloc (.cells #[a.ds, a.ps] 44)) 3 #[.int .i64 stop]).alloc (.cells #[.bool false] 4)
    rw [World.size_alloc] at h
    exact h
  · have h := Box.new ((w.alloc (.cells #[a.ds, a.ps] 44)).alloc (.cells #[.int .i64 stop] 3)) 4 #[.bool false]
    rw [World.size_alloc, World.size_alloc] at h
    exact h
theorem LK20.size {w V : World} {a : AC20} {stop : Int} (h : LK20 w V a stop) : w.heap.size + 3 ≤ V.heap.size := h.res.lt

/-- In the range: how many entries have come, none the last one that is asked. -/
structure LI20 (w17 : World) (nb : Nat) (stop : Int) (pre : List N20) (V : World) : Prop where
  turn : Turn (fun g => g = nb) w17 V
  num : Box V nb 3 #[.int .i64 (pre.length : Int)]
  not : ∀ m : Nat, 1 ≤ m → m ≤ pre.length → (m : Int) ≠ stop
theorem LI20.odd {w17 A B : World} {nb D : Nat} {stop : Int} {pre : List N20} (h : LI20 w17 nb stop pre A) (hD : w17.heap.size ≤ D) (ht : Turn (odd D A) A B) : LI20 w17 nb stop pre B :=
  ⟨h.turn.trans ht (fun k hk e => by have := e.1; omega), h.num.odd ht, h.not⟩
theorem LI20.later {w17 A B : World} {nb : Nat} {stop : Int} {pre : List N20} (h : LI20 w17 nb stop pre A) (ht : Turn (fun _ => False) A B) : LI20 w17 nb stop pre B :=
  ⟨h.turn.trans ht (fun _ _ f => f.elim), h.num.turn ht (fun f => f), h.not⟩
/-- .. at the entry at which it ends. -/
structure LX20 (w17 : World) (nb : Nat) (stop : Int) (pre : List N20) (V : World) : Prop where
  turn : Turn (fun g => g = nb) w17 V
  num : Box V nb 3 #[.int .i64 (pre.length : Int)]
  some : 1 ≤ pre.length
  last : (pre.length : Int) = stop
theorem LX20.odd {w17 A B : World} {nb D : Nat} {stop : Int} {pre : List N20} (h : LX20 w17 nb stop pre A) (hD : w17.heap.size ≤ D) (ht : Turn (odd D A) A B) : LX20 w17 nb stop pre B :=
  ⟨h.turn.trans ht (fun k hk e => by have := e.1; omega), h.num.odd ht, h.some, h.last⟩

theorem pre_at20 {A : Type} {L pre : List A} {y : A} (hp : pre ++ [y] <+: L) : L[pre.length]? = some y ∧ pre.length < L.length := by
  obtain ⟨r, hr⟩ := hp
  have h : L[pre.length]? = some y := by
    rw [← hr, List.append_assoc, List.getElem?_append_right (Nat.le_refl _), Nat.sub_self]; rfl
  exact ⟨h, (List.getElem?_eq_some_iff.1 h).1⟩

set_option maxHeartbeats 40000000 in
theorem each_any20 {M : World → (Nat → Prop) → Nat → List N20 → Prop} (P : Prog20 M) (v : Value) (L : List AC20) (b : AC20) (stop : Int) (w : World) (hv : RdE EA20 w v L) (hl : L.length ≤ maxLen) (ho : ∀ a ∈ L, AcOk20 w a) (hb : AcOk20 w b) :
    Calls Try.prog 4 #[v, av20 b, .int .i64 stop] w fun e w' => e = .returned (.bool true) ∧ Turn (fun _ => False) w w' := by
  have HP := Lib.hid P; have HV := Lib.hid hv; have HO := Lib.hid ho; have HBO := Lib.hid hb
  have HLI : Hid (∀ W, Turn (fun _ => False) w W → Calls Try.prog 7 #[v] W fun e w' => e = .returned (.bool (light20 L)) ∧ w' = W) := fun W ht => light_any20 v L W (hv.later ht) hl (fun a ha => ⟨(ho a ha).dn, (ho a ha).pn⟩)
  have HLM : Hid (∀ W q, RdE EA20 W (.slice (some ⟨q, 0, none⟩) 1 1) [b] → Calls Try.prog 7 #[.slice (some ⟨q, 0, none⟩) 1 1] W fun e w' => e = .returned (.bool (light20 [b])) ∧ w' = W) := fun W q hr => light_any20 _ [b] W hr (by show (1 : Nat) ≤ maxLen; simp [maxLen]) (fun a ha => by rw [List.mem_singleton.1 ha]; exact ⟨hb.dn, hb.pn⟩)
  obtain ⟨A, c, rfl⟩ := hv.shape
  clear P hv ho hl hb
  refine (callsIn_wide (n := 5)).1 ?_
  refine callsIn_of_wp_marks Try.func4 rfl trivial ?_ rfl
  simp only [Try.ntmps4, List.size_toArray, List.length_cons, List.length_nil, Nat.reduceAdd, Nat.reduceSub, Array.replicate_succ, Array.replicate_zero, List.push_toArray, List.append_toArray, List.nil_append, List.cons_append]
  refine wpIn_wide.2 ?_
  obtain ⟨w0, hw0⟩ : ∃ w0, w0 = ((w.alloc (.cells #[b.ds, b.ps] 44)).alloc (.cells #[.int .i64 stop] 3)).alloc (.cells #[.bool false] 4) := ⟨_, rfl⟩
  have HW0 := Lib.hid hw0
  have HK0 : Hid (LK20 w w0 b stop) := by rw [hw0]; exact LK20.start w b stop
  clear hw0
  cases hL : light20 L with
  | false =>
    rw [hL] at HLI
    go_wp2_with fail
    rw [← HW0.out]
    refine (alive_any20 HP.out w0).mono ?_
    rintro e w1 ⟨rfl, t1⟩
    have HK1 := Lib.hid (HK0.out.later t1)
    clear t1 HK0 HW0
    have HL2 := Lib.hid (HLI.out w1 HK1.out.turn)
    clear HLI
    have a0 := HK1.out.act.cell 0
    have a1 := HK1.out.act.cell 1
    go_wp2_with fail
    refine HL2.out.mono ?_
    rintro e wx ⟨rfl, hwx⟩
    subst wx
    clear HL2
    have HKx := HK1
    have HBR := Lib.hid HKx.out.res
    have hcr := HBR.out.cell 0
    have hfr := HBR.out.free 0
    go_wp2
    refine ⟨.bool true, ?_, rfl, ?_⟩
    · have h2 := (HBR.out.set 0 (.bool true)).cell 0
      simp [results, Try.f4, go_sem, h2]
    · exact HKx.out.turn.setCell (p := ⟨w.heap.size + 2, 0, none⟩) (fun h => absurd h (by simp)) _
  | true =>
  rw [hL] at HLI
  obtain ⟨h40, hs⟩ := light_short20 hL
  cases hM : light20 [b] with
  | false =>
    rw [hM] at HLM
    go_wp2_with fail
    rw [← HW0.out]
    refine (alive_any20 HP.out w0).mono ?_
    rintro e w1 ⟨rfl, t1⟩
    have HK1 := Lib.hid (HK0.out.later t1)
    clear t1 HK0 HW0
    have HL2 := Lib.hid (HLI.out w1 HK1.out.turn)
    clear HLI
    have a0 := HK1.out.act.cell 0
    have a1 := HK1.out.act.cell 1
    go_wp2_with fail
    refine HL2.out.mono ?_
    rintro e wx ⟨rfl, hwx⟩
    subst wx
    clear HL2
    go_wp2_with fail
    obtain ⟨wm, hwm⟩ : ∃ wm, wm = w1.alloc (.cells (EA20.enc b).toArray 44) := ⟨_, rfl⟩
    have HRM : Hid (RdE EA20 wm (.slice (some ⟨w1.heap.size, 0, none⟩) 1 1) [b]) := by rw [hwm]; exact one_row EA20 _ w1 b
    have HKm : Hid (LK20 w wm b stop) := by rw [hwm]; exact HK1.out.later ((Turn.refl _ w1).alloc _)
    rw [show w1.alloc (.cells #[b.ds, b.ps] 44) = wm from hwm.symm]
    clear hwm a0 a1
    refine (HLM.out wm _ HRM.out).mono ?_
    rintro e wx ⟨rfl, hwx⟩
    subst wx
    clear HRM HLM
    have HKx := HKm
    have HBR := Lib.hid HKx.out.res
    have hcr := HBR.out.cell 0
    have hfr := HBR.out.free 0
    go_wp2
    refine ⟨.bool true, ?_, rfl, ?_⟩
    · have h2 := (HBR.out.set 0 (.bool true)).cell 0
      simp [results, Try.f4, go_sem, h2]
    · exact HKx.out.turn.setCell (p := ⟨w.heap.size + 2, 0, none⟩) (fun h => absurd h (by simp)) _
  | true =>
  rw [hM] at HLM
  obtain ⟨-, hs2⟩ := light_short20 hM
  have HSB : Hid (b.d.length ≤ 30 ∧ b.p.length ≤ 30) := hs2 b (List.mem_singleton_self _)
  have H40 := Lib.hid h40; have HS := Lib.hid hs
  clear hL hM h40 hs hs2
  go_wp2_with fail
  rw [← HW0.out]
  refine (alive_any20 HP.out w0).mono ?_
  rintro e w1 ⟨rfl, t1⟩
  have HK1 := Lib.hid (HK0.out.later t1)
  clear t1 HK0 HW0
  have HL2 := Lib.hid (HLI.out w1 HK1.out.turn)
  clear HLI
  have a0 := HK1.out.act.cell 0
  have a1 := HK1.out.act.cell 1
  go_wp2_with fail
  refine HL2.out.mono ?_
  rintro e wx ⟨rfl, hwx⟩
  subst wx
  clear HL2
  go_wp2_with fail
  obtain ⟨wm, hwm⟩ : ∃ wm, wm = w1.alloc (.cells (EA20.enc b).toArray 44) := ⟨_, rfl⟩
  have HRM : Hid (RdE EA20 wm (.slice (some ⟨w1.heap.size, 0, none⟩) 1 1) [b]) := by rw [hwm]; exact one_row EA20 _ w1 b
  have HKm : Hid (LK20 w wm b stop) := by rw [hwm]; exact HK1.out.later ((Turn.refl _ w1).alloc _)
  rw [show w1.alloc (.cells #[b.ds, b.ps] 44) = wm from hwm.symm]
  clear hwm a0 a1
  refine (HLM.out wm _ HRM.out).mono ?_
  rintro e wx ⟨rfl, hwx⟩
  subst wx
  clear HRM HLM
  have HMD := Lib.hid (made_any20 HP.out (.slice A L.length c) L wm (HV.out.later HKm.out.turn) H40.out HS.out (fun a ha => (HO.out a ha).later HKm.out.turn))
  go_wp2_with fail
  refine HMD.out.mono ?_
  rintro e w2 ⟨g, rv, F, rfl, hb2⟩
  obtain ⟨l, hl⟩ : ∃ l, l = run20 L := ⟨_, rfl⟩
  rw [← hl] at hb2
  obtain ⟨N, hN⟩ : ∃ N, N = L.length := ⟨_, rfl⟩
  have hn40 : N ≤ 40 := by rw [hN]; exact H40.out
  rw [← hN] at hb2
  have HN40 := Lib.hid hn40
  clear hN hl hn40
  obtain ⟨A8, c8, rfl⟩ := hb2.row.shape
  have HB2 := Lib.hid hb2
  have HBD := Lib.hid (hb2.bd (by have := HN40.out; omega))
  have HK2 := Lib.hid (HKm.out.later hb2.turn)
  obtain ⟨n, hn⟩ : ∃ n, n = l.length := ⟨_, rfl⟩
  rw [← hn] at HB2 ⊢
  have HN := Lib.hid hn
  have hn5 : n ≤ 5000 := by rw [hn]; exact HBD.out.len
  have HN5 := Lib.hid hn5
  obtain ⟨w3, hw3⟩ : ∃ w3, w3 = w2.alloc (.cells #[.slice A8 n c8] 28) := ⟨_, rfl⟩
  obtain ⟨q8, hq8⟩ : ∃ q, q = w2.heap.size := ⟨_, rfl⟩
  have t3 : Turn (fun _ => False) w2 w3 := by rw [hw3]; exact (Turn.refl _ w2).alloc _
  have HR8 : Hid (Box w3 q8 28 #[.slice A8 n c8]) := by rw [hw3, hq8]; exact Box.new w2 _ _
  have HF8 : Hid (¬ F q8) := fun h => by have := HP.out.lt HB2.out.mem q8 h; omega
  have HB3 : Hid (Both20 M wm w3 g (.slice A8 n c8) F N l) := HB2.out.later HP.out t3
  have HK3 := Lib.hid (HK2.out.later t3)
  have HW3 := Lib.hid hw3; have HQ8 := Lib.hid hq8
  clear hb2 HMD hn hw3 hq8 t3 HK2 HB2 hn5
  have HCP := Lib.hid (HP.out.copy HB3.out.mem HBD.out)
  go_wp2_with fail
  rw [← HW3.out, ← HQ8.out]
  refine HCP.out.mono ?_
  rintro e w4 ⟨g2, F2, rfl, m2, t4, f2⟩
  have HM2 := Lib.hid m2
  have HDJ : Hid (∀ k, F2 k → ¬ F k) := fun k h2 h1 => by have := HP.out.lt HB3.out.mem k h1; have := f2 k h2; omega
  have HB4 : Hid (Both20 M wm w4 g (.slice A8 n c8) F N l) := HB3.out.later HP.out t4
  have HK4 := Lib.hid (HK3.out.later t4)
  have HR4 := Lib.hid (HR8.out.turn t4 (fun f => f))
  have HAP := Lib.hid (HB4.out.prog HP.out HN40.out (HBO.out.later HKm.out.turn) HSB.out.1 HSB.out.2)
  have b0 := HK4.out.act.cell 0
  have b1 := HK4.out.act.cell 1
  clear m2 t4 f2 HCP HB3 HK3 HR8 HW3 HQ8
  unfold Does20 at HAP
  generalize apply20 l b.d b.p = q at *
  go_wp2_with fail
  refine HAP.out.mono ?_
  rintro e w5 ⟨rfl, F3, -, t5, -⟩
  have HM5 : Hid (M w5 F2 g2 l) := HP.out.apart HM2.out HB4.out.mem HDJ.out t5
  have HRW : Hid (RdE EN20 w5 (.slice A8 n c8) l) := HB4.out.row.keep20 t5 (fun hne k hk _ => HB4.out.far hne k hk)
  have HR5 := Lib.hid (HR4.out.turn t5 HF8.out)
  have HK5 := Lib.hid (HK4.out.turned t5 (fun k hk => Nat.le_trans HKm.out.size (HB4.out.foot k hk)))
  clear t5 HAP b0 b1 HM2 HDJ HB4 HK4 HR4 HF8 HKm HSB HBO
  have HBK : Hid (∀ W, Turn (fun _ => False) w5 W → Calls Try.prog 19 #[.pointer (some ⟨g2, 0, none⟩)] W fun e w' => Ents20 W l e w') := fun W ht => back_any20 HP.out (HP.out.later HM5.out ht) HBD.out
  go_wp2_with fail
  refine drawn_region_calm (fun W => Turn (fun _ => False) w5 W) [] (by kernel_rfl) ?_
  have hS0 : Turn (fun _ => False) w5 (World.drew w5) := (Turn.refl _ w5).drew
  generalize World.drew w5 = wd at *
  refine drawn_take 0 38 (.pointer (some ⟨g2, 0, none⟩)) rfl rfl (by kernel_rfl) (by kernel_rfl) (by kernel_rfl) (by kernel_rfl) (fun _ _ _ h => h) (by rfl) (by assumption) (by intro w hSw; obtain hS1 := hSw; go_simp) ?_
  try simp only [List.setIfInBounds_toArray, List.set_cons_zero, List.set_cons_succ]
  refine drawn_take 2 40 (.slice A8 n c8) rfl rfl (by kernel_rfl) (by kernel_rfl) (by kernel_rfl) (by kernel_rfl) (fun _ _ _ h => h) (by rfl) (by assumption) (by intro w hSw; have a0 := (HR5.out.turn hSw (fun f => f)).cell 0; clear hSw; go_simp) ?_
  try simp only [List.setIfInBounds_toArray, List.set_cons_zero, List.set_cons_succ]
  refine drawn_any [1] (by kernel_rfl) (by simp) ?_
  refine drawn_cons rfl (fun K hK => ?_) drawn_nil
  go_simp
  refine (HBK.out wd hS0).mono ?_
  rintro e w6 ⟨v6, rfl, r6, t6, -⟩
  have HR6 := Lib.hid r6
  have hS6 := hS0.trans t6 (fun _ _ f => f)
  clear r6 t6 hS0
  refine hK.out _ _ _ hS6 ?_
  clear hK K
  try simp only [List.setIfInBounds_toArray, List.set_cons_zero, List.set_cons_succ]
  refine drawn_any [3] (by kernel_rfl) (by simp) ?_
  refine drawn_cons rfl (fun K hK => ?_) drawn_nil
  go_simp
  refine (ref_same20 v6 _ l w6 HR6.out (HRW.out.later hS6) (Nat.le_trans HBD.out.len (by decide))).mono ?_
  rintro e w7 ⟨rfl, t7⟩
  have hS7 := hS6.trans t7 (fun _ _ f => f)
  clear t7 hS6 HR6
  refine hK.out _ _ _ hS7 ?_
  clear hK K
  try simp only [List.setIfInBounds_toArray, List.set_cons_zero, List.set_cons_succ]
  refine drawn_last1 4 42 (.bool false) rfl rfl (by kernel_rfl) (by kernel_rfl) (by rfl) (by intro w; go_simp) hS7 ?_
  try simp only [List.setIfInBounds_toArray, List.set_cons_zero, List.set_cons_succ]
  refine calm_normal ?_
  obtain ⟨nb, hnb⟩ : ∃ nb, nb = w7.heap.size := ⟨_, rfl⟩
  obtain ⟨w8, hw8⟩ : ∃ w8, w8 = w7.alloc (.cells #[.int .i64 0] 3) := ⟨_, rfl⟩
  have t8 : Turn (fun _ => False) w5 w8 := by rw [hw8]; exact hS7.alloc _
  have HBN : Hid (Box w8 nb 3 #[.int .i64 0]) := by rw [hw8, hnb]; exact Box.new w7 _ _
  have HR8 := Lib.hid (HR5.out.turn t8 (fun f => f))
  have HK8 := Lib.hid (HK5.out.later t8)
  have HRW8 := Lib.hid (HRW.out.later t8)
  have HNR : Hid (q8 < nb) := by show q8 < nb; rw [hnb]; exact (HR5.out.turn hS7 (fun f => f)).lt
  have HNS : Hid (w.heap.size + 3 ≤ nb) := by show _ ≤ nb; rw [hnb]; exact (HK5.out.later hS7).size
  have HAL := Lib.hid (HP.out.all (HP.out.later HM5.out t8) HBD.out)
  have HRO : Hid (l ≠ [] → ∀ k, (Value.slice A8 n c8).ownBlock = some k → k ≠ nb) := fun hne k hk e => by
    have h1 := off_lt20 (HRW.out.later hS7) (by decide) hne hk
    omega
  have HW8 := Lib.hid hw8; have HNB := Lib.hid hnb
  clear t8 hw8 hnb hS7 HR5 HK5 HRW HM5 HBK
  go_wp2_with fail
  rw [← HW8.out, ← HNB.out]
  refine HAL.out.mono ?_
  rintro e w9 ⟨gf, lb, rfl, heg, t9, hfe⟩
  have HFE := Lib.hid (hfe 4 (fun k => k = nb ∨ k = w9.heap.size + 1) (fun k h => by
    rcases h with rfl | h
    · exact .inl ⟨_, HBN.out⟩
    · exact .inr (by omega)))
  have HN9 := Lib.hid (HBN.out.turn t9 (fun f => f))
  have HSZ : Hid (nb < w9.heap.size) := HN9.out.lt
  have HFX : Hid (∀ V, Turn (fun k => k = nb) w9 V → LK20 w V b stop ∧ Box V q8 28 #[.slice A8 n c8] ∧ RdE EN20 V (.slice A8 n c8) l) := fun V ht => by
    have h1 := HNS.out; have h2 := HNR.out
    exact ⟨(HK8.out.later t9).turned ht (fun k e => by omega), (HR8.out.turn t9 (fun f => f)).turn ht (by omega), (HRW8.out.later t9).keep20 ht (fun hne k hk _ e => HRO.out hne k hk e)⟩
  have HI0 : Hid (LI20 w9 nb stop [] w9) := ⟨Turn.refl _ _, HN9.out, fun m h1 h2 => absurd h1 (by simp at h2; omega)⟩
  clear hfe t9 HAL HW8 HNB
  go_wp2_with fail
  refine (wpIn_wide (n := 5)).1 ?_
  refine' over7 (n := 5) (by omega) (gf := gf) (lb := lb) rfl heg HFE.out (Turn.refl _ _) (Or.inr rfl) ?hS2 (fun _ => rfl) _
    (fun (pre : List N20) V => LI20 w9 nb stop pre V) (fun c (pre : List N20) V => c = .exit 0 ∧ LX20 w9 nb stop pre V) ?hI ?hIx HI0.out
    (fun pre y q V => LI20 w9 nb stop pre V ∧ Box V q 32 (ecells20 y) ∧ pre ++ [y] <+: l) ?hax ?assign ?body ?done ?stop
  case assign =>
    intro l0 pre x W K hi hgv hK
    have HK := Lib.hid hK
    have HT : Hid (Turn (fun _ => False) W (W.alloc (.cells (ecells20 x) 32))) := (Turn.refl _ W).alloc _
    have HB : Hid (LI20 w9 nb stop pre (W.alloc (.cells (ecells20 x) 32)) ∧ Box (W.alloc (.cells (ecells20 x) 32)) W.heap.size 32 (ecells20 x) ∧ pre ++ [x] <+: l) := ⟨hi.later HT.out, Box.new W _ _, hgv⟩
    clear hK hi hgv
    gi_wp2
    generalize W.alloc (.cells (ecells20 x) 32) = V2 at *
    generalize W.heap.size = p at *
    exact HK.out p _ HB.out HT.out
  case hS2 =>
    intro k hk
    have := HSZ.out
    rcases hk with h | h <;> omega
  case hI =>
    intro pre A B h ht
    exact h.odd (Nat.le_refl _) ht
  case hIx =>
    rintro c pre A B ⟨h1, h2⟩ ht
    exact ⟨h1, h2.odd (Nat.le_refl _) ht⟩
  case hax =>
    rintro pre y q A B ⟨h2, h3, h4⟩ ht
    exact ⟨h2.odd (Nat.le_refl _) ht, h3.odd ht, h4⟩
  case body =>
    rintro l0 pre y q V ⟨hi, hq, hgv⟩
    obtain ⟨hl, hbw, hrd⟩ := HFX.out V hi.turn
    obtain ⟨hat, hlt⟩ := pre_at20 hgv
    obtain ⟨ad, rfl, hcy⟩ := ent_at20 hrd hat
    have HCY := Lib.hid hcy
    rw [← HN.out] at hlt
    have HHL := Lib.hid hl; have HBW := Lib.hid hbw; have HQ := Lib.hid hq; have HNM := Lib.hid hi.num; have HIV := Lib.hid hi
    have hil : (pre.length : Int) < (n : Int) := by omega
    have hpl : (pre.length : Int) < 5000 := by have := HN5.out; omega
    have hge : ¬ ((n : Int) ≤ (pre.length : Int)) := by omega
    have hne : ∀ W, Sem.run Try.prog (binOp .neq 32 (ev20 y) (ev20 y)) W = .ok (.bool false) W := fun W => (run_neq_ent20 y y W).trans (by rw [eqN_iff.2 rfl]; rfl)
    clear hl hbw hrd hat hcy hi hq hgv
    gi_wp2_with fail
    refine drawn_region_in (fun W => Turn (fun _ => False) V W) [] (by kernel_rfl) (by kernel_rfl) ?_
    have hS0 : Turn (fun _ => False) V (World.drew V) := (Turn.refl _ V).drew
    generalize World.drew V = wd at *
    refine drawn_take 0 46 (.int .i64 (pre.length : Int)) rfl rfl (by kernel_rfl) (by kernel_rfl) (by kernel_rfl) (by kernel_rfl) (fun _ _ _ h => h) (by rfl) (by assumption) (by intro w hSw; have a0 := (HNM.out.turn hSw (fun f => f)).cell 0; clear hSw; go_simp) ?_
    try simp only [List.setIfInBounds_toArray, List.set_cons_zero, List.set_cons_succ]
    refine drawn_take 1 47 (.slice (some ad) n c8) rfl rfl (by kernel_rfl) (by kernel_rfl) (by kernel_rfl) (by kernel_rfl) (fun _ _ _ h => h) (by rfl) (by assumption) (by intro w hSw; have a0 := (HBW.out.turn hSw (fun f => f)).cell 0; clear hSw; go_simp) ?_
    try simp only [List.setIfInBounds_toArray, List.set_cons_zero, List.set_cons_succ]
    refine drawn_take 2 48 (.int .i64 (n : Int)) rfl rfl (by kernel_rfl) (by kernel_rfl) (by kernel_rfl) (by kernel_rfl) (fun _ _ _ h => h) (by rfl) (by assumption) (by intro w hSw; obtain hS1 := hSw; go_simp) ?_
    try simp only [List.setIfInBounds_toArray, List.set_cons_zero, List.set_cons_succ]
    refine drawn_take 3 49 (.bool false) rfl rfl (by kernel_rfl) (by kernel_rfl) (by kernel_rfl) (by kernel_rfl) (fun _ _ _ h => h) (by rfl) (by assumption) (by intro w hSw; obtain hS1 := hSw; go_simp) ?_
    try simp only [List.setIfInBounds_toArray, List.set_cons_zero, List.set_cons_succ]
    refine drawn_take 4 50 (.bool false) rfl rfl (by kernel_rfl) (by kernel_rfl) (by kernel_rfl) (by kernel_rfl) (fun _ _ _ h => h) (by rfl) (by assumption) (by intro w hSw; obtain hS1 := hSw; go_simp) ?_
    try simp only [List.setIfInBounds_toArray, List.set_cons_zero, List.set_cons_succ]
    refine drawn_take 5 51 (ev20 y) rfl rfl (by kernel_rfl) (by kernel_rfl) (by kernel_rfl) (by kernel_rfl) (fun _ _ _ h => h) (by rfl) (by assumption) (by intro w hSw; obtain ⟨a0, a1, a2, a3, a4, a5⟩ := box_n20 (HQ.out.turn hSw (fun f => f)); clear hSw; go_simp) ?_
    try simp only [List.setIfInBounds_toArray, List.set_cons_zero, List.set_cons_succ]
    refine drawn_take 6 52 (.slice (some ad) n c8) rfl rfl (by kernel_rfl) (by kernel_rfl) (by kernel_rfl) (by kernel_rfl) (fun _ _ _ h => h) (by rfl) (by assumption) (by intro w hSw; have a0 := (HBW.out.turn hSw (fun f => f)).cell 0; clear hSw; go_simp) ?_
    try simp only [List.setIfInBounds_toArray, List.set_cons_zero, List.set_cons_succ]
    refine drawn_take 7 53 (.int .i64 (pre.length : Int)) rfl rfl (by kernel_rfl) (by kernel_rfl) (by kernel_rfl) (by kernel_rfl) (fun _ _ _ h => h) (by rfl) (by assumption) (by intro w hSw; have a0 := (HNM.out.turn hSw (fun f => f)).cell 0; clear hSw; go_simp) ?_
    try simp only [List.setIfInBounds_toArray, List.set_cons_zero, List.set_cons_succ]
    refine drawn_take 8 54 (.pointer (some (ad.add (pre.length * 6)))) rfl rfl (by kernel_rfl) (by kernel_rfl) (by kernel_rfl) (by kernel_rfl) (fun _ _ _ h => h) (by rfl) (by assumption) (by intro w hSw; obtain hS1 := hSw; go_simp) ?_
    try simp only [List.setIfInBounds_toArray, List.set_cons_zero, List.set_cons_succ]
    refine drawn_take 9 55 (ev20 y) rfl rfl (by kernel_rfl) (by kernel_rfl) (by kernel_rfl) (by kernel_rfl) (fun _ _ _ h => h) (by rfl) (by assumption) (by intro w hSw; obtain ⟨a0, a1, a2, a3, a4, a5⟩ := HCY.out w hSw; clear hSw; go_simp) ?_
    try simp only [List.setIfInBounds_toArray, List.set_cons_zero, List.set_cons_succ]
    refine drawn_take 10 56 (.bool false) rfl rfl (by kernel_rfl) (by kernel_rfl) (by kernel_rfl) (by kernel_rfl) (fun _ _ _ h => h) (by rfl) (by assumption) (by intro w hSw; obtain hS1 := hSw; go_simp) ?_
    try simp only [List.setIfInBounds_toArray, List.set_cons_zero, List.set_cons_succ]
    refine drawn_last1 11 57 (.bool false) rfl rfl (by kernel_rfl) (by kernel_rfl) (by rfl) (by intro w; go_simp) hS0 ?_
    try simp only [List.setIfInBounds_toArray, List.set_cons_zero, List.set_cons_succ]
    refine goes_on ?_
    have HTD := Lib.hid hS0
    have hbn := HNM.out.turn hS0 (fun f => f)
    have hbs := HHL.out.stp.turn hS0 (fun f => f)
    have cn := hbn.cell 0
    have fn := hbn.free 0
    have cs := hbs.cell 0
    have hne2 : w.heap.size + 1 ≠ nb := by have := HNS.out; omega
    have cs2 := (hbs.far (p := ⟨nb, 0, none⟩) hne2 (.int .i64 ((pre.length : Int) + 1))).cell 0
    have cn2 := (hbn.set 0 (.int .i64 ((pre.length : Int) + 1))).cell 0
    have HBS := Lib.hid (hbn.set 0 (.int .i64 ((pre.length : Int) + 1)))
    have e9 : (((pre ++ [y] : List N20).length : Nat) : Int) = (pre.length : Int) + 1 := by rw [List.length_append]; simp
    have HE9 := Lib.hid e9
    clear hS0 hbn hbs hne2 hne e9
    by_cases hst : ((pre.length : Int) + 1) = stop
    · have heq : (((pre.length : Int) + 1) == stop) = true := by rw [beq_iff_eq]; exact hst
      have HST := Lib.hid hst; clear hst
      gi_wp2
      refine ⟨(Still.turned HTD.out).trans (Still.setCell _ _ _), rfl, ⟨(HIV.out.turn.trans HTD.out (fun _ _ f => f.elim)).setCell (p := ⟨nb, 0, none⟩) (fun _ => rfl) _, ?_, by simp, by rw [HE9.out]; exact HST.out⟩⟩
      rw [HE9.out]
      exact HBS.out
    · have heq : (((pre.length : Int) + 1) == stop) = false := by rw [beq_eq_false_iff_ne]; exact hst
      have HST := Lib.hid hst; clear hst
      gi_wp2
      refine ⟨(Still.turned HTD.out).trans (Still.setCell _ _ _), (HTD.out.none).setCell (p := ⟨nb, 0, none⟩) (fun _ => .inl rfl) _, ⟨(HIV.out.turn.trans HTD.out (fun _ _ f => f.elim)).setCell (p := ⟨nb, 0, none⟩) (fun _ => rfl) _, ?_, fun m h1 h2 => ?_⟩⟩
      · rw [HE9.out]
        exact HBS.out
      · rw [List.length_append] at h2
        rcases Nat.lt_or_ge pre.length m with c | c
        · have : m = pre.length + 1 := by simp at h2; omega
          intro e
          exact HST.out (by rw [← e, this]; simp)
        · exact HIV.out.not m h1 c
  case stop =>
    rintro D c0 pre V hD hP ⟨rfl, hx⟩ hK
    have hle := hP.length_le
    rw [← HN.out] at hle
    obtain ⟨hl, hbw, -⟩ := HFX.out V hx.turn
    have cs := hl.stp.cell 0
    have cw := hbw.cell 0
    have cn := hx.num.cell 0
    have c2 := hl.res.cell 0
    have f2 := hl.res.free 0
    have HB2 := Lib.hid hl.res; have TW := Lib.hid hl.turn; have HKD := Lib.hid hK
    have HDD : Hid (w.heap.size ≤ D) := Nat.le_trans (by have h1 := HNS.out; have h2 := HSZ.out; omega) hD
    have h1 := hx.some
    have hs := hx.last
    generalize pre.length = N at *
    clear hl hbw hx hK hD hP
    subst hs
    have hpos : (0 : Int) < (N : Int) := by omega
    by_cases hlt : N < n
    · have hlt' : (N : Int) < (n : Int) := by omega
      refine wpIn_wide.2 ?_
      go_wp2
      have k1 := (KeepsOthers.setCell V ⟨w.heap.size + 2, 0, none⟩ (.bool true)).same D _ HKD.out rfl
      have b9 := HB2.out.set 0 (.bool true)
      have t9 : Turn (fun _ => False) w (V.setCell ⟨w.heap.size + 2, 0, none⟩ (.bool true)) := TW.out.setCell (p := ⟨w.heap.size + 2, 0, none⟩) (fun h => absurd h (by simp)) _
      generalize V.setCell ⟨w.heap.size + 2, 0, none⟩ (.bool true) = w99 at *
      have u1 : Turn (fun g => g = D) w99 (w99.putObj D (.deferred none)) := Turn.putObj _ D _ rfl
      have b10 := b9.turn u1 (fun e => by rw [← e, show w99.heap[w.heap.size + 2]? = _ from b9] at k1; cases k1)
      have h11 := b10.cell 0
      refine ⟨by simp, .inl ⟨_, _, rfl, run_takeDeferred k1, ?_⟩⟩
      refine ⟨.bool true, ?_, rfl, ?_⟩
      · simp [results, Try.f4, go_sem, h11]
      · exact t9.fresh u1 (fun g e => by rw [e]; exact HDD.out)
    · have hlt' : ¬ (N : Int) < (n : Int) := by omega
      have he : N = n := by omega
      subst he
      refine wpIn_wide.2 ?_
      go_wp2
      have k1 := (KeepsOthers.setCell V ⟨w.heap.size + 2, 0, none⟩ (.bool true)).same D _ HKD.out rfl
      have b9 := HB2.out.set 0 (.bool true)
      have t9 : Turn (fun _ => False) w (V.setCell ⟨w.heap.size + 2, 0, none⟩ (.bool true)) := TW.out.setCell (p := ⟨w.heap.size + 2, 0, none⟩) (fun h => absurd h (by simp)) _
      generalize V.setCell ⟨w.heap.size + 2, 0, none⟩ (.bool true) = w99 at *
      have u1 : Turn (fun g => g = D) w99 (w99.putObj D (.deferred none)) := Turn.putObj _ D _ rfl
      have b10 := b9.turn u1 (fun e => by rw [← e, show w99.heap[w.heap.size + 2]? = _ from b9] at k1; cases k1)
      have h11 := b10.cell 0
      refine ⟨by simp, .inl ⟨_, _, rfl, run_takeDeferred k1, ?_⟩⟩
      refine ⟨.bool true, ?_, rfl, ?_⟩
      · simp [results, Try.f4, go_sem, h11]
      · exact t9.fresh u1 (fun g e => by rw [e]; exact HDD.out)
  case done =>
    rintro D xs V hD hA hi hK
    subst hA
    obtain ⟨hl, hbw, -⟩ := HFX.out V hi.turn
    have cs := hl.stp.cell 0
    have cw := hbw.cell 0
    have cn := hi.num.cell 0
    have c2 := hl.res.cell 0
    have f2 := hl.res.free 0
    have HB2 := Lib.hid hl.res; have TW := Lib.hid hl.turn; have HKD := Lib.hid hK
    have HDD : Hid (w.heap.size ≤ D) := Nat.le_trans (by have h1 := HNS.out; have h2 := HSZ.out; omega) hD
    have HNO := Lib.hid hi.not
    rw [← HN.out] at cn
    clear hl hbw hi hK hD
    by_cases hpos : (0 : Int) < stop
    · have hlt' : ¬ stop < (n : Int) := fun h => by
        obtain ⟨m, rfl⟩ := Int.eq_ofNat_of_zero_le (by omega : 0 ≤ stop)
        exact HNO.out m (by omega) (by rw [← HN.out]; omega) rfl
      go_wp2
      have k1 := (KeepsOthers.setCell V ⟨w.heap.size + 2, 0, none⟩ (.bool true)).same D _ HKD.out rfl
      have b9 := HB2.out.set 0 (.bool true)
      have t9 : Turn (fun _ => False) w (V.setCell ⟨w.heap.size + 2, 0, none⟩ (.bool true)) := TW.out.setCell (p := ⟨w.heap.size + 2, 0, none⟩) (fun h => absurd h (by simp)) _
      generalize V.setCell ⟨w.heap.size + 2, 0, none⟩ (.bool true) = w99 at *
      have u1 : Turn (fun g => g = D) w99 (w99.putObj D (.deferred none)) := Turn.putObj _ D _ rfl
      have b10 := b9.turn u1 (fun e => by rw [← e, show w99.heap[w.heap.size + 2]? = _ from b9] at k1; cases k1)
      have h11 := b10.cell 0
      refine ⟨by simp, .inl ⟨_, _, rfl, run_takeDeferred k1, ?_⟩⟩
      refine ⟨.bool true, ?_, rfl, ?_⟩
      · simp [results, Try.f4, go_sem, h11]
      · exact t9.fresh u1 (fun g e => by rw [e]; exact HDD.out)
    · go_wp2
      have k1 := (KeepsOthers.setCell V ⟨w.heap.size + 2, 0, none⟩ (.bool true)).same D _ HKD.out rfl
      have b9 := HB2.out.set 0 (.bool true)
      have t9 : Turn (fun _ => False) w (V.setCell ⟨w.heap.size + 2, 0, none⟩ (.bool true)) := TW.out.setCell (p := ⟨w.heap.size + 2, 0, none⟩) (fun h => absurd h (by simp)) _
      generalize V.setCell ⟨w.heap.size + 2, 0, none⟩ (.bool true) = w99 at *
      have u1 : Turn (fun g => g = D) w99 (w99.putObj D (.deferred none)) := Turn.putObj _ D _ rfl
      have b10 := b9.turn u1 (fun e => by rw [← e, show w99.heap[w.heap.size + 2]? = _ from b9] at k1; cases k1)
      have h11 := b10.cell 0
      refine ⟨by simp, .inl ⟨_, _, rfl, run_takeDeferred k1, ?_⟩⟩
      refine ⟨.bool true, ?_, rfl, ?_⟩
      · simp [results, Try.f4, go_sem, h11]
      · exact t9.fresh u1 (fun g e => by rw [e]; exact HDD.out)

end Go.Proofs.Ytgbphkbbedkepaa

/-
  Stage 20: CatalogNils, of any program that answers so of nil (Nil20).
-/
namespace Go.Proofs.Ytgbphkbbedkepaa
open Go.RowKit Go.Shelf
attribute [local go_sem] Oper.semAt_some wide_fn

set_option maxRecDepth 100000

/-- What the program says of a nil catalog. -/
structure Nil20 : Prop where
  all : ∀ w, Calls Try.prog 20 #[.pointer none] w fun e w' => All20 w [] e w'
  at_ : ∀ (h : Int) w, rng19 h → Calls Try.prog 10 #[.pointer none, .int .i64 h] w fun e w' => Look20 w (zero20, false) e w'
  get : ∀ (p : T19) w, p.fits → Calls Try.prog 12 #[.pointer none, tv19 p] w fun e w' => Look20 w (zero20, false) e w'
  apply : ∀ w, Calls Try.prog 18 #[.pointer none, .agg #[.slice none 0 0, .slice none 0 0]] w fun e w' => SaysC20 w (.int .i64 1) e w'
  over : ∀ w, Calls Try.prog 15 #[.pointer none, .int .i64 0, .int .i64 9] w fun e w' => Ents20 w [] e w'
  len : ∀ w, Calls Try.prog 22 #[.pointer none] w fun e w' => SaysC20 w (.int .i64 0) e w'
  copy : ∀ w, Calls Try.prog 17 #[.pointer none] w fun e w' => SaysC20 w (.pointer none) e w'
  segs : ∀ w, Calls Try.prog 23 #[.pointer none] w fun e w' => Numbs20 w [] e w'

/-- The partition, the answer: boxes at the head. -/
structure LN20 (w V : World) (p : T19) : Prop where
  part : Box V w.heap.size 24 (tcells19 p)
  res : Box V (w.heap.size + 1) 4 #[.bool false]
  turn : Turn (fun _ => False) w V
theorem LN20.later {w V V' : World} {p : T19} (h : LN20 w V p) (ht : Turn (fun _ => False) V V') : LN20 w V' p :=
  ⟨h.part.turn ht (fun f => f), h.res.turn ht (fun f => f), h.turn.trans ht (fun _ _ f => f)⟩
theorem LN20.start (w : World) (p : T19) : LN20 w ((w.alloc (.cells (tcells19 p) 24)).alloc (.cells #[.bool false] 4)) p := by
  refine ⟨(Box.new w _ _).alloc _, ?_, ((Turn.refl _ w).alloc _).alloc _⟩
  have h := Box.new (w.alloc (.cells (tcells19 p) 24)) 4 #[.bool false]
  rw [World.size_alloc] at h
  exact h

set_option maxHeartbeats 40000000 in
theorem nils_any20 {M : World → (Nat → Prop) → Nat → List N20 → Prop} (P : Prog20 M) (Z : Nil20) (h : Int) (p : T19) (w : World) (rh : rng19 h) (rp : p.fits) :
    Calls Try.prog 6 #[.int .i64 h, tv19 p] w fun e w' => e = .returned (.bool true) ∧ Turn (fun _ => False) w w' := by
  have HP := Lib.hid P; have HZ := Lib.hid Z; have HRG : Hid (rng19 h ∧ p.fits) := ⟨rh, rp⟩
  clear P Z rh rp
  refine (callsIn_wide (n := 5)).1 ?_
  refine callsIn_of_wp_marks Try.func6 rfl trivial ?_ rfl
  simp only [Try.ntmps6, List.size_toArray, List.length_cons, List.length_nil, Nat.reduceAdd, Nat.reduceSub, Array.replicate_succ, Array.replicate_zero, List.push_toArray, List.append_toArray, List.nil_append, List.cons_append]
  refine wpIn_wide.2 ?_
  obtain ⟨w0, hw0⟩ : ∃ w0, w0 = (w.alloc (.cells (tcells19 p) 24)).alloc (.cells #[.bool false] 4) := ⟨_, rfl⟩
  have HW0 := Lib.hid hw0
  have HK0 : Hid (LN20 w w0 p) := by rw [hw0]; exact LN20.start w p
  clear hw0
  go_wp2_with fail
  rw [← HW0.out]
  refine (alive_any20 HP.out w0).mono ?_
  rintro e w1 ⟨rfl, t1⟩
  have HK1 := Lib.hid (HK0.out.later t1)
  clear t1 HK0 HW0
  go_wp2_with fail
  refine (HZ.out.all w1).mono ?_
  rintro e w9 ⟨gf, lb, rfl, heg, t9, hfe⟩
  have HFE := Lib.hid (hfe 4 (fun k => k = w9.heap.size + 1) (fun k h => .inr (by omega)))
  have HK9 := Lib.hid (HK1.out.later t9)
  clear hfe t9 HK1
  go_wp2_with fail
  refine (wpIn_wide (n := 5)).1 ?_
  refine' over7 (n := 5) (by omega) (gf := gf) (lb := lb) rfl heg HFE.out (Turn.refl _ _) rfl ?hS2 (fun _ => rfl) (fun _ _ => { tmps := #[], defers := [] })
    (fun (_ : List N20) V => LN20 w V p) (fun _ (_ : List N20) _ => False) ?hI ?hIx HK9.out
    (fun _ _ _ _ => False) ?hax ?assign ?body ?done ?stop
  case assign =>
    intro l0 pre x W K hi hgv hK
    exact absurd hgv.length_le (by simp)
  case hS2 =>
    intro k hk
    omega
  case hI =>
    intro pre A B h ht
    exact ⟨h.part.odd ht, h.res.odd ht, h.turn.trans ht (fun k hk e => by have h1 := e.1; have h2 := HK9.out.turn.size; omega)⟩
  case hIx => exact fun c pre A B h ht => h.elim
  case hax => exact fun pre y q A B h ht => h.elim
  case body => exact fun l0 pre y q V h => h.elim
  case stop => exact fun D c0 pre V hD hP h hK => h.elim
  case done =>
    rintro D xs V hD hA hi hK
    have HV := Lib.hid hi; have HKD := Lib.hid hK
    have HDD : Hid (w.heap.size ≤ D) := Nat.le_trans HK9.out.turn.size hD
    have hDV : D < V.heap.size := (Array.getElem?_eq_some_iff.1 hK).1
    have HDV := Lib.hid hDV
    clear hi hK hD hA hDV HK9 HFE
    go_wp2_with fail
    refine (HZ.out.at_ h V HRG.out.1).mono ?_
    rintro e w2 ⟨rfl, t2⟩
    obtain ⟨w3, hw3⟩ : ∃ w3, w3 = w2.alloc (.cells (ecells20 zero20) 32) := ⟨_, rfl⟩
    have HT3 : Hid (Turn (fun _ => False) V w3) := by rw [hw3]; exact t2.alloc _
    have HW3 := Lib.hid hw3
    have k0 := ((HV.out.later HT3.out).part).cell 0
    have k1 := ((HV.out.later HT3.out).part).cell 1
    rw [hw3] at k0 k1
    clear t2 hw3
    go_wp2_with fail
    rw [← HW3.out]
    refine (HZ.out.get p w3 HRG.out.2).mono ?_
    rintro e w4 ⟨rfl, t4⟩
    obtain ⟨w5, hw5⟩ : ∃ w5, w5 = w4.alloc (.cells (ecells20 zero20) 32) := ⟨_, rfl⟩
    have HT5 : Hid (Turn (fun _ => False) V w5) := by rw [hw5]; exact (HT3.out.trans t4 (fun _ _ f => f)).alloc _
    have HW5 := Lib.hid hw5
    clear t4 hw5 k0 k1
    go_wp2_with fail
    rw [← HW5.out]
    refine (HZ.out.apply w5).mono ?_
    rintro e w6 ⟨rfl, t6⟩
    have HT6 := Lib.hid (HT5.out.trans t6 (fun _ _ f => f))
    clear t6
    go_wp2_with fail
    refine (HZ.out.over w6).mono ?_
    rintro e w7 ⟨vo, rfl, r7, t7, -⟩
    obtain ⟨Ao, co, rfl⟩ := r7.shape
    have HT7 := Lib.hid (HT6.out.trans t7 (fun _ _ f => f))
    clear t7 r7
    go_wp2_with fail
    refine (HZ.out.len w7).mono ?_
    rintro e w8 ⟨rfl, t8⟩
    have HT8 := Lib.hid (HT7.out.trans t8 (fun _ _ f => f))
    clear t8
    go_wp2_with fail
    refine (HZ.out.copy w8).mono ?_
    rintro e wa ⟨rfl, ta⟩
    have HTa := Lib.hid (HT8.out.trans ta (fun _ _ f => f))
    clear ta
    go_wp2_with fail
    refine (HZ.out.segs wa).mono ?_
    rintro e wb ⟨vs, rfl, rb, tb⟩
    obtain ⟨As, cs, rfl⟩ := rb.shape
    have HTb := Lib.hid (HTa.out.trans tb (fun _ _ f => f))
    clear tb rb
    have HLb := Lib.hid (HV.out.later HTb.out)
    have c2 := HLb.out.res.cell 0
    have f2 := HLb.out.res.free 0
    have hkd : wb.heap[D]? = some (.deferred (some [])) := (HTb.out.block D HDV.out (fun f => f)).trans HKD.out
    have HKB := Lib.hid hkd
    clear hkd
    go_wp2
    have k1 := (KeepsOthers.setCell wb ⟨w.heap.size + 1, 0, none⟩ (.bool true)).same D _ HKB.out rfl
    have b9 := HLb.out.res.set 0 (.bool true)
    have t9 : Turn (fun _ => False) w (wb.setCell ⟨w.heap.size + 1, 0, none⟩ (.bool true)) := HLb.out.turn.setCell (p := ⟨w.heap.size + 1, 0, none⟩) (fun h => absurd h (by simp)) _
    generalize wb.setCell ⟨w.heap.size + 1, 0, none⟩ (.bool true) = w99 at *
    have u1 : Turn (fun g => g = D) w99 (w99.putObj D (.deferred none)) := Turn.putObj _ D _ rfl
    have b10 := b9.turn u1 (fun e => by rw [← e, show w99.heap[w.heap.size + 1]? = _ from b9] at k1; cases k1)
    have h11 := b10.cell 0
    refine ⟨by simp, .inl ⟨_, _, rfl, run_takeDeferred k1, ?_⟩⟩
    refine ⟨.bool true, ?_, rfl, ?_⟩
    · simp [results, Try.f6, go_sem, h11]
    · exact t9.fresh u1 (fun g e => by rw [e]; exact HDD.out)

end Go.Proofs.Ytgbphkbbedkepaa

/-
  Stage 20: CatalogLooks, of any catalog of the program.
-/
namespace Go.Proofs.Ytgbphkbbedkepaa
open Go.RowKit

set_option maxRecDepth 100000

theorem over_len20 (l : List N20) (a b : Int) : (over20 l a b).length ≤ l.length := List.length_filter_le _ _

set_option maxHeartbeats 16000000 in
theorem looks_any20 {M : World → (Nat → Prop) → Nat → List N20 → Prop} (P : Prog20 M) (v : Value) (L : List AC20) (h : Int) (p : T19) (lo hi : Int) (w : World) (hv : RdE EA20 w v L) (hl : L.length ≤ maxLen) (ho : ∀ a ∈ L, AcOk20 w a) (rh : rng19 h) (rp : p.fits) (rlo : rng19 lo) (rhi : rng19 hi) :
    Calls Try.prog 3 #[v, .int .i64 h, tv19 p, .int .i64 lo, .int .i64 hi] w fun e w' => e = .returned (.bool true) ∧ Turn (fun _ => False) w w' := by
  obtain ⟨wb, hwb⟩ : ∃ wb, wb = w.alloc (.cells (tcells19 p) 24) := ⟨_, rfl⟩
  obtain ⟨b, hbb⟩ : ∃ b, b = w.heap.size := ⟨_, rfl⟩
  have HTB : Hid (Turn (fun _ => False) w wb) := by rw [hwb]; exact (Turn.refl _ w).alloc _
  have HBX : Hid (Box wb b 24 (tcells19 p)) := by rw [hwb, hbb]; exact Box.new w _ _
  have HWB := Lib.hid hwb; have HBB := Lib.hid hbb
  have HP := Lib.hid P; have HV := Lib.hid (hv.later HTB.out); have HO : Hid (∀ a ∈ L, AcOk20 wb a) := fun a ha => (ho a ha).later HTB.out
  have HLI := Lib.hid (light_any20 v L wb HV.out hl (fun a ha => ⟨(ho a ha).dn, (ho a ha).pn⟩))
  have HAL : Hid (∀ W, Calls Try.prog 8 #[] W fun e w' => e = .returned (.bool true) ∧ Turn (fun _ => False) W w') := fun W => alive_any20 HP.out W
  have HRG : Hid (rng19 h ∧ p.fits ∧ rng19 lo ∧ rng19 hi) := ⟨rh, rp, rlo, rhi⟩
  obtain ⟨A, c, rfl⟩ := hv.shape
  clear P hv ho hwb hbb hl rh rp rlo rhi
  cases hL : light20 L with
  | false =>
    rw [hL] at HLI
    clear hL
    go_enter Try.func3, Try.ntmps3
    go_wp2_with fail
    rw [← HWB.out]
    refine HLI.out.mono ?_
    rintro e w1 ⟨rfl, rfl⟩
    clear HLI
    go_wp2_with fail
    refine (HAL.out w1).mono ?_
    rintro e w2 ⟨rfl, t2⟩
    have HT2 := Lib.hid (HTB.out.trans t2 (fun _ _ f => f))
    clear t2
    go_wp2
    go_ret
    exact ⟨rfl, HT2.out⟩
  | true =>
    rw [hL] at HLI
    obtain ⟨h40, hs⟩ := light_short20 hL
    have HMD := Lib.hid (made_any20 HP.out (.slice A L.length c) L wb HV.out h40 hs HO.out)
    have H40 := Lib.hid h40
    clear hL hs h40
    go_enter Try.func3, Try.ntmps3
    go_wp2_with fail
    rw [← HWB.out, ← HBB.out]
    refine HLI.out.mono ?_
    rintro e w1 ⟨rfl, hw1⟩
    subst w1
    clear HLI
    go_wp2_with fail
    refine HMD.out.mono ?_
    rintro e w2 ⟨g, rv, F, rfl, hb2⟩
    have HB := Lib.hid hb2
    have HBD := Lib.hid (hb2.bd (by have := H40.out; omega))
    have HLN : Hid ((run20 L).length ≤ 5000) := HBD.out.len
    clear hb2 HMD
    have HAT : Hid (∀ W, Turn (fun _ => False) w2 W → Calls Try.prog 10 #[.pointer (some ⟨g, 0, none⟩), .int .i64 h] W fun e w' => Look20 W (at20 (run20 L) h) e w') := fun W ht => HP.out.at_ h HRG.out.1 (HB.out.later HP.out ht).mem HBD.out
    have HAR : Hid (∀ W, Turn (fun _ => False) w2 W → Calls Try.prog 11 #[rv, .int .i64 h] W fun e w' => Look20 W (at20 (run20 L) h) e w') := fun W ht => ref_at20 rv _ h W (HB.out.row.later ht) (by have := HLN.out; omega)
    have HGT : Hid (∀ W, Turn (fun _ => False) w2 W → Calls Try.prog 12 #[.pointer (some ⟨g, 0, none⟩), tv19 p] W fun e w' => Look20 W (get20 (run20 L) p) e w') := fun W ht => HP.out.get p HRG.out.2.1 (HB.out.later HP.out ht).mem HBD.out
    have HGR : Hid (∀ W, Turn (fun _ => False) w2 W → Calls Try.prog 13 #[rv, tv19 p] W fun e w' => Look20 W (get20 (run20 L) p) e w') := fun W ht => ref_get20 rv _ p W (HB.out.row.later ht) (by have := HLN.out; omega)
    have HOV : Hid (∀ W, Turn (fun _ => False) w2 W → Calls Try.prog 15 #[.pointer (some ⟨g, 0, none⟩), .int .i64 lo, .int .i64 hi] W fun e w' => Ents20 W (over20 (run20 L) lo hi) e w') := fun W ht => HP.out.over lo hi HRG.out.2.2.1 HRG.out.2.2.2 (HB.out.later HP.out ht).mem HBD.out
    have HOR : Hid (∀ W, Turn (fun _ => False) w2 W → Calls Try.prog 16 #[rv, .int .i64 lo, .int .i64 hi] W fun e w' => Ents20 W (over20 (run20 L) lo hi) e w') := fun W ht => ref_over20 rv _ lo hi W (HB.out.row.later ht) (by have := HLN.out; omega)
    have HOL : Hid ((over20 (run20 L) lo hi).length ≤ 1000000) := by show _ ≤ _; have h1 := over_len20 (run20 L) lo hi; have := HLN.out; omega
    have HT2 : Hid (Turn (fun _ => False) wb w2) := HB.out.turn
    clear HB HBD HLN HRG HP
    generalize at20 (run20 L) h = q1 at *
    generalize get20 (run20 L) p = q2 at *
    generalize over20 (run20 L) lo hi = ol at *
    obtain ⟨n1, b1⟩ := q1
    obtain ⟨n2, b2⟩ := q2
    unfold Look20 at HAT HAR HGT HGR
    have HE1 : Hid (∀ W, Sem.run Try.prog (binOp .eql 32 (ev20 n1) (ev20 n1)) W = .ok (.bool true) W) := fun W => (run_eql_ent20 n1 n1 W).trans (by rw [eqN_iff.2 rfl])
    have HE2 : Hid (∀ W, Sem.run Try.prog (binOp .eql 32 (ev20 n2) (ev20 n2)) W = .ok (.bool true) W) := fun W => (run_eql_ent20 n2 n2 W).trans (by rw [eqN_iff.2 rfl])
    -- At, both
    go_wp2_with fail
    refine (HAT.out w2 (Turn.refl _ _)).mono ?_
    rintro e w3 ⟨rfl, t3⟩
    obtain ⟨x1, hx1⟩ : ∃ q, q = w3.heap.size := ⟨_, rfl⟩
    obtain ⟨w4, hw4⟩ : ∃ w4, w4 = w3.alloc (.cells (ecells20 n1) 32) := ⟨_, rfl⟩
    have HT4 : Hid (Turn (fun _ => False) w2 w4) := by rw [hw4]; exact t3.alloc _
    have HX1 : Hid (Box w4 x1 32 (ecells20 n1)) := by rw [hw4, hx1]; exact Box.new w3 _ _
    have HW4 := Lib.hid hw4; have HQ1 := Lib.hid hx1
    clear t3 hx1 hw4 HAT
    go_wp2_with fail
    rw [← HW4.out, ← HQ1.out]
    refine (HAR.out w4 HT4.out).mono ?_
    rintro e w5 ⟨rfl, t5⟩
    obtain ⟨x2, hx2⟩ : ∃ q, q = w5.heap.size := ⟨_, rfl⟩
    obtain ⟨w6, hw6⟩ : ∃ w6, w6 = w5.alloc (.cells (ecells20 n1) 32) := ⟨_, rfl⟩
    have HT6 : Hid (Turn (fun _ => False) w4 w6) := by rw [hw6]; exact t5.alloc _
    have HX2 : Hid (Box w6 x2 32 (ecells20 n1)) := by rw [hw6, hx2]; exact Box.new w5 _ _
    have HW6 := Lib.hid hw6; have HQ2 := Lib.hid hx2
    have HXA := Lib.hid (HX1.out.turn HT6.out (fun f => f))
    have hbp := (HBX.out.turn HT2.out (fun f => f)).turn (HT4.out.trans HT6.out (fun _ _ f => f)) (fun f => f)
    obtain ⟨k0, k1⟩ : w6.cell? ⟨b, 0, none⟩ = some (.int .i64 p.t) ∧ w6.cell? ⟨b, 1, none⟩ = some (.int .i64 p.i) := ⟨hbp.cell 0, hbp.cell 1⟩
    rw [hw6] at k0 k1
    clear t5 hx2 hw6 HAR HX1 HW4 HQ1 hbp
    go_wp2_with fail
    rw [← HW6.out, ← HQ2.out]
    have HT6b := Lib.hid (HT4.out.trans HT6.out (fun _ _ f => f))
    refine (HGT.out w6 HT6b.out).mono ?_
    rintro e w7 ⟨rfl, t7⟩
    obtain ⟨x3, hx3⟩ : ∃ q, q = w7.heap.size := ⟨_, rfl⟩
    obtain ⟨w8, hw8⟩ : ∃ w8, w8 = w7.alloc (.cells (ecells20 n2) 32) := ⟨_, rfl⟩
    have HT8 : Hid (Turn (fun _ => False) w6 w8) := by rw [hw8]; exact t7.alloc _
    have HX3 : Hid (Box w8 x3 32 (ecells20 n2)) := by rw [hw8, hx3]; exact Box.new w7 _ _
    have HW8 := Lib.hid hw8; have HQ3 := Lib.hid hx3
    have hbp := (HBX.out.turn HT2.out (fun f => f)).turn (HT6b.out.trans HT8.out (fun _ _ f => f)) (fun f => f)
    clear k0 k1
    obtain ⟨k0, k1⟩ : w8.cell? ⟨b, 0, none⟩ = some (.int .i64 p.t) ∧ w8.cell? ⟨b, 1, none⟩ = some (.int .i64 p.i) := ⟨hbp.cell 0, hbp.cell 1⟩
    rw [hw8] at k0 k1
    clear t7 hx3 hw8 HGT HW6 HQ2 hbp HT4
    go_wp2_with fail
    rw [← HW8.out, ← HQ3.out]
    have HT8b := Lib.hid (HT6b.out.trans HT8.out (fun _ _ f => f))
    refine (HGR.out w8 HT8b.out).mono ?_
    rintro e w9 ⟨rfl, t9⟩
    obtain ⟨x4, hx4⟩ : ∃ q, q = w9.heap.size := ⟨_, rfl⟩
    obtain ⟨wa, hwa⟩ : ∃ wa, wa = w9.alloc (.cells (ecells20 n2) 32) := ⟨_, rfl⟩
    have HTa : Hid (Turn (fun _ => False) w8 wa) := by rw [hwa]; exact t9.alloc _
    have HX4 : Hid (Box wa x4 32 (ecells20 n2)) := by rw [hwa, hx4]; exact Box.new w9 _ _
    have HWa := Lib.hid hwa; have HQ4 := Lib.hid hx4
    have HTab := Lib.hid (HT8b.out.trans HTa.out (fun _ _ f => f))
    obtain ⟨c0, c1, c2, c3, c4, c5⟩ := box_n20 ((HXA.out.turn HT8.out (fun f => f)).turn HTa.out (fun f => f))
    obtain ⟨d0, d1, d2, d3, d4, d5⟩ := box_n20 ((HX2.out.turn HT8.out (fun f => f)).turn HTa.out (fun f => f))
    obtain ⟨e0, e1, e2, e3, e4, e5⟩ := box_n20 (HX3.out.turn HTa.out (fun f => f))
    obtain ⟨f0, f1, f2, f3, f4, f5⟩ := box_n20 HX4.out
    rw [hwa] at c0 c1 c2 c3 c4 c5 d0 d1 d2 d3 d4 d5 e0 e1 e2 e3 e4 e5 f0 f1 f2 f3 f4 f5
    rw [hx4] at f0 f1 f2 f3 f4 f5
    have heq1 := HE1.out; have heq2 := HE2.out
    clear t9 hx4 hwa HGR HW8 HQ3 k0 k1 HXA HX2 HX3 HX4 HT6 HT8 HT6b
    go_wp2_with fail
    rw [← HWa.out]
    refine (HOV.out wa HTab.out).mono ?_
    rintro e wc ⟨vo, rfl, rc, tc, -⟩
    have HRC := Lib.hid rc; have HTc := Lib.hid tc
    clear rc tc HOV
    go_wp2_with fail
    refine (HOR.out wc (HTab.out.trans HTc.out (fun _ _ f => f))).mono ?_
    rintro e wd ⟨ro, rfl, rd, td, -⟩
    have HRD := Lib.hid rd; have HTd := Lib.hid td
    clear rd td HOR
    go_wp2_with fail
    refine (ref_same20 vo ro ol wd (HRC.out.later HTd.out) HRD.out HOL.out).mono ?_
    rintro e we ⟨rfl, te⟩
    have HTe := Lib.hid te
    clear te
    go_wp2_with fail
    refine (HAL.out _).mono ?_
    rintro e wf ⟨rfl, tf⟩
    have HTf : Hid (Turn (fun _ => False) w wf) := ((((((HTB.out.trans HT2.out (fun _ _ f => f)).trans HTab.out (fun _ _ f => f)).trans HTc.out (fun _ _ f => f)).trans HTd.out (fun _ _ f => f)).trans HTe.out (fun _ _ f => f))).trans tf (fun _ _ f => f)
    clear tf
    go_wp2
    go_ret
    exact ⟨rfl, HTf.out⟩

end Go.Proofs.Ytgbphkbbedkepaa

/-
  Stage 20: CatalogPlays, of any catalog of the program.
-/
namespace Go.Proofs.Ytgbphkbbedkepaa
open Go.RowKit

set_option maxRecDepth 100000

end Go.Proofs.Ytgbphkbbedkepaa
