/-
  Texts laid one behind the other: Ip Iq Ih Ez R4q R4r R4m R4n.
-/
import Derived.Test.YtgbphkbbedkepaaGreatJocai
import Derived.Sort.BigQuietIn
import Derived.Test.YtgbphkbbedkepaaGreatJocab

/-
  A range over a function, its loop variable boxed, what a round may turn bounded: so that an iterator may range over another one and keep boxes of its own (over6, over7: over4, over5 for Feeds). No type is named.
-/
namespace Go.Proofs.YtgbphkbbedkepaaGreat
open Go.RowKit

/-- over4 for Feeds. -/
theorem over6 {α : Type} {n : Nat} {g : Operand} {ps : Array Tmp} {assign body : Code} {Q : Exit → Act → World → Prop} {a : Act} {w w0 : World} (h1 : 1 ≤ n)
    {gf : Nat} {lb : Array Value} (hg : a.eval g = .func (.func gf) #[] lb) (eg : ∀ args w, (callFunc gf args).run Tryz.prog w = .ok (.enter gf args) w)
    {encs : α → Array Value} {S : Nat → Prop} {Gv : List α → α → World → Prop} {All Part : List α → Prop} (hseq : Feeds (n - 1) gf lb encs S Gv All Part w0) (hb0 : Turn (fun _ => False) w0 w)
    (hS : S (w.heap.size + 1)) (hS2 : ∀ k, S k → k < w.heap.size + 2) (hps : ∀ x, (encs x).size = ps.size)
    (I : List α → World → Prop) (Ix : Code → List α → World → Prop) (hI : Holds w.heap.size I) (hIx : ∀ c, Holds w.heap.size (Ix c)) (h0 : I [] w) (I2 : List α → α → Act → World → Prop) (hI2 : ∀ pre x a' A B, I2 pre x a' A → Turn (odd w.heap.size A) A B → I2 pre x a' B)
    (hassign : ∀ (l : Nat) (pre : List α) (x : α) (W : World) (K : Act → World → Prop), I pre W → Gv pre x W → (∀ a' W', I2 pre x a' W' → Turn (fun _ => False) W W' → K a' W') →
      assign.wpIn (Fence.wide.inRound l) (n - 1 - 1) Tryz.prog (Exit.then K (fun _ _ _ => False)) { tmps := (ps.zip (encs x)).foldl (fun t (p, v) => t.setIfInBounds p v) a.tmps, defers := [] } W)
    (hbody : ∀ (l : Nat) (pre : List α) (x : α) (a' : Act) (W : World), I2 pre x a' W → body.wpIn (Fence.wide.inRound l) (n - 1 - 1) Tryz.prog (postF w.heap.size S I Ix (pre ++ [x]) W) a' W)
    (hdone : ∀ (D : Nat) (xs : List α) (W : World), w.heap.size ≤ D → All xs → I xs W → W.heap[D]? = some (.deferred (some [])) → Q .normal { a with defers := { target := .collected D, args := #[] } :: a.defers } W)
    (hstop : ∀ (D : Nat) (c : Code) (pre : List α) (W : World), w.heap.size ≤ D → Part pre → Ix c pre W → W.heap[D]? = some (.deferred (some [])) → c.wpIn Fence.wide n Tryz.prog Q { a with defers := { target := .collected D, args := #[] } :: a.defers } W) :
    (Code.rangeFunc g ps assign body).wpIn Fence.wide n Tryz.prog Q a w := by
  refine wpIn_rangeFunc fun fn hfn => ?_
  obtain ⟨R, hR⟩ : ∃ R : LoopState → Option Code → Obj, R = fun st pe => .loop { state := st, pending := pe, fn, tmps := a.tmps, params := ps, assign, body, defers := w.heap.size } := ⟨_, rfl⟩
  -- the two blocks of the statement: the rounds' deferred calls, and its record, in a state
  obtain ⟨Bk, hBk⟩ : ∃ Bk : LoopState → Option Code → World → Prop, Bk = fun st pe W => W.heap[w.heap.size + 1]? = some (R st pe) ∧ W.heap[w.heap.size]? = some (.deferred (some [])) := ⟨_, rfl⟩
  obtain ⟨W1, hW1⟩ : ∃ W1, (w.alloc (.deferred (some []))).alloc (R .ready none) = W1 := ⟨_, rfl⟩
  have hsz : W1.heap.size = w.heap.size + 2 := by rw [← hW1]; simp
  have t1 : Turn (fun _ => False) w W1 := by rw [← hW1]; exact ((Turn.refl _ w).alloc _).alloc _
  have k1 : Bk .ready none W1 := by
    rw [hBk]
    refine ⟨?_, ?_⟩
    · have := World.alloc_heap_new (w.alloc (.deferred (some []))) (R .ready none)
      rw [World.size_alloc] at this
      rw [← hW1]
      exact this
    · rw [← hW1]
      exact (Below.heap_alloc _ _ _ (by simp)).trans (World.alloc_heap_new w _)
  have move : ∀ {D : Nat} {st : LoopState} {pe : Option Code} {A B : World}, w.heap.size + 2 ≤ D → Turn (odd D A) A B → Bk st pe A → Bk st pe B := by
    intro D st pe A B hD ht hk
    rw [hBk] at hk ⊢
    have far : ∀ k, k < w.heap.size + 2 → k < A.heap.size → B.heap[k]? = A.heap[k]? := fun k hk1 hk2 => ht.block k hk2 (fun s => by have := s.1; omega)
    exact ⟨(far _ (by omega) (Array.getElem?_eq_some_iff.1 hk.1).1).trans hk.1, (far _ (by omega) (Array.getElem?_eq_some_iff.1 hk.2).1).trans hk.2⟩
  have put : ∀ {st st' : LoopState} {pe pe' : Option Code} {A : World}, Bk st pe A → Bk st' pe' (A.putObj (w.heap.size + 1) (R st' pe')) ∧ Turn (odd w.heap.size A) A (A.putObj (w.heap.size + 1) (R st' pe')) ∧ Turn S A (A.putObj (w.heap.size + 1) (R st' pe')) := by
    intro st st' pe pe' A hk
    rw [hBk] at hk ⊢
    refine ⟨⟨World.putObj_heap_same (Array.getElem?_eq_some_iff.1 hk.1).1, (World.putObj_heap_other (by omega)).trans hk.2⟩, Turn.putObj _ _ _ ⟨by omega, _, hk.1, ?_⟩, Turn.putObj _ _ _ hS⟩
    rw [hR]
    rfl
  have keep : ∀ {st : LoopState} {pe : Option Code} {A B : World}, Still w.heap.size A B → Bk st pe A → Bk st pe B := by
    intro st pe A B h hk
    rw [hBk] at hk ⊢
    exact ⟨h.same _ _ (Nat.le_succ _) hk.1 (by rw [hR]; rfl), h.same _ _ (Nat.le_refl _) hk.2 rfl⟩
  refine ⟨w.heap.size + 1, [{ target := .collected w.heap.size, args := #[] }], W1, { target := .fn (.func gf) lb, args := #[.func (.yield (w.heap.size + 1)) #[] #[]] }, W1, gf,
    #[.func (.yield (w.heap.size + 1)) #[] #[]] ++ lb, W1, ?_, ?_, ?_, ?_, fun _ => h1, ?_⟩
  · rw [← hW1, hR]
    exact run_enterLoop_outer _ _ _ _ _
  · simp only [resolve, hg]
    simp [go_sem]
  · intro f' _
    trivial
  · simp [invoke, go_sem, eg]
  · refine (hseq (w.heap.size + 1) (fun pre W => I pre W ∧ Bk .ready none W) (fun pre W => ∃ c, Ix c pre W ∧ Bk .done (some c) W) W1 (hb0.trans t1 (fun _ _ f => f)) (by omega) (fun k hk => by have := hS2 k hk; omega)
      (fun s A B hs ht => ⟨(hI.le (by omega)) s A B hs.1 ht, move (by omega) ht hs.2⟩)
      (fun s A B hs ht => by
        obtain ⟨c, hc, hk⟩ := hs
        exact ⟨c, ((hIx c).le (by omega)) s A B hc ht, move (by omega) ht hk⟩)
      ?_ ⟨hI _ _ _ h0 t1.none, k1⟩).mono ?_
    · rintro pre x W ⟨hi, hk⟩ hgv
      have hl : W.heap[w.heap.size + 1]? = some (R .ready none) := by rw [hBk] at hk; exact hk.1
      rw [hR] at hl
      have hy := run_yield (P := Tryz.prog) (args := encs x) hl (hps x)
      refine ⟨fn, _, assign, body, hy, roundIn_of_wpIn hfn (hassign _ pre x W _ hi hgv fun a5 W5 hx5 ht5 => ?_)⟩
      have hk5 : Bk .ready none W5 := by
        rw [hBk] at hk ⊢
        exact ⟨(ht5.block _ (Array.getElem?_eq_some_iff.1 hk.1).1 (fun f => f)).trans hk.1, (ht5.block _ (Array.getElem?_eq_some_iff.1 hk.2).1 (fun f => f)).trans hk.2⟩
      have hl5 : W5.heap[w.heap.size + 1]? = some (R .ready none) := by rw [hBk] at hk5; exact hk5.1
      rw [hR] at hl5
      refine ⟨_, run_beginRound hl5 rfl, ?_⟩
      have hp := put (st' := .busy) (pe' := none) hk5
      rw [hR] at hp
      refine wpIn_mono (hbody _ pre x a5 _ (hI2 _ _ _ _ _ hx5 hp.2.1)) ?_
      have ends : ∀ (jump : Option Code) (W3 : World), Still w.heap.size (W5.putObj (w.heap.size + 1) (.loop { state := .busy, pending := none, fn, tmps := a.tmps, params := ps, assign, body, defers := w.heap.size })) W3 →
          ∃ W4, (Instr.endRound (w.heap.size + 1) jump).run Tryz.prog W3 = .ok (.bool jump.isNone) W4 ∧ Bk (if jump.isNone then .ready else .done) jump W4 ∧ Turn (odd w.heap.size W3) W3 W4 ∧ Turn S W3 W4 ∧ Still (w.heap.size + 1 + 1) W W4 := by
        intro jump W3 hk3
        have h3 := keep hk3 hp.1
        have hl3 : W3.heap[w.heap.size + 1]? = some (R .busy none) := by rw [hBk] at h3; exact h3.1
        have h4 := put (st' := if jump.isNone then .ready else .done) (pe' := jump) h3
        rw [hR] at hl3 h4
        exact ⟨_, run_endRound jump hl3, h4.1, h4.2.1, h4.2.2, (((Still.turned ht5).trans (Still.put W5 _ _ (Nat.lt_succ_self _))).trans (hk3.le (by omega))).trans (Still.put W3 _ _ (Nat.lt_succ_self _))⟩
      rintro e a3 W3 hpost
      cases e with
      | normal =>
        obtain ⟨hk3, ht3, hi3⟩ := hpost
        obtain ⟨W4, hr, hb4, ht4, hu4, hs4⟩ := ends none W3 hk3
        exact ⟨_, _, hr, .inl ⟨rfl, ⟨hI _ _ _ hi3 ht4, hb4⟩, ((ht5.none.trans hp.2.2 (fun _ _ s => s)).trans ht3 (fun _ _ s => s)).trans hu4 (fun _ _ s => s), hs4⟩⟩
      | ret =>
        obtain ⟨hk3, hi3⟩ := hpost
        obtain ⟨W4, hr, hb4, ht4, hu4, hs4⟩ := ends (some .ret) W3 hk3
        exact ⟨_, _, hr, .inr ⟨rfl, ⟨.ret, hIx _ _ _ _ hi3 ht4, hb4⟩, hs4⟩⟩
      | exit id =>
        obtain ⟨hk3, hi3⟩ := hpost
        obtain ⟨W4, hr, hb4, ht4, hu4, hs4⟩ := ends (some (.exit id)) W3 hk3
        exact ⟨_, _, hr, .inr ⟨rfl, ⟨.exit id, hIx _ _ _ _ hi3 ht4, hb4⟩, hs4⟩⟩
      | goto t =>
        obtain ⟨hk3, hi3⟩ := hpost
        obtain ⟨W4, hr, hb4, ht4, hu4, hs4⟩ := ends (some (.goto t)) W3 hk3
        exact ⟨_, _, hr, .inr ⟨rfl, ⟨.goto t, hIx _ _ _ _ hi3 ht4, hb4⟩, hs4⟩⟩
      | panic ch => exact hpost.elim
      | outgrown => exact hpost.elim
    · have shut : ∀ {st : LoopState} {pe : Option Code} {W2 : World}, st ≠ .busy → Bk st pe W2 → ∃ W3, (Instr.endLoop (w.heap.size + 1)).run Tryz.prog W2 = .ok pe W3 ∧ W3.heap[w.heap.size]? = some (.deferred (some [])) ∧ Turn (odd w.heap.size W2) W2 W3 := by
        intro st pe W2 hst hk
        have hl : W2.heap[w.heap.size + 1]? = some (R st pe) := by rw [hBk] at hk; exact hk.1
        have h4 := put (st' := .exhausted) (pe' := pe) hk
        have h5 : (W2.putObj (w.heap.size + 1) (R .exhausted pe)).heap[w.heap.size]? = some (.deferred (some [])) := by have h6 := h4.1; rw [hBk] at h6; exact h6.2
        rw [hR] at hl h4 h5
        exact ⟨_, run_endLoop hl hst, h5, h4.2.1⟩
      rintro e W2 ⟨⟨v, rfl⟩, (⟨xs, hA, hi, hk⟩ | ⟨pre, hP, c, hi, hk⟩)⟩
      · obtain ⟨W3, hr, hd, ht⟩ := shut (by simp) hk
        exact ⟨none, W3, hr, hdone _ xs _ (Nat.le_refl _) hA (hI _ _ _ hi ht) hd⟩
      · obtain ⟨W3, hr, hd, ht⟩ := shut (by simp) hk
        exact ⟨some c, W3, hr, hstop _ c pre _ (Nat.le_refl _) hP (hIx c _ _ _ hi ht) hd⟩
/-- over5 for Feeds. -/
theorem over7 {α : Type} {n : Nat} {g : Operand} {ps : Array Tmp} {assign body : Code} {Q : Exit → Act → World → Prop} {a : Act} {w w0 : World} (h1 : 1 ≤ n)
    {gf : Nat} {lb : Array Value} (hg : a.eval g = .func (.func gf) #[] lb) (eg : ∀ args w, (callFunc gf args).run Tryz.prog w = .ok (.enter gf args) w)
    {encs : α → Array Value} {S : Nat → Prop} {Gv : List α → α → World → Prop} {All Part : List α → Prop} (hseq : Feeds (n - 1) gf lb encs S Gv All Part w0) (hb0 : Turn (fun _ => False) w0 w)
    (hS : S (w.heap.size + 1)) (hS2 : ∀ k, S k → k < w.heap.size + 2) (hps : ∀ x, (encs x).size = ps.size) (A : α → Nat → Act)
    (I : List α → World → Prop) (Ix : Code → List α → World → Prop) (hI : Holds w.heap.size I) (hIx : ∀ c, Holds w.heap.size (Ix c)) (h0 : I [] w) (I2 : List α → α → Nat → World → Prop) (hI2 : ∀ pre x q A B, I2 pre x q A → Turn (odd w.heap.size A) A B → I2 pre x q B)
    (hassign : ∀ (l : Nat) (pre : List α) (x : α) (W : World) (K : Act → World → Prop), I pre W → Gv pre x W → (∀ q W', I2 pre x q W' → Turn (fun _ => False) W W' → K (A x q) W') →
      assign.wpIn (Fence.wide.inRound l) (n - 1 - 1) Tryz.prog (Exit.then K (fun _ _ _ => False)) { tmps := (ps.zip (encs x)).foldl (fun t (p, v) => t.setIfInBounds p v) a.tmps, defers := [] } W)
    (hbody : ∀ (l : Nat) (pre : List α) (x : α) (q : Nat) (W : World), I2 pre x q W → body.wpIn (Fence.wide.inRound l) (n - 1 - 1) Tryz.prog (postF w.heap.size S I Ix (pre ++ [x]) W) (A x q) W)
    (hdone : ∀ (D : Nat) (xs : List α) (W : World), w.heap.size ≤ D → All xs → I xs W → W.heap[D]? = some (.deferred (some [])) → Q .normal { a with defers := { target := .collected D, args := #[] } :: a.defers } W)
    (hstop : ∀ (D : Nat) (c : Code) (pre : List α) (W : World), w.heap.size ≤ D → Part pre → Ix c pre W → W.heap[D]? = some (.deferred (some [])) → c.wpIn Fence.wide n Tryz.prog Q { a with defers := { target := .collected D, args := #[] } :: a.defers } W) :
    (Code.rangeFunc g ps assign body).wpIn Fence.wide n Tryz.prog Q a w :=
  over6 h1 hg eg hseq hb0 hS hS2 hps I Ix hI hIx h0 (fun pre x a' W => ∃ q, a' = A x q ∧ I2 pre x q W) (fun pre x a' B C ⟨q, h, k⟩ ht => ⟨q, h, hI2 pre x q B C k ht⟩)
    (fun l pre x W K hi hgv hK => hassign l pre x W K hi hgv fun q W' h ht => hK _ _ ⟨q, rfl, h⟩ ht)
    (fun l pre x a' W ⟨q, h, k⟩ => by subst h; exact hbody l pre x q W k) hdone hstop

end Go.Proofs.YtgbphkbbedkepaaGreat

/-
  A region that draws its order and only reads, in a round of a range over a function: one walk of the text's order serves every order.
-/
namespace Go.Proofs.YtgbphkbbedkepaaGreat
open Go.RowKit

def noDefer : Op → Bool
  | .defer _ => false
  | _ => true
theorem noDefer_ne {o : Op} (h : noDefer o = true) : ∀ c, o ≠ .defer c := by
  rintro c rfl
  cases h

section
variable {F : Fence} {n : Nat} {P : Program} {C : World → Prop} {ops : Array Oper} {md : Region.Mode}

theorem quiet_op {o : Oper} {a : Act} {K : Act → Prop} {K' : Act → World → Prop} {Q' : Exit → Act → World → Prop} {w : World} (hd : noDefer o.op = true) (hw : C w) (h : ∀ a w', C w' → K a → K' a w')
    (ha : o.askedIn F P a C) (hh : o.quietIn F n P a C K) : o.wpIn F n P a w K' Q' := by
  obtain ⟨v, h1, h2⟩ := hh
  have h3 := h1 w hw
  unfold Oper.quietAtIn at h3
  unfold Oper.wpIn
  rw [Oper.semAt_eq _ _ _ (noDefer_ne hd)]
  refine ⟨ha w hw, ?_⟩
  generalize (execOp a.eval o).run P w = r at *
  rcases r with ⟨x, w'⟩ | ⟨x, w'⟩
  · cases x <;> simp only [Oper.quietUponIn] at h3 <;> simp only [Oper.uponIn]
    case value u =>
      rw [h3.1, h3.2]
      exact h _ _ hw h2
    case skip =>
      rw [h3.1, ← h3.2]
      exact h _ _ hw h2
    case enter f args =>
      rw [h3.1]
      exact ⟨h3.2.1, h3.2.2.mono fun e w'' ⟨he, hw''⟩ => by subst he; exact h _ _ hw'' h2⟩
  · simp only [Oper.quietUponIn] at h3

theorem quiet_at (hnd : ∀ o ∈ ops.toList, noDefer o.op = true) {i : Nat} {a : Act} {K : Act → Prop} {K' : Act → World → Prop} {Q' : Exit → Act → World → Prop} {w : World} (hC : C w) (h : ∀ a w', C w' → K a → K' a w')
    (hh : qOpIn F n P ops C i K a) : wpOpIn F n P ops Q' i K' a w := by
  unfold qOpIn at hh
  unfold wpOpIn
  cases ho : ops[i]? with
  | none =>
    simp only [ho] at hh
    exact h _ _ hC hh
  | some o =>
    simp only [ho] at hh
    have hm : noDefer o.op = true := hnd o (Array.mem_toList_iff.2 (Array.mem_of_getElem? ho))
    by_cases hw : Region.wanted o (yielded ops a.tmps)
    · simp only [hw, if_true] at hh ⊢
      exact quiet_op hm hC h hh.1 hh.2
    · simp only [hw] at hh ⊢
      exact ⟨hh.1 w hC, h _ _ hC hh.2⟩

theorem quiet_any (hnd : ∀ o ∈ ops.toList, noDefer o.op = true) {Q : Act → Prop} {Q' : Exit → Act → World → Prop} (hQ : ∀ a w, C w → Q a → Q' .normal a w) : ∀ (fuel : Nat) (listed : Array Bool) (a : Act) (w : World), C w →
    wpAnyQIn F n P md ops C Q fuel listed a → wpAnyIn F n P md ops Q' fuel listed a w
  | 0, _, _, _, hw, h => ⟨h.1, hQ _ _ hw h.2⟩
  | fuel + 1, _, _, _, hw, h => ⟨fun h0 => hQ _ _ hw (h.1 h0), fun i hi => quiet_at hnd hw (fun a' w' hw' => quiet_any hnd hQ fuel _ a' w' hw') (h.2 i hi)⟩

theorem quiet_region {id : Nat} {Q : Exit → Act → World → Prop} {a : Act} {w : World} {l : List Oper} (hnd : (l.all fun o => noDefer o.op) = true) (hm : P.follows .mixedOrders = true) (hB : Region.lexB .any l.toArray = true)
    (h : wpQuietIn F n P l.toArray (fun w' => ∃ n, w' = w.drewN n) (fun a' => ∀ w', (∃ n, w' = w.drewN n) → Q .normal a' w') l a) : (Code.region id l.toArray true).wpIn F n P Q a w := by
  simp only [Region.lexB, Bool.and_eq_true] at hB
  have hnd' : ∀ o ∈ l.toArray.toList, noDefer o.op = true := fun o ho => by
    rw [List.all_eq_true] at hnd
    exact hnd o (by simpa using ho)
  refine wpIn_region_any hm (quiet_any hnd' (C := fun w' => ∃ n, w' = w.drewN n) (Q := fun a' => ∀ w', (∃ n, w' = w.drewN n) → Q .normal a' w') (fun _ w' hw' h => h w' hw') _ _ _ _ ⟨1, rfl⟩ ?_)
  have := wpAnyQIn_lex (F := F) (n := n) (P := P) (ops := l.toArray) (C := fun w' => ∃ n, w' = w.drewN n) (md := .any) hB.1 l 0 (Array.replicate l.toArray.size false) a (by simp) (by simpa using hB.2) h
  simpa using this
end

theorem wide_fn (f : FuncId) : Fence.wide.fn f = True := rfl

theorem quiet_same {P : Program} {l0 : Nat} {n : Nat} {f : FuncId} {args : Array Value} {w : World} {k : Nat} {v : Value}
    (h : Calls P f args (w.drewN k) fun e w' => e = .returned v ∧ w.drewN k = w') : CallsIn (Fence.wide.inRound l0) n P f args (w.drewN k) fun e w'' => e = .returned v ∧ ∃ m, w'' = w.drewN m :=
  CallsIn.inRound l0 (callsIn_wide.2 (h.mono fun _ _ ⟨he, hm⟩ => ⟨he, k, hm.symm⟩))

end Go.Proofs.YtgbphkbbedkepaaGreat

/-
  A region that draws its order, walked by hand (drawn_region's words), in a round of a range over a function. No type is named here.
-/
namespace Go.Proofs.YtgbphkbbedkepaaGreat
open Go.RowKit

/-- Nothing but going on is owed. -/
def goesOn (Q : Exit → Act → World → Prop) : Exit → Act → World → Prop
  | .normal, a, w => Q .normal a w
  | _, _, _ => False
theorem goes_on {Q : Exit → Act → World → Prop} {a : Act} {w : World} (h : Q .normal a w) : goesOn Q .normal a w := h

section
variable {P : Program} {l0 n : Nat} {ops : Array Oper} {md : Region.Mode} {Q : Exit → Act → World → Prop}
theorem op_in {o : Oper} {a : Act} {w : World} {K K' : Act → World → Prop} (hd : noDefer o.op = true) (hK : ∀ a w, K a w → K' a w) (h : o.wp P a w K (goesOn Q) ∨ (o.asks P a w ∧ LetsOut (goesOn Q))) :
    o.wpIn (Fence.wide.inRound l0) n P a w K' Q := by
  rcases h with h | ⟨_, a', w', h⟩
  · unfold Oper.wp at h
    unfold Oper.wpIn
    refine ⟨fun f _ => trivial, ?_⟩
    rw [Oper.semAt_eq _ _ _ (noDefer_ne hd)]
    generalize (execOp a.eval o).run P w = r at *
    rcases r with ⟨x, w'⟩ | ⟨x, w'⟩
    · cases x <;> simp only [Oper.upon] at h <;> simp only [Oper.uponIn]
      case value => exact hK _ _ h
      case skip => exact hK _ _ h
      case defer => exact hK _ _ h
      case enter f args =>
        refine ⟨fun h0 => (by cases h0), CallsIn.inRound l0 (callsIn_wide.2 (h.mono fun e w'' he => ?_))⟩
        cases e with
        | returned v => exact hK _ _ he
        | panicked c => exact he.elim
        | outgrown =>
          obtain ⟨a', w', h⟩ := he
          exact h.elim
      case row row args =>
        refine ⟨fun h0 => (by cases h0), fun c cs _ => ?_⟩
        obtain ⟨v, w'', hv, hs⟩ := h c cs
        exact ⟨v, w'', hK _ _ hv, stepsIn_wide.2 hs⟩
    · cases x <;> simp only [Oper.upon] at h
      exact h.elim
  · exact h.elim
theorem any_in (hnd : ∀ o ∈ ops.toList, noDefer o.op = true) : ∀ (fuel : Nat) (listed : Array Bool) (a : Act) (w : World), wpAny P md ops (goesOn Q) fuel listed a w → wpAnyIn (Fence.wide.inRound l0) n P md ops Q fuel listed a w
  | 0, _, _, _, h => ⟨h.1, h.2⟩
  | fuel + 1, listed, a, w, h => ⟨fun h0 => h.1 h0, fun i hi => by
    have h1 := h.2 i hi
    unfold wpOp at h1
    unfold wpOpIn
    cases ho : ops[i]? with
    | none =>
      simp only [ho] at h1
      exact any_in hnd fuel _ a w h1
    | some o =>
      simp only [ho] at h1
      have hm : noDefer o.op = true := hnd o (Array.mem_toList_iff.2 (Array.mem_of_getElem? ho))
      by_cases hw : Region.wanted o (yielded ops a.tmps)
      · simp only [hw, if_true] at h1 ⊢
        exact op_in hm (fun a' w' => any_in hnd fuel _ a' w') h1
      · simp only [hw] at h1 ⊢
        exact ⟨fun f _ => trivial, any_in hnd fuel _ _ _ h1⟩⟩
theorem drawn_region_in (S : World → Prop) (zs : List Nat) {id : Nat} {ts : Array Value} {ds : List Deferred} {w : World} (hnd : (ops.toList.all fun o => noDefer o.op) = true) (hm : P.follows .mixedOrders = true)
    (h : Drawn P ops (goesOn Q) S zs ops.size (Array.replicate ops.size false) ts ds w.drew) : (Code.region id ops true).wpIn (Fence.wide.inRound l0) n P Q { tmps := ts, defers := ds } w :=
  wpIn_region_any hm (any_in (fun o ho => by rw [List.all_eq_true] at hnd; exact hnd o ho) _ _ _ _ (wpAny_ofG _ _ _ _ (h Shutd.start)))
end

end Go.Proofs.YtgbphkbbedkepaaGreat

/-
  A region that draws, walked by hand in a function that holds a range over a function: no panic is owed. No type is named here.
-/
namespace Go.Proofs.YtgbphkbbedkepaaGreat
open Go.RowKit

def calm (Q : Exit → Act → World → Prop) : Exit → Act → World → Prop
  | .panic _, _, _ => False
  | .normal, a, w => Q .normal a w
  | .ret, a, w => Q .ret a w
  | .exit c, a, w => Q (.exit c) a w
  | .goto t, a, w => Q (.goto t) a w
  | .outgrown, a, w => Q .outgrown a w
theorem calm_normal {Q : Exit → Act → World → Prop} {a : Act} {w : World} (h : Q .normal a w) : calm Q .normal a w := h
theorem drawn_region_calm {P : Program} {ops : Array Oper} {Q : Exit → Act → World → Prop} (S : World → Prop) (zs : List Nat) {id : Nat} {ts : Array Value} {ds : List Deferred} {w : World} (hm : P.follows .mixedOrders = true) (h : Drawn P ops (calm Q) S zs ops.size (Array.replicate ops.size false) ts ds w.drew) : (Code.region id ops true).wp P Q { tmps := ts, defers := ds } w :=
  Code.wp_mono (fun e a w h => by cases e <;> first | exact h | exact h.elim) (drawn_region S zs hm h)

end Go.Proofs.YtgbphkbbedkepaaGreat

/-
  Stage 20: CatalogEach, of any catalog of the program.
-/
namespace Go.Proofs.YtgbphkbbedkepaaGreat
open Go.RowKit Go.Shelf
attribute [local go_sem] Oper.semAt_some wide_fn

set_option maxRecDepth 100000

/-- The edit, the number at which to stop, the answer: boxes at the head. -/
structure LK20 (w V : World) (a : AC20) (stop : Int) : Prop where
  act : Box V w.heap.size 32 #[a.ds, a.ps]
  stp : Box V (w.heap.size + 1) 3 #[.int .i64 stop]
  res : Box V (w.heap.size + 2) 4 #[.bool false]
  turn : Turn (fun _ => False) w V
theorem LK20.later {w V V' : World} {a : AC20} {stop : Int} (h : LK20 w V a stop) (ht : Turn (fun _ => False) V V') : LK20 w V' a stop :=
  ⟨h.act.turn ht (fun f => f), h.stp.turn ht (fun f => f), h.res.turn ht (fun f => f), h.turn.trans ht (fun _ _ f => f)⟩
theorem LK20.turned {w V V' : World} {a : AC20} {stop : Int} {S : Nat → Prop} (h : LK20 w V a stop) (ht : Turn S V V') (hs : ∀ g, S g → w.heap.size + 3 ≤ g) : LK20 w V' a stop :=
  ⟨h.act.turn ht (fun e => by have := hs _ e; omega), h.stp.turn ht (fun e => by have := hs _ e; omega), h.res.turn ht (fun e => by have := hs _ e; omega), h.turn.trans ht (fun g hg e => by have := hs _ e; omega)⟩
theorem LK20.start (w : World) (a : AC20) (stop : Int) : LK20 w (((w.alloc (.cells #[a.ds, a.ps] 32)).alloc (.cells #[.int .i64 stop] 3)).alloc (.cells #[.bool false] 4)) a stop := by
  refine ⟨((Box.new w _ _).alloc _).alloc _, ?_, ?_, (((Turn.refl _ w).alloc _).alloc _).alloc _⟩
  · have h := (Box.new (w.alloc (.cells #[a.ds, a.ps] 32)) 3 #[.int .i64 stop]).alloc (.cells #[.bool false] 4)
    rw [World.size_alloc] at h
    exact h
  · have h := Box.new ((w.alloc (.cells #[a.ds, a.ps] 32)).alloc (.cells #[.int .i64 stop] 3)) 4 #[.bool false]
    rw [World.size_alloc, World.size_alloc] at h
    exact h
theorem LK20.size {w V : World} {a : AC20} {stop : Int} (h : LK20 w V a stop) : w.heap.size + 3 ≤ V.heap.size := h.res.lt

/-- In the range: how many entries have come, none the last one that is asked. -/
structure LI20 (w17 : World) (nb : Nat) (stop : Int) (pre : List N20) (V : World) : Prop where
  turn : Turn (fun g => g = nb) w17 V
  num : Box V nb 3 #[.int .i64 (pre.length : Int)]
  not : ∀ m : Nat, 1 ≤ m → m ≤ pre.length → (m : Int) ≠ stop
theorem LI20.odd {w17 A B : World} {nb D : Nat} {stop : Int} {pre : List N20} (h : LI20 w17 nb stop pre A) (hD : w17.heap.size ≤ D) (ht : Turn (odd D A) A B) : LI20 w17 nb stop pre B :=
  ⟨h.turn.trans ht (fun k hk e => by have := e.1; omega), h.num.odd ht, h.not⟩
theorem LI20.later {w17 A B : World} {nb : Nat} {stop : Int} {pre : List N20} (h : LI20 w17 nb stop pre A) (ht : Turn (fun _ => False) A B) : LI20 w17 nb stop pre B :=
  ⟨h.turn.trans ht (fun _ _ f => f.elim), h.num.turn ht (fun f => f), h.not⟩
/-- .. at the entry at which it ends. -/
structure LX20 (w17 : World) (nb : Nat) (stop : Int) (pre : List N20) (V : World) : Prop where
  turn : Turn (fun g => g = nb) w17 V
  num : Box V nb 3 #[.int .i64 (pre.length : Int)]
  some : 1 ≤ pre.length
  last : (pre.length : Int) = stop
theorem LX20.odd {w17 A B : World} {nb D : Nat} {stop : Int} {pre : List N20} (h : LX20 w17 nb stop pre A) (hD : w17.heap.size ≤ D) (ht : Turn (odd D A) A B) : LX20 w17 nb stop pre B :=
  ⟨h.turn.trans ht (fun k hk e => by have := e.1; omega), h.num.odd ht, h.some, h.last⟩

theorem pre_at20 {A : Type} {L pre : List A} {y : A} (hp : pre ++ [y] <+: L) : L[pre.length]? = some y ∧ pre.length < L.length := by
  obtain ⟨r, hr⟩ := hp
  have h : L[pre.length]? = some y := by
    rw [← hr, List.append_assoc, List.getElem?_append_right (Nat.le_refl _), Nat.sub_self]; rfl
  exact ⟨h, (List.getElem?_eq_some_iff.1 h).1⟩

end Go.Proofs.YtgbphkbbedkepaaGreat

/-
  Stage 20: CatalogNils, of any program that answers so of nil (Nil20).
-/
namespace Go.Proofs.YtgbphkbbedkepaaGreat
open Go.RowKit Go.Shelf
attribute [local go_sem] Oper.semAt_some wide_fn

set_option maxRecDepth 100000

/-- What the program says of a nil catalog. -/
structure Nil20 : Prop where
  all : ∀ w, Calls Tryz.prog 27 #[.pointer none] w fun e w' => All20 w [] e w'
  at_ : ∀ (h : Int) w, rng19 h → Calls Tryz.prog 18 #[.pointer none, .int .i64 h] w fun e w' => Look20 w (zero20, false) e w'
  get : ∀ (p : T19) w, p.fits → Calls Tryz.prog 36 #[.pointer none, tv19 p] w fun e w' => Look20 w (zero20, false) e w'
  apply : ∀ w, Calls Tryz.prog 7 #[.pointer none, .agg #[.slice none 0 0, .slice none 0 0]] w fun e w' => SaysC20 w (.int .i64 1) e w'
  over : ∀ w, Calls Tryz.prog 24 #[.pointer none, .int .i64 0, .int .i64 9] w fun e w' => Ents20 w [] e w'
  len : ∀ w, Calls Tryz.prog 11 #[.pointer none] w fun e w' => SaysC20 w (.int .i64 0) e w'
  copy : ∀ w, Calls Tryz.prog 19 #[.pointer none] w fun e w' => SaysC20 w (.pointer none) e w'
  segs : ∀ w, Calls Tryz.prog 13 #[.pointer none] w fun e w' => Numbs20 w [] e w'

/-- The partition, the answer: boxes at the head. -/
structure LN20 (w V : World) (p : T19) : Prop where
  part : Box V w.heap.size 45 (tcells19 p)
  res : Box V (w.heap.size + 1) 4 #[.bool false]
  turn : Turn (fun _ => False) w V
theorem LN20.later {w V V' : World} {p : T19} (h : LN20 w V p) (ht : Turn (fun _ => False) V V') : LN20 w V' p :=
  ⟨h.part.turn ht (fun f => f), h.res.turn ht (fun f => f), h.turn.trans ht (fun _ _ f => f)⟩
theorem LN20.start (w : World) (p : T19) : LN20 w ((w.alloc (.cells (tcells19 p) 45)).alloc (.cells #[.bool false] 4)) p := by
  refine ⟨(Box.new w _ _).alloc _, ?_, ((Turn.refl _ w).alloc _).alloc _⟩
  have h := Box.new (w.alloc (.cells (tcells19 p) 45)) 4 #[.bool false]
  rw [World.size_alloc] at h
  exact h

end Go.Proofs.YtgbphkbbedkepaaGreat

/-
  Stage 20: CatalogLooks, of any catalog of the program.
-/
namespace Go.Proofs.YtgbphkbbedkepaaGreat
open Go.RowKit

set_option maxRecDepth 100000

theorem over_len20 (l : List N20) (a b : Int) : (over20 l a b).length ≤ l.length := List.length_filter_le _ _

end Go.Proofs.YtgbphkbbedkepaaGreat

/-
  Stage 20: CatalogPlays, of any catalog of the program.
-/
namespace Go.Proofs.YtgbphkbbedkepaaGreat
open Go.RowKit

set_option maxRecDepth 100000

set_option maxHeartbeats 40000000 in
theorem plays_any20 {M : World → (Nat → Prop) → Nat → List N20 → Prop} (P : Prog20 M) (v : Value) (L : List AC20) (w : World) (hv : RdE EA20 w v L) (hl : L.length ≤ maxLen) (ho : ∀ a ∈ L, AcOk20 w a) :
    Calls Tryz.prog 3 #[v] w fun e w' => e = .returned (.bool true) ∧ Turn (fun _ => False) w w' := by
  have HP := Lib.hid P; have HV := Lib.hid hv; have HO := Lib.hid ho
  have HLI := Lib.hid (light_any20 v L w hv hl (fun a ha => ⟨(ho a ha).dn, (ho a ha).pn⟩))
  have HAL : Hid (∀ W, Calls Tryz.prog 5 #[] W fun e w' => e = .returned (.bool true) ∧ Turn (fun _ => False) W w') := fun W => alive_any20 HP.out W
  obtain ⟨A, c, rfl⟩ := hv.shape
  clear P hv ho hl
  cases hL : light20 L with
  | false =>
    rw [hL] at HLI
    clear hL
    go_enter Tryz.func3, Tryz.ntmps3
    go_wp2_with fail
    refine HLI.out.mono ?_
    rintro e w1 ⟨rfl, hw1⟩
    subst w1
    clear HLI
    go_wp2_with fail
    refine (HAL.out w).mono ?_
    rintro e w2 ⟨rfl, t2⟩
    have HT2 := Lib.hid t2
    clear t2
    go_wp2
    go_ret
    exact ⟨rfl, HT2.out⟩
  | true =>
    rw [hL] at HLI
    obtain ⟨h40, hs⟩ := light_short20 hL
    have HS := Lib.hid hs
    obtain ⟨N, hN⟩ : ∃ N, N = L.length := ⟨_, rfl⟩
    rw [← hN] at HV HLI h40 ⊢
    have HN := Lib.hid hN
    have HL := Lib.hid h40
    clear hL hs h40 hN
    go_enter Tryz.func3, Tryz.ntmps3
    go_wp2_with fail
    refine HLI.out.mono ?_
    rintro e w1 ⟨rfl, hw1⟩
    subst w1
    clear HLI
    go_wp2_with fail
    refine (HP.out.new w).mono ?_
    rintro e w1 ⟨g, F, rfl, hm, t1, hF⟩
    have HB0 : Hid (∃ F, Both20 M w w1 g (.slice none 0 0) F 0 (run20 (L.take 0))) := ⟨F, hm, Ok20.nil, Nat.zero_le _, RdE.nil _, fun h => absurd rfl h, t1, hF⟩
    clear hm t1 hF
    go_wp2_with fail
    go_loopw [4, 5] (fun x4 x5 wr => ∃ (rv : Value) (i : Nat) (F : Nat → Prop), x4 = rv ∧ x5 = .int .i64 (i : Int) ∧ i ≤ N ∧ Both20 M w wr g rv F i (run20 (L.take i))) (fun _ x5 _ => N - (intOf x5).toNat)
    case atStart =>
      obtain ⟨F, h⟩ := HB0.out
      exact ⟨_, 0, F, rfl, rfl, Nat.zero_le _, h⟩
    case round =>
      clear HB0
      obtain ⟨rv, i, F, hrv, rfl, hi, hb⟩ := hrel
      have hrv := hrv.symm
      subst hrv
      have HB := Lib.hid hb
      clear hb
      by_cases hlt : i < N
      · have hil : (i : Int) < N := by omega
        obtain ⟨a, ha⟩ : ∃ a, L[i]? = some a := ⟨_, List.getElem?_eq_getElem (by rw [← HN.out]; exact hlt)⟩
        obtain ⟨ad, rfl, hc⟩ := act_at20 HV.out ha
        have HC := Lib.hid hc
        obtain ⟨s1, s2⟩ := HS.out a (List.mem_of_getElem? ha)
        have hok := HO.out a (List.mem_of_getElem? ha)
        have HOK := Lib.hid hok
        have HS2 := Lib.hid s2
        have HPA : Hid (∀ W, Turn (fun _ => False) wr W → Calls Tryz.prog 7 #[.pointer (some ⟨g, 0, none⟩), av20 a] W fun e w' => Does20 M W F g (run20 (L.take (i + 1))) (.int .i64 (apply20 (run20 (L.take i)) a.d a.p).2) e w') := fun W ht => by
          rw [run_next20 ha]
          exact (HB.out.later HP.out ht).prog HP.out (by have := HL.out; omega) hok s1 s2
        have HDA : Hid (∀ W W1, Turn (fun _ => False) wr W → Turn F W W1 → Calls Tryz.prog 8 #[rv, a.ds, a.ps] W1 fun e w' => Applied20 W1 rv (run20 (L.take i)) (run20 (L.take (i + 1)), (apply20 (run20 (L.take i)) a.d a.p).2) e w') := fun W W1 ht t1 => by
          rw [run_next20 ha]
          exact (HB.out.later HP.out ht).doc HP.out (by have := HL.out; omega) hok s1 s2 t1
        have HNX : Hid (∀ W W1 W2 F' u, Turn (fun _ => False) wr W → M W1 F' g (run20 (L.take (i + 1))) → Turn F W W1 → (∀ k, F' k → F k ∨ W.heap.size ≤ k) → RdE EN20 W2 u (run20 (L.take (i + 1))) → Turn (fun _ => False) W1 W2 → Mine20 W1 rv (run20 (L.take i)) u (run20 (L.take (i + 1))) → Both20 M w W2 g u F' (i + 1) (run20 (L.take (i + 1)))) := fun W W1 W2 F' u ht hm t1 hF hr t2 hu => by
          rw [run_next20 ha] at hm hr hu ⊢
          exact (HB.out.later HP.out ht).next HP.out s2 hm t1 hF hr t2 hu
        clear hc ha hok s1 s2
        generalize apply20 (run20 (L.take i)) a.d a.p = q at *
        have HTW : Hid (Turn (fun _ => False) w wr) := HB.out.turn
        have HFT := Lib.hid HB.out.foot
        clear HB
        go_wp2_with fail
        refine drawn_region (fun W => Turn (fun _ => False) w W) [] (by kernel_rfl) ?_
        have HD0 : Hid (Turn (fun _ => False) wr (World.drew wr)) := (Turn.refl _ wr).drew
        have hS0 : Turn (fun _ => False) w (World.drew wr) := HTW.out.trans HD0.out (fun _ _ f => f)
        generalize World.drew wr = wd at *
        refine drawn_take 0 23 (.pointer (some ⟨g, 0, none⟩)) rfl rfl (by kernel_rfl) (by kernel_rfl) (by kernel_rfl) (by kernel_rfl) (fun _ _ _ h => h) (by rfl) (by assumption) (by intro w hSw; obtain hS1 := hSw; go_simp) ?_
        try simp only [List.setIfInBounds_toArray, List.set_cons_zero, List.set_cons_succ]
        refine drawn_take 1 24 (.slice (some ad) N c) rfl rfl (by kernel_rfl) (by kernel_rfl) (by kernel_rfl) (by kernel_rfl) (fun _ _ _ h => h) (by rfl) (by assumption) (by intro w hSw; obtain hS1 := hSw; go_simp) ?_
        try simp only [List.setIfInBounds_toArray, List.set_cons_zero, List.set_cons_succ]
        refine drawn_take 2 25 (.int .i64 (i : Int)) rfl rfl (by kernel_rfl) (by kernel_rfl) (by kernel_rfl) (by kernel_rfl) (fun _ _ _ h => h) (by rfl) (by assumption) (by intro w hSw; obtain hS1 := hSw; go_simp) ?_
        try simp only [List.setIfInBounds_toArray, List.set_cons_zero, List.set_cons_succ]
        refine drawn_take 3 26 (.pointer (some (ad.add (i * 2)))) rfl rfl (by kernel_rfl) (by kernel_rfl) (by kernel_rfl) (by kernel_rfl) (fun _ _ _ h => h) (by rfl) (by assumption) (by intro w hSw; obtain hS1 := hSw; go_simp) ?_
        try simp only [List.setIfInBounds_toArray, List.set_cons_zero, List.set_cons_succ]
        refine drawn_take 4 27 (.pointer (some (ad.add (i * 2)))) rfl rfl (by kernel_rfl) (by kernel_rfl) (by kernel_rfl) (by kernel_rfl) (fun _ _ _ h => h) (by rfl) (by assumption) (by intro w hSw; obtain hS1 := hSw; go_simp) ?_
        try simp only [List.setIfInBounds_toArray, List.set_cons_zero, List.set_cons_succ]
        refine drawn_take 5 28 (a.ds) rfl rfl (by kernel_rfl) (by kernel_rfl) (by kernel_rfl) (by kernel_rfl) (fun _ _ _ h => h) (by rfl) (by assumption) (by intro w hSw; obtain ⟨a0, a1⟩ := HC.out w hSw; clear hSw; go_simp) ?_
        try simp only [List.setIfInBounds_toArray, List.set_cons_zero, List.set_cons_succ]
        refine drawn_take 6 29 (.slice (some ad) N c) rfl rfl (by kernel_rfl) (by kernel_rfl) (by kernel_rfl) (by kernel_rfl) (fun _ _ _ h => h) (by rfl) (by assumption) (by intro w hSw; obtain hS1 := hSw; go_simp) ?_
        try simp only [List.setIfInBounds_toArray, List.set_cons_zero, List.set_cons_succ]
        refine drawn_take 7 30 (.int .i64 (i : Int)) rfl rfl (by kernel_rfl) (by kernel_rfl) (by kernel_rfl) (by kernel_rfl) (fun _ _ _ h => h) (by rfl) (by assumption) (by intro w hSw; obtain hS1 := hSw; go_simp) ?_
        try simp only [List.setIfInBounds_toArray, List.set_cons_zero, List.set_cons_succ]
        refine drawn_take 8 31 (.pointer (some (ad.add (i * 2)))) rfl rfl (by kernel_rfl) (by kernel_rfl) (by kernel_rfl) (by kernel_rfl) (fun _ _ _ h => h) (by rfl) (by assumption) (by intro w hSw; obtain hS1 := hSw; go_simp) ?_
        try simp only [List.setIfInBounds_toArray, List.set_cons_zero, List.set_cons_succ]
        refine drawn_take 9 32 (.pointer (some ⟨(ad.add (i * 2)).block, (ad.add (i * 2)).off + 1, none⟩)) rfl rfl (by kernel_rfl) (by kernel_rfl) (by kernel_rfl) (by kernel_rfl) (fun _ _ _ h => h) (by rfl) (by assumption) (by intro w hSw; obtain hS1 := hSw; go_simp) ?_
        try simp only [List.setIfInBounds_toArray, List.set_cons_zero, List.set_cons_succ]
        refine drawn_take 10 33 (a.ps) rfl rfl (by kernel_rfl) (by kernel_rfl) (by kernel_rfl) (by kernel_rfl) (fun _ _ _ h => h) (by rfl) (by assumption) (by intro w hSw; obtain ⟨a0, a1⟩ := HC.out w hSw; clear hSw; go_simp) ?_
        try simp only [List.setIfInBounds_toArray, List.set_cons_zero, List.set_cons_succ]
        refine drawn_take 11 34 (av20 a) rfl rfl (by kernel_rfl) (by kernel_rfl) (by kernel_rfl) (by kernel_rfl) (fun _ _ _ h => h) (by rfl) (by assumption) (by intro w hSw; obtain hS1 := hSw; go_simp) ?_
        try simp only [List.setIfInBounds_toArray, List.set_cons_zero, List.set_cons_succ]
        refine drawn_any [12] (by kernel_rfl) (by simp) ?_
        refine drawn_cons rfl (fun K hK => ?_) drawn_nil
        go_simp
        refine (HPA.out wd HD0.out).mono ?_
        unfold Does20
        rintro e w4 ⟨rfl, F4, m4, t4, f4⟩
        have HM4 := Lib.hid m4; have HT4 := Lib.hid t4; have HF4 := Lib.hid f4
        have HTW4 : Hid (Turn (fun _ => False) w w4) := hS0.trans t4 (fun k hk hF => by have := HFT.out k hF; omega)
        have hS4 := HTW4.out
        clear m4 t4 f4 hS0
        refine hK.out _ _ _ hS4 ?_
        clear hK K
        try simp only [List.setIfInBounds_toArray, List.set_cons_zero, List.set_cons_succ]
        refine drawn_last1 13 6 (.int .i64 q.2) rfl rfl (by kernel_rfl) (by kernel_rfl) (by rfl) (by intro w; go_simp) hS4 ?_
        try simp only [List.setIfInBounds_toArray, List.set_cons_zero, List.set_cons_succ]
        clear hS4
        go_wp2_with fail
        refine drawn_region (fun W => Turn (fun _ => False) w W) [] (by kernel_rfl) ?_
        have HD4 : Hid (Turn (fun _ => False) w4 (World.drew w4)) := (Turn.refl _ w4).drew
        have hS4 : Turn (fun _ => False) w (World.drew w4) := HTW4.out.trans HD4.out (fun _ _ f => f)
        generalize World.drew w4 = w5 at *
        refine drawn_take 0 37 rv rfl rfl (by kernel_rfl) (by kernel_rfl) (by kernel_rfl) (by kernel_rfl) (fun _ _ _ h => h) (by rfl) (by assumption) (by intro w hSw; obtain hS1 := hSw; go_simp) ?_
        try simp only [List.setIfInBounds_toArray, List.set_cons_zero, List.set_cons_succ]
        refine drawn_take 1 38 (.slice (some ad) N c) rfl rfl (by kernel_rfl) (by kernel_rfl) (by kernel_rfl) (by kernel_rfl) (fun _ _ _ h => h) (by rfl) (by assumption) (by intro w hSw; obtain hS1 := hSw; go_simp) ?_
        try simp only [List.setIfInBounds_toArray, List.set_cons_zero, List.set_cons_succ]
        refine drawn_take 2 39 (.int .i64 (i : Int)) rfl rfl (by kernel_rfl) (by kernel_rfl) (by kernel_rfl) (by kernel_rfl) (fun _ _ _ h => h) (by rfl) (by assumption) (by intro w hSw; obtain hS1 := hSw; go_simp) ?_
        try simp only [List.setIfInBounds_toArray, List.set_cons_zero, List.set_cons_succ]
        refine drawn_take 3 40 (.pointer (some (ad.add (i * 2)))) rfl rfl (by kernel_rfl) (by kernel_rfl) (by kernel_rfl) (by kernel_rfl) (fun _ _ _ h => h) (by rfl) (by assumption) (by intro w hSw; obtain hS1 := hSw; go_simp) ?_
        try simp only [List.setIfInBounds_toArray, List.set_cons_zero, List.set_cons_succ]
        refine drawn_take 4 41 (.pointer (some (ad.add (i * 2)))) rfl rfl (by kernel_rfl) (by kernel_rfl) (by kernel_rfl) (by kernel_rfl) (fun _ _ _ h => h) (by rfl) (by assumption) (by intro w hSw; obtain hS1 := hSw; go_simp) ?_
        try simp only [List.setIfInBounds_toArray, List.set_cons_zero, List.set_cons_succ]
        refine drawn_take 5 42 (a.ds) rfl rfl (by kernel_rfl) (by kernel_rfl) (by kernel_rfl) (by kernel_rfl) (fun _ _ _ h => h) (by rfl) (by assumption) (by intro w hSw; obtain ⟨a0, a1⟩ := HC.out w hSw; clear hSw; go_simp) ?_
        try simp only [List.setIfInBounds_toArray, List.set_cons_zero, List.set_cons_succ]
        refine drawn_take 6 43 (.slice (some ad) N c) rfl rfl (by kernel_rfl) (by kernel_rfl) (by kernel_rfl) (by kernel_rfl) (fun _ _ _ h => h) (by rfl) (by assumption) (by intro w hSw; obtain hS1 := hSw; go_simp) ?_
        try simp only [List.setIfInBounds_toArray, List.set_cons_zero, List.set_cons_succ]
        refine drawn_take 7 44 (.int .i64 (i : Int)) rfl rfl (by kernel_rfl) (by kernel_rfl) (by kernel_rfl) (by kernel_rfl) (fun _ _ _ h => h) (by rfl) (by assumption) (by intro w hSw; obtain hS1 := hSw; go_simp) ?_
        try simp only [List.setIfInBounds_toArray, List.set_cons_zero, List.set_cons_succ]
        refine drawn_take 8 45 (.pointer (some (ad.add (i * 2)))) rfl rfl (by kernel_rfl) (by kernel_rfl) (by kernel_rfl) (by kernel_rfl) (fun _ _ _ h => h) (by rfl) (by assumption) (by intro w hSw; obtain hS1 := hSw; go_simp) ?_
        try simp only [List.setIfInBounds_toArray, List.set_cons_zero, List.set_cons_succ]
        refine drawn_take 9 46 (.pointer (some ⟨(ad.add (i * 2)).block, (ad.add (i * 2)).off + 1, none⟩)) rfl rfl (by kernel_rfl) (by kernel_rfl) (by kernel_rfl) (by kernel_rfl) (fun _ _ _ h => h) (by rfl) (by assumption) (by intro w hSw; obtain hS1 := hSw; go_simp) ?_
        try simp only [List.setIfInBounds_toArray, List.set_cons_zero, List.set_cons_succ]
        refine drawn_take 10 47 (a.ps) rfl rfl (by kernel_rfl) (by kernel_rfl) (by kernel_rfl) (by kernel_rfl) (fun _ _ _ h => h) (by rfl) (by assumption) (by intro w hSw; obtain ⟨a0, a1⟩ := HC.out w hSw; clear hSw; go_simp) ?_
        try simp only [List.setIfInBounds_toArray, List.set_cons_zero, List.set_cons_succ]
        refine drawn_any [11] (by kernel_rfl) (by simp) ?_
        refine drawn_cons rfl (fun K hK => ?_) drawn_nil
        go_simp
        refine (HDA.out wd w5 HD0.out (HT4.out.trans HD4.out (fun _ _ f => f.elim))).mono ?_
        unfold Applied20
        rintro e w6 ⟨u, rfl, r6, t6, m6⟩
        have HBN : Hid (Both20 M w w6 g u F4 (i + 1) (run20 (L.take (i + 1)))) := HNX.out wd w5 w6 F4 u HD0.out (HP.out.later HM4.out HD4.out) (HT4.out.trans HD4.out (fun _ _ f => f.elim)) HF4.out r6 t6 m6
        have hS6 : Turn (fun _ => False) w w6 := hS4.trans t6 (fun _ _ f => f)
        have hsh := r6.shape
        clear r6 t6 m6 hS4 HNX HDA HPA HD0 HD4 HM4 HT4 HF4 HTW4 HFT HTW
        refine hK.out _ _ _ hS6 ?_
        clear hK K
        try simp only [List.setIfInBounds_toArray, List.set_cons_zero, List.set_cons_succ]
        refine drawn_take 12 36 (.tuple #[u, .int .i64 q.2]) rfl rfl (by kernel_rfl) (by kernel_rfl) (by kernel_rfl) (by kernel_rfl) (fun _ _ _ h => h) (by rfl) (by assumption) (by intro w hSw; obtain hS1 := hSw; go_simp) ?_
        try simp only [List.setIfInBounds_toArray, List.set_cons_zero, List.set_cons_succ]
        refine drawn_take 13 49 u rfl rfl (by kernel_rfl) (by kernel_rfl) (by kernel_rfl) (by kernel_rfl) (fun _ _ _ h => h) (by rfl) (by assumption) (by intro w hSw; obtain hS1 := hSw; go_simp) ?_
        try simp only [List.setIfInBounds_toArray, List.set_cons_zero, List.set_cons_succ]
        refine drawn_take 14 50 (.int .i64 q.2) rfl rfl (by kernel_rfl) (by kernel_rfl) (by kernel_rfl) (by kernel_rfl) (fun _ _ _ h => h) (by rfl) (by assumption) (by intro w hSw; obtain hS1 := hSw; go_simp) ?_
        try simp only [List.setIfInBounds_toArray, List.set_cons_zero, List.set_cons_succ]
        refine drawn_take 15 7 u rfl rfl (by kernel_rfl) (by kernel_rfl) (by kernel_rfl) (by kernel_rfl) (fun _ _ _ h => h) (by rfl) (by assumption) (by intro w hSw; obtain hS1 := hSw; go_simp) ?_
        try simp only [List.setIfInBounds_toArray, List.set_cons_zero, List.set_cons_succ]
        refine drawn_last1 16 8 (.int .i64 q.2) rfl rfl (by kernel_rfl) (by kernel_rfl) (by rfl) (by intro w; go_simp) hS6 ?_
        try simp only [List.setIfInBounds_toArray, List.set_cons_zero, List.set_cons_succ]
        clear hS6
        obtain ⟨A6, c6, rfl⟩ := hsh
        have HBD : Hid (Bd20 (run20 (L.take (i + 1)))) := HBN.out.bd (by have := HL.out; omega)
        have HBK : Hid (∀ W, Turn (fun _ => False) w6 W → Calls Tryz.prog 10 #[.pointer (some ⟨g, 0, none⟩)] W fun e w' => Ents20 W (run20 (L.take (i + 1))) e w') := fun W ht => back_any20 HP.out (HBN.out.later HP.out ht).mem HBD.out
        have HLE : Hid (∀ W, Turn (fun _ => False) w6 W → Calls Tryz.prog 11 #[.pointer (some ⟨g, 0, none⟩)] W fun e w' => SaysC20 W (.int .i64 ((run20 (L.take (i + 1))).length : Int)) e w') := fun W ht => HP.out.len (HBN.out.later HP.out ht).mem HBD.out
        have HSG : Hid (∀ W, Turn (fun _ => False) w6 W → Calls Tryz.prog 13 #[.pointer (some ⟨g, 0, none⟩)] W fun e w' => Numbs20 W (segs20 (run20 (L.take (i + 1)))) e w') := fun W ht => HP.out.segs (HBN.out.later HP.out ht).mem HBD.out
        have hlen := HBD.out.len
        obtain ⟨n6, hn6⟩ : ∃ n, n = (run20 (L.take (i + 1))).length := ⟨_, rfl⟩
        rw [← hn6] at hlen HBN HLE ⊢
        have HSR : Hid (∀ W, Turn (fun _ => False) w6 W → Calls Tryz.prog 14 #[.slice A6 n6 c6] W fun e w' => Numbs20 W (segs20 (run20 (L.take (i + 1)))) e w') := fun W ht => ref_segs20 _ _ W (HBN.out.row.later ht) (by rw [← hn6]; omega)
        have HRW : Hid (∀ W, Turn (fun _ => False) w6 W → RdE EN20 W (.slice A6 n6 c6) (run20 (L.take (i + 1)))) := fun W ht => HBN.out.row.later ht
        have HL6 : Hid ((run20 (L.take (i + 1))).length ≤ 1000000) := by show _ ≤ _; rw [← hn6]; omega
        have HLS : Hid ((segs20 (run20 (L.take (i + 1)))).length ≤ 1000000) := by show _ ≤ _; rw [segs_len20, ← hn6]; omega
        have HGO : Hid (∀ W, Turn (fun _ => False) w6 W → Both20 M w W g (.slice A6 n6 c6) F4 (i + 1) (run20 (L.take (i + 1)))) := fun W ht => HBN.out.later HP.out ht
        have HT6 : Hid (Turn (fun _ => False) w w6) := HBN.out.turn
        clear HBN HBD hn6
        obtain ⟨l6, hl6⟩ : ∃ l6, l6 = run20 (L.take (i + 1)) := ⟨_, rfl⟩
        rw [← hl6] at HBK HSG HSR HRW HL6 HLS HGO
        have HE6 := Lib.hid hl6
        clear hl6
        generalize segs20 l6 = g6 at *
        unfold SaysC20 at HLE
        go_wp2_with fail
        refine (HBK.out w6 (Turn.refl _ _)).mono ?_
        rintro e w7 ⟨v7, rfl, r7, t7, -⟩
        have HR7 := Lib.hid r7; have HT7 := Lib.hid t7
        clear r7 t7 HBK
        go_wp2_with fail
        refine (ref_same20 v7 (.slice A6 n6 c6) l6 w7 HR7.out (HRW.out w7 HT7.out) HL6.out).mono ?_
        rintro e w8 ⟨rfl, t8⟩
        have HT8 := Lib.hid (HT7.out.trans t8 (fun _ _ f => f))
        clear t8 HR7 HT7
        go_wp2_with fail
        refine (HLE.out w8 HT8.out).mono ?_
        rintro e w9 ⟨rfl, t9⟩
        have HT9 := Lib.hid (HT8.out.trans t9 (fun _ _ f => f))
        clear t9 HT8 HLE
        go_wp2_with fail
        refine (HSG.out w9 HT9.out).mono ?_
        rintro e wa ⟨va, rfl, ra, ta⟩
        have HRa := Lib.hid ra; have HTa := Lib.hid (HT9.out.trans ta (fun _ _ f => f))
        clear ra ta HT9 HSG
        go_wp2_with fail
        refine (HSR.out wa HTa.out).mono ?_
        rintro e wb ⟨vb, rfl, rb, tb⟩
        have HRb := Lib.hid rb; have HTb := Lib.hid tb
        clear rb tb HSR
        go_wp2_with fail
        refine (same_nums20 va vb g6 wb (HRa.out.later HTb.out) HRb.out HLS.out).mono ?_
        rintro e wc ⟨rfl, tc⟩
        have HTc := Lib.hid ((HTa.out.trans HTb.out (fun _ _ f => f)).trans tc (fun _ _ f => f))
        clear tc HRa HRb HTb HTa HRW HL6 HLS
        obtain ⟨aA, ac, adl, aB, af, apl⟩ := a
        dsimp only [AC20.ds, AC20.ps] at HC HOK HS2
        obtain ⟨D, hD⟩ : ∃ D, D = adl.length := ⟨_, rfl⟩
        obtain ⟨K, hK⟩ : ∃ K, K = apl.length := ⟨_, rfl⟩
        rw [← hD, ← hK] at HC
        rw [← hK] at HS2
        have HRP : Hid (RdE EN20 w (.slice aB K af) apl) := by rw [hK]; exact HOK.out.p
        have HPF : Hid (∀ x ∈ apl, x.fits) := HOK.out.pf
        have HKL := Lib.hid hK
        have hs2 := HS2.out
        clear hD hK HOK
        go_wp2_with fail
        go_loopw [9] (fun x9 wk => ∃ k : Nat, x9 = .int .i64 (k : Int) ∧ k ≤ K ∧ Turn (fun _ => False) wc wk) (fun x9 _ => K - (intOf x9).toNat)
        case atStart => exact ⟨0, rfl, Nat.zero_le _, Turn.refl _ _⟩
        case round =>
          obtain ⟨k, rfl, hk, ht⟩ := hrel
          rename World => wk
          have HX := Lib.hid ht
          have HTK : Hid (Turn (fun _ => False) w wk) := (HT6.out.trans HTc.out (fun _ _ f => f)).trans ht (fun _ _ f => f)
          clear ht
          obtain ⟨a0, a1⟩ := HC.out wk HTK.out
          by_cases hlk : k < K
          · have hkl : (k : Int) < K := by omega
            obtain ⟨e, he⟩ : ∃ e, apl[k]? = some e := ⟨_, List.getElem?_eq_getElem (by rw [← HKL.out]; exact hlk)⟩
            obtain ⟨ed, rfl, hce⟩ := ent_at20 HRP.out he
            have HCE := Lib.hid hce
            have HRI : Hid (∀ W, Calls Tryz.prog 15 #[ev20 e] W fun e' w' => SaysC20 W (.bool (right20 e)) e' w') := fun W => HP.out.right e W (HPF.out e (List.mem_of_getElem? he))
            have HRR : Hid (∀ W, Calls Tryz.prog 16 #[ev20 e] W fun e' w' => e' = .returned (.bool (right20 e)) ∧ Turn (fun _ => False) W w') := fun W => ref_right20 e W
            clear he hce
            generalize right20 e = rb at *
            unfold SaysC20 at HRI
            go_wp2_with fail
            clear a0 a1
            refine drawn_region (fun W => Turn (fun _ => False) w W) [] (by kernel_rfl) ?_
            have hS0 : Turn (fun _ => False) w (World.drew wk) := HTK.out.trans (Turn.refl _ wk).drew (fun _ _ f => f)
            have HD0 : Hid (Turn (fun _ => False) wc (World.drew wk)) := HX.out.trans (Turn.refl _ wk).drew (fun _ _ f => f)
            generalize World.drew wk = wd at *
            refine drawn_take 0 87 (.slice (some ad) N c) rfl rfl (by kernel_rfl) (by kernel_rfl) (by kernel_rfl) (by kernel_rfl) (fun _ _ _ h => h) (by rfl) (by assumption) (by intro w hSw; obtain hS1 := hSw; go_simp) ?_
            try simp only [List.setIfInBounds_toArray, List.set_cons_zero, List.set_cons_succ]
            refine drawn_take 1 88 (.int .i64 (i : Int)) rfl rfl (by kernel_rfl) (by kernel_rfl) (by kernel_rfl) (by kernel_rfl) (fun _ _ _ h => h) (by rfl) (by assumption) (by intro w hSw; obtain hS1 := hSw; go_simp) ?_
            try simp only [List.setIfInBounds_toArray, List.set_cons_zero, List.set_cons_succ]
            refine drawn_take 2 89 (.pointer (some (ad.add (i * 2)))) rfl rfl (by kernel_rfl) (by kernel_rfl) (by kernel_rfl) (by kernel_rfl) (fun _ _ _ h => h) (by rfl) (by assumption) (by intro w hSw; obtain hS1 := hSw; go_simp) ?_
            try simp only [List.setIfInBounds_toArray, List.set_cons_zero, List.set_cons_succ]
            refine drawn_take 3 90 (.pointer (some ⟨(ad.add (i * 2)).block, (ad.add (i * 2)).off + 1, none⟩)) rfl rfl (by kernel_rfl) (by kernel_rfl) (by kernel_rfl) (by kernel_rfl) (fun _ _ _ h => h) (by rfl) (by assumption) (by intro w hSw; obtain hS1 := hSw; go_simp) ?_
            try simp only [List.setIfInBounds_toArray, List.set_cons_zero, List.set_cons_succ]
            refine drawn_take 4 91 (.slice (some ed) K af) rfl rfl (by kernel_rfl) (by kernel_rfl) (by kernel_rfl) (by kernel_rfl) (fun _ _ _ h => h) (by rfl) (by assumption) (by intro w hSw; obtain ⟨a0, a1⟩ := HC.out w hSw; clear hSw; go_simp) ?_
            try simp only [List.setIfInBounds_toArray, List.set_cons_zero, List.set_cons_succ]
            refine drawn_take 5 92 (.int .i64 (k : Int)) rfl rfl (by kernel_rfl) (by kernel_rfl) (by kernel_rfl) (by kernel_rfl) (fun _ _ _ h => h) (by rfl) (by assumption) (by intro w hSw; obtain hS1 := hSw; go_simp) ?_
            try simp only [List.setIfInBounds_toArray, List.set_cons_zero, List.set_cons_succ]
            refine drawn_take 6 93 (.pointer (some (ed.add (k * 6)))) rfl rfl (by kernel_rfl) (by kernel_rfl) (by kernel_rfl) (by kernel_rfl) (fun _ _ _ h => h) (by rfl) (by assumption) (by intro w hSw; obtain hS1 := hSw; go_simp) ?_
            try simp only [List.setIfInBounds_toArray, List.set_cons_zero, List.set_cons_succ]
            refine drawn_take 7 94 (ev20 e) rfl rfl (by kernel_rfl) (by kernel_rfl) (by kernel_rfl) (by kernel_rfl) (fun _ _ _ h => h) (by rfl) (by assumption) (by intro w hSw; obtain ⟨a0, a1, a2, a3, a4, a5⟩ := HCE.out w hSw; clear hSw; go_simp) ?_
            try simp only [List.setIfInBounds_toArray, List.set_cons_zero, List.set_cons_succ]
            refine drawn_take 9 96 (.slice (some ad) N c) rfl rfl (by kernel_rfl) (by kernel_rfl) (by kernel_rfl) (by kernel_rfl) (fun _ _ _ h => h) (by rfl) (by assumption) (by intro w hSw; obtain hS1 := hSw; go_simp) ?_
            try simp only [List.setIfInBounds_toArray, List.set_cons_zero, List.set_cons_succ]
            refine drawn_take 10 97 (.int .i64 (i : Int)) rfl rfl (by kernel_rfl) (by kernel_rfl) (by kernel_rfl) (by kernel_rfl) (fun _ _ _ h => h) (by rfl) (by assumption) (by intro w hSw; obtain hS1 := hSw; go_simp) ?_
            try simp only [List.setIfInBounds_toArray, List.set_cons_zero, List.set_cons_succ]
            refine drawn_take 11 98 (.pointer (some (ad.add (i * 2)))) rfl rfl (by kernel_rfl) (by kernel_rfl) (by kernel_rfl) (by kernel_rfl) (fun _ _ _ h => h) (by rfl) (by assumption) (by intro w hSw; obtain hS1 := hSw; go_simp) ?_
            try simp only [List.setIfInBounds_toArray, List.set_cons_zero, List.set_cons_succ]
            refine drawn_take 12 99 (.pointer (some ⟨(ad.add (i * 2)).block, (ad.add (i * 2)).off + 1, none⟩)) rfl rfl (by kernel_rfl) (by kernel_rfl) (by kernel_rfl) (by kernel_rfl) (fun _ _ _ h => h) (by rfl) (by assumption) (by intro w hSw; obtain hS1 := hSw; go_simp) ?_
            try simp only [List.setIfInBounds_toArray, List.set_cons_zero, List.set_cons_succ]
            refine drawn_take 13 100 (.slice (some ed) K af) rfl rfl (by kernel_rfl) (by kernel_rfl) (by kernel_rfl) (by kernel_rfl) (fun _ _ _ h => h) (by rfl) (by assumption) (by intro w hSw; obtain ⟨a0, a1⟩ := HC.out w hSw; clear hSw; go_simp) ?_
            try simp only [List.setIfInBounds_toArray, List.set_cons_zero, List.set_cons_succ]
            refine drawn_take 14 101 (.int .i64 (k : Int)) rfl rfl (by kernel_rfl) (by kernel_rfl) (by kernel_rfl) (by kernel_rfl) (fun _ _ _ h => h) (by rfl) (by assumption) (by intro w hSw; obtain hS1 := hSw; go_simp) ?_
            try simp only [List.setIfInBounds_toArray, List.set_cons_zero, List.set_cons_succ]
            refine drawn_take 15 102 (.pointer (some (ed.add (k * 6)))) rfl rfl (by kernel_rfl) (by kernel_rfl) (by kernel_rfl) (by kernel_rfl) (fun _ _ _ h => h) (by rfl) (by assumption) (by intro w hSw; obtain hS1 := hSw; go_simp) ?_
            try simp only [List.setIfInBounds_toArray, List.set_cons_zero, List.set_cons_succ]
            refine drawn_take 16 103 (ev20 e) rfl rfl (by kernel_rfl) (by kernel_rfl) (by kernel_rfl) (by kernel_rfl) (fun _ _ _ h => h) (by rfl) (by assumption) (by intro w hSw; obtain ⟨a0, a1, a2, a3, a4, a5⟩ := HCE.out w hSw; clear hSw; go_simp) ?_
            try simp only [List.setIfInBounds_toArray, List.set_cons_zero, List.set_cons_succ]
            refine drawn_any [8] (by kernel_rfl) (by simp) ?_
            refine drawn_cons rfl (fun K hK => ?_) drawn_nil
            go_simp
            refine (HRI.out wd).mono ?_
            rintro e' wx ⟨rfl, tx⟩
            have hSx : Turn (fun _ => False) w wx := hS0.trans tx (fun _ _ f => f)
            have HDx := Lib.hid (HD0.out.trans tx (fun _ _ f => f))
            clear tx hS0 HRI
            refine hK.out _ _ _ hSx ?_
            clear hK
            try simp only [List.setIfInBounds_toArray, List.set_cons_zero, List.set_cons_succ]
            refine drawn_any [17] (by kernel_rfl) (by simp) ?_
            refine drawn_cons rfl (fun K hK => ?_) drawn_nil
            go_simp
            refine (HRR.out wx).mono ?_
            rintro e' wy ⟨rfl, ty⟩
            have hSy : Turn (fun _ => False) w wy := hSx.trans ty (fun _ _ f => f)
            have HDy := Lib.hid (HDx.out.trans ty (fun _ _ f => f))
            clear ty hSx HRR
            refine hK.out _ _ _ hSy ?_
            clear hK
            try simp only [List.setIfInBounds_toArray, List.set_cons_zero, List.set_cons_succ]
            refine drawn_last1 18 105 (.bool false) rfl rfl (by kernel_rfl) (by kernel_rfl) (by rfl) (by intro w; go_simp) hSy ?_
            try simp only [List.setIfInBounds_toArray, List.set_cons_zero, List.set_cons_succ]
            clear hSy
            go_wp2
            go_roundw
            case rel => exact ⟨k + 1, by go_num, hlk, HDy.out⟩
            case measure => simp [intOf]; omega
          · obtain rfl : k = K := by omega
            have hl := HL.out
            go_wp2
            go_roundw
            case rel =>
              have h := HGO.out wk (HTc.out.trans HX.out (fun _ _ f => f))
              rw [HE6.out] at h
              exact ⟨_, i + 1, F4, rfl, by go_num, hlt, h⟩
            case measure => simp [intOf]; omega
      · obtain rfl : i = N := by omega
        have HTB : Hid (Turn (fun _ => False) w wr) := HB.out.turn
        go_wp2_with fail
        refine (HAL.out _).mono ?_
        rintro e wz ⟨rfl, tz⟩
        have HTZ := Lib.hid (HTB.out.trans tz (fun _ _ f => f))
        clear tz
        go_wp2
        go_ret
        exact ⟨rfl, HTZ.out⟩

end Go.Proofs.YtgbphkbbedkepaaGreat
