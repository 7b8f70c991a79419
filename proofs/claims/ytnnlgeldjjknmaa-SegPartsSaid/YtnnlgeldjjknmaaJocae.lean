/-
  Texts laid one behind the other: Ig Sv Ek Zt Sva Tb Tc Td.
-/
import Derived.Test.YtnnlgeldjjknmaaJocad
import Derived.Test.YtnnlgeldjjknmaaJocaa
import Derived.Sort.Grow
import Derived.Test.YtnnlgeldjjknmaaJocac
import Derived.Test.YtnnlgeldjjknmaaJocab
import Derived.Laws.ResultCell
import Derived.BigQuiet

/-
  A range over a function whose rounds may turn what they have laid themselves (a row that grows by append): the iterator's promise asks nothing of new blocks. No type is named.
-/
namespace Go.Proofs.Ytnnlgeldjjknmaa
open Go.RowKit

/-- The contract of an iterator value, as Feeds, of whatever blocks may turn. -/
def Feeds3 {α : Type} (n : Nat) (g : Nat) (lb : Array Value) (encs : α → Array Value) (S : Nat → Prop) (Gv : List α → α → World → Prop) (All Part : List α → Prop) (w : World) : Prop :=
  ∀ (l : Nat) (J Jx : List α → World → Prop) (W : World), Turn (fun _ => False) w W → l < W.heap.size → Holds W.heap.size J → Holds W.heap.size Jx →
    (∀ pre x W1, J pre W1 → Gv pre x W1 → YieldAt Fence.wide (n - 1) Try.prog l (encs x) W1 fun e W' =>
      (e = .returned (.bool true) ∧ J (pre ++ [x]) W' ∧ Turn S W1 W' ∧ Still (l + 1) W1 W') ∨ (e = .returned (.bool false) ∧ Jx (pre ++ [x]) W' ∧ Still (l + 1) W1 W')) →
    J [] W →
    CallsIn Fence.wide n Try.prog g (#[.func (.yield l) #[] #[]] ++ lb) W fun e W' => (∃ v, e = .returned v) ∧ ((∃ xs, All xs ∧ J xs W') ∨ (∃ pre, Part pre ∧ Jx pre W'))
theorem Feeds3.feeds {α : Type} {n g : Nat} {lb : Array Value} {encs : α → Array Value} {S : Nat → Prop} {Gv : List α → α → World → Prop} {All Part : List α → Prop} {w : World} (h : Feeds3 n g lb encs S Gv All Part w) : Feeds n g lb encs S Gv All Part w :=
  fun l J Jx W hW hl _ hJ hJx hY h0 => h l J Jx W hW hl hJ hJx hY h0

/-- 'for .. := range g { body }' over an iterator that has such a contract: a round may turn what has been laid since the range began. -/
theorem over4 {α : Type} {n : Nat} {g : Operand} {ps : Array Tmp} {assign body : Code} {Q : Exit → Act → World → Prop} {a : Act} {w w0 : World} (h1 : 1 ≤ n)
    {gf : Nat} {lb : Array Value} (hg : a.eval g = .func (.func gf) #[] lb) (eg : ∀ args w, (callFunc gf args).run Try.prog w = .ok (.enter gf args) w)
    {encs : α → Array Value} {S : Nat → Prop} {Gv : List α → α → World → Prop} {All Part : List α → Prop} (hseq : Feeds3 (n - 1) gf lb encs S Gv All Part w0) (hb0 : Turn (fun _ => False) w0 w)
    (hS : S (w.heap.size + 1)) (hps : ∀ x, (encs x).size = ps.size)
    (I : List α → World → Prop) (Ix : Code → List α → World → Prop) (hI : Holds w.heap.size I) (hIx : ∀ c, Holds w.heap.size (Ix c)) (h0 : I [] w) (I2 : List α → α → Act → World → Prop) (hI2 : ∀ pre x a' A B, I2 pre x a' A → Turn (odd w.heap.size A) A B → I2 pre x a' B)
    (hassign : ∀ (l : Nat) (pre : List α) (x : α) (W : World) (K : Act → World → Prop), I pre W → Gv pre x W → (∀ a' W', I2 pre x a' W' → Turn (fun _ => False) W W' → K a' W') →
      assign.wpIn (Fence.wide.inRound l) (n - 1 - 1) Try.prog (Exit.then K (fun _ _ _ => False)) { tmps := (ps.zip (encs x)).foldl (fun t (p, v) => t.setIfInBounds p v) a.tmps, defers := [] } W)
    (hbody : ∀ (l : Nat) (pre : List α) (x : α) (a' : Act) (W : World), I2 pre x a' W → body.wpIn (Fence.wide.inRound l) (n - 1 - 1) Try.prog (postF w.heap.size S I Ix (pre ++ [x]) W) a' W)
    (hdone : ∀ (D : Nat) (xs : List α) (W : World), w.heap.size ≤ D → All xs → I xs W → W.heap[D]? = some (.deferred (some [])) → Q .normal { a with defers := { target := .collected D, args := #[] } :: a.defers } W)
    (hstop : ∀ (D : Nat) (c : Code) (pre : List α) (W : World), w.heap.size ≤ D → Part pre → Ix c pre W → W.heap[D]? = some (.deferred (some [])) → c.wpIn Fence.wide n Try.prog Q { a with defers := { target := .collected D, args := #[] } :: a.defers } W) :
    (Code.rangeFunc g ps assign body).wpIn Fence.wide n Try.prog Q a w := by
  refine wpIn_rangeFunc fun fn hfn => ?_
  obtain ⟨R, hR⟩ : ∃ R : LoopState → Option Code → Obj, R = fun st pe => .loop { state := st, pending := pe, fn, tmps := a.tmps, params := ps, assign, body, defers := w.heap.size } := ⟨_, rfl⟩
  -- the two blocks of the statement: the rounds' deferred calls, and its record, in a state
  obtain ⟨Bk, hBk⟩ : ∃ Bk : LoopState → Option Code → World → Prop, Bk = fun st pe W => W.heap[w.heap.size + 1]? = some (R st pe) ∧ W.heap[w.heap.size]? = some (.deferred (some [])) := ⟨_, rfl⟩
  obtain ⟨W1, hW1⟩ : ∃ W1, (w.alloc (.deferred (some []))).alloc (R .ready none) = W1 := ⟨_, rfl⟩
  have hsz : W1.heap.size = w.heap.size + 2 := by rw [← hW1]; simp
  have t1 : Turn (fun _ => False) w W1 := by rw [← hW1]; exact ((Turn.refl _ w).alloc _).alloc _
  have k1 : Bk .ready none W1 := by
    rw [hBk]
    refine ⟨?_, ?_⟩
    · have := World.alloc_heap_new (w.alloc (.deferred (some []))) (R .ready none)
      rw [World.size_alloc] at this
      rw [← hW1]
      exact this
    · rw [← hW1]
      exact (Below.heap_alloc _ _ _ (by simp)).trans (World.alloc_heap_new w _)
  have move : ∀ {D : Nat} {st : LoopState} {pe : Option Code} {A B : World}, w.heap.size + 2 ≤ D → Turn (odd D A) A B → Bk st pe A → Bk st pe B := by
    intro D st pe A B hD ht hk
    rw [hBk] at hk ⊢
    have far : ∀ k, k < w.heap.size + 2 → k < A.heap.size → B.heap[k]? = A.heap[k]? := fun k hk1 hk2 => ht.block k hk2 (fun s => by have := s.1; omega)
    exact ⟨(far _ (by omega) (Array.getElem?_eq_some_iff.1 hk.1).1).trans hk.1, (far _ (by omega) (Array.getElem?_eq_some_iff.1 hk.2).1).trans hk.2⟩
  have put : ∀ {st st' : LoopState} {pe pe' : Option Code} {A : World}, Bk st pe A → Bk st' pe' (A.putObj (w.heap.size + 1) (R st' pe')) ∧ Turn (odd w.heap.size A) A (A.putObj (w.heap.size + 1) (R st' pe')) ∧ Turn S A (A.putObj (w.heap.size + 1) (R st' pe')) := by
    intro st st' pe pe' A hk
    rw [hBk] at hk ⊢
    refine ⟨⟨World.putObj_heap_same (Array.getElem?_eq_some_iff.1 hk.1).1, (World.putObj_heap_other (by omega)).trans hk.2⟩, Turn.putObj _ _ _ ⟨by omega, _, hk.1, ?_⟩, Turn.putObj _ _ _ hS⟩
    rw [hR]
    rfl
  have keep : ∀ {st : LoopState} {pe : Option Code} {A B : World}, Still w.heap.size A B → Bk st pe A → Bk st pe B := by
    intro st pe A B h hk
    rw [hBk] at hk ⊢
    exact ⟨h.same _ _ (Nat.le_succ _) hk.1 (by rw [hR]; rfl), h.same _ _ (Nat.le_refl _) hk.2 rfl⟩
  refine ⟨w.heap.size + 1, [{ target := .collected w.heap.size, args := #[] }], W1, { target := .fn (.func gf) lb, args := #[.func (.yield (w.heap.size + 1)) #[] #[]] }, W1, gf,
    #[.func (.yield (w.heap.size + 1)) #[] #[]] ++ lb, W1, ?_, ?_, ?_, ?_, fun _ => h1, ?_⟩
  · rw [← hW1, hR]
    exact run_enterLoop_outer _ _ _ _ _
  · simp only [resolve, hg]
    simp [go_sem]
  · intro f' _
    trivial
  · simp [invoke, go_sem, eg]
  · refine (hseq (w.heap.size + 1) (fun pre W => I pre W ∧ Bk .ready none W) (fun pre W => ∃ c, Ix c pre W ∧ Bk .done (some c) W) W1 (hb0.trans t1 (fun _ _ f => f)) (by omega)
      (fun s A B hs ht => ⟨(hI.le (by omega)) s A B hs.1 ht, move (by omega) ht hs.2⟩)
      (fun s A B hs ht => by
        obtain ⟨c, hc, hk⟩ := hs
        exact ⟨c, ((hIx c).le (by omega)) s A B hc ht, move (by omega) ht hk⟩)
      ?_ ⟨hI _ _ _ h0 t1.none, k1⟩).mono ?_
    · rintro pre x W ⟨hi, hk⟩ hgv
      have hl : W.heap[w.heap.size + 1]? = some (R .ready none) := by rw [hBk] at hk; exact hk.1
      rw [hR] at hl
      have hy := run_yield (P := Try.prog) (args := encs x) hl (hps x)
      refine ⟨fn, _, assign, body, hy, roundIn_of_wpIn hfn (hassign _ pre x W _ hi hgv fun a5 W5 hx5 ht5 => ?_)⟩
      have hk5 : Bk .ready none W5 := by
        rw [hBk] at hk ⊢
        exact ⟨(ht5.block _ (Array.getElem?_eq_some_iff.1 hk.1).1 (fun f => f)).trans hk.1, (ht5.block _ (Array.getElem?_eq_some_iff.1 hk.2).1 (fun f => f)).trans hk.2⟩
      have hl5 : W5.heap[w.heap.size + 1]? = some (R .ready none) := by rw [hBk] at hk5; exact hk5.1
      rw [hR] at hl5
      refine ⟨_, run_beginRound hl5 rfl, ?_⟩
      have hp := put (st' := .busy) (pe' := none) hk5
      rw [hR] at hp
      refine wpIn_mono (hbody _ pre x a5 _ (hI2 _ _ _ _ _ hx5 hp.2.1)) ?_
      have ends : ∀ (jump : Option Code) (W3 : World), Still w.heap.size (W5.putObj (w.heap.size + 1) (.loop { state := .busy, pending := none, fn, tmps := a.tmps, params := ps, assign, body, defers := w.heap.size })) W3 →
          ∃ W4, (Instr.endRound (w.heap.size + 1) jump).run Try.prog W3 = .ok (.bool jump.isNone) W4 ∧ Bk (if jump.isNone then .ready else .done) jump W4 ∧ Turn (odd w.heap.size W3) W3 W4 ∧ Turn S W3 W4 ∧ Still (w.heap.size + 1 + 1) W W4 := by
        intro jump W3 hk3
        have h3 := keep hk3 hp.1
        have hl3 : W3.heap[w.heap.size + 1]? = some (R .busy none) := by rw [hBk] at h3; exact h3.1
        have h4 := put (st' := if jump.isNone then .ready else .done) (pe' := jump) h3
        rw [hR] at hl3 h4
        exact ⟨_, run_endRound jump hl3, h4.1, h4.2.1, h4.2.2, (((Still.turned ht5).trans (Still.put W5 _ _ (Nat.lt_succ_self _))).trans (hk3.le (by omega))).trans (Still.put W3 _ _ (Nat.lt_succ_self _))⟩
      rintro e a3 W3 hpost
      cases e with
      | normal =>
        obtain ⟨hk3, ht3, hi3⟩ := hpost
        obtain ⟨W4, hr, hb4, ht4, hu4, hs4⟩ := ends none W3 hk3
        exact ⟨_, _, hr, .inl ⟨rfl, ⟨hI _ _ _ hi3 ht4, hb4⟩, ((ht5.none.trans hp.2.2 (fun _ _ s => s)).trans ht3 (fun _ _ s => s)).trans hu4 (fun _ _ s => s), hs4⟩⟩
      | ret =>
        obtain ⟨hk3, hi3⟩ := hpost
        obtain ⟨W4, hr, hb4, ht4, hu4, hs4⟩ := ends (some .ret) W3 hk3
        exact ⟨_, _, hr, .inr ⟨rfl, ⟨.ret, hIx _ _ _ _ hi3 ht4, hb4⟩, hs4⟩⟩
      | exit id =>
        obtain ⟨hk3, hi3⟩ := hpost
        obtain ⟨W4, hr, hb4, ht4, hu4, hs4⟩ := ends (some (.exit id)) W3 hk3
        exact ⟨_, _, hr, .inr ⟨rfl, ⟨.exit id, hIx _ _ _ _ hi3 ht4, hb4⟩, hs4⟩⟩
      | goto t =>
        obtain ⟨hk3, hi3⟩ := hpost
        obtain ⟨W4, hr, hb4, ht4, hu4, hs4⟩ := ends (some (.goto t)) W3 hk3
        exact ⟨_, _, hr, .inr ⟨rfl, ⟨.goto t, hIx _ _ _ _ hi3 ht4, hb4⟩, hs4⟩⟩
      | panic ch => exact hpost.elim
      | outgrown => exact hpost.elim
    · have shut : ∀ {st : LoopState} {pe : Option Code} {W2 : World}, st ≠ .busy → Bk st pe W2 → ∃ W3, (Instr.endLoop (w.heap.size + 1)).run Try.prog W2 = .ok pe W3 ∧ W3.heap[w.heap.size]? = some (.deferred (some [])) ∧ Turn (odd w.heap.size W2) W2 W3 := by
        intro st pe W2 hst hk
        have hl : W2.heap[w.heap.size + 1]? = some (R st pe) := by rw [hBk] at hk; exact hk.1
        have h4 := put (st' := .exhausted) (pe' := pe) hk
        have h5 : (W2.putObj (w.heap.size + 1) (R .exhausted pe)).heap[w.heap.size]? = some (.deferred (some [])) := by have h6 := h4.1; rw [hBk] at h6; exact h6.2
        rw [hR] at hl h4 h5
        exact ⟨_, run_endLoop hl hst, h5, h4.2.1⟩
      rintro e W2 ⟨⟨v, rfl⟩, (⟨xs, hA, hi, hk⟩ | ⟨pre, hP, c, hi, hk⟩)⟩
      · obtain ⟨W3, hr, hd, ht⟩ := shut (by simp) hk
        exact ⟨none, W3, hr, hdone _ xs _ (Nat.le_refl _) hA (hI _ _ _ hi ht) hd⟩
      · obtain ⟨W3, hr, hd, ht⟩ := shut (by simp) hk
        exact ⟨some c, W3, hr, hstop _ c pre _ (Nat.le_refl _) hP (hIx c _ _ _ hi ht) hd⟩

end Go.Proofs.Ytnnlgeldjjknmaa

/-
  Stage 11: the program's segments in memory; what its functions answer; all, Len, At.
-/
namespace Go.Proofs.Ytnnlgeldjjknmaa
open Go.RowKit

set_option maxRecDepth 100000

/-- A segment's rows; a nil one has none. -/
def SV11 (w : World) (v : Value) (L : List R11) : Prop := (rightR L = true ∧ (∀ r ∈ L, okC r.c) ∧ L.length ≤ 1000) ∧ ((v = .pointer none ∧ L = []) ∨ ∃ b sl, v = .pointer (some ⟨b, 0, none⟩) ∧ Box w b 74 #[sl] ∧ RdE ER w sl L)
theorem SV11.later {w w' : World} {v : Value} {L : List R11} (h : SV11 w v L) (ht : Turn (fun _ => False) w w') : SV11 w' v L :=
  ⟨h.1, h.2.imp id fun ⟨b, sl, e, hb, hr⟩ => ⟨b, sl, e, hb.turn ht (fun f => f), hr.later ht⟩⟩
theorem SV11.nil (w : World) : SV11 w (.pointer none) [] := ⟨⟨rfl, (fun r h => by cases h), Nat.zero_le _⟩, .inl ⟨rfl, rfl⟩⟩
theorem SV11.ptr {w : World} {v : Value} {L : List R11} (h : SV11 w v L) : ∃ p, v = .pointer p := by
  rcases h.2 with ⟨e, _⟩ | ⟨b, sl, e, _⟩
  · exact ⟨_, e⟩
  · exact ⟨_, e⟩
theorem SV11.right {w : World} {v : Value} {L : List R11} (h : SV11 w v L) : rightR L = true ∧ (∀ r ∈ L, okC r.c) ∧ L.length ≤ 1000 := h.1
/-- A segment that is not nil. -/
theorem SV11.new {w : World} {sl : Value} {L : List R11} (h : RdE ER w sl L) (hr : rightR L = true ∧ (∀ r ∈ L, okC r.c) ∧ L.length ≤ 1000) : SV11 (w.alloc (.cells #[sl] 74)) (.pointer (some ⟨w.heap.size, 0, none⟩)) L :=
  ⟨hr, .inr ⟨_, sl, rfl, Box.new w _ _, h.later ((Turn.refl _ w).alloc _)⟩⟩
/-- A slice of segments. -/
def EP11 : El (Option Addr) where
  sz := 1
  enc p := [.pointer p]
  len _ := rfl
  one p u hu := by rw [List.mem_singleton.1 hu]; rfl
structure SVs11 (w : World) (v : Value) (ls : List (List R11)) : Prop where
  out : ∃ ps : List (Option Addr), RdE EP11 w v ps ∧ ps.length = ls.length ∧ ∀ (j : Nat) (p : Option Addr) (x : List R11), ps[j]? = some p → ls[j]? = some x → SV11 w (.pointer p) x
/-- What is answered. -/
def atR (n : Int) (L : List R11) : Option R11 := if 0 ≤ n then L[n.toNat]? else none
def rowA (o : Option R11) : Value := .tuple #[(match o with | some r => rv11 r | none => zv11), .bool o.isSome]
def zc11 : Value := .agg #[.int .i64 0, .int .i64 0, .int .i64 0, .int .i64 0]
def findA (o : Option Cl) : Value := .tuple #[(match o with | some c => cv c | none => zc11), .bool o.isSome]
def faultO (o : Option (List R11)) (f : Int) : Value := .int .i64 (if o.isSome then 0 else f)
def Seg11 (w : World) (o : Option (List R11)) (f : Int) (e : Ending) (w' : World) : Prop := ∃ s, e = .returned (.tuple #[s, faultO o f]) ∧ SV11 w' s (o.getD []) ∧ Turn (fun _ => False) w w'
def RowsA11 (w : World) (l : List R11) (e : Ending) (w' : World) : Prop := ∃ s, e = .returned (.tuple #[s, .int .i64 (if rightR l then 0 else 4)]) ∧ SV11 w' s (if rightR l then l else []) ∧ (rightR l = false → s = .pointer none) ∧ Turn (fun _ => False) w w'
def Part11 (w : World) (L : List R11) (e : Ending) (w' : World) : Prop := ∃ s, e = .returned s ∧ SV11 w' s L ∧ Turn (fun _ => False) w w'
/-- A range over rows: what it gives, if what turns is a block of one cell that was there, or new. -/
def Range11 (w : World) (L : List R11) (e : Ending) (w' : World) : Prop := ∃ gf lb, e = .returned (.func (.func gf) #[] lb) ∧ (∀ args W, (callFunc gf args).run Try.prog W = .ok (.enter gf args) W) ∧ Turn (fun _ => False) w w' ∧
  ∀ (n : Nat) (S : Nat → Prop), (∀ k, S k → (∃ t v, Box w k t #[v]) ∨ w'.heap.size ≤ k) → Feeds3 n gf lb (fun r => #[rv11 r]) S (fun pre y _ => pre ++ [y] <+: L) (fun xs => xs = L) (fun pre => pre <+: L) w'

/-- The rows, not to be changed. -/
def AllS11 (w : World) (L : List R11) (e : Ending) (w' : World) : Prop := ∃ sl, e = .returned sl ∧ RdE ER w sl L ∧ w' = w
set_option maxHeartbeats 1000000 in
theorem all_any11 (s : Value) (L : List R11) (w : World) (h : SV11 w s L) : Calls Try.prog 43 #[s] w fun e w' => AllS11 w L e w' := by
  rcases h.2 with ⟨rfl, rfl⟩ | ⟨b, sl, rfl, hb, hr⟩
  · clear h
    go_enter Try.func43, Try.ntmps43
    go_wp2
    go_ret
    exact ⟨_, rfl, RdE.nil _, rfl⟩
  · have HR := Lib.hid hr
    have c0 := hb.cell 0
    obtain ⟨A, c, rfl⟩ := hr.shape
    clear h hr hb
    go_enter Try.func43, Try.ntmps43
    go_wp2
    go_ret
    exact ⟨_, rfl, HR.out, rfl⟩
set_option maxHeartbeats 1000000 in
theorem len_same11 (s : Value) (L : List R11) (w : World) (h : SV11 w s L) : Calls Try.prog 28 #[s] w fun e w' => e = .returned (.int .i64 (L.length : Int)) ∧ w' = w := by
  have HA := Lib.hid (all_any11 s L w h)
  obtain ⟨p, rfl⟩ := h.ptr
  clear h
  go_enter Try.func28, Try.ntmps28
  go_wp2_with fail
  refine HA.out.mono ?_
  rintro e w1 ⟨sl, rfl, hr, rfl⟩
  obtain ⟨A, c, rfl⟩ := hr.shape
  clear hr HA
  go_wp2
  go_ret
  exact ⟨rfl, rfl⟩
theorem len_any11 (s : Value) (L : List R11) (w : World) (h : SV11 w s L) : Calls Try.prog 28 #[s] w fun e w' => e = .returned (.int .i64 (L.length : Int)) ∧ Turn (fun _ => False) w w' :=
  (len_same11 s L w h).mono fun _ _ ⟨e, hw⟩ => ⟨e, by rw [hw]; exact Turn.refl _ w⟩

theorem atR_low {n : Int} (h : n < 0) (L : List R11) : atR n L = none := if_neg (by omega)
theorem atR_high {n : Int} {L : List R11} (h : (L.length : Int) ≤ n) : atR n L = none := by
  unfold atR
  rw [if_pos (by omega), List.getElem?_eq_none (by omega)]

end Go.Proofs.Ytnnlgeldjjknmaa

/-
  Worlds that have only grown, and drawn: what slices.SortFunc asks of a closure. No type is named.
-/
namespace Go.Proofs.Ytnnlgeldjjknmaa
open Go.RowKit

/-- w' has come of w by blocks laid and draws alone. -/
def Gr (w w' : World) : Prop := ∃ q os, w' = Sort.grow (w.drewN q) os
theorem Gr.refl (w : World) : Gr w w := ⟨0, #[], by rw [Sort.grow_empty]; rfl⟩
theorem Gr.trans {a b c : World} (h : Gr a b) (g : Gr b c) : Gr a c := by
  obtain ⟨q, os, rfl⟩ := h
  obtain ⟨q2, os2, rfl⟩ := g
  refine ⟨q + q2, os ++ os2, ?_⟩
  show Sort.grow (Sort.grow ((a.drewN q).drewN q2) os) os2 = _
  rw [Sort.grow_grow]
  congr 1
  simp [World.drewN, Nat.add_assoc]
theorem Gr.drewN {a b : World} (h : Gr a b) (n : Nat) : Gr a (b.drewN n) := h.trans ⟨n, #[], by rw [Sort.grow_empty]⟩
theorem Gr.drew {a b : World} (h : Gr a b) : Gr a b.drew := h.drewN 1
theorem Gr.alloc {a b : World} (h : Gr a b) (o : Obj) : Gr a (b.alloc o) := h.trans ⟨0, #[o], Sort.alloc_eq_grow b o⟩
theorem Gr.turn {a b : World} (h : Gr a b) : Turn (fun _ => False) a b := by
  obtain ⟨q, os, rfl⟩ := h
  refine ⟨rfl, rfl, rfl, ?_, ?_⟩
  · show a.heap.size ≤ (a.heap ++ os).size
    rw [Array.size_append]
    omega
  · intro k hk _
    show (a.heap ++ os)[k]? = a.heap[k]?
    rw [Array.getElem?_append_left hk]

end Go.Proofs.Ytnnlgeldjjknmaa

/-
  Stage 9: the program's Compare (by cmp.Or, cmp.Compare, slices.Compare): the world has only grown.
-/
namespace Go.Proofs.Ytnnlgeldjjknmaa
open Go.RowKit

set_option maxRecDepth 100000

/-- cmp.Compare of two numbers, of two texts. -/
def cmpI (a b : Int) : Int := if a < b then -1 else if b < a then 1 else 0
def cmpT (a b : List UInt8) : Int := if Op.bytesLess a b then -1 else if Op.bytesLess b a then 1 else 0

set_option maxHeartbeats 1000000 in
theorem cmp_num9 (a b : Int) (w : World) : Calls Try.prog 53 #[.int .i64 a, .int .i64 b] w fun e w' => e = .returned (.int .i64 (cmpI a b)) ∧ w' = w := by
  unfold cmpI
  have ha : (a == a) = true := beq_self_eq_true a
  have hb : (b == b) = true := beq_self_eq_true b
  by_cases h1 : a < b
  · rw [if_pos h1]
    go_enter Try.func53, Try.ntmps53
    go_wp2
    go_ret
    exact ⟨rfl, rfl⟩
  · by_cases h2 : b < a
    · rw [if_neg h1, if_pos h2]
      go_enter Try.func53, Try.ntmps53
      go_wp2
      go_ret
      exact ⟨rfl, rfl⟩
    · rw [if_neg h1, if_neg h2]
      go_enter Try.func53, Try.ntmps53
      go_wp2
      go_ret
      exact ⟨rfl, rfl⟩

set_option maxHeartbeats 1000000 in
theorem cmp_text9 (a b : List UInt8) (w : World) : Calls Try.prog 72 #[sv9 a, sv9 b] w fun e w' => e = .returned (.int .i64 (cmpT a b)) ∧ w' = w := by
  unfold cmpT sv9
  have ha : (a == a) = true := beq_self_eq_true a
  have hb : (b == b) = true := beq_self_eq_true b
  cases h1 : Op.bytesLess a b with
  | true =>
    go_enter Try.func72, Try.ntmps72
    go_wp2
    go_ret
    exact ⟨rfl, rfl⟩
  | false =>
    cases h2 : Op.bytesLess b a with
    | true =>
      have heq : (a == b) = false := by
        cases e : a == b with
        | false => rfl
        | true =>
          rw [eq_of_beq e, less_irr] at h2
          cases h2
      go_enter Try.func72, Try.ntmps72
      go_wp2
      go_ret
      exact ⟨rfl, rfl⟩
    | false =>
      have heq : (a == b) = true := by rw [bytes_same h1 h2]; exact beq_self_eq_true _
      go_enter Try.func72, Try.ntmps72
      go_wp2
      go_ret
      exact ⟨rfl, rfl⟩

theorem cmpI_cases (a b : Int) : (a < b ∧ cmpI a b = -1) ∨ (b < a ∧ cmpI a b = 1) ∨ (a = b ∧ cmpI a b = 0) := by
  unfold cmpI
  by_cases h1 : a < b
  · exact .inl ⟨h1, if_pos h1⟩
  · by_cases h2 : b < a
    · exact .inr (.inl ⟨h2, by rw [if_neg h1, if_pos h2]⟩)
    · exact .inr (.inr ⟨by omega, by rw [if_neg h1, if_neg h2]⟩)
theorem cmpT_cases (a b : List UInt8) : (Op.bytesLess a b = true ∧ cmpT a b = -1) ∨ (Op.bytesLess b a = true ∧ cmpT a b = 1) ∨ (a = b ∧ cmpT a b = 0) := by
  unfold cmpT
  cases h1 : Op.bytesLess a b with
  | true => exact .inl ⟨rfl, rfl⟩
  | false =>
    cases h2 : Op.bytesLess b a with
    | true => exact .inr (.inl ⟨rfl, rfl⟩)
    | false => exact .inr (.inr ⟨bytes_same h1 h2, rfl⟩)

/-- The dimensions' values, the first i of them, by slices.Compare. -/
def dimsC (p q : K9) : Nat → Int
  | 0 => 0
  | i + 1 => if dimsC p q i = 0 then cmpT (p.dim i) (q.dim i) else dimsC p q i
theorem dims_stay {p q : K9} {i : Nat} (h : dimsC p q i ≠ 0) : ∀ j, i ≤ j → dimsC p q j = dimsC p q i
  | 0, hj => by rw [Nat.le_zero.1 hj]
  | j + 1, hj => by
    by_cases e : i = j + 1
    · rw [e]
    · have ih := dims_stay h j (by omega)
      show (if dimsC p q j = 0 then cmpT (p.dim j) (q.dim j) else dimsC p q j) = _
      rw [ih, if_neg h]
theorem dims_is {p q : K9} (hh : p.h = q.h) : ∀ i, i ≤ 4 → (dimsC p q i = 0 ∧ ∀ k, k < i → p.dim k = q.dim k) ∨ (dimsC p q i ≠ 0 ∧ dimsC p q i = cmpK p q)
  | 0, _ => .inl ⟨rfl, fun k hk => absurd hk (Nat.not_lt_zero k)⟩
  | i + 1, hi => by
    rcases dims_is hh i (by omega) with ⟨h0, hd⟩ | ⟨h0, h⟩
    · unfold dimsC
      rw [if_pos h0]
      rcases cmpT_cases (p.dim i) (q.dim i) with ⟨h, e⟩ | ⟨h, e⟩ | ⟨h, e⟩
      · exact .inr ⟨by rw [e]; decide, by rw [e, cmpK_lt (key_dim (by omega) hh hd h)]⟩
      · exact .inr ⟨by rw [e]; decide, by rw [e, cmpK_gt (key_dim (by omega) hh.symm (fun k hk => (hd k hk).symm) h)]⟩
      · exact .inl ⟨e, fun k hk => by
          by_cases ek : k = i
          · rw [ek]; exact h
          · exact hd k (by omega)⟩
    · exact .inr ⟨by unfold dimsC; rwa [if_neg h0], by unfold dimsC; rwa [if_neg h0]⟩
/-- cmp.Or: the first that is not 0. -/
def orL : List Int → Int
  | [] => 0
  | x :: l => if x = 0 then orL l else x
theorem or_two (a b : Int) : orL [a, b] = if a = 0 then b else a := by
  unfold orL orL orL
  by_cases h : b = 0
  · subst h; simp
  · simp [h]
theorem or_key (p q : K9) : orL [cmpI p.h q.h, dimsC p q 4] = cmpK p q := by
  rw [or_two]
  rcases cmpI_cases p.h q.h with ⟨h, e⟩ | ⟨h, e⟩ | ⟨h, e⟩
  · rw [e, if_neg (by decide), cmpK_lt (key_hour h)]
  · rw [e, if_neg (by decide), cmpK_gt (key_hour h)]
  · rw [if_pos e]
    rcases dims_is h 4 (Nat.le_refl 4) with ⟨h0, hd⟩ | ⟨_, h1⟩
    · have e := key_same h hd
      subst e
      rw [h0, cmpK_self]
    · exact h1

set_option maxHeartbeats 4000000 in
theorem cmp_dims9 (p q : K9) (A1 A2 : Addr) (w : World) (h1 : ∀ i, i < 4 → w.cell? (A1.add i) = some (sv9 (p.dim i))) (h2 : ∀ i, i < 4 → w.cell? (A2.add i) = some (sv9 (q.dim i))) :
    Calls Try.prog 54 #[.slice (some A1) 4 4, .slice (some A2) 4 4] w fun e w' => e = .returned (.int .i64 (dimsC p q 4)) ∧ w' = w := by
  have H1 := Lib.hid h1
  have H2 := Lib.hid h2
  clear h1 h2
  go_enter Try.func54, Try.ntmps54
  go_wp2_with fail
  go_loopw [11] (fun x11 wr => ∃ i : Nat, x11 = .int .i64 (i : Int) ∧ i ≤ 4 ∧ dimsC p q i = 0 ∧ wr = w) (fun x11 _ => 4 - (intOf x11).toNat)
  case atStart => exact ⟨0, rfl, Nat.zero_le _, rfl, rfl⟩
  case round =>
    obtain ⟨i, rfl, hi, h0, rfl⟩ := hrel
    by_cases hlt : i < 4
    · have e1 := H1.out i hlt
      have e2 := H2.out i hlt
      have hil : (i : Int) < 4 := by omega
      have hni : ¬ ((4 : Int) ≤ (i : Int)) := by omega
      have hn1 : cmpT (p.dim i) (q.dim i) = dimsC p q (i + 1) := by
        show _ = if dimsC p q i = 0 then cmpT (p.dim i) (q.dim i) else dimsC p q i
        rw [if_pos h0]
      have HC : Hid (∀ W, Calls Try.prog 72 #[sv9 (p.dim i), sv9 (q.dim i)] W fun e w' => e = .returned (.int .i64 (dimsC p q (i + 1))) ∧ w' = W) := by
        rw [← hn1]
        exact fun W => cmp_text9 (p.dim i) (q.dim i) W
      have HST : Hid (dimsC p q (i + 1) ≠ 0 → dimsC p q 4 = dimsC p q (i + 1)) := fun h => dims_stay h 4 (by omega)
      clear hn1 h0
      obtain ⟨cn, hcn⟩ : ∃ cn, cn = dimsC p q (i + 1) := ⟨_, rfl⟩
      rw [← hcn] at HC HST
      have HCN := Lib.hid hcn
      clear hcn
      generalize p.dim i = T1 at *
      generalize q.dim i = T2 at *
      by_cases hz : cn = 0
      · subst hz
        go_wp2_with fail
        refine (HC.out _).mono ?_
        rintro e w2 ⟨rfl, rfl⟩
        go_wp2
        go_roundw
        case rel => exact ⟨i + 1, by go_num, hlt, HCN.out.symm, trivial⟩
        case measure => simp [intOf]; omega
      · have hzb : (cn != 0) = true := by simp [bne, hz]
        have HE := Lib.hid (HST.out hz)
        clear HST
        go_wp2_with fail
        refine (HC.out _).mono ?_
        rintro e w2 ⟨rfl, rfl⟩
        go_wp2
        go_ret
        rw [HE.out]
        exact ⟨rfl, rfl⟩
    · obtain rfl : i = 4 := by omega
      have HZ := Lib.hid h0
      clear h0
      go_wp2
      go_ret
      rw [HZ.out]
      exact ⟨rfl, rfl⟩

set_option maxHeartbeats 4000000 in
theorem or_two9 (a b : Int) (A1 : Addr) (w : World) (h0 : w.cell? A1 = some (.int .i64 a)) (h1 : w.cell? (A1.add 1) = some (.int .i64 b)) :
    Calls Try.prog 52 #[.slice (some A1) 2 2] w fun e w' => e = .returned (.int .i64 (orL [a, b])) ∧ w' = w := by
  have hc : ∀ i, i < 2 → w.cell? (A1.add i) = some (.int .i64 (if i = 0 then a else b)) := fun i hi => by
    match i, hi with
    | 0, _ => exact h0
    | 1, _ => exact h1
  have H1 := Lib.hid hc
  have HOR := Lib.hid (or_two a b)
  clear h0 h1 hc
  go_enter Try.func52, Try.ntmps52
  go_wp2_with fail
  go_loopw [8] (fun x8 wr => ∃ i : Nat, x8 = .int .i64 (i : Int) ∧ i ≤ 2 ∧ (0 < i → a = 0) ∧ (1 < i → b = 0) ∧ wr = w) (fun x8 _ => 2 - (intOf x8).toNat)
  case atStart => exact ⟨0, rfl, Nat.zero_le _, (fun h => absurd h (Nat.lt_irrefl 0)), (fun h => absurd h (by omega)), rfl⟩
  case round =>
    obtain ⟨i, rfl, hi, g0, g1, rfl⟩ := hrel
    have G0 := Lib.hid g0
    have G1 := Lib.hid g1
    clear g0 g1
    by_cases hlt : i < 2
    · have e1 := H1.out i hlt
      have hil : (i : Int) < 2 := by omega
      obtain ⟨x, hx⟩ : ∃ x, x = if i = 0 then a else b := ⟨_, rfl⟩
      rw [← hx] at e1
      have HX := Lib.hid hx
      clear hx
      by_cases hz : x = 0
      · subst hz
        go_wp2
        go_roundw
        case rel =>
          refine ⟨i + 1, by go_num, hlt, fun _ => ?_, fun h => ?_, trivial⟩
          · have h := HX.out
            by_cases e : i = 0
            · rw [if_pos e] at h; exact h.symm
            · exact G0.out (by omega)
          · have h2 := HX.out
            rw [if_neg (by omega)] at h2
            exact h2.symm
        case measure => simp [intOf]; omega
      · have hzb : (x != 0) = true := by simp [bne, hz]
        have HE : Hid (orL [a, b] = x) := by
          show _ = _
          rw [HOR.out]
          have h := HX.out
          by_cases e : i = 0
          · rw [if_pos e] at h
            rw [if_neg (by rw [← h]; exact hz)]
            exact h.symm
          · rw [if_neg e] at h
            rw [if_pos (G0.out (by omega))]
            exact h.symm
        go_wp2
        go_ret
        rw [HE.out]
        exact ⟨rfl, rfl⟩
    · obtain rfl : i = 2 := by omega
      have HE : Hid (orL [a, b] = 0) := by
        show _ = _
        rw [HOR.out, if_pos (G0.out (by omega))]
        exact G1.out (by omega)
      go_wp2
      go_ret
      rw [HE.out]
      exact ⟨rfl, rfl⟩

/-- Compare's answer out of the two answers, in whatever world the row is laid. -/
theorem or_row9 (a b : Int) (w : World) : Calls Try.prog 52 #[.slice (some ⟨w.heap.size, 0, none⟩) 2 2] (w.alloc (.cells #[.int .i64 a, .int .i64 b] 3)) fun e w' => e = .returned (.int .i64 (orL [a, b])) ∧ w' = w.alloc (.cells #[.int .i64 a, .int .i64 b] 3) := by
  have hb := Box.new w 3 #[.int .i64 a, .int .i64 b]
  exact or_two9 a b ⟨w.heap.size, 0, none⟩ _ (hb.cell 0) (by rw [own_add]; exact hb.cell 1)

set_option maxHeartbeats 8000000 in
theorem compare_gr9 (p q : K9) (w : World) : Calls Try.prog 33 #[kv9 p, kv9 q] w fun e w' => e = .returned (.int .i64 (cmpK p q)) ∧ Gr w w' := by
  unfold kv9
  obtain ⟨w0, hw0⟩ : ∃ w0, w0 = (w.alloc (.cells #[.int .i64 p.h, sv9 p.a, sv9 p.b, sv9 p.c, sv9 p.d] 44)).alloc (.cells #[.int .i64 q.h, sv9 q.a, sv9 q.b, sv9 q.c, sv9 q.d] 44) := ⟨_, rfl⟩
  have HT0 : Hid (Gr w w0) := by rw [hw0]; exact ((Gr.refl w).alloc _).alloc _
  have hb1 : Box w0 w.heap.size 44 #[.int .i64 p.h, sv9 p.a, sv9 p.b, sv9 p.c, sv9 p.d] := by rw [hw0]; exact (Box.new w _ _).alloc _
  have hb2 : Box w0 (w.heap.size + 1) 44 #[.int .i64 q.h, sv9 q.a, sv9 q.b, sv9 q.c, sv9 q.d] := by
    rw [hw0]
    have h := Box.new (w.alloc (.cells #[.int .i64 p.h, sv9 p.a, sv9 p.b, sv9 p.c, sv9 p.d] 44)) 44 #[.int .i64 q.h, sv9 q.a, sv9 q.b, sv9 q.c, sv9 q.d]
    rw [World.size_alloc] at h
    exact h
  have H1 : Hid (∀ W, Gr w0 W → W.cell? ⟨w.heap.size, 0, none⟩ = some (.int .i64 p.h)) := fun W ht => (hb1.turn ht.turn (fun f => f)).cell 0
  have H2 : Hid (∀ W, Gr w0 W → W.cell? ⟨w.heap.size + 1, 0, none⟩ = some (.int .i64 q.h)) := fun W ht => (hb2.turn ht.turn (fun f => f)).cell 0
  have HD1 : Hid (∀ W, Gr w0 W → ∀ i, i < 4 → W.cell? ((⟨w.heap.size, 1, none⟩ : Addr).add i) = some (sv9 (p.dim i))) := fun W ht i hi => by
    have h := dim_cell (o := 1) (hb1.turn ht.turn (fun f => f)) key_cells i hi
    unfold Addr.add
    split
    · rename_i e; subst e; exact h
    · exact h
  have HD2 : Hid (∀ W, Gr w0 W → ∀ i, i < 4 → W.cell? ((⟨w.heap.size + 1, 1, none⟩ : Addr).add i) = some (sv9 (q.dim i))) := fun W ht i hi => by
    have h := dim_cell (o := 1) (hb2.turn ht.turn (fun f => f)) key_cells i hi
    unfold Addr.add
    split
    · rename_i e; subst e; exact h
    · exact h
  have HW := Lib.hid hw0
  have HC : Hid (∀ W, Gr w0 W → Calls Try.prog 54 #[.slice (some ⟨w.heap.size, 1, none⟩) 4 4, .slice (some ⟨w.heap.size + 1, 1, none⟩) 4 4] W fun e w' => e = .returned (.int .i64 (dimsC p q 4)) ∧ w' = W) := fun W ht => cmp_dims9 p q _ _ W (HD1.out W ht) (HD2.out W ht)
  have HN : Hid (∀ W, Calls Try.prog 53 #[.int .i64 p.h, .int .i64 q.h] W fun e w' => e = .returned (.int .i64 (cmpI p.h q.h)) ∧ w' = W) := fun W => cmp_num9 p.h q.h W
  have HO : Hid (∀ W : World, Calls Try.prog 52 #[.slice (some ⟨W.heap.size, 0, none⟩) 2 2] (W.alloc (.cells #[.int .i64 (cmpI p.h q.h), .int .i64 (dimsC p q 4)] 3)) fun e w' => e = .returned (.int .i64 (cmpK p q)) ∧ w' = W.alloc (.cells #[.int .i64 (cmpI p.h q.h), .int .i64 (dimsC p q 4)] 3)) := fun W => by
    have h := or_row9 (cmpI p.h q.h) (dimsC p q 4) W
    rwa [or_key] at h
  generalize cmpI p.h q.h = ca at *
  generalize dimsC p q 4 = cb at *
  generalize cmpK p q = cc at *
  clear hb1 hb2 hw0 HD1 HD2
  go_enter Try.func33, Try.ntmps33
  go_wp2_with fail
  rw [← HW.out]
  refine drawn_region (fun V => Gr w0 V) [] (by kernel_rfl) ?_
  have ht0 : Gr w0 (World.drew w0) := (Gr.refl w0).drew
  generalize World.drew w0 = wd at *
  have HD := Lib.hid ht0
  have hS0 := ht0
  clear ht0
  refine drawn_take 0 5 (.pointer (some ⟨w.heap.size, 0, none⟩)) rfl rfl (by kernel_rfl) (by kernel_rfl) (by kernel_rfl) (by kernel_rfl) (fun _ _ _ h => h) (by rfl) (by assumption) (by intro w hSw; obtain hS1 := hSw; go_simp) ?_
  try simp only [List.setIfInBounds_toArray, List.set_cons_zero, List.set_cons_succ]
  refine drawn_take 1 6 (.int .i64 p.h) rfl rfl (by kernel_rfl) (by kernel_rfl) (by kernel_rfl) (by kernel_rfl) (fun _ _ _ h => h) (by rfl) (by assumption) (by intro w hSw; have a0 := H1.out w hSw; go_simp) ?_
  try simp only [List.setIfInBounds_toArray, List.set_cons_zero, List.set_cons_succ]
  refine drawn_take 2 7 (.pointer (some ⟨w.heap.size + 1, 0, none⟩)) rfl rfl (by kernel_rfl) (by kernel_rfl) (by kernel_rfl) (by kernel_rfl) (fun _ _ _ h => h) (by rfl) (by assumption) (by intro w hSw; obtain hS1 := hSw; go_simp) ?_
  try simp only [List.setIfInBounds_toArray, List.set_cons_zero, List.set_cons_succ]
  refine drawn_take 3 8 (.int .i64 q.h) rfl rfl (by kernel_rfl) (by kernel_rfl) (by kernel_rfl) (by kernel_rfl) (fun _ _ _ h => h) (by rfl) (by assumption) (by intro w hSw; have a0 := H2.out w hSw; go_simp) ?_
  try simp only [List.setIfInBounds_toArray, List.set_cons_zero, List.set_cons_succ]
  refine drawn_take 5 10 (.pointer (some ⟨w.heap.size, 1, none⟩)) rfl rfl (by kernel_rfl) (by kernel_rfl) (by kernel_rfl) (by kernel_rfl) (fun _ _ _ h => h) (by rfl) (by assumption) (by intro w hSw; obtain hS1 := hSw; go_simp) ?_
  try simp only [List.setIfInBounds_toArray, List.set_cons_zero, List.set_cons_succ]
  refine drawn_take 6 11 (.slice (some ⟨w.heap.size, 1, none⟩) 4 4) rfl rfl (by kernel_rfl) (by kernel_rfl) (by kernel_rfl) (by kernel_rfl) (fun _ _ _ h => h) (by rfl) (by assumption) (by intro w hSw; obtain hS1 := hSw; go_simp) ?_
  try simp only [List.setIfInBounds_toArray, List.set_cons_zero, List.set_cons_succ]
  refine drawn_take 7 12 (.pointer (some ⟨w.heap.size + 1, 1, none⟩)) rfl rfl (by kernel_rfl) (by kernel_rfl) (by kernel_rfl) (by kernel_rfl) (fun _ _ _ h => h) (by rfl) (by assumption) (by intro w hSw; obtain hS1 := hSw; go_simp) ?_
  try simp only [List.setIfInBounds_toArray, List.set_cons_zero, List.set_cons_succ]
  refine drawn_take 8 13 (.slice (some ⟨w.heap.size + 1, 1, none⟩) 4 4) rfl rfl (by kernel_rfl) (by kernel_rfl) (by kernel_rfl) (by kernel_rfl) (fun _ _ _ h => h) (by rfl) (by assumption) (by intro w hSw; obtain hS1 := hSw; go_simp) ?_
  try simp only [List.setIfInBounds_toArray, List.set_cons_zero, List.set_cons_succ]
  refine drawn_any [4] (by kernel_rfl) (by simp) ?_
  refine drawn_cons rfl (fun K hK => ?_) drawn_nil
  go_simp
  refine (HN.out wd).mono ?_
  rintro e w2 ⟨rfl, rfl⟩
  refine hK.out _ _ _ hS0 ?_
  clear hK K
  try simp only [List.setIfInBounds_toArray, List.set_cons_zero, List.set_cons_succ]
  refine drawn_any [9] (by kernel_rfl) (by simp) ?_
  refine drawn_cons rfl (fun K hK => ?_) drawn_nil
  go_simp
  refine (HC.out _ hS0).mono ?_
  rintro e w3 ⟨rfl, rfl⟩
  refine hK.out _ _ _ hS0 ?_
  clear hK K
  try simp only [List.setIfInBounds_toArray, List.set_cons_zero, List.set_cons_succ]
  refine drawn_any [10] (by kernel_rfl) (by simp) ?_
  refine drawn_cons rfl (fun K hK => ?_) drawn_nil
  go_simp
  have hS4 := hS0.alloc (.cells #[.int .i64 ca, .int .i64 cb] 3)
  refine hK.out _ _ _ hS4 ?_
  clear hK K
  try simp only [List.setIfInBounds_toArray, List.set_cons_zero, List.set_cons_succ]
  refine drawn_any [11] (by kernel_rfl) (by simp) ?_
  refine drawn_cons rfl (fun K hK => ?_) drawn_nil
  go_simp
  refine (HO.out _).mono ?_
  rintro e w5 ⟨rfl, rfl⟩
  refine hK.out _ _ _ hS4 ?_
  clear hK K
  try simp only [List.setIfInBounds_toArray, List.set_cons_zero, List.set_cons_succ]
  refine drawn_last1 12 4 (.int .i64 cc) rfl rfl (by kernel_rfl) (by kernel_rfl) (by rfl) (by intro w; go_simp) hS4 ?_
  try simp only [List.setIfInBounds_toArray, List.set_cons_zero, List.set_cons_succ]
  have HF := Lib.hid (HT0.out.trans hS4)
  clear hS0 hS4
  go_wp2
  go_ret
  exact ⟨rfl, HF.out⟩

theorem compare_any9 (p q : K9) (w : World) : Calls Try.prog 33 #[kv9 p, kv9 q] w fun e w' => e = .returned (.int .i64 (cmpK p q)) ∧ Turn (fun _ => False) w w' :=
  (compare_gr9 p q w).mono fun _ _ h => ⟨h.1, h.2.turn⟩

end Go.Proofs.Ytnnlgeldjjknmaa

/-
  Stage 11: At, Find: what is at a place, at a key.
-/
namespace Go.Proofs.Ytnnlgeldjjknmaa
open Go.RowKit

set_option maxRecDepth 100000

set_option maxHeartbeats 2000000 in
theorem at_any11 (s : Value) (L : List R11) (n : Int) (w : World) (h : SV11 w s L) : Calls Try.prog 27 #[s, .int .i64 n] w fun e w' => e = .returned (rowA (atR n L)) ∧ Turn (fun _ => False) w w' := by
  have HLE : Hid (∀ W, Turn (fun _ => False) w W → Calls Try.prog 28 #[s] W fun e w' => e = .returned (.int .i64 (L.length : Int)) ∧ w' = W) := fun W ht => len_same11 s L W (h.later ht)
  have hl := h.right.2.2
  obtain ⟨p, rfl⟩ := h.ptr
  by_cases h0 : n < 0
  · have HZ := Lib.hid (atR_low h0 L)
    clear h
    go_enter Try.func27, Try.ntmps27
    go_wp2
    refine bodyPost_ret (v := .tuple #[zv11, .bool false]) ?_ rfl ⟨by rw [HZ.out]; rfl, ((Turn.refl _ w).alloc _)⟩
    rw [results_cell_tmp rfl]
    go_simp
  · by_cases h1 : (L.length : Int) ≤ n
    · have HZ := Lib.hid (atR_high h1)
      clear h
      go_enter Try.func27, Try.ntmps27
      go_wp2_with fail
      refine (HLE.out _ ((Turn.refl _ w).alloc _)).mono ?_
      rintro e w1 ⟨rfl, rfl⟩
      go_wp2
      refine bodyPost_ret (v := .tuple #[zv11, .bool false]) ?_ rfl ⟨by rw [HZ.out]; rfl, ((Turn.refl _ w).alloc _)⟩
      rw [results_cell_tmp rfl]
      go_simp
    · obtain ⟨N, rfl⟩ := Int.eq_ofNat_of_zero_le (show 0 ≤ n by omega)
      have hlt : N < L.length := by omega
      obtain ⟨x, hx⟩ : ∃ x, L[N]? = some x := ⟨_, List.getElem?_eq_getElem hlt⟩
      have HZ : Hid (atR (N : Int) L = some x) := by unfold atR; rw [if_pos (by omega), Int.toNat_natCast]; exact hx
      rcases h.2 with ⟨-, rfl⟩ | ⟨b, sl, e0, hb, hr⟩
      · exact absurd hlt (Nat.not_lt_zero _)
      · injection e0 with e0
        subst e0
        obtain ⟨A, c, rfl⟩ := hr.shape
        obtain ⟨ad, rfl, hc⟩ := row_at11 hr hx
        have hb' := Lib.hid (hb.alloc (.cells (Value.cells zv11) 51))
        have c0 := (hb.alloc (.cells (Value.cells zv11) 51)).cell 0
        obtain ⟨d0, d1, d2, d3, d4, d5, d6, d7, d8⟩ := hc (w.alloc (.cells (Value.cells zv11) 51)) ((Turn.refl _ w).alloc _)
        clear hr hb hc hx h hb'
        simp only [Value.cells] at c0 d0 d1 d2 d3 d4 d5 d6 d7 d8
        go_enter Try.func27, Try.ntmps27
        go_wp2_with fail
        refine (HLE.out _ ((Turn.refl _ w).alloc _)).mono ?_
        rintro e w1 ⟨rfl, rfl⟩
        go_wp2
        refine bodyPost_ret (v := .tuple #[rv11 x, .bool true]) ?_ rfl ⟨by rw [HZ.out]; rfl, ((Turn.refl _ w).alloc _)⟩
        rw [results_cell_tmp rfl]
        go_simp

end Go.Proofs.Ytnnlgeldjjknmaa

/-
  Stage 11: Find, by a binary search; sort.Search.
-/
namespace Go.Proofs.Ytnnlgeldjjknmaa
open Go.RowKit

set_option maxRecDepth 100000

/-- The place at which a key is, or would be. -/
structure Mid11 (P : R11 → Bool) (L : List R11) (i j : Nat) : Prop where
  le : i ≤ j
  top : j ≤ L.length
  low : ∀ t r, t < i → L[t]? = some r → P r = true
  high : ∀ t r, j ≤ t → L[t]? = some r → P r = false
theorem Mid11.start (P : R11 → Bool) (L : List R11) : Mid11 P L 0 L.length := ⟨Nat.zero_le _, Nat.le_refl _, fun t r h => absurd h (Nat.not_lt_zero t), fun t r h hr => by rw [List.getElem?_eq_none h] at hr; cases hr⟩
theorem find_mid {k : K9} {L : List R11} {i : Nat} (hr : RiseR L) (h : Mid11 (fun r => keyLt r.k k) L i i) : findR k L = match L[i]? with | some r => if r.k = k then some r.c else none | none => none := by
  have key : ∀ c, findR k L = some c → L[i]? = some ⟨k, c⟩ := fun c hc => by
    obtain ⟨t, ht⟩ := List.mem_iff_getElem?.1 (find_mem hc)
    rcases Nat.lt_trichotomy t i with hlt | rfl | hgt
    · have := h.low t _ hlt ht
      simp only [key_irr] at this
      cases this
    · exact ht
    · obtain ⟨h1, e1⟩ := List.getElem?_eq_some_iff.1 ht
      have hi : i < L.length := by omega
      have h2 := List.pairwise_iff_getElem.1 hr i t hi h1 hgt
      rw [e1] at h2
      have h3 := h.high i _ (Nat.le_refl _) (List.getElem?_eq_getElem hi)
      simp only at h2 h3
      rw [h2] at h3
      cases h3
  cases hi : L[i]? with
  | none =>
    cases hf : findR k L with
    | none => rfl
    | some c => rw [key c hf] at hi; cases hi
  | some r =>
    dsimp only
    by_cases e : r.k = k
    · rw [if_pos e, ← e]
      exact find_of hr (List.mem_of_getElem? hi)
    · rw [if_neg e]
      cases hf : findR k L with
      | none => rfl
      | some c =>
        have h1 := key c hf
        rw [hi] at h1
        cases h1
        exact absurd rfl e
theorem Mid11.up {P : R11 → Bool} {L : List R11} {i j m : Nat} (h : Mid11 P L i j) (hs : ∀ (a b : Nat) x y, a ≤ b → L[a]? = some x → L[b]? = some y → P y = true → P x = true) {r : R11} (h2 : m < j) (hr : L[m]? = some r) (hp : P r = true) : Mid11 P L (m + 1) j :=
  ⟨h2, h.top, fun t x ht hx => hs t m x r (by omega) hx hr hp, h.high⟩
theorem Mid11.down {P : R11 → Bool} {L : List R11} {i j m : Nat} (h : Mid11 P L i j) (hs : ∀ (a b : Nat) x y, a ≤ b → L[a]? = some x → L[b]? = some y → P y = true → P x = true) {r : R11} (h1 : i ≤ m) (h2 : m < j) (hr : L[m]? = some r) (hp : P r = false) : Mid11 P L i m :=
  ⟨h1, by have := h.top; omega, h.low, fun t x ht hx => by
    cases e : P x with
    | false => rfl
    | true => rw [hs m t r x ht hr hx e] at hp; cases hp⟩
theorem key_down {k : K9} {L : List R11} (hr : RiseR L) (a b : Nat) (x y : R11) (hab : a ≤ b) (hx : L[a]? = some x) (hy : L[b]? = some y) (h : keyLt y.k k = true) : keyLt x.k k = true := by
  obtain ⟨h1, e1⟩ := List.getElem?_eq_some_iff.1 hx
  obtain ⟨h2, e2⟩ := List.getElem?_eq_some_iff.1 hy
  rcases Nat.lt_or_ge a b with hlt | hge
  · have := List.pairwise_iff_getElem.1 hr a b h1 h2 hlt
    rw [e1, e2] at this
    exact key_tr this h
  · obtain rfl : a = b := by omega
    rw [e1] at e2
    subst e2
    exact h

set_option maxHeartbeats 1000000 in
theorem closure11 (r : R11) (k : K9) (w : World) : Calls Try.prog 44 #[rv11 r, kv9 k] w fun e w' => e = .returned (.int .i64 (cmpK r.k k)) ∧ Turn (fun _ => False) w w' := by
  unfold rv11 cells11 kv9
  obtain ⟨w0, hw0⟩ : ∃ w0, w0 = (w.alloc (.cells (cells11 r) 51)).alloc (.cells #[.int .i64 k.h, sv9 k.a, sv9 k.b, sv9 k.c, sv9 k.d] 44) := ⟨_, rfl⟩
  have HT : Hid (Turn (fun _ => False) w w0) := by rw [hw0]; exact ((Turn.refl _ w).alloc _).alloc _
  have hb1 : Box w0 w.heap.size 51 (cells11 r) := by rw [hw0]; exact (Box.new w _ _).alloc _
  have hb2 : Box w0 (w.heap.size + 1) 44 #[.int .i64 k.h, sv9 k.a, sv9 k.b, sv9 k.c, sv9 k.d] := by
    rw [hw0]
    have h := Box.new (w.alloc (.cells (cells11 r) 51)) 44 #[.int .i64 k.h, sv9 k.a, sv9 k.b, sv9 k.c, sv9 k.d]
    rw [World.size_alloc] at h
    exact h
  have a0 := hb1.cell 0
  have a1 := hb1.cell 1
  have a2 := hb1.cell 2
  have a3 := hb1.cell 3
  have a4 := hb1.cell 4
  have b0 := hb2.cell 0
  have b1 := hb2.cell 1
  have b2 := hb2.cell 2
  have b3 := hb2.cell 3
  have b4 := hb2.cell 4
  have HW := Lib.hid hw0
  have HC : Hid (∀ W, Calls Try.prog 33 #[kv9 r.k, kv9 k] W fun e w' => e = .returned (.int .i64 (cmpK r.k k)) ∧ Turn (fun _ => False) W w') := fun W => compare_any9 r.k k W
  clear hb1 hb2 hw0
  generalize cmpK r.k k = cc at *
  go_enter Try.func44, Try.ntmps44
  go_wp2_with fail
  rw [← HW.out]
  go_wp2_with fail
  refine (HC.out _).mono ?_
  rintro e w1 ⟨rfl, t1⟩
  have HT1 := Lib.hid (HT.out.trans t1 (fun _ _ f => f))
  clear t1
  go_wp2
  go_ret
  exact ⟨rfl, HT1.out⟩

end Go.Proofs.Ytnnlgeldjjknmaa

/-
  Stage 11: the library's binary search of rows by the program's closure; Find.
-/
namespace Go.Proofs.Ytnnlgeldjjknmaa
open Go.RowKit

set_option maxRecDepth 100000

/-- Behind a search of a key. -/
def Bin11 (w : World) (L : List R11) (k : K9) (e : Ending) (w' : World) : Prop := ∃ i : Nat, e = .returned (.tuple #[.int .i64 (i : Int), .bool (findR k L).isSome]) ∧ (∀ c, findR k L = some c → L[i]? = some ⟨k, c⟩) ∧ Turn (fun _ => False) w w'

set_option maxHeartbeats 4000000 in
theorem search_any11 (v : Value) (L : List R11) (k : K9) (w : World) (hv : RdE ER w v L) (hr : RiseR L) (hl : L.length ≤ 1000) :
    Calls Try.prog 42 #[v, kv9 k, .func (.func 44) #[] #[]] w fun e w' => Bin11 w L k e w' := by
  have HV := Lib.hid hv
  have HR := Lib.hid hr
  obtain ⟨A, c, rfl⟩ := hv.shape
  clear hv hr
  unfold kv9
  obtain ⟨w0, hw0⟩ : ∃ w0, w0 = w.alloc (.cells #[.int .i64 k.h, sv9 k.a, sv9 k.b, sv9 k.c, sv9 k.d] 44) := ⟨_, rfl⟩
  have HT : Hid (Turn (fun _ => False) w w0) := by rw [hw0]; exact (Turn.refl _ w).alloc _
  have HB : Hid (Box w0 w.heap.size 44 #[.int .i64 k.h, sv9 k.a, sv9 k.b, sv9 k.c, sv9 k.d]) := by rw [hw0]; exact Box.new w _ _
  have HW := Lib.hid hw0
  clear hw0
  have HST : Hid (Mid11 (fun r => keyLt r.k k) L 0 L.length) := Mid11.start _ L
  go_enter Try.func42, Try.ntmps42
  go_wp2_with fail
  rw [← HW.out]
  go_wp2_with fail
  go_loopw [9, 10] (fun x9 x10 wr => ∃ i j : Nat, x9 = .int .i64 (i : Int) ∧ x10 = .int .i64 (j : Int) ∧ Mid11 (fun r => keyLt r.k k) L i j ∧ Turn (fun _ => False) w0 wr) (fun x9 x10 _ => (intOf x10).toNat - (intOf x9).toNat)
  case atStart => exact ⟨0, L.length, rfl, rfl, HST.out, Turn.refl _ _⟩
  case round =>
    clear HST
    obtain ⟨i, j, rfl, rfl, hm, ht⟩ := hrel
    have HM := Lib.hid hm
    have HT2 := Lib.hid ht
    have h1 := hm.le
    have h2 := hm.top
    clear hm ht
    by_cases hlt : i < j
    · have hij : (i : Int) < (j : Int) := by omega
      obtain ⟨m, hm⟩ : ∃ m, m = (i + j) / 2 := ⟨_, rfl⟩
      have hmj : m < j := by omega
      have hmi : i ≤ m := by omega
      obtain ⟨x, hx⟩ : ∃ x, L[m]? = some x := ⟨_, List.getElem?_eq_getElem (by omega)⟩
      obtain ⟨ad, rfl, hc⟩ := row_at11 HV.out hx
      have HRW : Hid (∀ W, Turn (fun _ => False) w0 W → RowAt W (ad.add (m * 9)) x) := fun W ht => hc W (HT.out.trans ht (fun _ _ f => f))
      unfold RowAt at HRW
      have hml : (m : Int) < L.length := by omega
      have HCL : Hid (∀ W, Calls Try.prog 44 #[.agg #[.int .i64 x.k.h, sv9 x.k.a, sv9 x.k.b, sv9 x.k.c, sv9 x.k.d, .int .i64 x.c.n, .int .i64 x.c.s, .int .i64 x.c.lo, .int .i64 x.c.hi], .agg #[.int .i64 k.h, sv9 k.a, sv9 k.b, sv9 k.c, sv9 k.d]] W fun e w' => e = .returned (.int .i64 (cmpK x.k k)) ∧ Turn (fun _ => False) W w') := fun W => closure11 x k W
      have HKB : Hid (∀ W, Turn (fun _ => False) w0 W → Box W w.heap.size 44 #[.int .i64 k.h, sv9 k.a, sv9 k.b, sv9 k.c, sv9 k.d]) := fun W ht => HB.out.turn ht (fun f => f)
      have HX := Lib.hid hx
      have HUP : Hid (keyLt x.k k = true → Mid11 (fun r => keyLt r.k k) L (m + 1) j) := fun h => HM.out.up (key_down HR.out) hmj hx h
      have HDN : Hid (keyLt x.k k = false → Mid11 (fun r => keyLt r.k k) L i m) := fun h => HM.out.down (key_down HR.out) hmi hmj hx h
      have hcs : (keyLt x.k k = true ∧ cmpK x.k k < 0) ∨ (keyLt x.k k = false ∧ ¬ cmpK x.k k < 0) := by
        rcases cmpK_cases x.k k with ⟨h, e, _⟩ | ⟨h, e, _⟩ | ⟨h, e⟩
        · exact .inl ⟨h, by omega⟩
        · exact .inr ⟨rises_key.asym h, by omega⟩
        · exact .inr ⟨by rw [h, key_irr], by omega⟩
      generalize cmpK x.k k = cc at *
      have hmid : ((i : Int) + (j : Int)) / 2 = (m : Int) := by omega
      clear hc hx hm
      rcases hcs with ⟨hk, hneg⟩ | ⟨hk, hneg⟩
      · have HN := Lib.hid (HUP.out hk)
        clear HUP HDN hk
        go_wp2_with fail
        refine drawn_region (fun W => Turn (fun _ => False) w0 W) [] (by kernel_rfl) ?_
        have hS0 : Turn (fun _ => False) w0 (World.drew wr) := HT2.out.drew
        generalize World.drew wr = wd at *
        refine drawn_take 0 24 (.func (.func 44) #[] #[]) rfl rfl (by kernel_rfl) (by kernel_rfl) (by kernel_rfl) (by kernel_rfl) (fun _ _ _ h => h) (by rfl) (by assumption) (by intro w hSw; obtain hS1 := hSw; go_simp) ?_
        try simp only [List.setIfInBounds_toArray, List.set_cons_zero, List.set_cons_succ]
        refine drawn_take 1 25 (.slice (some ad) L.length c) rfl rfl (by kernel_rfl) (by kernel_rfl) (by kernel_rfl) (by kernel_rfl) (fun _ _ _ h => h) (by rfl) (by assumption) (by intro w hSw; obtain hS1 := hSw; go_simp) ?_
        try simp only [List.setIfInBounds_toArray, List.set_cons_zero, List.set_cons_succ]
        refine drawn_take 2 26 (.int .i64 (m : Int)) rfl rfl (by kernel_rfl) (by kernel_rfl) (by kernel_rfl) (by kernel_rfl) (fun _ _ _ h => h) (by rfl) (by assumption) (by intro w hSw; obtain hS1 := hSw; go_simp) ?_
        try simp only [List.setIfInBounds_toArray, List.set_cons_zero, List.set_cons_succ]
        refine drawn_take 3 27 (.pointer (some (ad.add (m * 9)))) rfl rfl (by kernel_rfl) (by kernel_rfl) (by kernel_rfl) (by kernel_rfl) (fun _ _ _ h => h) (by rfl) (by assumption) (by intro w hSw; obtain hS1 := hSw; go_simp) ?_
        try simp only [List.setIfInBounds_toArray, List.set_cons_zero, List.set_cons_succ]
        refine drawn_take 4 28 (.agg #[.int .i64 x.k.h, sv9 x.k.a, sv9 x.k.b, sv9 x.k.c, sv9 x.k.d, .int .i64 x.c.n, .int .i64 x.c.s, .int .i64 x.c.lo, .int .i64 x.c.hi]) rfl rfl (by kernel_rfl) (by kernel_rfl) (by kernel_rfl) (by kernel_rfl) (fun _ _ _ h => h) (by rfl) (by assumption) (by intro w hSw; obtain ⟨a0, a1, a2, a3, a4, a5, a6, a7, a8⟩ := HRW.out w hSw; clear hSw; go_simp) ?_
        try simp only [List.setIfInBounds_toArray, List.set_cons_zero, List.set_cons_succ]
        refine drawn_take 5 29 (.agg #[.int .i64 k.h, sv9 k.a, sv9 k.b, sv9 k.c, sv9 k.d]) rfl rfl (by kernel_rfl) (by kernel_rfl) (by kernel_rfl) (by kernel_rfl) (fun _ _ _ h => h) (by rfl) (by assumption) (by intro w hSw; have hb := HKB.out w hSw; have a0 := hb.cell 0; have a1 := hb.cell 1; have a2 := hb.cell 2; have a3 := hb.cell 3; have a4 := hb.cell 4; clear hSw hb; go_simp) ?_
        try simp only [List.setIfInBounds_toArray, List.set_cons_zero, List.set_cons_succ]
        refine drawn_any [6] (by kernel_rfl) (by simp) ?_
        refine drawn_cons rfl (fun K hK => ?_) drawn_nil
        go_simp
        refine (HCL.out _).mono ?_
        rintro e w4 ⟨rfl, t4⟩
        have hS4 := hS0.trans t4 (fun _ _ f => f)
        refine hK.out _ _ _ hS4 ?_
        clear hK K t4 hS0
        have hS0 := hS4
        clear hS4
        try simp only [List.setIfInBounds_toArray, List.set_cons_zero, List.set_cons_succ]
        refine drawn_last1 7 31 (.bool true) rfl rfl (by kernel_rfl) (by kernel_rfl) (by rfl) (by intro w; go_simp) hS0 ?_
        try simp only [List.setIfInBounds_toArray, List.set_cons_zero, List.set_cons_succ]
        have HF := Lib.hid hS0
        clear hS0
        go_wp2
        go_roundw
        case rel => exact ⟨m + 1, j, by go_num, rfl, HN.out, HF.out⟩
        case measure => simp [intOf]; omega
      · have HN := Lib.hid (HDN.out hk)
        clear HUP HDN hk
        go_wp2_with fail
        refine drawn_region (fun W => Turn (fun _ => False) w0 W) [] (by kernel_rfl) ?_
        have hS0 : Turn (fun _ => False) w0 (World.drew wr) := HT2.out.drew
        generalize World.drew wr = wd at *
        refine drawn_take 0 24 (.func (.func 44) #[] #[]) rfl rfl (by kernel_rfl) (by kernel_rfl) (by kernel_rfl) (by kernel_rfl) (fun _ _ _ h => h) (by rfl) (by assumption) (by intro w hSw; obtain hS1 := hSw; go_simp) ?_
        try simp only [List.setIfInBounds_toArray, List.set_cons_zero, List.set_cons_succ]
        refine drawn_take 1 25 (.slice (some ad) L.length c) rfl rfl (by kernel_rfl) (by kernel_rfl) (by kernel_rfl) (by kernel_rfl) (fun _ _ _ h => h) (by rfl) (by assumption) (by intro w hSw; obtain hS1 := hSw; go_simp) ?_
        try simp only [List.setIfInBounds_toArray, List.set_cons_zero, List.set_cons_succ]
        refine drawn_take 2 26 (.int .i64 (m : Int)) rfl rfl (by kernel_rfl) (by kernel_rfl) (by kernel_rfl) (by kernel_rfl) (fun _ _ _ h => h) (by rfl) (by assumption) (by intro w hSw; obtain hS1 := hSw; go_simp) ?_
        try simp only [List.setIfInBounds_toArray, List.set_cons_zero, List.set_cons_succ]
        refine drawn_take 3 27 (.pointer (some (ad.add (m * 9)))) rfl rfl (by kernel_rfl) (by kernel_rfl) (by kernel_rfl) (by kernel_rfl) (fun _ _ _ h => h) (by rfl) (by assumption) (by intro w hSw; obtain hS1 := hSw; go_simp) ?_
        try simp only [List.setIfInBounds_toArray, List.set_cons_zero, List.set_cons_succ]
        refine drawn_take 4 28 (.agg #[.int .i64 x.k.h, sv9 x.k.a, sv9 x.k.b, sv9 x.k.c, sv9 x.k.d, .int .i64 x.c.n, .int .i64 x.c.s, .int .i64 x.c.lo, .int .i64 x.c.hi]) rfl rfl (by kernel_rfl) (by kernel_rfl) (by kernel_rfl) (by kernel_rfl) (fun _ _ _ h => h) (by rfl) (by assumption) (by intro w hSw; obtain ⟨a0, a1, a2, a3, a4, a5, a6, a7, a8⟩ := HRW.out w hSw; clear hSw; go_simp) ?_
        try simp only [List.setIfInBounds_toArray, List.set_cons_zero, List.set_cons_succ]
        refine drawn_take 5 29 (.agg #[.int .i64 k.h, sv9 k.a, sv9 k.b, sv9 k.c, sv9 k.d]) rfl rfl (by kernel_rfl) (by kernel_rfl) (by kernel_rfl) (by kernel_rfl) (fun _ _ _ h => h) (by rfl) (by assumption) (by intro w hSw; have hb := HKB.out w hSw; have a0 := hb.cell 0; have a1 := hb.cell 1; have a2 := hb.cell 2; have a3 := hb.cell 3; have a4 := hb.cell 4; clear hSw hb; go_simp) ?_
        try simp only [List.setIfInBounds_toArray, List.set_cons_zero, List.set_cons_succ]
        refine drawn_any [6] (by kernel_rfl) (by simp) ?_
        refine drawn_cons rfl (fun K hK => ?_) drawn_nil
        go_simp
        refine (HCL.out _).mono ?_
        rintro e w4 ⟨rfl, t4⟩
        have hS4 := hS0.trans t4 (fun _ _ f => f)
        refine hK.out _ _ _ hS4 ?_
        clear hK K t4 hS0
        have hS0 := hS4
        clear hS4
        try simp only [List.setIfInBounds_toArray, List.set_cons_zero, List.set_cons_succ]
        refine drawn_last1 7 31 (.bool false) rfl rfl (by kernel_rfl) (by kernel_rfl) (by rfl) (by intro w; go_simp) hS0 ?_
        try simp only [List.setIfInBounds_toArray, List.set_cons_zero, List.set_cons_succ]
        have HF := Lib.hid hS0
        clear hS0
        go_wp2
        go_roundw
        case rel => exact ⟨i, m, rfl, rfl, HN.out, HF.out⟩
        case measure => simp [intOf]; omega
    · obtain rfl : i = j := by omega
      have HF := Lib.hid (find_mid HR.out HM.out)
      clear h1
      by_cases hin : i < L.length
      · obtain ⟨x, hx⟩ : ∃ x, L[i]? = some x := ⟨_, List.getElem?_eq_getElem hin⟩
        rw [hx] at HF
        simp only at HF
        obtain ⟨ad, rfl, hc⟩ := row_at11 HV.out hx
        have HRW : Hid (∀ W, Turn (fun _ => False) w0 W → RowAt W (ad.add (i * 9)) x) := fun W ht => hc W (HT.out.trans ht (fun _ _ f => f))
        unfold RowAt at HRW
        have hml : (i : Int) < L.length := by omega
        have HCL : Hid (∀ W, Calls Try.prog 44 #[.agg #[.int .i64 x.k.h, sv9 x.k.a, sv9 x.k.b, sv9 x.k.c, sv9 x.k.d, .int .i64 x.c.n, .int .i64 x.c.s, .int .i64 x.c.lo, .int .i64 x.c.hi], .agg #[.int .i64 k.h, sv9 k.a, sv9 k.b, sv9 k.c, sv9 k.d]] W fun e w' => e = .returned (.int .i64 (cmpK x.k k)) ∧ Turn (fun _ => False) W w') := fun W => closure11 x k W
        have HKB : Hid (∀ W, Turn (fun _ => False) w0 W → Box W w.heap.size 44 #[.int .i64 k.h, sv9 k.a, sv9 k.b, sv9 k.c, sv9 k.d]) := fun W ht => HB.out.turn ht (fun f => f)
        have HX := Lib.hid hx
        have hcs : (x.k = k ∧ cmpK x.k k = 0) ∨ (x.k ≠ k ∧ ¬ cmpK x.k k = 0) := by
          rcases cmpK_cases x.k k with ⟨h, e, _⟩ | ⟨h, e, _⟩ | ⟨h, e⟩
          · exact .inr ⟨(fun g => by rw [g, key_irr] at h; cases h), by omega⟩
          · exact .inr ⟨(fun g => by rw [g, key_irr] at h; cases h), by omega⟩
          · exact .inl ⟨h, e⟩
        generalize cmpK x.k k = cc at *
        clear hc hx
        rcases hcs with ⟨hk, hz⟩ | ⟨hk, hz⟩
        · rw [if_pos hk] at HF
          have HK := Lib.hid hk
          subst hz
          clear hk
          go_wp2_with fail
          refine drawn_region (fun W => Turn (fun _ => False) w0 W) [] (by kernel_rfl) ?_
          have hS0 : Turn (fun _ => False) w0 (World.drew wr) := HT2.out.drew
          generalize World.drew wr = wd at *
          refine drawn_take 0 35 (.int .i64 (i : Int)) rfl rfl (by kernel_rfl) (by kernel_rfl) (by kernel_rfl) (by kernel_rfl) (fun _ _ _ h => h) (by rfl) (by assumption) (by intro w hSw; obtain hS1 := hSw; go_simp) ?_
          try simp only [List.setIfInBounds_toArray, List.set_cons_zero, List.set_cons_succ]
          refine drawn_take 1 36 (.int .i64 (i : Int)) rfl rfl (by kernel_rfl) (by kernel_rfl) (by kernel_rfl) (by kernel_rfl) (fun _ _ _ h => h) (by rfl) (by assumption) (by intro w hSw; obtain hS1 := hSw; go_simp) ?_
          try simp only [List.setIfInBounds_toArray, List.set_cons_zero, List.set_cons_succ]
          refine drawn_take 2 37 (.int .i64 (L.length : Int)) rfl rfl (by kernel_rfl) (by kernel_rfl) (by kernel_rfl) (by kernel_rfl) (fun _ _ _ h => h) (by rfl) (by assumption) (by intro w hSw; obtain hS1 := hSw; go_simp) ?_
          try simp only [List.setIfInBounds_toArray, List.set_cons_zero, List.set_cons_succ]
          refine drawn_take 3 38 (.bool true) rfl rfl (by kernel_rfl) (by kernel_rfl) (by kernel_rfl) (by kernel_rfl) (fun _ _ _ h => h) (by rfl) (by assumption) (by intro w hSw; obtain hS1 := hSw; go_simp) ?_
          try simp only [List.setIfInBounds_toArray, List.set_cons_zero, List.set_cons_succ]
          refine drawn_take 4 39 (.bool true) rfl rfl (by kernel_rfl) (by kernel_rfl) (by kernel_rfl) (by kernel_rfl) (fun _ _ _ h => h) (by rfl) (by assumption) (by intro w hSw; obtain hS1 := hSw; go_simp) ?_
          try simp only [List.setIfInBounds_toArray, List.set_cons_zero, List.set_cons_succ]
          refine drawn_take 5 40 (.func (.func 44) #[] #[]) rfl rfl (by kernel_rfl) (by kernel_rfl) (by kernel_rfl) (by kernel_rfl) (fun _ _ _ h => h) (by rfl) (by assumption) (by intro w hSw; obtain hS1 := hSw; go_simp) ?_
          try simp only [List.setIfInBounds_toArray, List.set_cons_zero, List.set_cons_succ]
          refine drawn_take 6 41 (.slice (some ad) L.length c) rfl rfl (by kernel_rfl) (by kernel_rfl) (by kernel_rfl) (by kernel_rfl) (fun _ _ _ h => h) (by rfl) (by assumption) (by intro w hSw; obtain hS1 := hSw; go_simp) ?_
          try simp only [List.setIfInBounds_toArray, List.set_cons_zero, List.set_cons_succ]
          refine drawn_take 7 42 (.int .i64 (i : Int)) rfl rfl (by kernel_rfl) (by kernel_rfl) (by kernel_rfl) (by kernel_rfl) (fun _ _ _ h => h) (by rfl) (by assumption) (by intro w hSw; obtain hS1 := hSw; go_simp) ?_
          try simp only [List.setIfInBounds_toArray, List.set_cons_zero, List.set_cons_succ]
          refine drawn_take 8 43 (.pointer (some (ad.add (i * 9)))) rfl rfl (by kernel_rfl) (by kernel_rfl) (by kernel_rfl) (by kernel_rfl) (fun _ _ _ h => h) (by rfl) (by assumption) (by intro w hSw; obtain hS1 := hSw; go_simp) ?_
          try simp only [List.setIfInBounds_toArray, List.set_cons_zero, List.set_cons_succ]
          refine drawn_take 9 44 (.agg #[.int .i64 x.k.h, sv9 x.k.a, sv9 x.k.b, sv9 x.k.c, sv9 x.k.d, .int .i64 x.c.n, .int .i64 x.c.s, .int .i64 x.c.lo, .int .i64 x.c.hi]) rfl rfl (by kernel_rfl) (by kernel_rfl) (by kernel_rfl) (by kernel_rfl) (fun _ _ _ h => h) (by rfl) (by assumption) (by intro w hSw; obtain ⟨a0, a1, a2, a3, a4, a5, a6, a7, a8⟩ := HRW.out w hSw; clear hSw; go_simp) ?_
          try simp only [List.setIfInBounds_toArray, List.set_cons_zero, List.set_cons_succ]
          refine drawn_take 10 45 (.agg #[.int .i64 k.h, sv9 k.a, sv9 k.b, sv9 k.c, sv9 k.d]) rfl rfl (by kernel_rfl) (by kernel_rfl) (by kernel_rfl) (by kernel_rfl) (fun _ _ _ h => h) (by rfl) (by assumption) (by intro w hSw; have hb := HKB.out w hSw; have a0 := hb.cell 0; have a1 := hb.cell 1; have a2 := hb.cell 2; have a3 := hb.cell 3; have a4 := hb.cell 4; clear hSw hb; go_simp) ?_
          try simp only [List.setIfInBounds_toArray, List.set_cons_zero, List.set_cons_succ]
          refine drawn_any [11] (by kernel_rfl) (by simp) ?_
          refine drawn_cons rfl (fun K hK => ?_) drawn_nil
          go_simp
          refine (HCL.out _).mono ?_
          rintro e w4 ⟨rfl, t4⟩
          have hS4 := hS0.trans t4 (fun _ _ f => f)
          refine hK.out _ _ _ hS4 ?_
          clear hK K t4 hS0
          have hS0 := hS4
          clear hS4
          try simp only [List.setIfInBounds_toArray, List.set_cons_zero, List.set_cons_succ]
          refine drawn_take 12 47 (.bool true) rfl rfl (by kernel_rfl) (by kernel_rfl) (by kernel_rfl) (by kernel_rfl) (fun _ _ _ h => h) (by rfl) (by assumption) (by intro w hSw; obtain hS1 := hSw; go_simp) ?_
          try simp only [List.setIfInBounds_toArray, List.set_cons_zero, List.set_cons_succ]
          refine drawn_take 13 48 (.bool true) rfl rfl (by kernel_rfl) (by kernel_rfl) (by kernel_rfl) (by kernel_rfl) (fun _ _ _ h => h) (by rfl) (by assumption) (by intro w hSw; obtain hS1 := hSw; go_simp) ?_
          try simp only [List.setIfInBounds_toArray, List.set_cons_zero, List.set_cons_succ]
          refine drawn_take 14 6 (.int .i64 (i : Int)) rfl rfl (by kernel_rfl) (by kernel_rfl) (by kernel_rfl) (by kernel_rfl) (fun _ _ _ h => h) (by rfl) (by assumption) (by intro w hSw; obtain hS1 := hSw; go_simp) ?_
          try simp only [List.setIfInBounds_toArray, List.set_cons_zero, List.set_cons_succ]
          refine drawn_last1 15 7 (.bool true) rfl rfl (by kernel_rfl) (by kernel_rfl) (by rfl) (by intro w; go_simp) hS0 ?_
          try simp only [List.setIfInBounds_toArray, List.set_cons_zero, List.set_cons_succ]
          have HE := Lib.hid (HT.out.trans hS0 (fun _ _ f => f))
          clear hS0
          go_wp2
          go_ret2
          refine ⟨i, by rw [HF.out]; rfl, fun c h => ?_, HE.out⟩
          rw [HF.out] at h
          cases h
          rw [← HK.out]
          exact HX.out
        · rw [if_neg hk] at HF
          have hzb : (cc == 0) = false := by rw [beq_eq_false_iff_ne]; exact hz
          clear hk
          go_wp2_with fail
          refine drawn_region (fun W => Turn (fun _ => False) w0 W) [] (by kernel_rfl) ?_
          have hS0 : Turn (fun _ => False) w0 (World.drew wr) := HT2.out.drew
          generalize World.drew wr = wd at *
          refine drawn_take 0 35 (.int .i64 (i : Int)) rfl rfl (by kernel_rfl) (by kernel_rfl) (by kernel_rfl) (by kernel_rfl) (fun _ _ _ h => h) (by rfl) (by assumption) (by intro w hSw; obtain hS1 := hSw; go_simp) ?_
          try simp only [List.setIfInBounds_toArray, List.set_cons_zero, List.set_cons_succ]
          refine drawn_take 1 36 (.int .i64 (i : Int)) rfl rfl (by kernel_rfl) (by kernel_rfl) (by kernel_rfl) (by kernel_rfl) (fun _ _ _ h => h) (by rfl) (by assumption) (by intro w hSw; obtain hS1 := hSw; go_simp) ?_
          try simp only [List.setIfInBounds_toArray, List.set_cons_zero, List.set_cons_succ]
          refine drawn_take 2 37 (.int .i64 (L.length : Int)) rfl rfl (by kernel_rfl) (by kernel_rfl) (by kernel_rfl) (by kernel_rfl) (fun _ _ _ h => h) (by rfl) (by assumption) (by intro w hSw; obtain hS1 := hSw; go_simp) ?_
          try simp only [List.setIfInBounds_toArray, List.set_cons_zero, List.set_cons_succ]
          refine drawn_take 3 38 (.bool true) rfl rfl (by kernel_rfl) (by kernel_rfl) (by kernel_rfl) (by kernel_rfl) (fun _ _ _ h => h) (by rfl) (by assumption) (by intro w hSw; obtain hS1 := hSw; go_simp) ?_
          try simp only [List.setIfInBounds_toArray, List.set_cons_zero, List.set_cons_succ]
          refine drawn_take 4 39 (.bool true) rfl rfl (by kernel_rfl) (by kernel_rfl) (by kernel_rfl) (by kernel_rfl) (fun _ _ _ h => h) (by rfl) (by assumption) (by intro w hSw; obtain hS1 := hSw; go_simp) ?_
          try simp only [List.setIfInBounds_toArray, List.set_cons_zero, List.set_cons_succ]
          refine drawn_take 5 40 (.func (.func 44) #[] #[]) rfl rfl (by kernel_rfl) (by kernel_rfl) (by kernel_rfl) (by kernel_rfl) (fun _ _ _ h => h) (by rfl) (by assumption) (by intro w hSw; obtain hS1 := hSw; go_simp) ?_
          try simp only [List.setIfInBounds_toArray, List.set_cons_zero, List.set_cons_succ]
          refine drawn_take 6 41 (.slice (some ad) L.length c) rfl rfl (by kernel_rfl) (by kernel_rfl) (by kernel_rfl) (by kernel_rfl) (fun _ _ _ h => h) (by rfl) (by assumption) (by intro w hSw; obtain hS1 := hSw; go_simp) ?_
          try simp only [List.setIfInBounds_toArray, List.set_cons_zero, List.set_cons_succ]
          refine drawn_take 7 42 (.int .i64 (i : Int)) rfl rfl (by kernel_rfl) (by kernel_rfl) (by kernel_rfl) (by kernel_rfl) (fun _ _ _ h => h) (by rfl) (by assumption) (by intro w hSw; obtain hS1 := hSw; go_simp) ?_
          try simp only [List.setIfInBounds_toArray, List.set_cons_zero, List.set_cons_succ]
          refine drawn_take 8 43 (.pointer (some (ad.add (i * 9)))) rfl rfl (by kernel_rfl) (by kernel_rfl) (by kernel_rfl) (by kernel_rfl) (fun _ _ _ h => h) (by rfl) (by assumption) (by intro w hSw; obtain hS1 := hSw; go_simp) ?_
          try simp only [List.setIfInBounds_toArray, List.set_cons_zero, List.set_cons_succ]
          refine drawn_take 9 44 (.agg #[.int .i64 x.k.h, sv9 x.k.a, sv9 x.k.b, sv9 x.k.c, sv9 x.k.d, .int .i64 x.c.n, .int .i64 x.c.s, .int .i64 x.c.lo, .int .i64 x.c.hi]) rfl rfl (by kernel_rfl) (by kernel_rfl) (by kernel_rfl) (by kernel_rfl) (fun _ _ _ h => h) (by rfl) (by assumption) (by intro w hSw; obtain ⟨a0, a1, a2, a3, a4, a5, a6, a7, a8⟩ := HRW.out w hSw; clear hSw; go_simp) ?_
          try simp only [List.setIfInBounds_toArray, List.set_cons_zero, List.set_cons_succ]
          refine drawn_take 10 45 (.agg #[.int .i64 k.h, sv9 k.a, sv9 k.b, sv9 k.c, sv9 k.d]) rfl rfl (by kernel_rfl) (by kernel_rfl) (by kernel_rfl) (by kernel_rfl) (fun _ _ _ h => h) (by rfl) (by assumption) (by intro w hSw; have hb := HKB.out w hSw; have a0 := hb.cell 0; have a1 := hb.cell 1; have a2 := hb.cell 2; have a3 := hb.cell 3; have a4 := hb.cell 4; clear hSw hb; go_simp) ?_
          try simp only [List.setIfInBounds_toArray, List.set_cons_zero, List.set_cons_succ]
          refine drawn_any [11] (by kernel_rfl) (by simp) ?_
          refine drawn_cons rfl (fun K hK => ?_) drawn_nil
          go_simp
          refine (HCL.out _).mono ?_
          rintro e w4 ⟨rfl, t4⟩
          have hS4 := hS0.trans t4 (fun _ _ f => f)
          refine hK.out _ _ _ hS4 ?_
          clear hK K t4 hS0
          have hS0 := hS4
          clear hS4
          try simp only [List.setIfInBounds_toArray, List.set_cons_zero, List.set_cons_succ]
          refine drawn_take 12 47 (.bool false) rfl rfl (by kernel_rfl) (by kernel_rfl) (by kernel_rfl) (by kernel_rfl) (fun _ _ _ h => h) (by rfl) (by assumption) (by intro w hSw; obtain hS1 := hSw; go_simp) ?_
          try simp only [List.setIfInBounds_toArray, List.set_cons_zero, List.set_cons_succ]
          refine drawn_take 13 48 (.bool false) rfl rfl (by kernel_rfl) (by kernel_rfl) (by kernel_rfl) (by kernel_rfl) (fun _ _ _ h => h) (by rfl) (by assumption) (by intro w hSw; obtain hS1 := hSw; go_simp) ?_
          try simp only [List.setIfInBounds_toArray, List.set_cons_zero, List.set_cons_succ]
          refine drawn_take 14 6 (.int .i64 (i : Int)) rfl rfl (by kernel_rfl) (by kernel_rfl) (by kernel_rfl) (by kernel_rfl) (fun _ _ _ h => h) (by rfl) (by assumption) (by intro w hSw; obtain hS1 := hSw; go_simp) ?_
          try simp only [List.setIfInBounds_toArray, List.set_cons_zero, List.set_cons_succ]
          refine drawn_last1 15 7 (.bool false) rfl rfl (by kernel_rfl) (by kernel_rfl) (by rfl) (by intro w; go_simp) hS0 ?_
          try simp only [List.setIfInBounds_toArray, List.set_cons_zero, List.set_cons_succ]
          have HE := Lib.hid (HT.out.trans hS0 (fun _ _ f => f))
          clear hS0
          go_wp2
          go_ret2
          refine ⟨i, by rw [HF.out]; rfl, fun c h => ?_, HE.out⟩
          rw [HF.out] at h
          cases h
      · have hN : L[i]? = none := List.getElem?_eq_none (by omega)
        rw [hN] at HF
        simp only at HF
        clear hN
        have hni : ¬ ((i : Int) < (L.length : Int)) := by omega
        go_wp2_with fail
        refine drawn_region (fun W => Turn (fun _ => False) w0 W) [] (by kernel_rfl) ?_
        have hS0 : Turn (fun _ => False) w0 (World.drew wr) := HT2.out.drew
        generalize World.drew wr = wd at *
        refine drawn_take 0 35 (.int .i64 (i : Int)) rfl rfl (by kernel_rfl) (by kernel_rfl) (by kernel_rfl) (by kernel_rfl) (fun _ _ _ h => h) (by rfl) (by assumption) (by intro w hSw; obtain hS1 := hSw; go_simp) ?_
        try simp only [List.setIfInBounds_toArray, List.set_cons_zero, List.set_cons_succ]
        refine drawn_take 1 36 (.int .i64 (i : Int)) rfl rfl (by kernel_rfl) (by kernel_rfl) (by kernel_rfl) (by kernel_rfl) (fun _ _ _ h => h) (by rfl) (by assumption) (by intro w hSw; obtain hS1 := hSw; go_simp) ?_
        try simp only [List.setIfInBounds_toArray, List.set_cons_zero, List.set_cons_succ]
        refine drawn_take 2 37 (.int .i64 (L.length : Int)) rfl rfl (by kernel_rfl) (by kernel_rfl) (by kernel_rfl) (by kernel_rfl) (fun _ _ _ h => h) (by rfl) (by assumption) (by intro w hSw; obtain hS1 := hSw; go_simp) ?_
        try simp only [List.setIfInBounds_toArray, List.set_cons_zero, List.set_cons_succ]
        refine drawn_take 3 38 (.bool false) rfl rfl (by kernel_rfl) (by kernel_rfl) (by kernel_rfl) (by kernel_rfl) (fun _ _ _ h => h) (by rfl) (by assumption) (by intro w hSw; obtain hS1 := hSw; go_simp) ?_
        try simp only [List.setIfInBounds_toArray, List.set_cons_zero, List.set_cons_succ]
        refine drawn_take 4 39 (.bool false) rfl rfl (by kernel_rfl) (by kernel_rfl) (by kernel_rfl) (by kernel_rfl) (fun _ _ _ h => h) (by rfl) (by assumption) (by intro w hSw; obtain hS1 := hSw; go_simp) ?_
        try simp only [List.setIfInBounds_toArray, List.set_cons_zero, List.set_cons_succ]
        refine drawn_skip 5 40 rfl rfl (by kernel_rfl) (by kernel_rfl) (by kernel_rfl) (by kernel_rfl) (fun _ _ _ h => h) (by rfl) (fun _ => by assumption) ?_
        try simp only [List.setIfInBounds_toArray, List.set_cons_zero, List.set_cons_succ]
        refine drawn_skip 6 41 rfl rfl (by kernel_rfl) (by kernel_rfl) (by kernel_rfl) (by kernel_rfl) (fun _ _ _ h => h) (by rfl) (fun _ => by assumption) ?_
        try simp only [List.setIfInBounds_toArray, List.set_cons_zero, List.set_cons_succ]
        refine drawn_skip 7 42 rfl rfl (by kernel_rfl) (by kernel_rfl) (by kernel_rfl) (by kernel_rfl) (fun _ _ _ h => h) (by rfl) (fun _ => by assumption) ?_
        try simp only [List.setIfInBounds_toArray, List.set_cons_zero, List.set_cons_succ]
        refine drawn_skip 8 43 rfl rfl (by kernel_rfl) (by kernel_rfl) (by kernel_rfl) (by kernel_rfl) (fun _ _ _ h => h) (by rfl) (fun _ => by assumption) ?_
        try simp only [List.setIfInBounds_toArray, List.set_cons_zero, List.set_cons_succ]
        refine drawn_skip 9 44 rfl rfl (by kernel_rfl) (by kernel_rfl) (by kernel_rfl) (by kernel_rfl) (fun _ _ _ h => h) (by rfl) (fun _ => by assumption) ?_
        try simp only [List.setIfInBounds_toArray, List.set_cons_zero, List.set_cons_succ]
        refine drawn_skip 10 45 rfl rfl (by kernel_rfl) (by kernel_rfl) (by kernel_rfl) (by kernel_rfl) (fun _ _ _ h => h) (by rfl) (fun _ => by assumption) ?_
        try simp only [List.setIfInBounds_toArray, List.set_cons_zero, List.set_cons_succ]
        refine drawn_skip 11 46 rfl rfl (by kernel_rfl) (by kernel_rfl) (by kernel_rfl) (by kernel_rfl) (fun _ _ _ h => h) (by rfl) (fun _ => by assumption) ?_
        try simp only [List.setIfInBounds_toArray, List.set_cons_zero, List.set_cons_succ]
        refine drawn_skip 12 47 rfl rfl (by kernel_rfl) (by kernel_rfl) (by kernel_rfl) (by kernel_rfl) (fun _ _ _ h => h) (by rfl) (fun _ => by assumption) ?_
        try simp only [List.setIfInBounds_toArray, List.set_cons_zero, List.set_cons_succ]
        refine drawn_take 13 48 (.bool false) rfl rfl (by kernel_rfl) (by kernel_rfl) (by kernel_rfl) (by kernel_rfl) (fun _ _ _ h => h) (by rfl) (by assumption) (by intro w hSw; obtain hS1 := hSw; go_simp) ?_
        try simp only [List.setIfInBounds_toArray, List.set_cons_zero, List.set_cons_succ]
        refine drawn_take 14 6 (.int .i64 (i : Int)) rfl rfl (by kernel_rfl) (by kernel_rfl) (by kernel_rfl) (by kernel_rfl) (fun _ _ _ h => h) (by rfl) (by assumption) (by intro w hSw; obtain hS1 := hSw; go_simp) ?_
        try simp only [List.setIfInBounds_toArray, List.set_cons_zero, List.set_cons_succ]
        refine drawn_last1 15 7 (.bool false) rfl rfl (by kernel_rfl) (by kernel_rfl) (by rfl) (by intro w; go_simp) hS0 ?_
        try simp only [List.setIfInBounds_toArray, List.set_cons_zero, List.set_cons_succ]
        have HE := Lib.hid (HT.out.trans hS0 (fun _ _ f => f))
        clear hS0
        go_wp2
        go_ret2
        refine ⟨i, by rw [HF.out]; rfl, fun c h => ?_, HE.out⟩
        rw [HF.out] at h
        cases h

set_option maxHeartbeats 4000000 in
theorem find_any11 (s : Value) (L : List R11) (k : K9) (w : World) (h : SV11 w s L) : Calls Try.prog 21 #[s, kv9 k] w fun e w' => e = .returned (findA (findR k L)) ∧ Turn (fun _ => False) w w' := by
  have HA : Hid (∀ W, Turn (fun _ => False) w W → Calls Try.prog 43 #[s] W fun e w' => AllS11 W L e w') := fun W ht => all_any11 s L W (h.later ht)
  have HRI := Lib.hid (rightR_spec h.right.1).1
  have hl := h.right.2.2
  have HH := Lib.hid h
  obtain ⟨p, rfl⟩ := h.ptr
  clear h
  unfold kv9
  obtain ⟨w0, hw0⟩ : ∃ w0, w0 = (w.alloc (.cells #[.int .i64 k.h, sv9 k.a, sv9 k.b, sv9 k.c, sv9 k.d] 44)).alloc (.cells #[.int .i64 0, .int .i64 0, .int .i64 0, .int .i64 0] 47) := ⟨_, rfl⟩
  have HT : Hid (Turn (fun _ => False) w w0) := by rw [hw0]; exact ((Turn.refl _ w).alloc _).alloc _
  have HK : Hid (∀ W, Turn (fun _ => False) w0 W → Box W w.heap.size 44 #[.int .i64 k.h, sv9 k.a, sv9 k.b, sv9 k.c, sv9 k.d]) := fun W ht => Box.turn (by rw [hw0]; exact (Box.new w _ _).alloc _) ht (fun f => f)
  have HC : Hid (∀ W, Turn (fun _ => False) w0 W → Box W (w.heap.size + 1) 47 #[.int .i64 0, .int .i64 0, .int .i64 0, .int .i64 0]) := fun W ht => Box.turn (by
    rw [hw0]
    have h := Box.new (w.alloc (.cells #[.int .i64 k.h, sv9 k.a, sv9 k.b, sv9 k.c, sv9 k.d] 44)) 47 #[.int .i64 0, .int .i64 0, .int .i64 0, .int .i64 0]
    rw [World.size_alloc] at h
    exact h) ht (fun f => f)
  have HW := Lib.hid hw0
  clear hw0
  go_enter Try.func21, Try.ntmps21
  go_wp2_with fail
  rw [← HW.out]
  refine drawn_region (fun W => Turn (fun _ => False) w0 W) [] (by kernel_rfl) ?_
  have hS0 : Turn (fun _ => False) w0 (World.drew w0) := (Turn.refl _ w0).drew
  generalize World.drew w0 = wd at *
  refine drawn_take 0 9 (.pointer p) rfl rfl (by kernel_rfl) (by kernel_rfl) (by kernel_rfl) (by kernel_rfl) (fun _ _ _ h => h) (by rfl) (by assumption) (by intro w hSw; obtain hS1 := hSw; go_simp) ?_
  try simp only [List.setIfInBounds_toArray, List.set_cons_zero, List.set_cons_succ]
  refine drawn_take 2 11 (.agg #[.int .i64 k.h, sv9 k.a, sv9 k.b, sv9 k.c, sv9 k.d]) rfl rfl (by kernel_rfl) (by kernel_rfl) (by kernel_rfl) (by kernel_rfl) (fun _ _ _ h => h) (by rfl) (by assumption) (by intro w hSw; have hb := HK.out w hSw; have a0 := hb.cell 0; have a1 := hb.cell 1; have a2 := hb.cell 2; have a3 := hb.cell 3; have a4 := hb.cell 4; clear hSw hb; go_simp) ?_
  try simp only [List.setIfInBounds_toArray, List.set_cons_zero, List.set_cons_succ]
  refine drawn_any [1] (by kernel_rfl) (by simp) ?_
  refine drawn_cons rfl (fun K hK => ?_) drawn_nil
  go_simp
  refine (HA.out _ (HT.out.trans hS0 (fun _ _ f => f))).mono ?_
  rintro e w1 ⟨sl, rfl, hr, rfl⟩
  have HRD := Lib.hid hr
  obtain ⟨A, c, rfl⟩ := hr.shape
  refine hK.out _ _ _ hS0 ?_
  clear hK K hr
  try simp only [List.setIfInBounds_toArray, List.set_cons_zero, List.set_cons_succ]
  have HSE := Lib.hid (search_any11 _ L k _ HRD.out HRI.out hl)
  unfold kv9 at HSE
  refine drawn_any [3] (by kernel_rfl) (by simp) ?_
  refine drawn_cons rfl (fun K hK => ?_) drawn_nil
  go_simp
  refine HSE.out.mono ?_
  rintro e w2 ⟨i, rfl, hfi, t2⟩
  have hS2 := hS0.trans t2 (fun _ _ f => f)
  refine hK.out _ _ _ hS2 ?_
  clear hK K hS0 t2 HSE HRD
  have HFI := Lib.hid hfi
  clear hfi
  try simp only [List.setIfInBounds_toArray, List.set_cons_zero, List.set_cons_succ]
  generalize hfo : (findR k L).isSome = fo at *
  refine drawn_take 4 8 (.tuple #[.int .i64 (i : Int), .bool fo]) rfl rfl (by kernel_rfl) (by kernel_rfl) (by kernel_rfl) (by kernel_rfl) (fun _ _ _ h => h) (by rfl) (by assumption) (by intro w hSw; obtain hS1 := hSw; go_simp) ?_
  try simp only [List.setIfInBounds_toArray, List.set_cons_zero, List.set_cons_succ]
  refine drawn_take 5 13 (.int .i64 (i : Int)) rfl rfl (by kernel_rfl) (by kernel_rfl) (by kernel_rfl) (by kernel_rfl) (fun _ _ _ h => h) (by rfl) (by assumption) (by intro w hSw; obtain hS1 := hSw; go_simp) ?_
  try simp only [List.setIfInBounds_toArray, List.set_cons_zero, List.set_cons_succ]
  refine drawn_take 6 14 (.bool fo) rfl rfl (by kernel_rfl) (by kernel_rfl) (by kernel_rfl) (by kernel_rfl) (fun _ _ _ h => h) (by rfl) (by assumption) (by intro w hSw; obtain hS1 := hSw; go_simp) ?_
  try simp only [List.setIfInBounds_toArray, List.set_cons_zero, List.set_cons_succ]
  refine drawn_take 7 6 (.int .i64 (i : Int)) rfl rfl (by kernel_rfl) (by kernel_rfl) (by kernel_rfl) (by kernel_rfl) (fun _ _ _ h => h) (by rfl) (by assumption) (by intro w hSw; obtain hS1 := hSw; go_simp) ?_
  try simp only [List.setIfInBounds_toArray, List.set_cons_zero, List.set_cons_succ]
  refine drawn_last1 8 7 (.bool fo) rfl rfl (by kernel_rfl) (by kernel_rfl) (by rfl) (by intro w; go_simp) hS2 ?_
  try simp only [List.setIfInBounds_toArray, List.set_cons_zero, List.set_cons_succ]
  have HS := Lib.hid hS2
  have hb := HC.out w2 hS2
  have c0 := hb.cell 0
  have c1 := hb.cell 1
  have c2 := hb.cell 2
  have c3 := hb.cell 3
  have f0 := hb.free 0
  have f1 := hb.free 1
  have f2 := hb.free 2
  have f3 := hb.free 3
  clear hb hS2
  have HTW : Hid (Turn (fun _ => False) w w2) := HT.out.trans HS.out (fun _ _ f => f)
  cases hf : findR k L with
  | none =>
    rw [hf] at hfo
    simp only [Option.isSome_none] at hfo
    subst hfo
    have HF := Lib.hid hf
    clear HFI HA HH hf
    go_wp2
    refine bodyPost_ret (v := .tuple #[zc11, .bool false]) ?_ rfl ⟨by rw [HF.out]; rfl, ?_⟩
    · rw [results_cell_tmp rfl]
      go_simp
      rfl
    · repeat (refine Turn.setCell ?_ (fun h => absurd h (by simp)) _)
      exact HTW.out
  | some cl =>
    rw [hf] at hfo
    simp only [Option.isSome_some] at hfo
    subst hfo
    have hx := HFI.out cl hf
    have HF := Lib.hid hf
    clear HFI HA hf
    rcases HH.out.2 with ⟨-, rfl⟩ | ⟨b, sl, e0, hb, hr⟩
    · cases hx
    · injection e0 with e0
      subst e0
      have hil : (i : Int) < L.length := by have := (List.getElem?_eq_some_iff.1 hx).1; omega
      obtain ⟨A', c', rfl⟩ := hr.shape
      obtain ⟨ad, rfl, hc⟩ := row_at11 hr hx
      obtain ⟨d0, d1, d2, d3, d4, d5, d6, d7, d8⟩ := hc w2 HTW.out
      have g0 := (hb.turn HTW.out (fun f => f)).cell 0
      clear hr hb hc hx HH
      go_wp2
      refine bodyPost_ret (v := .tuple #[cv cl, .bool true]) ?_ rfl ⟨by rw [HF.out]; rfl, ?_⟩
      · rw [results_cell_tmp rfl]
        go_simp
        rfl
      · repeat (refine Turn.setCell ?_ (fun h => absurd h (by simp)) _)
        exact HTW.out

end Go.Proofs.Ytnnlgeldjjknmaa

/-
  Stage 11: the library's sort.Search by the program's closures; within: the rows of hours.
-/
namespace Go.Proofs.Ytnnlgeldjjknmaa
open Go.RowKit

set_option maxRecDepth 100000

section
variable {P : Program} {T : Type} {E : El T} {tS e : TypeId}
/-- l[i:j]. -/
theorem run_midV (ht : P.underlying tS = some (.slice e)) (hz : (P.info? e).map (·.size) = some E.sz) (A : Option Addr) (n c i j : Nat) (hi : i ≤ j) (hj : j ≤ c) (w : World) :
    (Instr.slice tS (.slice A n c) (some (.int .i64 (i : Int))) (some (.int .i64 (j : Int))) none).run P w = .ok (tailV E A j c i) w := by
  obtain ⟨k, hk, hz⟩ := Option.map_eq_some_iff.1 hz
  unfold tailV
  rw [← hz]
  simp [Instr.slice, Instr.sliceBounds, Instr.sliceBound, asIntOf, run_underlying ht, sizeOf, typeInfo, hk]
  rw [if_pos hj, if_pos hi]
end

/-- The rows of hours, between two places. -/
def lowH (b : Int) (r : R11) : Bool := decide (r.k.h < b)
theorem hour_down {b : Int} {L : List R11} (hr : RiseR L) (i j : Nat) (x y : R11) (hij : i ≤ j) (hx : L[i]? = some x) (hy : L[j]? = some y) (h : lowH b y = true) : lowH b x = true := by
  obtain ⟨h1, e1⟩ := List.getElem?_eq_some_iff.1 hx
  obtain ⟨h2, e2⟩ := List.getElem?_eq_some_iff.1 hy
  rcases Nat.lt_or_ge i j with hlt | hge
  · have h3 := List.pairwise_iff_getElem.1 hr i j h1 h2 hlt
    rw [e1, e2] at h3
    unfold lowH at h ⊢
    rw [decide_eq_true_iff] at h ⊢
    have : ¬ y.k.h < x.k.h := fun hlt2 => by
      have h4 := key_hour hlt2
      rw [rises_key.asym h3] at h4
      cases h4
    omega
  · obtain rfl : i = j := by omega
    rw [e1] at e2
    subst e2
    exact h
theorem filter_none {α : Type} {p : α → Bool} {l : List α} (h : ∀ x ∈ l, p x = false) : l.filter p = [] := List.filter_eq_nil_iff.2 fun x hx => by rw [h x hx]; simp
theorem range_mid {L : List R11} {a b : Int} {i j : Nat} (hab : a < b) (h1 : Mid11 (lowH a) L i i) (h2 : Mid11 (lowH b) L j j) : i ≤ j ∧ rangeR L a b = (L.take j).drop i := by
  have hij : i ≤ j := by
    rcases Nat.lt_or_ge j i with h | h
    · have hj : j < L.length := by have := h1.top; omega
      have g1 := h1.low j _ h (List.getElem?_eq_getElem hj)
      have g2 := h2.high j _ (Nat.le_refl _) (List.getElem?_eq_getElem hj)
      unfold lowH at g1 g2
      rw [decide_eq_true_iff] at g1
      rw [decide_eq_false_iff_not] at g2
      omega
    · exact h
  refine ⟨hij, ?_⟩
  have e : L = (L.take j).take i ++ ((L.take j).drop i ++ L.drop j) := by rw [← List.append_assoc, List.take_append_drop, List.take_append_drop]
  unfold rangeR
  conv => lhs; rw [e]
  rw [List.filter_append, List.filter_append]
  have p1 : ((L.take j).take i).filter (inH a b) = [] := filter_none fun x hx => by
    obtain ⟨t, ht⟩ := List.mem_iff_getElem?.1 hx
    rw [List.take_take, List.getElem?_take] at ht
    split at ht
    · have g := h1.low t x (by omega) ht
      unfold lowH at g
      rw [decide_eq_true_iff] at g
      unfold inH
      rw [decide_eq_false (by omega), Bool.false_and]
    · cases ht
  have p3 : (L.drop j).filter (inH a b) = [] := filter_none fun x hx => by
    obtain ⟨t, ht⟩ := List.mem_iff_getElem?.1 hx
    rw [List.getElem?_drop] at ht
    have g := h2.high (j + t) x (by omega) ht
    unfold lowH at g
    rw [decide_eq_false_iff_not] at g
    unfold inH
    rw [decide_eq_false g, Bool.and_false]
  have p2 : ((L.take j).drop i).filter (inH a b) = (L.take j).drop i := List.filter_eq_self.2 fun x hx => by
    obtain ⟨t, ht⟩ := List.mem_iff_getElem?.1 hx
    rw [List.getElem?_drop, List.getElem?_take] at ht
    split at ht
    · have g1 := h1.high (i + t) x (by omega) ht
      have g2 := h2.low (i + t) x (by omega) ht
      unfold lowH at g1 g2
      rw [decide_eq_true_iff] at g2
      rw [decide_eq_false_iff_not] at g1
      unfold inH
      rw [decide_eq_true (by omega), decide_eq_true g2]
      rfl
    · cases ht
  rw [p1, p2, p3, List.append_nil, List.nil_append]
theorem range_none {L : List R11} {a b : Int} (h : b ≤ a) : rangeR L a b = [] := filter_none fun x _ => by
  unfold inH
  by_cases h1 : a ≤ x.k.h
  · rw [decide_eq_false (show ¬ x.k.h < b by omega), Bool.and_false]
  · rw [decide_eq_false h1, Bool.false_and]

/-- Behind a search of an hour. -/
def Low11 (w : World) (L : List R11) (b : Int) (e : Ending) (w' : World) : Prop := ∃ i : Nat, e = .returned (.int .i64 (i : Int)) ∧ Mid11 (lowH b) L i i ∧ Turn (fun _ => False) w w'

set_option maxHeartbeats 1000000 in
theorem at_hour11 (rb hb : Nat) (ad : Addr) (n c i : Nat) (x : R11) (b : Int) (w : World) (h1 : w.cell? ⟨rb, 0, none⟩ = some (.slice (some ad) n c)) (h2 : w.cell? ⟨hb, 0, none⟩ = some (.int .i64 b)) (hin : i < n) (hx : RowAt w (ad.add (i * 9)) x) :
    Calls Try.prog 59 #[.int .i64 (i : Int), .pointer (some ⟨rb, 0, none⟩), .pointer (some ⟨hb, 0, none⟩)] w fun e w' => e = .returned (.bool (decide (b ≤ x.k.h))) ∧ Turn (fun _ => False) w w' := by
  obtain ⟨a0, -, -, -, -, -, -, -, -⟩ := hx
  have hil : (i : Int) < (n : Int) := by omega
  go_enter Try.func59, Try.ntmps59
  go_wp2_with fail
  go_quiet (fail)
  go_wp2
  go_ret
  exact ⟨rfl, (Turn.refl _ w).drewN _⟩

set_option maxHeartbeats 4000000 in
theorem search_hour11 (rb hb : Nat) (A : Option Addr) (c : Nat) (L : List R11) (b : Int) (w : World) (hr : RiseR L) (hl : L.length ≤ 1000) (h1 : Box w rb 23 #[.slice A L.length c]) (h2 : Box w hb 2 #[.int .i64 b]) (hv : RdE ER w (.slice A L.length c) L) :
    Calls Try.prog 58 #[.int .i64 (L.length : Int), .func (.func 59) #[] #[.pointer (some ⟨rb, 0, none⟩), .pointer (some ⟨hb, 0, none⟩)]] w fun e w' => Low11 w L b e w' := by
  have HV := Lib.hid hv
  have HR := Lib.hid hr
  have HB1 := Lib.hid h1
  have HB2 := Lib.hid h2
  have HST : Hid (Mid11 (lowH b) L 0 L.length) := Mid11.start _ L
  clear hv hr h1 h2
  go_enter Try.func58, Try.ntmps58
  go_wp2_with fail
  go_loopw [5, 6] (fun x5 x6 wr => ∃ i j : Nat, x5 = .int .i64 (i : Int) ∧ x6 = .int .i64 (j : Int) ∧ Mid11 (lowH b) L i j ∧ Turn (fun _ => False) w wr) (fun x5 x6 _ => (intOf x6).toNat - (intOf x5).toNat)
  case atStart => exact ⟨0, L.length, rfl, rfl, HST.out, Turn.refl _ _⟩
  case round =>
    clear HST
    obtain ⟨i, j, rfl, rfl, hm, ht⟩ := hrel
    have HM := Lib.hid hm
    have HT2 := Lib.hid ht
    have h1 := hm.le
    have h2 := hm.top
    clear hm ht
    by_cases hlt : i < j
    · have hij : (i : Int) < (j : Int) := by omega
      obtain ⟨m, hm⟩ : ∃ m, m = (i + j) / 2 := ⟨_, rfl⟩
      have hmj : m < j := by omega
      have hmi : i ≤ m := by omega
      obtain ⟨x, hx⟩ : ∃ x, L[m]? = some x := ⟨_, List.getElem?_eq_getElem (by omega)⟩
      obtain ⟨ad, rfl, hc⟩ := row_at11 HV.out hx
      have HCL : Hid (Calls Try.prog 59 #[.int .i64 (m : Int), .pointer (some ⟨rb, 0, none⟩), .pointer (some ⟨hb, 0, none⟩)] wr fun e w' => e = .returned (.bool (decide (b ≤ x.k.h))) ∧ Turn (fun _ => False) wr w') :=
        at_hour11 rb hb ad L.length c m x b wr ((HB1.out.turn HT2.out (fun f => f)).cell 0) ((HB2.out.turn HT2.out (fun f => f)).cell 0) (by omega) (hc wr HT2.out)
      have HUP : Hid (lowH b x = true → Mid11 (lowH b) L (m + 1) j) := fun h => HM.out.up (hour_down HR.out) hmj hx h
      have HDN : Hid (lowH b x = false → Mid11 (lowH b) L i m) := fun h => HM.out.down (hour_down HR.out) hmi hmj hx h
      have hmid : ((i : Int) + (j : Int)) / 2 = (m : Int) := by omega
      clear hc hx hm
      by_cases hb : b ≤ x.k.h
      · have HN := Lib.hid (HDN.out (decide_eq_false (by omega)))
        rw [decide_eq_true hb] at HCL
        clear HUP HDN hb
        go_wp2_with fail
        refine HCL.out.mono ?_
        rintro e w4 ⟨rfl, t4⟩
        have HF := Lib.hid (HT2.out.trans t4 (fun _ _ f => f))
        clear t4
        go_wp2
        go_roundw
        case rel => exact ⟨i, m, rfl, rfl, HN.out, HF.out⟩
        case measure => simp [intOf]; omega
      · have HN := Lib.hid (HUP.out (decide_eq_true (by omega)))
        rw [decide_eq_false hb] at HCL
        clear HUP HDN hb
        go_wp2_with fail
        refine HCL.out.mono ?_
        rintro e w4 ⟨rfl, t4⟩
        have HF := Lib.hid (HT2.out.trans t4 (fun _ _ f => f))
        clear t4
        go_wp2
        go_roundw
        case rel => exact ⟨m + 1, j, by go_num, rfl, HN.out, HF.out⟩
        case measure => simp [intOf]; omega
    · obtain rfl : i = j := by omega
      clear h1
      go_wp2
      go_ret
      exact ⟨i, rfl, HM.out, HT2.out⟩

set_option maxHeartbeats 2000000 in
theorem place_any11 (rb : Nat) (A : Option Addr) (c : Nat) (L : List R11) (b : Int) (w : World) (hr : RiseR L) (hl : L.length ≤ 1000) (h1 : Box w rb 23 #[.slice A L.length c]) (hv : RdE ER w (.slice A L.length c) L) :
    Calls Try.prog 57 #[.int .i64 b, .pointer (some ⟨rb, 0, none⟩)] w fun e w' => Low11 w L b e w' := by
  have HS := Lib.hid (search_hour11 rb w.heap.size A c L b (w.alloc (.cells #[.int .i64 b] 2)) hr hl (h1.alloc _) (Box.new w _ _) (hv.later ((Turn.refl _ w).alloc _)))
  have c0 := (h1.alloc (.cells #[.int .i64 b] 2)).cell 0
  clear hv hr h1
  go_enter Try.func57, Try.ntmps57
  go_wp2_with fail
  refine HS.out.mono ?_
  rintro e w1 ⟨i, rfl, hm, t1⟩
  have HM := Lib.hid hm
  have HT : Hid (Turn (fun _ => False) w w1) := ((Turn.refl _ w).alloc _).trans t1 (fun _ _ f => f)
  clear hm t1 HS
  go_wp2
  go_ret
  exact ⟨i, rfl, HM.out, HT.out⟩

/-- The rows of hours, not to be changed. -/
def Within11 (w : World) (L : List R11) (e : Ending) (w' : World) : Prop := ∃ sl, e = .returned sl ∧ RdE ER w' sl L ∧ Turn (fun _ => False) w w'
set_option maxHeartbeats 4000000 in
theorem within_any11 (s : Value) (L : List R11) (a b : Int) (w : World) (h : SV11 w s L) : Calls Try.prog 46 #[s, .int .i64 a, .int .i64 b] w fun e w' => Within11 w (rangeR L a b) e w' := by
  have HA := Lib.hid (all_any11 s L w h)
  have HR := Lib.hid (rightR_spec h.right.1).1
  have hl := h.right.2.2
  obtain ⟨p, rfl⟩ := h.ptr
  clear h
  by_cases hab : b ≤ a
  · rw [range_none hab]
    clear HA
    go_enter Try.func46, Try.ntmps46
    go_wp2
    go_ret
    exact ⟨_, rfl, RdE.nil _, Turn.refl _ _⟩
  · have hlt : a < b := by omega
    go_enter Try.func46, Try.ntmps46
    go_wp2_with fail
    refine HA.out.mono ?_
    rintro e w1 ⟨sl, rfl, hr, hw⟩
    replace hw := hw.symm
    subst hw
    obtain ⟨A, c, rfl⟩ := hr.shape
    have hfit := hr.fits
    have HRD := Lib.hid hr
    clear HA hr
    obtain ⟨w0, hw0⟩ : ∃ w0, w0 = w.alloc (.cells #[.slice A L.length c] 23) := ⟨_, rfl⟩
    have HT : Hid (Turn (fun _ => False) w w0) := by rw [hw0]; exact (Turn.refl _ w).alloc _
    have HB : Hid (∀ W, Turn (fun _ => False) w0 W → Box W w.heap.size 23 #[.slice A L.length c]) := fun W ht => Box.turn (by rw [hw0]; exact Box.new w _ _) ht (fun f => f)
    have HP : Hid (∀ W b, Turn (fun _ => False) w0 W → Calls Try.prog 57 #[.int .i64 b, .pointer (some ⟨w.heap.size, 0, none⟩)] W fun e w' => Low11 W L b e w') := fun W b ht => place_any11 w.heap.size A c L b W HR.out hl (HB.out W ht) (HRD.out.later (HT.out.trans ht (fun _ _ f => f)))
    have HW := Lib.hid hw0
    clear hw0
    go_wp2_with fail
    rw [← HW.out]
    refine drawn_region (fun W => Turn (fun _ => False) w0 W) [] (by kernel_rfl) ?_
    have hS0 : Turn (fun _ => False) w0 (World.drew w0) := (Turn.refl _ w0).drew
    generalize World.drew w0 = wd at *
    refine drawn_take 0 15 (.slice A L.length c) rfl rfl (by kernel_rfl) (by kernel_rfl) (by kernel_rfl) (by kernel_rfl) (fun _ _ _ h => h) (by rfl) (by assumption) (by intro w hSw; have hb := HB.out w hSw; have a0 := hb.cell 0; clear hSw hb; go_simp) ?_
    try simp only [List.setIfInBounds_toArray, List.set_cons_zero, List.set_cons_succ]
    refine drawn_take 1 16 (.func (.func 57) #[] #[.pointer (some ⟨w.heap.size, 0, none⟩)]) rfl rfl (by kernel_rfl) (by kernel_rfl) (by kernel_rfl) (by kernel_rfl) (fun _ _ _ h => h) (by rfl) (by assumption) (by intro w hSw; obtain hS1 := hSw; go_simp) ?_
    try simp only [List.setIfInBounds_toArray, List.set_cons_zero, List.set_cons_succ]
    refine drawn_take 2 17 (.int .i64 a) rfl rfl (by kernel_rfl) (by kernel_rfl) (by kernel_rfl) (by kernel_rfl) (fun _ _ _ h => h) (by rfl) (by assumption) (by intro w hSw; obtain hS1 := hSw; go_simp) ?_
    try simp only [List.setIfInBounds_toArray, List.set_cons_zero, List.set_cons_succ]
    refine drawn_take 4 19 (.func (.func 57) #[] #[.pointer (some ⟨w.heap.size, 0, none⟩)]) rfl rfl (by kernel_rfl) (by kernel_rfl) (by kernel_rfl) (by kernel_rfl) (fun _ _ _ h => h) (by rfl) (by assumption) (by intro w hSw; obtain hS1 := hSw; go_simp) ?_
    try simp only [List.setIfInBounds_toArray, List.set_cons_zero, List.set_cons_succ]
    refine drawn_take 5 20 (.int .i64 b) rfl rfl (by kernel_rfl) (by kernel_rfl) (by kernel_rfl) (by kernel_rfl) (fun _ _ _ h => h) (by rfl) (by assumption) (by intro w hSw; obtain hS1 := hSw; go_simp) ?_
    try simp only [List.setIfInBounds_toArray, List.set_cons_zero, List.set_cons_succ]
    refine drawn_any [3] (by kernel_rfl) (by simp) ?_
    refine drawn_cons rfl (fun K hK => ?_) drawn_nil
    go_simp
    refine (HP.out _ a hS0).mono ?_
    rintro e w1 ⟨i, rfl, hi, t1⟩
    have hS1 := hS0.trans t1 (fun _ _ f => f)
    have HI := Lib.hid hi
    refine hK.out _ _ _ hS1 ?_
    clear hK K hS0 hi t1
    try simp only [List.setIfInBounds_toArray, List.set_cons_zero, List.set_cons_succ]
    refine drawn_any [6] (by kernel_rfl) (by simp) ?_
    refine drawn_cons rfl (fun K hK => ?_) drawn_nil
    go_simp
    refine (HP.out _ b hS1).mono ?_
    rintro e w2 ⟨j, rfl, hj, t2⟩
    have hS0 := hS1.trans t2 (fun _ _ f => f)
    have HJ := Lib.hid hj
    refine hK.out _ _ _ hS0 ?_
    clear hK K hS1 hj t2
    try simp only [List.setIfInBounds_toArray, List.set_cons_zero, List.set_cons_succ]
    obtain ⟨hij, hrange⟩ := range_mid hlt HI.out HJ.out
    have hjl := HJ.out.top
    have hmid := fun W => run_midV (E := ER) (P := Try.prog) Try.underlying23 row_size11 A L.length c i j hij (Nat.le_trans hjl hfit.2.1) W
    have HTV : Hid (RdE ER w2 (tailV ER A j c i) (rangeR L a b)) := by
      rw [hrange]
      exact rd_tailV ((HRD.out.later (HT.out.trans hS0 (fun _ _ f => f))).front j hjl) hij
    obtain ⟨v, hv⟩ : ∃ v, v = tailV ER A j c i := ⟨_, rfl⟩
    rw [← hv] at HTV
    rw [← hv] at hmid
    clear hv hrange hfit
    obtain ⟨A2, c2, e2⟩ := HTV.out.shape
    subst e2
    refine drawn_take 7 22 (.slice A2 (rangeR L a b).length c2) rfl rfl (by kernel_rfl) (by kernel_rfl) (by kernel_rfl) (by kernel_rfl) (fun _ _ _ h => h) (by rfl) (by assumption) (by intro w hSw; clear hSw; have hm := hmid w; go_simp) ?_
    try simp only [List.setIfInBounds_toArray, List.set_cons_zero, List.set_cons_succ]
    refine drawn_last1 8 6 (.slice A2 (rangeR L a b).length c2) rfl rfl (by kernel_rfl) (by kernel_rfl) (by rfl) (by intro w; go_simp) hS0 ?_
    try simp only [List.setIfInBounds_toArray, List.set_cons_zero, List.set_cons_succ]
    have HE := Lib.hid (HT.out.trans hS0 (fun _ _ f => f))
    clear hS0 hmid
    go_wp2
    go_ret
    exact ⟨_, rfl, HTV.out, HE.out⟩

end Go.Proofs.Ytnnlgeldjjknmaa
