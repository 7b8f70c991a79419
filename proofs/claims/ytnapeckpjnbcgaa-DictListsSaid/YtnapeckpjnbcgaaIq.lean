
/-
  A region that draws its order and only reads, in a round of a range over a function: one walk of the text's order serves every order.
-/
import Derived.Test.YtnapeckpjnbcgaaIa
import Derived.Sort.BigQuietIn
namespace Go.Proofs.Ytnapeckpjnbcgaa
open Go.RowKit

def noDefer : Op → Bool
  | .defer _ => false
  | _ => true
theorem noDefer_ne {o : Op} (h : noDefer o = true) : ∀ c, o ≠ .defer c := by
  rintro c rfl
  cases h

section
variable {F : Fence} {n : Nat} {P : Program} {C : World → Prop} {ops : Array Oper} {md : Region.Mode}

theorem quiet_op {o : Oper} {a : Act} {K : Act → Prop} {K' : Act → World → Prop} {Q' : Exit → Act → World → Prop} {w : World} (hd : noDefer o.op = true) (hw : C w) (h : ∀ a w', C w' → K a → K' a w')
    (ha : o.askedIn F P a C) (hh : o.quietIn F n P a C K) : o.wpIn F n P a w K' Q' := by
  obtain ⟨v, h1, h2⟩ := hh
  have h3 := h1 w hw
  unfold Oper.quietAtIn at h3
  unfold Oper.wpIn
  rw [Oper.semAt_eq _ _ _ (noDefer_ne hd)]
  refine ⟨ha w hw, ?_⟩
  generalize (execOp a.eval o).run P w = r at *
  rcases r with ⟨x, w'⟩ | ⟨x, w'⟩
  · cases x <;> simp only [Oper.quietUponIn] at h3 <;> simp only [Oper.uponIn]
    case value u =>
      rw [h3.1, h3.2]
      exact h _ _ hw h2
    case skip =>
      rw [h3.1, ← h3.2]
      exact h _ _ hw h2
    case enter f args =>
      rw [h3.1]
      exact ⟨h3.2.1, h3.2.2.mono fun e w'' ⟨he, hw''⟩ => by subst he; exact h _ _ hw'' h2⟩
  · simp only [Oper.quietUponIn] at h3

theorem quiet_at (hnd : ∀ o ∈ ops.toList, noDefer o.op = true) {i : Nat} {a : Act} {K : Act → Prop} {K' : Act → World → Prop} {Q' : Exit → Act → World → Prop} {w : World} (hC : C w) (h : ∀ a w', C w' → K a → K' a w')
    (hh : qOpIn F n P ops C i K a) : wpOpIn F n P ops Q' i K' a w := by
  unfold qOpIn at hh
  unfold wpOpIn
  cases ho : ops[i]? with
  | none =>
    simp only [ho] at hh
    exact h _ _ hC hh
  | some o =>
    simp only [ho] at hh
    have hm : noDefer o.op = true := hnd o (Array.mem_toList_iff.2 (Array.mem_of_getElem? ho))
    by_cases hw : Region.wanted o (yielded ops a.tmps)
    · simp only [hw, if_true] at hh ⊢
      exact quiet_op hm hC h hh.1 hh.2
    · simp only [hw] at hh ⊢
      exact ⟨hh.1 w hC, h _ _ hC hh.2⟩

theorem quiet_any (hnd : ∀ o ∈ ops.toList, noDefer o.op = true) {Q : Act → Prop} {Q' : Exit → Act → World → Prop} (hQ : ∀ a w, C w → Q a → Q' .normal a w) : ∀ (fuel : Nat) (listed : Array Bool) (a : Act) (w : World), C w →
    wpAnyQIn F n P md ops C Q fuel listed a → wpAnyIn F n P md ops Q' fuel listed a w
  | 0, _, _, _, hw, h => ⟨h.1, hQ _ _ hw h.2⟩
  | fuel + 1, _, _, _, hw, h => ⟨fun h0 => hQ _ _ hw (h.1 h0), fun i hi => quiet_at hnd hw (fun a' w' hw' => quiet_any hnd hQ fuel _ a' w' hw') (h.2 i hi)⟩

theorem quiet_region {id : Nat} {Q : Exit → Act → World → Prop} {a : Act} {w : World} {l : List Oper} (hnd : (l.all fun o => noDefer o.op) = true) (hm : P.follows .mixedOrders = true) (hB : Region.lexB .any l.toArray = true)
    (h : wpQuietIn F n P l.toArray (fun w' => ∃ n, w' = w.drewN n) (fun a' => ∀ w', (∃ n, w' = w.drewN n) → Q .normal a' w') l a) : (Code.region id l.toArray true).wpIn F n P Q a w := by
  simp only [Region.lexB, Bool.and_eq_true] at hB
  have hnd' : ∀ o ∈ l.toArray.toList, noDefer o.op = true := fun o ho => by
    rw [List.all_eq_true] at hnd
    exact hnd o (by simpa using ho)
  refine wpIn_region_any hm (quiet_any hnd' (C := fun w' => ∃ n, w' = w.drewN n) (Q := fun a' => ∀ w', (∃ n, w' = w.drewN n) → Q .normal a' w') (fun _ w' hw' h => h w' hw') _ _ _ _ ⟨1, rfl⟩ ?_)
  have := wpAnyQIn_lex (F := F) (n := n) (P := P) (ops := l.toArray) (C := fun w' => ∃ n, w' = w.drewN n) (md := .any) hB.1 l 0 (Array.replicate l.toArray.size false) a (by simp) (by simpa using hB.2) h
  simpa using this
end

theorem wide_fn (f : FuncId) : Fence.wide.fn f = True := rfl

theorem quiet_same {P : Program} {l0 : Nat} {n : Nat} {f : FuncId} {args : Array Value} {w : World} {k : Nat} {v : Value}
    (h : Calls P f args (w.drewN k) fun e w' => e = .returned v ∧ w.drewN k = w') : CallsIn (Fence.wide.inRound l0) n P f args (w.drewN k) fun e w'' => e = .returned v ∧ ∃ m, w'' = w.drewN m :=
  CallsIn.inRound l0 (callsIn_wide.2 (h.mono fun _ _ ⟨he, hm⟩ => ⟨he, k, hm.symm⟩))

end Go.Proofs.Ytnapeckpjnbcgaa
