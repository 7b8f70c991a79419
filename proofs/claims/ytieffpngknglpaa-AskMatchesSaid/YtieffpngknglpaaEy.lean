
/-
  A guarded operation that is not wanted, in a region that draws. No type is named here.
-/
import Derived.Test.YtieffpngknglpaaEg
import Derived.Test.YtieffpngknglpaaEh
namespace Go.Proofs.Ytieffpngknglpaa
open Go.RowKit

/-- The walk stands still here. -/
def Halt11 (p : Prop) : Prop := p
theorem halt11 {p : Prop} (h : Halt11 p) : p := h

section
variable {P : Program} {ops : Array Oper} {Q : Exit → Act → World → Prop} {S : World → Prop} {zs : List Nat}
theorem drawn_skip (i d : Nat) {oi : Oper} {fuel : Nat} {listed : Array Bool} {ts : Array Value} {ds : List Deferred} {w : World} (hi0 : nthL ops.toList i = some oi) (hd : oi.dst = some d)
    (hs : Region.noSelect ops = true) (hf : Region.free .any ops listed i = true) (hr : (Region.ready .any ops listed).contains i = true) (hz : (!zs.contains i) = true)
    (hQ : ∀ c (a : Act) w, Q (.panic c) (a.put oi.dst undef) w → Q (.panic c) a w) (hw : Region.wanted oi (yielded ops ts) = false) (hS : freshB zs listed = true → S w)
    (h : Drawn P ops Q S zs fuel (listed.setIfInBounds i true) (ts.setIfInBounds d undef) ds w) : Drawn P ops Q S zs (fuel + 1) listed ts ds w := fun hc => by
  have hi := nth_at hi0
  have hm : i ∈ Region.ready .any ops listed := by simpa using hr
  refine wpAnyG_first hi (Region.noSelect_spec hs) hQ (by simpa using hz) (fun _ => True) (fun _ _ _ _ _ => trivial) fuel listed _ w hc (Region.free_spec hi hf) hm (.inr ⟨hw, rfl⟩) hS ?_
  have h2 := h (hc.step hm)
  rw [hd]
  exact h2
end

section
variable {P : Program} {T : Type} {E : El T} {tS e : TypeId} {ops : Array Oper} {rest : List Oper} {Q : Exit → Act → World → Prop} {op : Oper} {a : Act} {w : World} {A : Option Addr} {n c i : Nat} {L : List T}
/-- A slice's tail, in a region that draws nothing. -/
theorem wpList_cut (ht : P.underlying tS = some (.slice e)) (hz : (P.info? e).map (·.size) = some E.sz) (hgd : op.guard = none) (xo ko : Operand) (ho : op.op = .slice tS xo (some ko) none none) (hrd : RdE E w (.slice A n c) L) (hx : a.eval xo = .slice A n c) (hk : a.eval ko = .int .i64 (i : Int)) (hi : i ≤ n)
    (h : ∀ B, RdE E w (.slice B (n - i) (c - i)) (L.drop i) → (∀ g, (Value.slice B (n - i) (c - i)).ownBlock = some g → (Value.slice A n c).ownBlock = some g) → wpList P ops Q rest (a.put op.dst (.slice B (n - i) (c - i))) w) : wpList P ops Q (op :: rest) a w :=
  wpList_plain hgd fun K hK => by
    unfold Oper.wp
    rw [exec_tail (E := E) ho hx hk ht hz hi w]
    refine hK _ _ (h _ (rd_tailV hrd hi) (fun g hg => ?_))
    by_cases e : c = i
    · rw [if_pos e] at hg
      cases A with
      | none => simp [Value.ownBlock] at hg
      | some ad => simpa [Value.ownBlock] using hg
    · rw [if_neg e] at hg
      cases A with
      | none => simp [Value.ownBlock] at hg
      | some ad => simpa [Value.ownBlock, eadd_block] using hg
/-- No elements: whatever the world. -/
theorem rd_empty {w' : World} {v : Value} (h : RdE E w v []) : RdE E w' v [] := by
  obtain ⟨A, c, e, h1, h2, _⟩ := h
  exact ⟨A, c, e, h1, h2, fun _ _ i u hi => by simp [El.flat] at hi⟩
/-- A slice's front, in a region that draws nothing. -/
theorem wpList_front (ht : P.underlying tS = some (.slice e)) (hz : (P.info? e).map (·.size) = some E.sz) (hgd : op.guard = none) (xo ko : Operand) (ho : op.op = .slice tS xo none (some ko) none) (hrd : RdE E w (.slice A n c) L) (hx : a.eval xo = .slice A n c) (hk : a.eval ko = .int .i64 (i : Int)) (hi : i ≤ n)
    (h : RdE E w (.slice A i c) (L.take i) → wpList P ops Q rest (a.put op.dst (.slice A i c)) w) : wpList P ops Q (op :: rest) a w :=
  wpList_plain hgd fun K hK => by
    unfold Oper.wp
    rw [exec_front (E := E) ho hx hk ht hz (Nat.le_trans hi (by have := hrd.fits; omega)) w]
    exact hK _ _ (h (hrd.front i hi))
end

end Go.Proofs.Ytieffpngknglpaa
