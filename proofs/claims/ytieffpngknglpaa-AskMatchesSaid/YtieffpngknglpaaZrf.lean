
/-
  Stage 9: the program's readFact.
-/
import Derived.Test.YtieffpngknglpaaZm
import Derived.Test.YtieffpngknglpaaZck
import Derived.Test.YtieffpngknglpaaEx
import Derived.Test.YtieffpngknglpaaEs
import Derived.Laws.ResultCell
namespace Go.Proofs.Ytieffpngknglpaa
open Go.RowKit Go.ChangeShapes Go.WideShapes Go.Deep

set_option maxRecDepth 100000

section
variable {w wr : World} {p : Nat} {s : RS9}
theorem ps_num (h : PR w p wr s) : Calls Try.prog 30 #[.pointer (some ⟨p, 0, none⟩)] wr fun e w' => e = .returned (.int .u64 (sNum s : Int)) ∧ PR w p w' (sNum' s) ∧ Turn (fun g => g = p) wr w' := pr_num h
theorem ps_text (h : PR w p wr s) : Calls Try.prog 44 #[.pointer (some ⟨p, 0, none⟩), .int .i64 16] wr fun e w' => e = .returned (.string ⟨(sText s).toArray⟩) ∧ PR w p w' (sText' s) ∧ Turn (fun g => g = p) wr w' := pr_text 16 (by omega) h
end

/-- A fact as the program reads it, what is wrong, and the state behind it. -/
def zeroK : K9 := ⟨0, [], [], [], []⟩
def zeroF : F9 := ⟨zeroK, 0⟩
def factR (N : Nat) (s : RS9) : F9 × Nat × RS9 := if 16777216 < sNum s then (zeroF, 2, sNum' s) else ((oneF N (sNum s) (sNum' s)).1, (oneF N (sNum s) (sNum' s)).2.2, (oneF N (sNum s) (sNum' s)).2)

section
variable {w wr W W2 : World} {p b r : Nat} {x8 : Value} {out : List F9} {k : K9} {v : Int} {s s2 : RS9}
theorem PR.off (h : PR w p W s) {t : TypeId} {cs : Array Value} (hb : Box W b t cs) (hn : t ≠ 72) : b ≠ p := fun e => by
  obtain ⟨cs2, h2⟩ := h.box
  subst e
  have e2 := h2.symm.trans hb
  injection e2 with e2
  injection e2 with _ e3
  exact hn e3.symm
theorem PR.row (h : PR w p W s) (hn : NewE EF 77 w W x8 out) : ∀ k, x8.ownBlock = some k → k ≠ p := fun k hk e => by
  obtain ⟨cs2, h2⟩ := h.box
  exact hn.own.not_box h2 (by decide) (e ▸ hk)
end
structure InQ (w wr : World) (p b r : Nat) (k : K9) (v : Int) (s : RS9) (W : World) : Prop where
  box : Box W b 77 (cells9 k v)
  res : Box W r 77 (cells9 zeroK 0)
  pr : PR w p W s
  turn : Turn (fun g => g = p) wr W
  nb : wr.heap.size ≤ b
  nr : wr.heap.size ≤ r
  ne : r ≠ b
  lo : w.heap.size ≤ wr.heap.size
section
variable {w wr W W2 : World} {p b r : Nat} {k : K9} {v : Int} {s s2 : RS9}
theorem InQ.read (h : InQ w wr p b r k v s W) (hx : PR w p W2 s2) (ht : Turn (fun g => g = p) W W2) : InQ w wr p b r k v s2 W2 :=
  ⟨h.box.turn ht (h.pr.off h.box (by decide)), h.res.turn ht (h.pr.off h.res (by decide)), hx, h.turn.trans ht (fun _ _ e => e), h.nb, h.nr, h.ne, h.lo⟩
theorem InQ.set (h : InQ w wr p b r k v s W) (i : Nat) (u : Value) {k2 : K9} {v2 : Int} (hc : (cells9 k v).setIfInBounds i u = cells9 k2 v2) : InQ w wr p b r k2 v2 s (W.setCell ⟨b, i, none⟩ u) := by
  have ht : Turn (fun g => g = b) W (W.setCell ⟨b, i, none⟩ u) := Turn.setCell (S := fun g => g = b) (p := ⟨b, i, none⟩) (Turn.refl _ W) (fun _ => rfl) u
  refine ⟨?_, h.res.turn ht h.ne, h.pr.keep ht (fun g e => by rw [e]; have := h.nb; have := h.lo; omega) (fun g e => ⟨77, cells9 k v, by decide, by decide, e ▸ h.box⟩), h.turn.trans ht (fun k hk e => by have := h.nb; omega), h.nb, h.nr, h.ne, h.lo⟩
  rw [← hc]
  exact h.box.set i u
/-- The result laid into its cell. -/
theorem InQ.out (h : InQ w wr p b r k v s W) (k2 : K9) (v2 : Int) : PR w p (W.setCells r 0 (cells9 k2 v2).toList) s ∧ Turn (fun g => g = p) wr (W.setCells r 0 (cells9 k2 v2).toList) ∧ Box (W.setCells r 0 (cells9 k2 v2).toList) r 77 (cells9 k2 v2) := by
  have ht := turn_setCells (S := fun g => g = r) rfl (cells9 k2 v2).toList 0 W
  exact ⟨h.pr.keep ht (fun g e => by rw [e]; have := h.nr; have := h.lo; omega) (fun g e => ⟨77, cells9 zeroK 0, by decide, by decide, e ▸ h.res⟩), h.turn.trans ht (fun k hk e => by have := h.nr; omega), h.res.all _ rfl⟩
end

/-- Behind readFact. -/
def FactRead (w : World) (p : Nat) (wr : World) (N : Nat) (s : RS9) (e : Ending) (w' : World) : Prop := e = .returned (.tuple #[fv9 (factR N s).1, .int .i64 ((factR N s).2.1 : Int)]) ∧ PR w p w' (factR N s).2.2 ∧ Turn (fun g => g = p) wr w'

end Go.Proofs.Ytieffpngknglpaa
