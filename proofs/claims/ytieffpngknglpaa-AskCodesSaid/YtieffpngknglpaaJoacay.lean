/-
  Texts laid one behind the other: Ex Zrf.
-/
import Derived.Test.YtieffpngknglpaaJoacan
import Derived.Test.YtieffpngknglpaaJoacaq
import Derived.Test.YtieffpngknglpaaJoacau
import Derived.Test.YtieffpngknglpaaJoacas
import Derived.Laws.ResultCell

/-
  A reader of pack (the program's) by its state: the bytes that are left, the fault. For every stage whose code reads bytes so.
-/
namespace Go.Proofs.Ytieffpngknglpaa
open Go.RowKit

theorem rdF_zero : ∀ (k i acc : Nat) (l : List UInt8), (rdF k i acc l).2.1 ≠ 0 → (rdF k i acc l).1 = 0
  | 0, _, _, _, _ => rfl
  | _ + 1, _, _, [], _ => rfl
  | k + 1, i, acc, b :: l, h => by
    unfold rdF at h ⊢
    split
    · rename_i hb
      rw [if_pos hb] at h
      exact rdF_zero k _ _ l h
    · rename_i hb
      rw [if_neg hb] at h
      split
      · rfl
      · rename_i hc
        rw [if_neg hc] at h
        exact absurd rfl h
theorem rdNum_zero {l : List UInt8} (h : (rdNum l).2.1 ≠ 0) : (rdNum l).1 = 0 := rdF_zero 10 0 0 l h
theorem rdCount_zero {most : Nat} {l : List UInt8} (h : (rdCount most l).2.1 ≠ 0) : (rdCount most l).1 = 0 := by
  unfold rdCount at h ⊢
  split
  · rfl
  · rename_i h1
    split
    · rfl
    · rename_i h2
      rw [if_neg h1, if_neg h2] at h
      exact absurd rfl h
theorem rdText_zero {most : Nat} {l : List UInt8} (h : (rdText most l).2.1 ≠ 0) : (rdText most l).1 = [] := by
  unfold rdText at h ⊢
  generalize rdCount most l = r at *
  obtain ⟨n, f, m⟩ := r
  simp only at h ⊢
  split
  · rfl
  · rename_i h1
    split
    · rfl
    · rename_i h2
      rw [if_neg h1, if_neg h2] at h
      exact absurd rfl h

/-- What is read in a state, and the state behind it. -/
def gNum (s : List UInt8 × Nat) : Nat := if s.2 = 0 then (rdNum s.1).1 else 0
def gNum' (s : List UInt8 × Nat) : List UInt8 × Nat := if s.2 = 0 then (s.1.drop (rdNum s.1).2.2, (rdNum s.1).2.1) else s
def gInt (s : List UInt8 × Nat) : Int := if s.2 = 0 then zag (rdNum s.1).1 else 0
def gText (most : Nat) (s : List UInt8 × Nat) : List UInt8 := if s.2 = 0 then (rdText most s.1).1 else []
def gText' (most : Nat) (s : List UInt8 × Nat) : List UInt8 × Nat := if s.2 = 0 then (s.1.drop (rdText most s.1).2.2, (rdText most s.1).2.1) else s
def gCount (most : Nat) (s : List UInt8 × Nat) : Nat := if s.2 = 0 then (rdCount most s.1).1 else 0
def gCount' (most : Nat) (s : List UInt8 × Nat) : List UInt8 × Nat := if s.2 = 0 then (s.1.drop (rdCount most s.1).2.2, (rdCount most s.1).2.1) else s

/-- The program's reader in a state, new since a world (behind a fault what is left is of no account). -/
def PR (w : World) (p : Nat) (wr : World) (s : List UInt8 × Nat) : Prop :=
  w.heap.size ≤ p ∧ (∃ v l k, Rdr wr p v l k s.2 ∧ (s.2 = 0 → l.drop k = s.1) ∧ ∀ g, v.ownBlock = some g → w.heap.size ≤ g) ∧ Turn (fun _ => False) w wr
section
variable {w wr : World} {p : Nat} {s : List UInt8 × Nat}
theorem PR.turn (h : PR w p wr s) : Turn (fun _ => False) w wr := h.2.2
theorem PR.later {w' : World} (h : PR w p wr s) (ht : Turn (fun _ => False) wr w') : PR w p w' s := by
  obtain ⟨h0, ⟨v, l, k, h1, h2, h3⟩, h4⟩ := h
  exact ⟨h0, ⟨v, l, k, h1.turn ht (fun f => f) (fun _ _ f => f), h2, h3⟩, h4.trans ht (fun _ _ f => f)⟩
theorem PR.box (h : PR w p wr s) : ∃ cs, Box wr p 72 cs := by
  obtain ⟨_, ⟨v, l, k, h1, _⟩, _⟩ := h
  exact ⟨_, h1.1⟩
/-- A reader is kept where boxes of other types turn. -/
theorem PR.keep {S : Nat → Prop} {w' : World} (h : PR w p wr s) (ht : Turn S wr w') (h1 : ∀ g, S g → w.heap.size ≤ g) (h2 : ∀ g, S g → ∃ t cs, t ≠ 72 ∧ t ≠ 5 ∧ Box wr g t cs) : PR w p w' s := by
  obtain ⟨h0, ⟨v, l, k, g1, g2, g3⟩, h4⟩ := h
  refine ⟨h0, ⟨v, l, k, g1.turn ht (fun e => ?_) (fun g hg e => ?_), g2, g3⟩, h4.trans ht (fun g hg e => by have := h1 g e; omega)⟩
  · obtain ⟨t, cs, n1, _, hb⟩ := h2 p e
    have e2 := g1.1.symm.trans hb
    injection e2 with e2
    injection e2 with _ e3
    exact n1 e3.symm
  · obtain ⟨t, cs, _, n2, hb⟩ := h2 g e
    exact g1.2.1.ne_box hb (fun e => n2 e.symm) hg
theorem PR.step {none x : Value} {f1 d : Nat} {v : Value} {l : List UInt8} {k : Nat} {e : Ending} {w' : World} (h0 : w.heap.size ≤ p) (h2 : s.2 = 0 → l.drop k = s.1) (h3 : ∀ g, v.ownBlock = some g → w.heap.size ≤ g) (h4 : Turn (fun _ => False) w wr)
    (hg : Got p v l k s.2 wr none x (k + d) f1 e w') (hx : f1 ≠ 0 → x = none) :
    e = .returned (if s.2 = 0 then x else none) ∧ PR w p w' (if s.2 = 0 then (s.1.drop d, f1) else s) ∧ Turn (fun g => g = p) wr w' := by
  by_cases hs : s.2 = 0
  · rw [if_pos hs, if_pos hs]
    have ht := hg.1 hs
    by_cases hf : f1 = 0
    · obtain ⟨g1, g2⟩ := ht.1 hf
      refine ⟨g1, ⟨h0, ⟨v, l, k + d, ?_, fun _ => ?_, h3⟩, h4.trans g2.2 (fun g hg e => by omega)⟩, g2.2⟩
      · rw [hf]
        exact g2.1
      · show l.drop (k + d) = s.1.drop d
        rw [← h2 hs, List.drop_drop]
    · obtain ⟨g1, g2⟩ := ht.2 hf
      refine ⟨by rw [g1, hx hf], ⟨h0, ⟨v, l, k, g2.1, fun e => absurd e hf, h3⟩, h4.trans g2.2 (fun g hg e => by omega)⟩, g2.2⟩
  · rw [if_neg hs, if_neg hs]
    obtain ⟨g1, g2⟩ := hg.2 hs
    exact ⟨g1, ⟨h0, ⟨v, l, k, g2.1, fun e => absurd e hs, h3⟩, h4.trans g2.2 (fun g hg e => by omega)⟩, g2.2⟩
theorem pr_num (h : PR w p wr s) : Calls Try.prog 30 #[.pointer (some ⟨p, 0, none⟩)] wr fun e w' => e = .returned (.int .u64 (gNum s : Int)) ∧ PR w p w' (gNum' s) ∧ Turn (fun g => g = p) wr w' := by
  obtain ⟨h0, ⟨v, l, k, h1, h2, h3⟩, h4⟩ := h
  refine (rnum p v l k s.2 wr h1).mono fun e w' hg => ?_
  by_cases hs : s.2 = 0
  · rw [h2 hs] at hg
    obtain ⟨g1, g2, g3⟩ := PR.step h0 h2 h3 h4 hg (fun hf => by rw [rdNum_zero hf]; rfl)
    refine ⟨?_, g2, g3⟩
    rw [g1]
    unfold gNum
    rw [if_pos hs, if_pos hs]
  · obtain ⟨g1, g2⟩ := hg.2 hs
    refine ⟨by rw [g1]; unfold gNum; rw [if_neg hs]; rfl, ?_, g2.2⟩
    unfold gNum'
    rw [if_neg hs]
    exact ⟨h0, ⟨v, l, k, g2.1, h2, h3⟩, h4.trans g2.2 (fun g hg e => by omega)⟩
theorem pr_text (most : Nat) (hm : most ≤ 1000000) (h : PR w p wr s) : Calls Try.prog 44 #[.pointer (some ⟨p, 0, none⟩), .int .i64 most] wr fun e w' => e = .returned (.string ⟨(gText most s).toArray⟩) ∧ PR w p w' (gText' most s) ∧ Turn (fun g => g = p) wr w' := by
  obtain ⟨h0, ⟨v, l, k, h1, h2, h3⟩, h4⟩ := h
  refine (rtext p v l k s.2 wr most hm h1).mono fun e w' hg => ?_
  by_cases hs : s.2 = 0
  · rw [h2 hs] at hg
    obtain ⟨g1, g2, g3⟩ := PR.step h0 h2 h3 h4 hg (fun hf => by rw [rdText_zero hf])
    refine ⟨?_, g2, g3⟩
    rw [g1]
    unfold gText
    rw [if_pos hs, if_pos hs]
  · obtain ⟨g1, g2⟩ := hg.2 hs
    refine ⟨by rw [g1]; unfold gText; rw [if_neg hs], ?_, g2.2⟩
    unfold gText'
    rw [if_neg hs]
    exact ⟨h0, ⟨v, l, k, g2.1, h2, h3⟩, h4.trans g2.2 (fun g hg e => by omega)⟩
theorem pr_fault (h : PR w p wr s) : Calls Try.prog 32 #[.pointer (some ⟨p, 0, none⟩)] wr fun e w' => e = .returned (.int .i64 (s.2 : Int)) ∧ wr = w' := by
  obtain ⟨h0, ⟨v, l, k, h1, h2, h3⟩, h4⟩ := h
  exact fault_any p v l k s.2 wr h1
/-- Where nothing is wrong: how many bytes are left. -/
theorem pr_left (h : PR w p wr s) (h0 : s.2 = 0) : Calls Try.prog 33 #[.pointer (some ⟨p, 0, none⟩)] wr fun e w' => e = .returned (.int .i64 (s.1.length : Int)) ∧ ∃ n, w' = wr.drewN n := by
  obtain ⟨_, ⟨v, l, k, h1, h2, h3⟩, h4⟩ := h
  rw [← h2 h0, List.length_drop]
  exact left_any p v l k s.2 wr h1
theorem pr_new (v : Value) (l : List UInt8) (h : Turn (fun _ => False) w wr) (hv : Rd wr v l) (hl : l.length ≤ 1000000) : Calls Try.prog 29 #[v] wr fun e w' => ∃ p, e = .returned (.pointer (some ⟨p, 0, none⟩)) ∧ PR w p w' (l, 0) ∧ wr.heap.size ≤ p :=
  (new_reader v l wr hv hl).mono fun _ _ ⟨p, u, he, h1, h2, h3, h4⟩ => ⟨p, he, ⟨Nat.le_trans h.size h3, ⟨u, l, 0, h1, fun _ => rfl, fun g hg => Nat.le_trans h.size (h4 g hg)⟩, h.trans h2 (fun _ _ f => f)⟩, h3⟩
end

end Go.Proofs.Ytieffpngknglpaa

/-
  Stage 9: the program's readFact.
-/
namespace Go.Proofs.Ytieffpngknglpaa
open Go.RowKit Go.ChangeShapes Go.WideShapes Go.Deep

set_option maxRecDepth 100000

section
variable {w wr : World} {p : Nat} {s : RS9}
theorem ps_num (h : PR w p wr s) : Calls Try.prog 30 #[.pointer (some ⟨p, 0, none⟩)] wr fun e w' => e = .returned (.int .u64 (sNum s : Int)) ∧ PR w p w' (sNum' s) ∧ Turn (fun g => g = p) wr w' := pr_num h
theorem ps_text (h : PR w p wr s) : Calls Try.prog 44 #[.pointer (some ⟨p, 0, none⟩), .int .i64 16] wr fun e w' => e = .returned (.string ⟨(sText s).toArray⟩) ∧ PR w p w' (sText' s) ∧ Turn (fun g => g = p) wr w' := pr_text 16 (by omega) h
end

/-- A fact as the program reads it, what is wrong, and the state behind it. -/
def zeroK : K9 := ⟨0, [], [], [], []⟩
def zeroF : F9 := ⟨zeroK, 0⟩
def factR (N : Nat) (s : RS9) : F9 × Nat × RS9 := if 16777216 < sNum s then (zeroF, 2, sNum' s) else ((oneF N (sNum s) (sNum' s)).1, (oneF N (sNum s) (sNum' s)).2.2, (oneF N (sNum s) (sNum' s)).2)

section
variable {w wr W W2 : World} {p b r : Nat} {x8 : Value} {out : List F9} {k : K9} {v : Int} {s s2 : RS9}
theorem PR.off (h : PR w p W s) {t : TypeId} {cs : Array Value} (hb : Box W b t cs) (hn : t ≠ 72) : b ≠ p := fun e => by
  obtain ⟨cs2, h2⟩ := h.box
  subst e
  have e2 := h2.symm.trans hb
  injection e2 with e2
  injection e2 with _ e3
  exact hn e3.symm
theorem PR.row (h : PR w p W s) (hn : NewE EF 77 w W x8 out) : ∀ k, x8.ownBlock = some k → k ≠ p := fun k hk e => by
  obtain ⟨cs2, h2⟩ := h.box
  exact hn.own.not_box h2 (by decide) (e ▸ hk)
end
structure InQ (w wr : World) (p b r : Nat) (k : K9) (v : Int) (s : RS9) (W : World) : Prop where
  box : Box W b 77 (cells9 k v)
  res : Box W r 77 (cells9 zeroK 0)
  pr : PR w p W s
  turn : Turn (fun g => g = p) wr W
  nb : wr.heap.size ≤ b
  nr : wr.heap.size ≤ r
  ne : r ≠ b
  lo : w.heap.size ≤ wr.heap.size
section
variable {w wr W W2 : World} {p b r : Nat} {k : K9} {v : Int} {s s2 : RS9}
theorem InQ.read (h : InQ w wr p b r k v s W) (hx : PR w p W2 s2) (ht : Turn (fun g => g = p) W W2) : InQ w wr p b r k v s2 W2 :=
  ⟨h.box.turn ht (h.pr.off h.box (by decide)), h.res.turn ht (h.pr.off h.res (by decide)), hx, h.turn.trans ht (fun _ _ e => e), h.nb, h.nr, h.ne, h.lo⟩
theorem InQ.set (h : InQ w wr p b r k v s W) (i : Nat) (u : Value) {k2 : K9} {v2 : Int} (hc : (cells9 k v).setIfInBounds i u = cells9 k2 v2) : InQ w wr p b r k2 v2 s (W.setCell ⟨b, i, none⟩ u) := by
  have ht : Turn (fun g => g = b) W (W.setCell ⟨b, i, none⟩ u) := Turn.setCell (S := fun g => g = b) (p := ⟨b, i, none⟩) (Turn.refl _ W) (fun _ => rfl) u
  refine ⟨?_, h.res.turn ht h.ne, h.pr.keep ht (fun g e => by rw [e]; have := h.nb; have := h.lo; omega) (fun g e => ⟨77, cells9 k v, by decide, by decide, e ▸ h.box⟩), h.turn.trans ht (fun k hk e => by have := h.nb; omega), h.nb, h.nr, h.ne, h.lo⟩
  rw [← hc]
  exact h.box.set i u
/-- The result laid into its cell. -/
theorem InQ.out (h : InQ w wr p b r k v s W) (k2 : K9) (v2 : Int) : PR w p (W.setCells r 0 (cells9 k2 v2).toList) s ∧ Turn (fun g => g = p) wr (W.setCells r 0 (cells9 k2 v2).toList) ∧ Box (W.setCells r 0 (cells9 k2 v2).toList) r 77 (cells9 k2 v2) := by
  have ht := turn_setCells (S := fun g => g = r) rfl (cells9 k2 v2).toList 0 W
  exact ⟨h.pr.keep ht (fun g e => by rw [e]; have := h.nr; have := h.lo; omega) (fun g e => ⟨77, cells9 zeroK 0, by decide, by decide, e ▸ h.res⟩), h.turn.trans ht (fun k hk e => by have := h.nr; omega), h.res.all _ rfl⟩
end

/-- Behind readFact. -/
def FactRead (w : World) (p : Nat) (wr : World) (N : Nat) (s : RS9) (e : Ending) (w' : World) : Prop := e = .returned (.tuple #[fv9 (factR N s).1, .int .i64 ((factR N s).2.1 : Int)]) ∧ PR w p w' (factR N s).2.2 ∧ Turn (fun g => g = p) wr w'

end Go.Proofs.Ytieffpngknglpaa
