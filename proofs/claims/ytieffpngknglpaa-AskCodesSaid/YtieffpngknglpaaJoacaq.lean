/-
  Texts laid one behind the other: Zl Zm.
-/
import Derived.Test.YtieffpngknglpaaJoacak
import Derived.Test.YtieffpngknglpaaJoacam
import Derived.Test.YtieffpngknglpaaJoacap
import Derived.Test.YtieffpngknglpaaJoacad

/-
  Stage 9: the document's reader, by its state; its Count.
-/
namespace Go.Proofs.Ytieffpngknglpaa
open Go.RowKit

set_option maxRecDepth 100000

theorem rdF_bad : ∀ (k i acc : Nat) (l : List UInt8), (rdF k i acc l).2.1 ≠ 0 → (rdF k i acc l).1 = 0
  | 0, _, _, _, _ => rfl
  | _ + 1, _, _, [], _ => rfl
  | k + 1, i, acc, b :: l, h => by
    unfold rdF at h ⊢
    split
    · rename_i hb
      rw [if_pos hb] at h
      exact rdF_bad k _ _ l h
    · rename_i hb
      rw [if_neg hb] at h
      split
      · rfl
      · rename_i hc
        rw [if_neg hc] at h
        exact absurd rfl h
theorem rdNum_bad {l : List UInt8} (h : (rdNum l).2.1 ≠ 0) : (rdNum l).1 = 0 := rdF_bad 10 0 0 l h

/-- A reader's state: the bytes that are left, the fault. -/
abbrev RS9 := List UInt8 × Nat
/-- The document's reader in that state. -/
def XS (w : World) (q B : Nat) (s : RS9) : Prop := ∃ A c, XRd w q B A c s.1 s.2
def sNum (s : RS9) : Nat := if s.2 = 0 then (rdNum s.1).1 else 0
def sNum' (s : RS9) : RS9 := if s.2 = 0 then (s.1.drop (rdNum s.1).2.2, (rdNum s.1).2.1) else s
def sInt (s : RS9) : Int := if s.2 = 0 then zag (rdNum s.1).1 else 0
def sText (s : RS9) : List UInt8 := if s.2 = 0 then (rdText 16 s.1).1 else []
def sText' (s : RS9) : RS9 := if s.2 = 0 then (s.1.drop (rdText 16 s.1).2.2, (rdText 16 s.1).2.1) else s
def sCount (s : RS9) : Nat := if s.2 = 0 then (rdCount 50 s.1).1 else 0
def sCount' (s : RS9) : RS9 := if s.2 = 0 then (s.1.drop (rdCount 50 s.1).2.2, (rdCount 50 s.1).2.1) else s
theorem xs_of {q B : Nat} {s : RS9} {w w' : World} {none val : Value} {t : List UInt8} {f1 : Nat} {e : Ending} (h : XPost q B s.1 s.2 w none val t f1 e w') :
    e = .returned (if s.2 = 0 then val else none) ∧ XS w' q B (if s.2 = 0 then (t, f1) else s) ∧ Turn (fun g => g = q) w w' := by
  by_cases hf : s.2 = 0
  · obtain ⟨h1, h2⟩ := h.1 hf
    rw [if_pos hf, if_pos hf]
    exact ⟨h1, h2.1, h2.2⟩
  · obtain ⟨h1, h2⟩ := h.2 hf
    rw [if_neg hf, if_neg hf]
    exact ⟨h1, h2.1, h2.2⟩
section
variable {q B : Nat} {s : RS9} {w : World}
theorem XS.turn {S : Nat → Prop} {w' : World} (h : XS w q B s) (ht : Turn S w w') (h1 : ¬ S q) (h2 : ¬ S B) : XS w' q B s := by
  obtain ⟨A, c, g1, g2, g3, g4, g5⟩ := h
  exact ⟨A, c, g1.turn ht h1, g2.turn ht (fun b hb e => h2 (g3.1 b hb ▸ e)), g3, g4, g5⟩
theorem XS.later {w' : World} (h : XS w q B s) (ht : Turn (fun _ => False) w w') : XS w' q B s := h.turn ht (fun f => f) (fun f => f)
theorem xs_num (h : XS w q B s) : Calls Try.prog 34 #[.pointer (some ⟨q, 0, none⟩)] w fun e w' => e = .returned (.int .u64 (sNum s : Int)) ∧ XS w' q B (sNum' s) ∧ Turn (fun g => g = q) w w' := by
  obtain ⟨A, c, h⟩ := h
  refine (xnum q B A c s.1 s.2 w h).mono fun e w' hx => ?_
  obtain ⟨h1, h2, h3⟩ := xs_of hx
  refine ⟨?_, h2, h3⟩
  rw [h1]
  unfold sNum
  split <;> rfl
theorem xs_text (h : XS w q B s) : Calls Try.prog 36 #[.pointer (some ⟨q, 0, none⟩), .int .i64 16] w fun e w' => e = .returned (.string ⟨(sText s).toArray⟩) ∧ XS w' q B (sText' s) ∧ Turn (fun g => g = q) w w' := by
  obtain ⟨A, c, h⟩ := h
  refine (xtext q B A c s.1 s.2 16 (by omega) w h).mono fun e w' hx => ?_
  obtain ⟨h1, h2, h3⟩ := xs_of hx
  refine ⟨?_, h2, h3⟩
  rw [h1]
  unfold sText
  split <;> rfl
theorem XS.fault (h : XS w q B s) : w.cell? ⟨q, 1, none⟩ = some (.int .i64 (s.2 : Int)) := by
  obtain ⟨A, c, h⟩ := h
  exact h.1.cell 1
theorem XS.left (h : XS w q B s) : ∃ A c, w.cell? ⟨q, 0, none⟩ = some (.slice A s.1.length c) := by
  obtain ⟨A, c, h⟩ := h
  exact ⟨A, c, h.1.cell 0⟩
theorem XS.new {A : Option Addr} {n c : Nat} {l : List UInt8} (h : Rd w (.slice A n c) l) (hB : ∀ g, (Value.slice A n c).ownBlock = some g → g < w.heap.size) :
    ∃ B, (l ≠ [] → B < w.heap.size) ∧ XS (w.alloc (.cells #[.slice A n c, .int .i64 0] 64)) w.heap.size B (l, 0) := by
  obtain ⟨e1, h2, h3⟩ := h.fits
  subst e1
  refine ⟨((Value.slice A l.length c).ownBlock).getD (w.heap.size + 1), fun hl => ?_, A, c, Box.new w _ _, h.later ((Turn.refl _ w).alloc _), ⟨fun g hg => by rw [hg]; rfl, ?_⟩, h2, h3⟩
  · cases hA : (Value.slice A l.length c).ownBlock with
    | none =>
      have hA' : A = none := by
        cases A with
        | none => rfl
        | some a => simp [Value.ownBlock] at hA
      subst hA'
      obtain ⟨ad, e⟩ := h.some_at (List.length_pos_iff.2 hl)
      cases e
    | some g => exact hB g hA
  · cases hA : (Value.slice A l.length c).ownBlock with
    | none => show w.heap.size + 1 ≠ w.heap.size; omega
    | some g => have := hB g hA; show g ≠ _; omega
end

end Go.Proofs.Ytieffpngknglpaa

/-
  Stage 9: the document's Read.
-/
namespace Go.Proofs.Ytieffpngknglpaa
open Go.RowKit

set_option maxRecDepth 100000

/-- The texts that are read into a key; a fact; all facts. -/
def textsK (k0 : K9) (s : RS9) : Nat → K9 × RS9
  | 0 => (k0, s)
  | i + 1 => ((textsK k0 s i).1.put i (sText (textsK k0 s i).2), sText' (textsK k0 s i).2)
def oneF (n h : Nat) (s : RS9) : F9 × RS9 := (⟨(textsK ⟨h, [], [], [], []⟩ s n).1, sInt (textsK ⟨h, [], [], [], []⟩ s n).2⟩, sNum' (textsK ⟨h, [], [], [], []⟩ s n).2)
def readR (n : Nat) : Nat → RS9 → List F9 → Int × List F9
  | 0, s, out => if s.2 ≠ 0 then ((s.2 : Int), []) else if 0 < s.1.length then (4, []) else if (allB out n).1 ≠ 0 then ((allB out n).1, []) else (0, out)
  | i + 1, s, out => if 16777216 < sNum s then (2, []) else if (oneF n (sNum s) (sNum' s)).2.2 ≠ 0 then (((oneF n (sNum s) (sNum' s)).2.2 : Int), []) else readR n i (oneF n (sNum s) (sNum' s)).2 (out ++ [(oneF n (sNum s) (sNum' s)).1])
def readB (m : List UInt8) (n : Int) : Int × List F9 := if okDims n then readR n.toNat (sCount (m, 0)) (sCount' (m, 0)) [] else (1, [])
/-- Behind Read: the facts, or none. -/
def Readed (w : World) (m : List UInt8) (n : Int) (e : Ending) (w' : World) : Prop := ∃ v, e = .returned (.tuple #[v, .int .i64 (readB m n).1]) ∧ RdE EF w' v (readB m n).2 ∧ Turn (fun _ => False) w w'

/-- A fact's cells, in the block that a round has made. -/
abbrev cells9 (k : K9) (v : Int) : Array Value := #[.int .i64 k.h, sv9 k.a, sv9 k.b, sv9 k.c, sv9 k.d, .int .i64 v]
structure In9 (w : World) (q B b : Nat) (x8 : Value) (out : List F9) (k : K9) (v : Int) (s : RS9) (W : World) : Prop where
  box : Box W b 77 (cells9 k v)
  xs : XS W q B s
  new : NewE EF 77 w W x8 out
  ob : ∀ k, x8.ownBlock = some k → k ≠ b ∧ k ≠ q
  lo : w.heap.size ≤ q ∧ w.heap.size ≤ b ∧ b ≠ q
  hB : B < w.heap.size
section
variable {w W W2 : World} {q B b : Nat} {x8 : Value} {out : List F9} {k : K9} {v : Int} {s s2 : RS9}
theorem new_over {S : Nat → Prop} (h : NewE EF 77 w W x8 out) (ht : Turn S W W2) (h1 : ∀ k, x8.ownBlock = some k → ¬ S k) (h2 : ∀ k, S k → w.heap.size ≤ k) : NewE EF 77 w W2 x8 out :=
  ⟨h.own.turn ht h1, h.new, h.turn.trans ht (fun k hk e => by have := h2 k e; omega)⟩
theorem In9.read (h : In9 w q B b x8 out k v s W) (hx : XS W2 q B s2) (ht : Turn (fun g => g = q) W W2) : In9 w q B b x8 out k v s2 W2 :=
  ⟨h.box.turn ht h.lo.2.2, hx, new_over h.new ht (fun k hk e => (h.ob k hk).2 e) (fun k e => by have := h.lo.1; omega), h.ob, h.lo, h.hB⟩
theorem In9.set (h : In9 w q B b x8 out k v s W) (i : Nat) (u : Value) {k2 : K9} {v2 : Int} (hc : (cells9 k v).setIfInBounds i u = cells9 k2 v2) : In9 w q B b x8 out k2 v2 s (W.setCell ⟨b, i, none⟩ u) := by
  have ht : Turn (fun g => g = b) W (W.setCell ⟨b, i, none⟩ u) := Turn.setCell (S := fun g => g = b) (p := ⟨b, i, none⟩) (Turn.refl _ W) (fun _ => rfl) u
  refine ⟨?_, h.xs.turn ht (fun e => h.lo.2.2 e.symm) (fun e => by have := h.lo.2.1; have := h.hB; omega), new_over h.new ht (fun k hk e => (h.ob k hk).1 e) (fun k e => by have := h.lo.2.1; omega), h.ob, h.lo, h.hB⟩
  rw [← hc]
  exact h.box.set i u
theorem put_cells9 (k : K9) (v : Int) {i : Nat} (hi : i < 4) (t : List UInt8) : (cells9 k v).setIfInBounds (1 + i) (sv9 t) = cells9 (k.put i t) v := by
  match i, hi with
  | 0, _ => rfl
  | 1, _ => rfl
  | 2, _ => rfl
  | 3, _ => rfl
end

end Go.Proofs.Ytieffpngknglpaa
