
/-
  Stage 9: the document's Encode.
-/
import Derived.Test.YtieffpngknglpaaZe
import Derived.Test.YtieffpngknglpaaOe
namespace Go.Proofs.Ytieffpngknglpaa
open Go.RowKit

set_option maxRecDepth 100000

theorem made_behind9 {a b c : World} {v : Value} {l : List UInt8} (h : Turn (fun _ => False) a b) (g : Made b c v l) : Made a c v l :=
  ⟨g.1, h.trans g.2.1 (fun _ _ f => f), fun k hk => Nat.le_trans h.size (g.2.2 k hk)⟩
/-- Bytes put behind bytes of one's own. -/
theorem made_more9 {w wr w2 w3 : World} {A A3 : Option Addr} {n c n3 c3 : Nat} {acc m : List UInt8} (h : Made w wr (.slice A n c) acc) (ht : Turn (fun _ => False) wr w2) (hb : By w3 (.slice A3 n3 c3) (acc ++ m))
    (hg : w2.grownBy w3 (Value.slice A n c).ownBlock) (ha : (Value.slice A3 n3 c3).ownBlock = (Value.slice A n c).ownBlock ∨ (Value.slice A3 n3 c3).ownBlock = some w2.heap.size) : Made w w3 (.slice A3 n3 c3) (acc ++ m) := made_app h ht hb hg ha rfl
/-- A fact's bytes; a batch's. -/
def textB (t : List UInt8) : List UInt8 := enc t.length ++ t
def textsB (k : K9) : Nat → List UInt8
  | 0 => []
  | i + 1 => textsB k i ++ textB (k.dim i)
def factB (n : Nat) (f : F9) : List UInt8 := enc f.k.h.toNat ++ textsB f.k n ++ enc (zig f.v)
def batchB (l : List F9) (n : Nat) : List UInt8 := enc l.length ++ l.flatMap (factB n)
/-- A fact that is right. -/
structure Good9 (f : F9) : Prop where
  h0 : 0 ≤ f.k.h
  h1 : f.k.h ≤ 16777216
  v0 : -1152921504606846976 ≤ f.v
  v1 : f.v ≤ 1152921504606846976
  t : ∀ i, i < 4 → (f.k.dim i).length ≤ 16
theorem good_chk {f : F9} {n : Int} (h : chkF f n = 0) : Good9 f := by
  unfold chkF at h
  split at h
  · split at h
    · rename_i hr
      split at h
      · rename_i ht
        refine ⟨hr.1, hr.2.1, hr.2.2.2, hr.2.2.1, fun i hi => ?_⟩
        simp only [okTexts, okText, Bool.and_eq_true, decide_eq_true_iff] at ht
        match i, hi with
        | 0, _ => exact ht.1.1.1.1
        | 1, _ => exact ht.1.1.2.1
        | 2, _ => exact ht.1.2.1
        | 3, _ => exact ht.2.1
      · cases h
    · cases h
  · cases h
theorem bad_none {n : Int} : ∀ {l : List F9} {i : Nat}, (badAt n l i).1 = 0 → ∀ f ∈ l, chkF f n = 0
  | [], _, _, f, hf => by cases hf
  | g :: t, i, h, f, hf => by
    unfold badAt at h
    split at h
    · rename_i hg
      rcases List.mem_cons.1 hf with rfl | hf
      · exact hg
      · exact bad_none h f hf
    · rename_i hg
      exact absurd h hg
theorem bad_fst {n : Int} : ∀ {l : List F9} {i : Nat}, (badAt n l i).1 = 0 → badAt n l i = (0, 0)
  | [], _, _ => rfl
  | g :: t, i, h => by
    unfold badAt at h ⊢
    split
    · rename_i hg
      rw [if_pos hg] at h
      exact bad_fst h
    · rename_i hg
      rw [if_neg hg] at h
      exact absurd h hg
theorem all_good {l : List F9} {n : Int} (h : (allB l n).1 = 0) : (1 ≤ n ∧ n ≤ 4) ∧ (1 ≤ l.length ∧ l.length ≤ 50) ∧ (∀ f ∈ l, chkF f n = 0) ∧ allB l n = (0, 0) := by
  unfold allB at h ⊢
  split
  · rename_i hc
    rw [if_pos hc] at h
    obtain ⟨h1, h2, h3⟩ := hc
    unfold okDims at h1
    simp only [Bool.and_eq_true, decide_eq_true_iff] at h1
    exact ⟨h1, ⟨h2, h3⟩, bad_none h, bad_fst h⟩
  · rename_i hc
    rw [if_neg hc] at h
    cases h
theorem texts_len (f : F9) (hg : Good9 f) : ∀ k, k ≤ 4 → (textsB f.k k).length ≤ 26 * k
  | 0, _ => Nat.zero_le _
  | k + 1, hk => by
    have ih := texts_len f hg k (by omega)
    have h1 := hg.t k (by omega)
    have h2 := enc_len (f.k.dim k).length
    show (textsB f.k k ++ (enc (f.k.dim k).length ++ f.k.dim k)).length ≤ _
    rw [List.length_append, List.length_append]
    omega
theorem fact_len {f : F9} (hg : Good9 f) {n : Nat} (hn : n ≤ 4) : (factB n f).length ≤ 200 := by
  have h1 := texts_len f hg n hn
  have h2 := enc_len f.k.h.toNat
  have h3 := enc_len (zig f.v)
  unfold factB
  rw [List.length_append, List.length_append]
  omega
/-- What was laid of a batch. -/
def partB (l : List F9) (n i : Nat) : List UInt8 := enc l.length ++ (l.take i).flatMap (factB n)
theorem partB_step {l : List F9} {n i : Nat} {f : F9} (h : l[i]? = some f) : partB l n (i + 1) = partB l n i ++ factB n f := by
  obtain ⟨h0, e⟩ := List.getElem?_eq_some_iff.1 h
  unfold partB
  rw [List.take_succ_eq_append_getElem h0, e, List.flatMap_append, List.append_assoc]
  simp
theorem partB_len {l : List F9} {n : Nat} (hn : n ≤ 4) (hg : ∀ f ∈ l, Good9 f) : ∀ i, (partB l n i).length ≤ 10 + 200 * i
  | 0 => by
    unfold partB
    have := enc_len l.length
    simp
    omega
  | i + 1 => by
    have ih := partB_len hn hg i
    cases h : l[i]? with
    | none =>
      have e : partB l n (i + 1) = partB l n i := by
        unfold partB
        have := List.getElem?_eq_none_iff.1 h
        rw [List.take_of_length_le (by omega), List.take_of_length_le (by omega)]
      rw [e]
      omega
    | some f =>
      rw [partB_step h, List.length_append]
      have := fact_len (hg f (List.mem_of_getElem? h)) hn
      omega
theorem partB_all (l : List F9) (n : Nat) : partB l n l.length = batchB l n := by unfold partB batchB; rw [List.take_length]
/-- Behind Encode: the bytes, or none. -/
def Encd (w : World) (l : List F9) (n : Int) (e : Ending) (w' : World) : Prop :=
  ∃ v, e = .returned (.tuple #[v, .int .i64 (allB l n).1]) ∧ Made w w' v (if (allB l n).1 = 0 then batchB l n.toNat else [])

end Go.Proofs.Ytieffpngknglpaa
