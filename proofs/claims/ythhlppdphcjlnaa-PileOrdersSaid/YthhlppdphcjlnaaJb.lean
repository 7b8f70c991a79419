
/-
  Heaps in lists, plain: two that change places, the first in order, one put behind all, the last put first. No type is named here.
-/
import Derived.Test.YthhlppdphcjlnaaJa
namespace Go.Proofs.Ythhlppdphcjlnaa
open Go.RowKit

section
variable {A : Type} {lt : A → A → Bool}
/-- A list as places. -/
def at0 (d : A) (H : List A) : Nat → A := fun k => H.getD k d
theorem at0_some {d : A} {H : List A} {k : Nat} {x : A} (h : H[k]? = some x) : at0 d H k = x := by unfold at0; rw [List.getD_eq_getElem?_getD, h]; rfl
/-- A list in which two have changed places. -/
def swapL (d : A) (H : List A) (i j : Nat) : List A := (H.set i (at0 d H j)).set j (at0 d H i)
theorem swapL_len (d : A) (H : List A) (i j : Nat) : (swapL d H i j).length = H.length := by unfold swapL; simp
theorem swapL_at {d : A} {H : List A} {i j : Nat} (hi : i < H.length) (hj : j < H.length) : at0 d (swapL d H i j) = swapF (at0 d H) i j := by
  funext k
  unfold swapL swapF
  show List.getD _ k d = _
  rw [List.getD_eq_getElem?_getD, List.getElem?_set, List.getElem?_set]
  by_cases e1 : j = k
  · subst e1
    rw [if_pos rfl, if_pos (by simpa using hj)]
    by_cases e2 : j = i
    · subst e2; simp
    · rw [if_neg e2, if_pos rfl]; rfl
  · rw [if_neg e1]
    by_cases e2 : i = k
    · subst e2
      rw [if_pos rfl, if_pos hi, if_pos rfl]; rfl
    · rw [if_neg e2, if_neg (fun e => e2 e.symm), if_neg (fun e => e1 e.symm)]
      unfold at0
      rw [List.getD_eq_getElem?_getD]
theorem swapL_perm {d : A} {H : List A} {i j : Nat} (hi : i < H.length) (hj : j < H.length) : (swapL d H i j).Perm H := by
  have e1 : at0 d H i = H[i] := at0_some (List.getElem?_eq_getElem hi)
  have e2 : at0 d H j = H[j] := at0_some (List.getElem?_eq_getElem hj)
  unfold swapL
  rw [e1, e2]
  exact List.set_set_perm hi hj

/-- The list H is a heap of numbered things, which are S in order. -/
structure Rep (lt : A → A → Bool) (d : A × Nat) (H S : List (A × Nat)) : Prop where
  heap : Heap (bef lt) (at0 d H) H.length
  perm : H.Perm S
  srt : Srt (bef lt) S
  nums : S.Pairwise (fun p q => p.2 ≠ q.2)
theorem Rep.len {d : A × Nat} {H S : List (A × Nat)} (h : Rep lt d H S) : H.length = S.length := h.perm.length_eq
theorem rep_nil (d : A × Nat) : Rep lt d [] [] := ⟨fun j _ h => absurd h (Nat.not_lt_zero j), List.Perm.refl _, List.Pairwise.nil, List.Pairwise.nil⟩
theorem Rep.first (hw : Weak lt) {d s : A × Nat} {H T : List (A × Nat)} (h : Rep lt d H (s :: T)) : H[0]? = some s := by
  have hl := h.len
  have h0 : 0 < H.length := by rw [hl]; simp
  obtain ⟨r, hr⟩ : ∃ r, H[0]? = some r := ⟨_, List.getElem?_eq_getElem h0⟩
  rw [hr]
  have hmem : r ∈ s :: T := h.perm.mem_iff.1 (List.mem_of_getElem? hr)
  rcases List.mem_cons.1 hmem with e | e
  · rw [e]
  · exfalso
    have h1 : bef lt r s = false := (List.pairwise_cons.1 h.srt).1 r e
    have h2 : s.2 ≠ r.2 := (List.pairwise_cons.1 h.nums).1 r e
    have h3 := bef_tot (lt := lt) (fun e => h2 e.symm) h1
    obtain ⟨j, hj, ej⟩ := List.mem_iff_getElem.1 (h.perm.mem_iff.2 (show s ∈ s :: T by simp))
    have h4 := heap_min (weak_bef hw) h.heap j hj
    rw [at0_some (List.getElem?_eq_getElem hj), ej, at0_some hr, h3] at h4
    cases h4
/-- One more, put behind all: it may have to go up. -/
theorem push_up {d x : A} {H : List A} (h : Heap lt (at0 d H) H.length) : UpX lt (at0 d (H ++ [x])) (H ++ [x]).length H.length := by
  have key : ∀ k, k < H.length → at0 d (H ++ [x]) k = at0 d H k := fun k hk => by
    unfold at0
    rw [List.getD_eq_getElem?_getD, List.getD_eq_getElem?_getD, List.getElem?_append_left hk]
  refine ⟨by simp, fun j h1 h2 h3 => ?_, fun _ j h1 h2 h3 => ?_⟩
  · rw [List.length_append] at h2
    simp at h2
    rw [key j (by omega), key _ (by omega)]
    exact h j h1 (by omega)
  · rw [List.length_append] at h2
    simp at h2
    omega
/-- What a push comes to, of things whose numbers are all less. -/
theorem push_order (hw : Weak lt) {S : List (A × Nat)} {x : A} {n : Nat} (hs : Srt (bef lt) S) (hn : S.Pairwise (fun p q => p.2 ≠ q.2)) (hl : ∀ p ∈ S, p.2 < n) :
    Srt (bef lt) (insS (bef lt) (x, n) S) ∧ (insS (bef lt) (x, n) S).Pairwise (fun p q => p.2 ≠ q.2) ∧ (insS (bef lt) (x, n) S).map (·.1) = insS lt x (S.map (·.1)) ∧ ∀ p ∈ insS (bef lt) (x, n) S, p.2 < n + 1 := by
  refine ⟨ins_srt (weak_bef hw) _ hs, ?_, ins_last (fun p hp => Nat.le_of_lt (hl p hp)), fun p hp => ?_⟩
  · refine ((insS_perm (lt := bef lt) (x, n) S).pairwise_iff (fun {a b} h e => h e.symm)).2 (List.pairwise_cons.2 ⟨fun p hp e => ?_, hn⟩)
    have := hl p hp
    have e : n = p.2 := e
    omega
  · rcases List.mem_cons.1 ((insS_perm (x, n) S).mem_iff.1 hp) with e | e
    · rw [e]; exact Nat.lt_succ_self n
    · exact Nat.lt_succ_of_lt (hl p e)
/-- The first goes, and the last is put in its place: it may have to go down. -/
theorem pop_down {d z : A} {H : List A} {r : A} {T : List A} (hH : H = r :: T ++ [z]) (h : Heap lt (at0 d H) H.length) : DownX lt (at0 d (z :: T)) (z :: T).length 0 ∧ (z :: T).Perm (T ++ [z]) := by
  refine ⟨⟨fun j h1 h2 h3 => ?_, fun h0 => absurd h0 (Nat.lt_irrefl 0)⟩, (List.perm_append_singleton z T).symm⟩
  have hlen : H.length = (z :: T).length + 1 := by rw [hH]; simp
  have key : ∀ k, 0 < k → k < (z :: T).length → at0 d (z :: T) k = at0 d H k := fun k hk hk2 => by
    obtain ⟨m, rfl⟩ : ∃ m, k = m + 1 := ⟨k - 1, by omega⟩
    unfold at0
    rw [List.getD_eq_getElem?_getD, List.getD_eq_getElem?_getD, hH, List.cons_append, List.getElem?_cons_succ, List.getElem?_cons_succ, List.getElem?_append_left (by simp at hk2; omega)]
  rw [key j h1 h2, key _ (by omega) (by omega)]
  exact h j h1 (by omega)
end

end Go.Proofs.Ythhlppdphcjlnaa
