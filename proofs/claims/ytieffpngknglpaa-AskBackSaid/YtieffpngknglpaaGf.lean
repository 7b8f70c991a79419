
/-
  A slice of elements of any size that came in. No type is named here.
-/
import Derived.Test.YtieffpngknglpaaGa
import Derived.ProofKit
import Derived.OpenShut
import Derived.Deep.Slices
import Derived.Deep.Fields
import Derived.Deep.Strs
namespace Go.Proofs.Ytieffpngknglpaa
open Go.RowKit Go.ChangeShapes Go.WideShapes Go.Deep

theorem open_elems {P : Program} {H X : Type} [Inhabited X] {enc : TypeId × Value → H} {W : World} {T e : TypeId} (E : El X) (ok : X → Prop) {v : Value} {d : DataW H} {p : List MemPlace} {a : Option Addr} {len cap : Nat}
    (hT : P.underlying T = some (.slice e)) (hC : P.cellsOf e = E.sz) (hv : v = .slice a len cap) (h : DataW.Trod enc P W 0 (fun _ => true) true T v d p)
    (one : ∀ (n : Nat) (cs : List Value) (y : DataW H × List MemPlace), cs.length = E.sz → DataW.trod enc P W 0 (fun _ => true) true n e cs = some y → ∃ x, cs = E.enc x ∧ ok x) :
    ∃ l : List X, RdE E W v l ∧ l.length ≤ maxLen ∧ ∀ x ∈ l, ok x := by
  subst hv
  obtain ⟨fuel, hf⟩ := h
  rcases open_slice hT hf with ⟨hcs, _⟩ | ⟨a', len', cap', m, n, D, Pl, hcs, _, hl, hm, hmm, _, hx⟩
  · simp [Value.cells] at hcs
    obtain ⟨rfl, rfl, rfl⟩ := hcs
    exact ⟨[], RdE.nil W, Nat.zero_le _, fun x hx => by cases hx⟩
  · simp [Value.cells] at hcs
    obtain ⟨rfl, rfl, rfl⟩ := hcs
    have hmm' : m = cap := by simpa using hmm
    subst hmm'
    have key : ∀ i, i < len → ∃ x : X, (∀ j u, (E.enc x)[j]? = some u → W.cell? (a'.add (i * E.sz + j)) = some u) ∧ ok x := by
      intro i hi
      obtain ⟨cs, h1, h2⟩ := hx i (by omega)
      rw [hC] at h1
      obtain ⟨_, hlen, hcell⟩ := World.cells?_some h1
      obtain ⟨x, rfl, hok⟩ := one _ _ _ hlen h2
      refine ⟨x, fun j u hj => ?_, hok⟩
      have hjl : j < E.sz := by
        have := (List.getElem?_eq_some_iff.1 hj).1
        rwa [E.len] at this
      have hc := hcell j hjl
      rw [eadd_add] at hc
      rw [hc]
      exact hj
    obtain ⟨V, hV⟩ := choose_lt key
    have hll : ((List.range len).map V).length = len := by simp
    refine ⟨(List.range len).map V, ⟨some a', m, by rw [hll], ⟨by rw [hll]; omega, by omega⟩, (fun e => by cases e), fun ad e i u hi => ?_⟩, by rw [hll]; omega, fun x hx => ?_⟩
    · cases e
      have hil : i < len * E.sz := by
        have := (List.getElem?_eq_some_iff.1 hi).1
        rwa [E.flat_len, hll] at this
      have hs : 0 < E.sz := by
        rcases Nat.eq_zero_or_pos E.sz with c | c
        · rw [c] at hil; simp at hil
        · exact c
      have hq : i / E.sz < len := (Nat.div_lt_iff_lt_mul hs).2 hil
      have hr : i % E.sz < E.sz := Nat.mod_lt _ hs
      have hi2 : i = i / E.sz * E.sz + i % E.sz := by rw [Nat.mul_comm]; exact (Nat.div_add_mod i E.sz).symm
      have hVi : ((List.range len).map V)[i / E.sz]? = some (V (i / E.sz)) := by rw [List.getElem?_map, List.getElem?_range hq]; rfl
      rw [hi2, E.flat_at hVi hr] at hi
      have := (hV _ hq).1 _ _ hi
      rw [← hi2] at this
      exact this
    · obtain ⟨i, hi, rfl⟩ := List.mem_map.1 hx
      exact (hV i (List.mem_range.1 hi)).2

end Go.Proofs.Ytieffpngknglpaa
