
/-
  A slice of numbers that came in, of any kind: its numbers, wherever it lies; its parts. No type is named here.
-/
import Derived.Test.YtieffpngknglpaaOa
import Derived.ProofKit
import Derived.OpenShut
import Derived.WalkMore
import Derived.Deep.Slices
import Derived.Deep.Fields
namespace Go.Proofs.Ytieffpngknglpaa
open Go.RowKit

/-- A slice value, wherever it lies: its numbers are l. -/
def RdN (k : IntKind) (w : World) (v : Value) (l : List Int) : Prop :=
  ∃ A c, v = .slice A l.length c ∧ (l.length ≤ c ∧ c ≤ maxLen) ∧ (A = none → l = [] ∧ c = 0) ∧ ∀ ad, A = some ad → ∀ j x, l[j]? = some x → w.cell? (ad.add j) = some (.int k x)

section
variable {k : IntKind} {w w' : World} {v : Value} {l : List Int}
theorem nadd_block (a : Addr) (n : Nat) : (a.add n).block = a.block := by unfold Addr.add; split <;> rfl
theorem nadd_of_add (a : Addr) (i j : Nat) : (a.add i).add j = a.add (i + j) := by
  unfold Addr.add
  by_cases hi : i = 0 <;> by_cases hj : j = 0 <;> simp [hi, hj, Nat.add_assoc]
theorem RdN.turn {S : Nat → Prop} (h : RdN k w v l) (ht : Turn S w w') (hs : ∀ b, v.ownBlock = some b → ¬ S b) : RdN k w' v l := by
  obtain ⟨A, c, rfl, hk, hn, hc⟩ := h
  refine ⟨A, c, rfl, hk, hn, fun ad e j b hj => ?_⟩
  have h1 := hc ad e j b hj
  have hlt := World.block_lt_of_cell? w _ h1
  rw [ht.cell hlt (by subst e; rw [nadd_block]; exact hs _ rfl)]
  exact h1
theorem RdN.later (h : RdN k w v l) (ht : Turn (fun _ => False) w w') : RdN k w' v l := h.turn ht (fun _ _ f => f)
theorem RdN.shape (h : RdN k w v l) : ∃ A c, v = .slice A l.length c := by
  obtain ⟨A, c, e, _⟩ := h
  exact ⟨A, c, e⟩
theorem RdN.at {A : Option Addr} {n c : Nat} (h : RdN k w (.slice A n c) l) {j : Nat} {x : Int} (hj : l[j]? = some x) : ∃ ad, A = some ad ∧ w.cell? (ad.add j) = some (.int k x) := by
  obtain ⟨A', c', hv, _, hn, hc⟩ := h
  injection hv with h1 h2 h3
  subst h1
  cases A with
  | none =>
    obtain ⟨rfl, _⟩ := hn rfl
    cases hj
  | some ad => exact ⟨ad, rfl, hc ad rfl j x hj⟩
theorem RdN.fits {A : Option Addr} {n c : Nat} (h : RdN k w (.slice A n c) l) : n = l.length ∧ l.length ≤ c ∧ c ≤ maxLen := by
  obtain ⟨A', c', hv, hc, _⟩ := h
  injection hv with h1 h2 h3
  subst h3
  exact ⟨h2, hc⟩
theorem RdN.front {A : Option Addr} {n c : Nat} (h : RdN k w (.slice A n c) l) (m : Nat) (hm : m ≤ n) : RdN k w (.slice A m c) (l.take m) := by
  obtain ⟨A', c', hv, hc, hn, hx⟩ := h
  injection hv with h1 h2 h3
  subst h1 h2 h3
  have e : (l.take m).length = m := by rw [List.length_take]; omega
  refine ⟨A, c, by rw [e], ⟨by omega, hc.2⟩, (fun e => by rw [(hn e).1]; exact ⟨List.take_nil, (hn e).2⟩), fun ad e2 j b hj => ?_⟩
  rw [List.getElem?_take] at hj
  split at hj
  · exact hx ad e2 j b hj
  · cases hj
theorem RdN.back {ad : Addr} {n c : Nat} (h : RdN k w (.slice (some ad) n c) l) (m : Nat) (hm : m ≤ n) : RdN k w (.slice (some (ad.add m)) (n - m) (c - m)) (l.drop m) := by
  obtain ⟨A', c', hv, hc, hn, hx⟩ := h
  injection hv with h1 h2 h3
  subst h1 h2 h3
  refine ⟨some (ad.add m), c - m, by rw [List.length_drop], ⟨by rw [List.length_drop]; omega, by omega⟩, (fun e => by cases e), fun ad' e2 j b hj => ?_⟩
  injection e2 with e2
  subst e2
  rw [List.getElem?_drop] at hj
  rw [nadd_of_add]
  exact hx ad rfl _ b hj
end

section
open Go.ChangeShapes Go.WideShapes Go.Deep
theorem open_nums {P : Program} {H : Type} {enc : TypeId × Value → H} {W : World} {T e : TypeId} {k : IntKind} {v : Value} {d : DataW H} {p : List MemPlace} {a : Option Addr} {len cap : Nat}
    (hT : P.underlying T = some (.slice e)) (he : P.underlying e = some (.int k)) (hC : P.cellsOf e = 1) (hv : v = .slice a len cap) (h : DataW.Trod enc P W 0 (fun _ => true) true T v d p) :
    ∃ l, RdN k W v l ∧ l.length ≤ maxLen ∧ ∀ x ∈ l, (Lit.int k x).wf = true := by
  subst hv
  obtain ⟨fuel, hf⟩ := h
  rcases open_slice hT hf with ⟨hcs, _⟩ | ⟨a', len', cap', m, n, D, Pl, hcs, _, hl, hm, hmm, _, hx⟩
  · simp [Value.cells] at hcs
    obtain ⟨rfl, rfl, rfl⟩ := hcs
    exact ⟨[], ⟨none, 0, rfl, ⟨Nat.le_refl _, Nat.zero_le _⟩, fun _ => ⟨rfl, rfl⟩, fun _ e => by cases e⟩, Nat.zero_le _, fun x hx => by cases hx⟩
  · simp [Value.cells] at hcs
    obtain ⟨rfl, rfl, rfl⟩ := hcs
    have hmm' : m = cap := by simpa using hmm
    subst hmm'
    have key : ∀ i, i < len → ∃ b : Int, W.cell? (a'.add i) = some (.int k b) ∧ (Lit.int k b).wf = true := by
      intro i hi
      obtain ⟨cs, h1, h2⟩ := hx i (by omega)
      rw [hC] at h1
      obtain ⟨_, hlen, hcell⟩ := World.cells?_some h1
      match cs, hlen with
      | [c0], _ =>
        obtain ⟨K, k0, _, kw⟩ := DataW.trod_int he h2
        simp only [List.cons.injEq, and_true] at k0
        subst k0
        have hc := hcell 0 (by omega)
        simp only [Go.Deep.add_add] at hc
        have e2 : i * 1 + 0 = i := by omega
        exact ⟨K, by simpa [e2] using hc, kw⟩
    obtain ⟨V, hV⟩ := choose_lt key
    have hll : ((List.range len).map V).length = len := by simp
    refine ⟨(List.range len).map V, ⟨some a', m, by rw [hll], ⟨by rw [hll]; omega, by omega⟩, (fun e => by cases e), fun ad e j b hj => ?_⟩, by rw [hll]; omega, fun x hx => ?_⟩
    · cases e
      have hjl : j < len := by
        have := (List.getElem?_eq_some_iff.1 hj).1
        simpa using this
      have hb : b = V j := by
        rw [List.getElem?_map, List.getElem?_range hjl] at hj
        exact (Option.some.inj hj).symm
      rw [hb]
      exact (hV j hjl).1
    · obtain ⟨i, hi, rfl⟩ := List.mem_map.1 hx
      exact (hV i (List.mem_range.1 hi)).2
end

end Go.Proofs.Ytieffpngknglpaa
