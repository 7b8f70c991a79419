
/-
  A slice of slices of bytes that came in, opened.
-/
import Derived.Test.YtjhgbbmghgeeoaaFb
namespace Go.Proofs.Ytjhgbbmghgeeoaa
open Go.RowKit

section
open Go.ChangeShapes Go.WideShapes Go.Deep
theorem open_bytes_at {H : Type} {enc : TypeId × Value → H} {W : World} {fuel : Nat} {cs : List Value} {x : DataW H × List MemPlace}
    (hf : DataW.trod enc Try.prog W 0 (fun _ => true) true fuel 22 cs = some x) : ∃ v l, cs = [v] ∧ Rd W v l ∧ l.length ≤ maxLen := by
  rcases open_slice Try.underlying22 hf with ⟨hcs, _⟩ | ⟨a', len, cap, m, n, D, Pl, hcs, _, hl, hm, hmm, _, hx⟩
  · exact ⟨_, [], hcs, Rd.none W, Nat.zero_le _⟩
  · have hC : Try.prog.cellsOf 5 = 1 := by kernel_rfl
    have hmm' : m = cap := by simpa using hmm
    subst hmm'
    have key : ∀ i, i < len → ∃ b : UInt8, W.cell? (a'.add i) = some (bv b) := by
      intro i hi
      obtain ⟨cs, h1, h2⟩ := hx i (by omega)
      rw [hC] at h1
      obtain ⟨_, hlen, hcell⟩ := World.cells?_some h1
      match cs, hlen with
      | [c0], _ =>
        obtain ⟨K, k0, _, kw⟩ := DataW.trod_int Try.underlying5 h2
        simp only [List.cons.injEq, and_true] at k0
        subst k0
        have hK : 0 ≤ K ∧ K ≤ 255 := by simpa [Lit.wf, IntKind.min, IntKind.max, IntKind.signed, IntKind.bits] using kw
        have hc := hcell 0 (by omega)
        simp only [Go.Deep.add_add] at hc
        refine ⟨UInt8.ofNat K.toNat, ?_⟩
        have e : bv (UInt8.ofNat K.toNat) = .int .u8 K := by
          unfold bv
          rw [UInt8.toNat_ofNat', Nat.mod_eq_of_lt (by omega), Int.toNat_of_nonneg hK.1]
        rw [e]
        have e2 : i * 1 + 0 = i := by omega
        simpa [e2] using hc
    obtain ⟨V, hV⟩ := choose_lt key
    have hll : ((List.range len).map V).length = len := by simp
    refine ⟨_, (List.range len).map V, hcs, ⟨some a', m, by rw [hll], ⟨by rw [hll]; omega, by omega⟩, (fun e => by cases e), fun ad e j b hj => ?_⟩, by rw [hll]; omega⟩
    cases e
    have hjl : j < len := by
      have := (List.getElem?_eq_some_iff.1 hj).1
      simpa using this
    have hb : b = V j := by
      rw [List.getElem?_map, List.getElem?_range hjl] at hj
      exact (Option.some.inj hj).symm
    rw [hb]
    exact hV j hjl

theorem open_rows {H : Type} {enc : TypeId × Value → H} {W : World} {v : Value} {d : DataW H} {p : List MemPlace} {a : Option Addr} {len cap : Nat} (hv : v = .slice a len cap)
    (h : DataW.Trod enc Try.prog W 0 (fun _ => true) true 25 v d p) : ∃ L, Rds W v L ∧ L.length ≤ maxLen ∧ ∀ l ∈ L, l.length ≤ maxLen := by
  subst hv
  obtain ⟨fuel, hf⟩ := h
  rcases open_slice Try.underlying25 hf with ⟨hcs, _⟩ | ⟨a', len', cap', m, n, D, Pl, hcs, _, hl, hm, hmm, _, hx⟩
  · simp [Value.cells] at hcs
    obtain ⟨rfl, rfl, rfl⟩ := hcs
    exact ⟨[], ⟨none, 0, rfl, ⟨Nat.le_refl _, Nat.zero_le _⟩, fun j l h => by simp at h⟩, Nat.zero_le _, fun l h => by cases h⟩
  · simp [Value.cells] at hcs
    obtain ⟨rfl, rfl, rfl⟩ := hcs
    have hC : Try.prog.cellsOf 22 = 1 := by kernel_rfl
    have hmm' : m = cap := by simpa using hmm
    subst hmm'
    have key : ∀ i, i < len → ∃ y : Value × List UInt8, W.cell? (a'.add i) = some y.1 ∧ Rd W y.1 y.2 ∧ y.2.length ≤ maxLen := by
      intro i hi
      obtain ⟨cs, h1, h2⟩ := hx i (by omega)
      rw [hC] at h1
      obtain ⟨_, hlen, hcell⟩ := World.cells?_some h1
      obtain ⟨u, l, rfl, hr, hl⟩ := open_bytes_at h2
      have hc := hcell 0 (by simp)
      simp only [Go.Deep.add_add] at hc
      have e2 : i * 1 + 0 = i := by omega
      exact ⟨(u, l), by simpa [e2] using hc, hr, hl⟩
    obtain ⟨V, hV⟩ := choose_lt key
    have hll : ((List.range len).map fun i => (V i).2).length = len := by simp
    refine ⟨(List.range len).map fun i => (V i).2, ⟨some a', m, by rw [hll], ⟨by rw [hll]; omega, by omega⟩, fun j l hj => ?_⟩, by rw [hll]; omega, fun l hl => ?_⟩
    · have hjl : j < len := by
        have := (List.getElem?_eq_some_iff.1 hj).1
        simpa using this
      have hb : (V j).2 = l := by
        rw [List.getElem?_map, List.getElem?_range hjl] at hj
        exact Option.some.inj hj
      obtain ⟨h1, h2, _⟩ := hV j hjl
      exact ⟨a', (V j).1, rfl, h1, hb ▸ h2⟩
    · obtain ⟨i, hi, rfl⟩ := List.mem_map.1 hl
      exact (hV i (List.mem_range.1 hi)).2.2
end

end Go.Proofs.Ytjhgbbmghgeeoaa
