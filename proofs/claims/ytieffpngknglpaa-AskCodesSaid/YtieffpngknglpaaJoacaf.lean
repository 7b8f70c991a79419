/-
  Texts laid one behind the other: Lb Zb.
-/
import Derived.Test.YtieffpngknglpaaJoacab
import Derived.ProofKit
import Derived.OpenShut
import Derived.WalkMore
import Derived.Deep.Slices
import Derived.Deep.Fields
import Derived.Test.YtieffpngknglpaaJoacae
import Derived.BigQuiet
import Derived.Laws.ResultCell

/-
  A slice of numbers that came in, of any kind: its numbers, wherever it lies; its parts. No type is named here.
-/
namespace Go.Proofs.Ytieffpngknglpaa
open Go.RowKit

/-- A slice value, wherever it lies: its numbers are l. -/
def RdN (k : IntKind) (w : World) (v : Value) (l : List Int) : Prop :=
  ∃ A c, v = .slice A l.length c ∧ (l.length ≤ c ∧ c ≤ maxLen) ∧ (A = none → l = [] ∧ c = 0) ∧ ∀ ad, A = some ad → ∀ j x, l[j]? = some x → w.cell? (ad.add j) = some (.int k x)

section
variable {k : IntKind} {w w' : World} {v : Value} {l : List Int}
theorem nadd_block (a : Addr) (n : Nat) : (a.add n).block = a.block := by unfold Addr.add; split <;> rfl
theorem nadd_of_add (a : Addr) (i j : Nat) : (a.add i).add j = a.add (i + j) := by
  unfold Addr.add
  by_cases hi : i = 0 <;> by_cases hj : j = 0 <;> simp [hi, hj, Nat.add_assoc]
theorem RdN.turn {S : Nat → Prop} (h : RdN k w v l) (ht : Turn S w w') (hs : ∀ b, v.ownBlock = some b → ¬ S b) : RdN k w' v l := by
  obtain ⟨A, c, rfl, hk, hn, hc⟩ := h
  refine ⟨A, c, rfl, hk, hn, fun ad e j b hj => ?_⟩
  have h1 := hc ad e j b hj
  have hlt := World.block_lt_of_cell? w _ h1
  rw [ht.cell hlt (by subst e; rw [nadd_block]; exact hs _ rfl)]
  exact h1
theorem RdN.later (h : RdN k w v l) (ht : Turn (fun _ => False) w w') : RdN k w' v l := h.turn ht (fun _ _ f => f)
theorem RdN.shape (h : RdN k w v l) : ∃ A c, v = .slice A l.length c := by
  obtain ⟨A, c, e, _⟩ := h
  exact ⟨A, c, e⟩
theorem RdN.at {A : Option Addr} {n c : Nat} (h : RdN k w (.slice A n c) l) {j : Nat} {x : Int} (hj : l[j]? = some x) : ∃ ad, A = some ad ∧ w.cell? (ad.add j) = some (.int k x) := by
  obtain ⟨A', c', hv, _, hn, hc⟩ := h
  injection hv with h1 h2 h3
  subst h1
  cases A with
  | none =>
    obtain ⟨rfl, _⟩ := hn rfl
    cases hj
  | some ad => exact ⟨ad, rfl, hc ad rfl j x hj⟩
theorem RdN.fits {A : Option Addr} {n c : Nat} (h : RdN k w (.slice A n c) l) : n = l.length ∧ l.length ≤ c ∧ c ≤ maxLen := by
  obtain ⟨A', c', hv, hc, _⟩ := h
  injection hv with h1 h2 h3
  subst h3
  exact ⟨h2, hc⟩
theorem RdN.front {A : Option Addr} {n c : Nat} (h : RdN k w (.slice A n c) l) (m : Nat) (hm : m ≤ n) : RdN k w (.slice A m c) (l.take m) := by
  obtain ⟨A', c', hv, hc, hn, hx⟩ := h
  injection hv with h1 h2 h3
  subst h1 h2 h3
  have e : (l.take m).length = m := by rw [List.length_take]; omega
  refine ⟨A, c, by rw [e], ⟨by omega, hc.2⟩, (fun e => by rw [(hn e).1]; exact ⟨List.take_nil, (hn e).2⟩), fun ad e2 j b hj => ?_⟩
  rw [List.getElem?_take] at hj
  split at hj
  · exact hx ad e2 j b hj
  · cases hj
theorem RdN.back {ad : Addr} {n c : Nat} (h : RdN k w (.slice (some ad) n c) l) (m : Nat) (hm : m ≤ n) : RdN k w (.slice (some (ad.add m)) (n - m) (c - m)) (l.drop m) := by
  obtain ⟨A', c', hv, hc, hn, hx⟩ := h
  injection hv with h1 h2 h3
  subst h1 h2 h3
  refine ⟨some (ad.add m), c - m, by rw [List.length_drop], ⟨by rw [List.length_drop]; omega, by omega⟩, (fun e => by cases e), fun ad' e2 j b hj => ?_⟩
  injection e2 with e2
  subst e2
  rw [List.getElem?_drop] at hj
  rw [nadd_of_add]
  exact hx ad rfl _ b hj
end

section
open Go.ChangeShapes Go.WideShapes Go.Deep
theorem open_nums {P : Program} {H : Type} {enc : TypeId × Value → H} {W : World} {T e : TypeId} {k : IntKind} {v : Value} {d : DataW H} {p : List MemPlace} {a : Option Addr} {len cap : Nat}
    (hT : P.underlying T = some (.slice e)) (he : P.underlying e = some (.int k)) (hC : P.cellsOf e = 1) (hv : v = .slice a len cap) (h : DataW.Trod enc P W 0 (fun _ => true) true T v d p) :
    ∃ l, RdN k W v l ∧ l.length ≤ maxLen ∧ ∀ x ∈ l, (Lit.int k x).wf = true := by
  subst hv
  obtain ⟨fuel, hf⟩ := h
  rcases open_slice hT hf with ⟨hcs, _⟩ | ⟨a', len', cap', m, n, D, Pl, hcs, _, hl, hm, hmm, _, hx⟩
  · simp [Value.cells] at hcs
    obtain ⟨rfl, rfl, rfl⟩ := hcs
    exact ⟨[], ⟨none, 0, rfl, ⟨Nat.le_refl _, Nat.zero_le _⟩, fun _ => ⟨rfl, rfl⟩, fun _ e => by cases e⟩, Nat.zero_le _, fun x hx => by cases hx⟩
  · simp [Value.cells] at hcs
    obtain ⟨rfl, rfl, rfl⟩ := hcs
    have hmm' : m = cap := by simpa using hmm
    subst hmm'
    have key : ∀ i, i < len → ∃ b : Int, W.cell? (a'.add i) = some (.int k b) ∧ (Lit.int k b).wf = true := by
      intro i hi
      obtain ⟨cs, h1, h2⟩ := hx i (by omega)
      rw [hC] at h1
      obtain ⟨_, hlen, hcell⟩ := World.cells?_some h1
      match cs, hlen with
      | [c0], _ =>
        obtain ⟨K, k0, _, kw⟩ := DataW.trod_int he h2
        simp only [List.cons.injEq, and_true] at k0
        subst k0
        have hc := hcell 0 (by omega)
        simp only [Go.Deep.add_add] at hc
        have e2 : i * 1 + 0 = i := by omega
        exact ⟨K, by simpa [e2] using hc, kw⟩
    obtain ⟨V, hV⟩ := choose_lt key
    have hll : ((List.range len).map V).length = len := by simp
    refine ⟨(List.range len).map V, ⟨some a', m, by rw [hll], ⟨by rw [hll]; omega, by omega⟩, (fun e => by cases e), fun ad e j b hj => ?_⟩, by rw [hll]; omega, fun x hx => ?_⟩
    · cases e
      have hjl : j < len := by
        have := (List.getElem?_eq_some_iff.1 hj).1
        simpa using this
      have hb : b = V j := by
        rw [List.getElem?_map, List.getElem?_range hjl] at hj
        exact (Option.some.inj hj).symm
      rw [hb]
      exact (hV j hjl).1
    · obtain ⟨i, hi, rfl⟩ := List.mem_map.1 hx
      exact (hV i (List.mem_range.1 hi)).2
end

end Go.Proofs.Ytieffpngknglpaa

/-
  Stage 9: keys, facts and numbers in memory.
-/
namespace Go.Proofs.Ytieffpngknglpaa
open Go.RowKit Go.ChangeShapes Go.WideShapes Go.Deep

/-- A number's cell. -/
def EN9 : El Int where
  sz := 1
  enc p := [.int .i64 p]
  len _ := rfl
  one p u hu := by rw [List.mem_singleton.1 hu]; rfl
theorem num_info9 : (Try.prog.info? 2).map (fun i => (i.zero, i.size, i.bytes)) = some (some (.int .i64 0), EN9.sz, 8) := by kernel_rfl
theorem num_zero9 : (Value.cells (.int .i64 0)).size = EN9.sz := rfl
theorem num_at9 {w : World} {A : Option Addr} {n c : Nat} {L : List Int} (h : RdE EN9 w (.slice A n c) L) {j : Nat} {x : Int} (hj : L[j]? = some x) :
    ∃ ad, A = some ad ∧ ∀ W, Turn (fun _ => False) w W → W.cell? (ad.add j) = some (.int .i64 x) := by
  obtain ⟨ad, hA, _⟩ := h.cells hj
  refine ⟨ad, hA, fun W ht => ?_⟩
  obtain ⟨ad', hA', hc⟩ := (h.later ht).cells hj
  rw [hA] at hA'
  cases hA'
  have h1 := hc 0 _ rfl
  rwa [show j * EN9.sz + 0 = j from by simp [EN9]] at h1
theorem flat_num9 (l : List Int) : EN9.flat l = l.map (fun x => Value.int .i64 x) := by
  induction l with
  | nil => rfl
  | cons x l ih => rw [El.flat_cons, ih]; rfl
theorem rd_num9 {w : World} {v : Value} {l : List Int} (h : RdE EN9 w v l) : RdN .i64 w v l := by
  obtain ⟨A, c, e, h1, h2, h3⟩ := h
  refine ⟨A, c, e, h1, h2, fun ad ea j x hj => h3 ad ea j _ ?_⟩
  rw [flat_num9, List.getElem?_map, hj]
  rfl
/-- A slice that came in lies in the memory that came in. -/
theorem came_in9 {P : Program} {W : World} {base : Nat} {t e : TypeId} {v : Value} (ht : P.underlying t = some (.slice e)) (h : Value.okWide P W .any base t v) : ∀ g, v.ownBlock = some g → g < W.heap.size := fun g hg => by
  simp only [Value.okWide, ht, Cell.okWide] at h
  obtain ⟨a, n, c, rfl⟩ := okWide_slice ht (by simp only [Value.okWide, ht, Cell.okWide]; exact h)
  cases a with
  | none => simp [Value.ownBlock] at hg
  | some a =>
    simp only [Cell.ok, ht] at h
    have e : a.block = g := by simpa [Value.ownBlock] using hg
    obtain ⟨_, _, h3⟩ := h
    rw [← e]
    obtain ⟨_, _, row, cells, hs, _⟩ := h3
    unfold World.shape? at hs
    rcases Nat.lt_or_ge a.block W.heap.size with hl | hl
    · exact hl
    · rw [Array.getElem?_eq_none hl] at hs
      cases hs

/-- A text, as a value. -/
abbrev sv9 (l : List UInt8) : Value := .string ⟨l.toArray⟩
/-- A key, a fact, as a value. -/
abbrev kv9 (k : K9) : Value := .agg #[.int .i64 k.h, sv9 k.a, sv9 k.b, sv9 k.c, sv9 k.d]
abbrev fv9 (f : F9) : Value := .agg #[.int .i64 f.k.h, sv9 f.k.a, sv9 f.k.b, sv9 f.k.c, sv9 f.k.d, .int .i64 f.v]
/-- A fact's cells. -/
def EF : El F9 where
  sz := 6
  enc f := [.int .i64 f.k.h, sv9 f.k.a, sv9 f.k.b, sv9 f.k.c, sv9 f.k.d, .int .i64 f.v]
  len _ := rfl
  one f u hu := by
    simp only [List.mem_cons, List.not_mem_nil, or_false] at hu
    rcases hu with rfl | rfl | rfl | rfl | rfl | rfl <;> rfl
theorem fact_info : (Try.prog.info? 77).map (fun i => (i.zero, i.size, i.bytes)) = some (some (.agg #[.int .i64 0, .string ⟨#[]⟩, .string ⟨#[]⟩, .string ⟨#[]⟩, .string ⟨#[]⟩, .int .i64 0]), EF.sz, 80) := by kernel_rfl
theorem fact_zero : (Value.cells (.agg #[.int .i64 0, .string ⟨#[]⟩, .string ⟨#[]⟩, .string ⟨#[]⟩, .string ⟨#[]⟩, .int .i64 0])).size = EF.sz := rfl
/-- A fact in memory. -/
theorem fact_at {w : World} {A : Option Addr} {n c : Nat} {L : List F9} (h : RdE EF w (.slice A n c) L) {j : Nat} {f : F9} (hj : L[j]? = some f) :
    ∃ ad, A = some ad ∧ ∀ W, Turn (fun _ => False) w W → W.cell? (ad.add (j * 6)) = some (.int .i64 f.k.h) ∧ (∀ i, i < 4 → W.cell? ⟨(ad.add (j * 6)).block, (ad.add (j * 6)).off + (1 + i), none⟩ = some (sv9 (f.k.dim i))) ∧ W.cell? ⟨(ad.add (j * 6)).block, (ad.add (j * 6)).off + 5, none⟩ = some (.int .i64 f.v) := by
  obtain ⟨ad, hA, _⟩ := h.cells hj
  refine ⟨ad, hA, fun W ht => ?_⟩
  obtain ⟨ad', hA', hc⟩ := (h.later ht).cells hj
  rw [hA] at hA'
  cases hA'
  have key : ∀ (k : Nat) (u : Value), (EF.enc f)[k + 1]? = some u → W.cell? ⟨(ad.add (j * 6)).block, (ad.add (j * 6)).off + (k + 1), none⟩ = some u := fun k u hu => by
    rw [show (⟨(ad.add (j * 6)).block, (ad.add (j * 6)).off + (k + 1), none⟩ : Addr) = (ad.add (j * 6)).add (k + 1) from rfl, eadd_add]
    exact hc (k + 1) u hu
  refine ⟨hc 0 _ rfl, fun i hi => ?_, key 4 _ rfl⟩
  match i, hi with
  | 0, _ => exact key 0 _ rfl
  | 1, _ => exact key 1 _ rfl
  | 2, _ => exact key 2 _ rfl
  | 3, _ => exact key 3 _ rfl
/-- The same, cell by cell. -/
theorem fact_at6 {w : World} {A : Option Addr} {n c : Nat} {L : List F9} (h : RdE EF w (.slice A n c) L) {j : Nat} {f : F9} (hj : L[j]? = some f) :
    ∃ ad, A = some ad ∧ ∀ W, Turn (fun _ => False) w W → W.cell? (ad.add (j * 6)) = some (.int .i64 f.k.h) ∧ W.cell? ⟨(ad.add (j * 6)).block, (ad.add (j * 6)).off + 1, none⟩ = some (sv9 f.k.a) ∧ W.cell? ⟨(ad.add (j * 6)).block, (ad.add (j * 6)).off + 2, none⟩ = some (sv9 f.k.b) ∧
      W.cell? ⟨(ad.add (j * 6)).block, (ad.add (j * 6)).off + 3, none⟩ = some (sv9 f.k.c) ∧ W.cell? ⟨(ad.add (j * 6)).block, (ad.add (j * 6)).off + 4, none⟩ = some (sv9 f.k.d) ∧ W.cell? ⟨(ad.add (j * 6)).block, (ad.add (j * 6)).off + 5, none⟩ = some (.int .i64 f.v) := by
  obtain ⟨ad, hA, hc⟩ := fact_at h hj
  refine ⟨ad, hA, fun W ht => ?_⟩
  obtain ⟨h0, h1, h2⟩ := hc W ht
  exact ⟨h0, h1 0 (by omega), h1 1 (by omega), h1 2 (by omega), h1 3 (by omega), h2⟩
/-- A box's key: its cells. -/
theorem dim_cell {W : World} {g o : Nat} {t : TypeId} {vs : Array Value} {k : K9} (hb : Box W g t vs) (h : ∀ i, i < 4 → vs[o + i]? = some (sv9 (k.dim i))) : ∀ i, i < 4 → W.cell? ⟨g, o + i, none⟩ = some (sv9 (k.dim i)) := fun i hi => by
  rw [hb.cell]
  exact h i hi
theorem key_cells {k : K9} : ∀ i, i < 4 → (#[.int .i64 k.h, sv9 k.a, sv9 k.b, sv9 k.c, sv9 k.d] : Array Value)[1 + i]? = some (sv9 (k.dim i)) := fun i hi => by
  match i, hi with
  | 0, _ => rfl
  | 1, _ => rfl
  | 2, _ => rfl
  | 3, _ => rfl
theorem fact_cells {f : F9} : ∀ i, i < 4 → (#[.int .i64 f.k.h, sv9 f.k.a, sv9 f.k.b, sv9 f.k.c, sv9 f.k.d, .int .i64 f.v] : Array Value)[1 + i]? = some (sv9 (f.k.dim i)) := fun i hi => by
  match i, hi with
  | 0, _ => rfl
  | 1, _ => rfl
  | 2, _ => rfl
  | 3, _ => rfl

end Go.Proofs.Ytieffpngknglpaa
