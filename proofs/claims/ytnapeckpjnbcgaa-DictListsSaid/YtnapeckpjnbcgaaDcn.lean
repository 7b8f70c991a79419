
/-
  Stage 10: numbers in memory; numbers of things, things of numbers, plain.
-/
import Derived.Test.YtnapeckpjnbcgaaEp
import Derived.Test.YtnapeckpjnbcgaaGa
import Derived.Test.YtnapeckpjnbcgaaGf
namespace Go.Proofs.Ytnapeckpjnbcgaa
open Go.RowKit Go.ChangeShapes Go.WideShapes Go.Deep

set_option maxRecDepth 100000

/-- A number's cell. -/
def EC10 : El Int where
  sz := 1
  enc p := [.int .i64 p]
  len _ := rfl
  one p u hu := by rw [List.mem_singleton.1 hu]; rfl
theorem num_at10 {w : World} {A : Option Addr} {n c : Nat} {L : List Int} (h : RdE EC10 w (.slice A n c) L) {j : Nat} {x : Int} (hj : L[j]? = some x) :
    ∃ ad, A = some ad ∧ ∀ W, Turn (fun _ => False) w W → W.cell? (ad.add j) = some (.int .i64 x) := by
  obtain ⟨ad, hA, _⟩ := h.cells hj
  refine ⟨ad, hA, fun W ht => ?_⟩
  obtain ⟨ad', hA', hc⟩ := (h.later ht).cells hj
  rw [hA] at hA'
  cases hA'
  have h1 := hc 0 _ rfl
  rwa [show j * EC10.sz + 0 = j from by simp [EC10]] at h1
theorem open_numa10 {H : Type} {enc : TypeId × Value → H} {W : World} (n : Nat) (cs : List Value) (y : DataW H × List MemPlace) (hl : cs.length = EC10.sz) (h : DataW.trod enc Try.prog W 0 (fun _ => true) true n 2 cs = some y) :
    ∃ x, cs = EC10.enc x ∧ (Lit.int .i64 x).wf = true := by
  match cs, hl with
  | [c0], _ =>
    obtain ⟨K, k0, _, kw⟩ := DataW.trod_int Try.underlying2 h
    simp only [List.cons.injEq, and_true] at k0
    subst k0
    exact ⟨K, rfl, kw⟩
theorem open_numas10 {H : Type} {enc : TypeId × Value → H} {W : World} {v : Value} {d : DataW H} {p : List MemPlace} {a : Option Addr} {len cap : Nat} (hv : v = .slice a len cap)
    (h : DataW.Trod enc Try.prog W 0 (fun _ => true) true 42 v d p) : ∃ l : List Int, RdE EC10 W v l ∧ l.length ≤ maxLen ∧ ∀ x ∈ l, (Lit.int .i64 x).wf = true :=
  open_elems EC10 (fun x => (Lit.int .i64 x).wf = true) Try.underlying42 (by kernel_rfl) hv h open_numa10
theorem open_numb10 {H : Type} {enc : TypeId × Value → H} {W : World} (n : Nat) (cs : List Value) (y : DataW H × List MemPlace) (hl : cs.length = EC10.sz) (h : DataW.trod enc Try.prog W 0 (fun _ => true) true n 3 cs = some y) :
    ∃ x, cs = EC10.enc x ∧ (Lit.int .i64 x).wf = true := by
  match cs, hl with
  | [c0], _ =>
    obtain ⟨K, k0, _, kw⟩ := DataW.trod_int Try.underlying3 h
    simp only [List.cons.injEq, and_true] at k0
    subst k0
    exact ⟨K, rfl, kw⟩
theorem open_numbs10 {H : Type} {enc : TypeId × Value → H} {W : World} {v : Value} {d : DataW H} {p : List MemPlace} {a : Option Addr} {len cap : Nat} (hv : v = .slice a len cap)
    (h : DataW.Trod enc Try.prog W 0 (fun _ => true) true 35 v d p) : ∃ l : List Int, RdE EC10 W v l ∧ l.length ≤ maxLen ∧ ∀ x ∈ l, (Lit.int .i64 x).wf = true :=
  open_elems EC10 (fun x => (Lit.int .i64 x).wf = true) Try.underlying35 (by kernel_rfl) hv h open_numb10

section
variable {A : Type} [DecidableEq A]
/-- The number of a thing: none, or that. -/
def codeG (x : A) (L : List A) : Option Nat := if idxG x L < L.length then some (idxG x L) else none
/-- All numbers of things, where each has one. -/
def allIn (b L : List A) : Bool := b.all fun x => decide (idxG x L < L.length)
def codesG (b L : List A) : List Int := if allIn b L then b.map fun x => (idxG x L : Int) else []
/-- The thing with a number. -/
def atG (n : Int) (L : List A) : Option A := if 0 ≤ n then L[n.toNat]? else none
def allAt (cs : List Int) (L : List A) : Bool := cs.all fun n => (atG n L).isSome
def thingsG (cs : List Int) (L : List A) : List A := if allAt cs L then cs.filterMap fun n => atG n L else []
theorem allIn_iff {b L : List A} : allIn b L = true ↔ ∀ x ∈ b, x ∈ L := by
  unfold allIn
  rw [List.all_eq_true]
  exact forall_congr' fun x => forall_congr' fun _ => by rw [decide_eq_true_iff, idxG_mem]
theorem at_code {x : A} {L : List A} (h : x ∈ L) : atG (idxG x L : Int) L = some x := by
  unfold atG
  rw [if_pos (Int.natCast_nonneg _), Int.toNat_natCast]
  exact idxG_at rfl (idxG_mem.2 h)
theorem there_back {b L : List A} (h : ∀ x ∈ b, x ∈ L) : allAt (codesG b L) L = true ∧ thingsG (codesG b L) L = b := by
  have h1 : codesG b L = b.map fun x => (idxG x L : Int) := by unfold codesG; rw [if_pos (allIn_iff.2 h)]
  have h2 : allAt (codesG b L) L = true := by
    rw [h1]
    unfold allAt
    rw [List.all_eq_true]
    intro n hn
    obtain ⟨x, hx, rfl⟩ := List.mem_map.1 hn
    rw [at_code (h x hx)]
    rfl
  refine ⟨h2, ?_⟩
  unfold thingsG
  rw [if_pos h2, h1]
  clear h1 h2
  induction b with
  | nil => rfl
  | cons x b ih =>
    rw [List.map_cons, List.filterMap_cons, at_code (h x (List.mem_cons_self ..))]
    dsimp only
    rw [ih fun y hy => h y (List.mem_cons_of_mem _ hy)]
end
/-- Numbers are in the order of their things. -/
theorem idx_order {A : Type} [DecidableEq A] {lt : A → A → Bool} (hr : Rises lt) {L : List A} (hL : L.Pairwise fun x y => lt x y = true) {x y : A} (hx : x ∈ L) (hy : y ∈ L) : idxG x L < idxG y L ↔ lt x y = true := by
  have ix := idxG_mem.2 hx
  have iy := idxG_mem.2 hy
  have ex := idxG_at (x := x) (l := L) rfl ix
  have ey := idxG_at (x := y) (l := L) rfl iy
  rw [List.getElem?_eq_getElem ix] at ex
  rw [List.getElem?_eq_getElem iy] at ey
  have ex2 := Option.some.inj ex
  have ey2 := Option.some.inj ey
  have hp := List.pairwise_iff_getElem.1 hL
  constructor
  · intro h
    have := hp _ _ ix iy h
    rwa [ex2, ey2] at this
  · intro h
    rcases Nat.lt_trichotomy (idxG x L) (idxG y L) with h1 | h1 | h1
    · exact h1
    · have e : x = y := by
        rw [← ex2, ← ey2]
        congr 1
      rw [e, hr.irr] at h
      cases h
    · have := hp _ _ iy ix h1
      rw [ex2, ey2] at this
      have h2 := hr.tr _ _ _ h this
      rw [hr.irr] at h2
      cases h2

end Go.Proofs.Ytnapeckpjnbcgaa
