
/-
  Stage 7: numbers, items and acts that came in.
-/
import Derived.Test.YthhlppdphcjlnaaEb
import Derived.Test.YthhlppdphcjlnaaPai
import Derived.Test.YthhlppdphcjlnaaGf
namespace Go.Proofs.Ythhlppdphcjlnaa
open Go.RowKit Go.ChangeShapes Go.WideShapes Go.Deep

theorem open_num7 {H : Type} {enc : TypeId × Value → H} {W : World} (n : Nat) (cs : List Value) (y : DataW H × List MemPlace) (hl : cs.length = pli.ET.sz) (h : DataW.trod enc Try.prog W 0 (fun _ => true) true n 2 cs = some y) :
    ∃ x, cs = pli.ET.enc x ∧ (Lit.int .i64 x).wf = true := by
  match cs, hl with
  | [c0], _ =>
    obtain ⟨K, k0, _, kw⟩ := DataW.trod_int Try.underlying2 h
    simp only [List.cons.injEq, and_true] at k0
    subst k0
    exact ⟨K, rfl, kw⟩
theorem open_nums7 {H : Type} {enc : TypeId × Value → H} {W : World} {v : Value} {d : DataW H} {p : List MemPlace} {a : Option Addr} {len cap : Nat} (hv : v = .slice a len cap)
    (h : DataW.Trod enc Try.prog W 0 (fun _ => true) true 45 v d p) : ∃ l : List Int, RdE pli.ET W v l ∧ l.length ≤ maxLen ∧ ∀ x ∈ l, (Lit.int .i64 x).wf = true :=
  open_elems pli.ET _ Try.underlying45 (by kernel_rfl) hv h open_num7

theorem open_item7 {H : Type} {enc : TypeId × Value → H} {W : World} (n : Nat) (cs : List Value) (y : DataW H × List MemPlace) (hl : cs.length = EI.sz) (h : DataW.trod enc Try.prog W 0 (fun _ => true) true n 27 cs = some y) :
    ∃ x, cs = EI.enc x ∧ (Lit.int .i64 x.1).wf = true := by
  obtain ⟨y0, y1, n', _, _, g0, g1⟩ := trod_struct2 Try.underlying27 h
  have e2 : Try.prog.cellsOf 2 = 1 := by kernel_rfl
  have e9 : Try.prog.cellsOf 9 = 1 := by kernel_rfl
  match cs, hl with
  | [c0, c1], _ =>
    simp [e2, e9] at g0 g1
    obtain ⟨K, k0, _, kw⟩ := DataW.trod_int Try.underlying2 g0
    obtain ⟨S, k1, _, sw⟩ := DataW.trod_string Try.underlying9 g1
    simp only [List.cons.injEq, and_true] at k0 k1
    subst k0 k1
    exact ⟨(K, S.data.toList), by simp [EI], kw⟩
theorem open_items7 {H : Type} {enc : TypeId × Value → H} {W : World} {v : Value} {d : DataW H} {p : List MemPlace} {a : Option Addr} {len cap : Nat} (hv : v = .slice a len cap)
    (h : DataW.Trod enc Try.prog W 0 (fun _ => true) true 30 v d p) : ∃ l : List (Int × List UInt8), RdE EI W v l ∧ l.length ≤ maxLen ∧ ∀ x ∈ l, (Lit.int .i64 x.1).wf = true :=
  open_elems EI _ Try.underlying30 (by kernel_rfl) hv h open_item7

/-- An act: its kind, an item. -/
structure AC where
  kind : Int
  x : Int × List UInt8
instance : Inhabited AC := ⟨⟨0, 0, []⟩⟩
def EA : El AC where
  sz := 3
  enc a := [.int .i64 a.kind, .int .i64 a.x.1, .string ⟨a.x.2.toArray⟩]
  len _ := rfl
  one a u hu := by
    simp only [List.mem_cons, List.not_mem_nil, or_false] at hu
    rcases hu with rfl | rfl | rfl <;> rfl
theorem open_act7 {H : Type} {enc : TypeId × Value → H} {W : World} (n : Nat) (cs : List Value) (y : DataW H × List MemPlace) (hl : cs.length = EA.sz) (h : DataW.trod enc Try.prog W 0 (fun _ => true) true n 34 cs = some y) :
    ∃ x, cs = EA.enc x ∧ (Lit.int .i64 x.kind).wf = true := by
  obtain ⟨y0, y1, n', _, _, g0, g1⟩ := trod_struct2 Try.underlying34 h
  have e3 : Try.prog.cellsOf 3 = 1 := by kernel_rfl
  have e27 : Try.prog.cellsOf 27 = 2 := by kernel_rfl
  match cs, hl with
  | [c0, c1, c2], _ =>
    simp [e3, e27] at g0 g1
    obtain ⟨K, k0, _, kw⟩ := DataW.trod_int Try.underlying3 g0
    simp only [List.cons.injEq, and_true] at k0
    subst k0
    obtain ⟨x, hx, -⟩ := open_item7 _ _ _ rfl g1
    simp only [EI, List.cons.injEq, and_true] at hx
    obtain ⟨rfl, rfl⟩ := hx
    exact ⟨⟨K, x⟩, rfl, kw⟩
theorem open_acts7 {H : Type} {enc : TypeId × Value → H} {W : World} {v : Value} {d : DataW H} {p : List MemPlace} {a : Option Addr} {len cap : Nat} (hv : v = .slice a len cap)
    (h : DataW.Trod enc Try.prog W 0 (fun _ => true) true 22 v d p) : ∃ l : List AC, RdE EA W v l ∧ l.length ≤ maxLen ∧ ∀ x ∈ l, (Lit.int .i64 x.kind).wf = true :=
  open_elems EA _ Try.underlying22 (by kernel_rfl) hv h open_act7
/-- An act in memory. -/
theorem act_at {w : World} {A : Option Addr} {n c : Nat} {L : List AC} (h : RdE EA w (.slice A n c) L) {j : Nat} {p : AC} (hj : L[j]? = some p) :
    ∃ ad, A = some ad ∧ ∀ W, Turn (fun _ => False) w W → W.cell? (ad.add (j * 3)) = some (.int .i64 p.kind) ∧ W.cell? ⟨(ad.add (j * 3)).block, (ad.add (j * 3)).off + 1, none⟩ = some (.int .i64 p.x.1) ∧ W.cell? ⟨(ad.add (j * 3)).block, (ad.add (j * 3)).off + 2, none⟩ = some (.string ⟨p.x.2.toArray⟩) := by
  obtain ⟨ad, hA, _⟩ := h.cells hj
  refine ⟨ad, hA, fun W ht => ?_⟩
  obtain ⟨ad', hA', hc⟩ := (h.later ht).cells hj
  rw [hA] at hA'
  cases hA'
  refine ⟨hc 0 _ rfl, ?_, ?_⟩
  · rw [show (⟨(ad.add (j * 3)).block, (ad.add (j * 3)).off + 1, none⟩ : Addr) = (ad.add (j * 3)).add 1 from rfl, eadd_add]; exact hc 1 _ rfl
  · rw [show (⟨(ad.add (j * 3)).block, (ad.add (j * 3)).off + 2, none⟩ : Addr) = (ad.add (j * 3)).add 2 from rfl, eadd_add]; exact hc 2 _ rfl

end Go.Proofs.Ythhlppdphcjlnaa
