
/-
  Stage 8: numbers and acts that came in.
-/
import Derived.Test.YtemcijfakimkkaaYa
namespace Go.Proofs.Ytemcijfakimkkaa
open Go.RowKit Go.ChangeShapes Go.WideShapes Go.Deep

theorem open_num8 {H : Type} {enc : TypeId × Value → H} {W : World} (n : Nat) (cs : List Value) (y : DataW H × List MemPlace) (hl : cs.length = E8.sz) (h : DataW.trod enc Try.prog W 0 (fun _ => true) true n 2 cs = some y) :
    ∃ x, cs = E8.enc x ∧ True := by
  match cs, hl with
  | [c0], _ =>
    obtain ⟨K, k0, _, kw⟩ := DataW.trod_int Try.underlying2 h
    simp only [List.cons.injEq, and_true] at k0
    subst k0
    exact ⟨K, rfl, trivial⟩
theorem open_nums8 {H : Type} {enc : TypeId × Value → H} {W : World} {v : Value} {d : DataW H} {p : List MemPlace} {a : Option Addr} {len cap : Nat} (hv : v = .slice a len cap)
    (h : DataW.Trod enc Try.prog W 0 (fun _ => true) true 35 v d p) : ∃ l : List Int, RdE E8 W v l ∧ l.length ≤ maxLen ∧ ∀ x ∈ l, True :=
  open_elems E8 _ Try.underlying35 (by kernel_rfl) hv h open_num8

/-- An act: its kind, a lane, a number. -/
structure A8 where
  kind : Int
  lane : Int
  x : Int
instance : Inhabited A8 := ⟨⟨0, 0, 0⟩⟩
def EA8 : El A8 where
  sz := 3
  enc a := [.int .i64 a.kind, .int .i64 a.lane, .int .i64 a.x]
  len _ := rfl
  one a u hu := by
    simp only [List.mem_cons, List.not_mem_nil, or_false] at hu
    rcases hu with rfl | rfl | rfl <;> rfl
theorem open_act8 {H : Type} {enc : TypeId × Value → H} {W : World} (n : Nat) (cs : List Value) (y : DataW H × List MemPlace) (hl : cs.length = EA8.sz) (h : DataW.trod enc Try.prog W 0 (fun _ => true) true n 33 cs = some y) :
    ∃ x, cs = EA8.enc x ∧ True := by
  obtain ⟨y0, y1, y2, n', _, _, g0, g1, g2⟩ := trod_struct3 Try.underlying33 h
  have e3 : Try.prog.cellsOf 3 = 1 := by kernel_rfl
  have e2 : Try.prog.cellsOf 2 = 1 := by kernel_rfl
  match cs, hl with
  | [c0, c1, c2], _ =>
    simp [e3, e2] at g0 g1 g2
    obtain ⟨K, k0, _, kw⟩ := DataW.trod_int Try.underlying3 g0
    obtain ⟨M, k1, _, mw⟩ := DataW.trod_int Try.underlying3 g1
    obtain ⟨X, k2, _, xw⟩ := DataW.trod_int Try.underlying2 g2
    simp only [List.cons.injEq, and_true] at k0 k1 k2
    subst k0 k1 k2
    exact ⟨⟨K, M, X⟩, rfl, trivial⟩
theorem open_acts8 {H : Type} {enc : TypeId × Value → H} {W : World} {v : Value} {d : DataW H} {p : List MemPlace} {a : Option Addr} {len cap : Nat} (hv : v = .slice a len cap)
    (h : DataW.Trod enc Try.prog W 0 (fun _ => true) true 22 v d p) : ∃ l : List A8, RdE EA8 W v l ∧ l.length ≤ maxLen ∧ ∀ x ∈ l, True :=
  open_elems EA8 _ Try.underlying22 (by kernel_rfl) hv h open_act8
/-- An act in memory. -/
theorem act_at8 {w : World} {A : Option Addr} {n c : Nat} {L : List A8} (h : RdE EA8 w (.slice A n c) L) {j : Nat} {p : A8} (hj : L[j]? = some p) :
    ∃ ad, A = some ad ∧ ∀ W, Turn (fun _ => False) w W → W.cell? (ad.add (j * 3)) = some (.int .i64 p.kind) ∧ W.cell? ⟨(ad.add (j * 3)).block, (ad.add (j * 3)).off + 1, none⟩ = some (.int .i64 p.lane) ∧ W.cell? ⟨(ad.add (j * 3)).block, (ad.add (j * 3)).off + 2, none⟩ = some (.int .i64 p.x) := by
  obtain ⟨ad, hA, _⟩ := h.cells hj
  refine ⟨ad, hA, fun W ht => ?_⟩
  obtain ⟨ad', hA', hc⟩ := (h.later ht).cells hj
  rw [hA] at hA'
  cases hA'
  refine ⟨hc 0 _ rfl, ?_, ?_⟩
  · rw [show (⟨(ad.add (j * 3)).block, (ad.add (j * 3)).off + 1, none⟩ : Addr) = (ad.add (j * 3)).add 1 from rfl, eadd_add]; exact hc 1 _ rfl
  · rw [show (⟨(ad.add (j * 3)).block, (ad.add (j * 3)).off + 2, none⟩ : Addr) = (ad.add (j * 3)).add 2 from rfl, eadd_add]; exact hc 2 _ rfl

end Go.Proofs.Ytemcijfakimkkaa
