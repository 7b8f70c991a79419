
/-
  Stage 9: keys and facts that came in.
-/
import Derived.Test.YtieffpngknglpaaZb
import Derived.Laws.IdiomArrays
namespace Go.Proofs.Ytieffpngknglpaa
open Go.RowKit Go.ChangeShapes Go.WideShapes Go.Deep

set_option maxRecDepth 100000

theorem open_text9 {H : Type} {enc : TypeId × Value → H} {W : World} {n : Nat} {c0 : Value} {y : DataW H × List MemPlace} (h : DataW.trod enc Try.prog W 0 (fun _ => true) true n 9 [c0] = some y) : ∃ a : List UInt8, c0 = sv9 a := by
  obtain ⟨S, k2, _, sw⟩ := DataW.trod_string Try.underlying9 h
  simp only [List.cons.injEq, and_true] at k2
  exact ⟨S.data.toList, k2⟩
theorem open_texts9 {H : Type} {enc : TypeId × Value → H} {W : World} {n : Nat} {c0 c1 c2 c3 : Value} {y : DataW H × List MemPlace} (h : DataW.trod enc Try.prog W 0 (fun _ => true) true n 23 [c0, c1, c2, c3] = some y) :
    ∃ a b c d : List UInt8, c0 = sv9 a ∧ c1 = sv9 b ∧ c2 = sv9 c ∧ c3 = sv9 d := by
  obtain ⟨y0, y1, y2, y3, n', _, h0, h1, h2, h3⟩ := trod_array4 Try.underlying23 (by kernel_rfl) h
  obtain ⟨a, ha⟩ := open_text9 h0
  obtain ⟨b, hb⟩ := open_text9 h1
  obtain ⟨c, hc⟩ := open_text9 h2
  obtain ⟨d, hd⟩ := open_text9 h3
  exact ⟨a, b, c, d, ha, hb, hc, hd⟩
theorem open_keyc {H : Type} {enc : TypeId × Value → H} {W : World} {n : Nat} {cs : List Value} {y : DataW H × List MemPlace} (hl : cs.length = 5) (h : DataW.trod enc Try.prog W 0 (fun _ => true) true n 27 cs = some y) :
    ∃ k : K9, cs = [.int .i64 k.h, sv9 k.a, sv9 k.b, sv9 k.c, sv9 k.d] := by
  obtain ⟨y0, y1, n', _, _, g0, g1⟩ := trod_struct2 Try.underlying27 h
  have e1 : Try.prog.cellsOf 2 = 1 := by kernel_rfl
  have e4 : Try.prog.cellsOf 23 = 4 := by kernel_rfl
  match cs, hl with
  | [c0, c1, c2, c3, c4], _ =>
    simp [e1, e4] at g0 g1
    obtain ⟨K, k0, _, kw⟩ := DataW.trod_int Try.underlying2 g0
    simp only [List.cons.injEq, and_true] at k0
    subst k0
    obtain ⟨a, b, c, d, rfl, rfl, rfl, rfl⟩ := open_texts9 g1
    exact ⟨⟨K, a, b, c, d⟩, rfl⟩
theorem open_key9 {H : Type} {enc : TypeId × Value → H} {W : World} {b0 : Nat} {v : Value} {d : DataW H} {p : List MemPlace} (hv : Value.okWide Try.prog W .any b0 27 v) (h : DataW.Trod enc Try.prog W 0 (fun _ => true) true 27 v d p) : ∃ k : K9, v = kv9 k := by
  simp only [Value.okWide, Try.underlying27] at hv
  obtain ⟨cs, rfl, hsz, _⟩ := hv
  obtain ⟨fuel, hf⟩ := h
  have e5 : Try.prog.cellsOf 27 = 5 := by kernel_rfl
  obtain ⟨k, hk⟩ := open_keyc (by show (Value.cells (.agg cs)).toList.length = 5; simp [Value.cells]; omega) hf
  refine ⟨k, ?_⟩
  have hk2 : cs.toList = [.int .i64 k.h, sv9 k.a, sv9 k.b, sv9 k.c, sv9 k.d] := hk
  have hk3 : cs = #[.int .i64 k.h, sv9 k.a, sv9 k.b, sv9 k.c, sv9 k.d] := by rw [← Array.toList_inj]; exact hk2
  rw [hk3]
theorem open_factc {H : Type} {enc : TypeId × Value → H} {W : World} (n : Nat) (cs : List Value) (y : DataW H × List MemPlace) (hl : cs.length = EF.sz) (h : DataW.trod enc Try.prog W 0 (fun _ => true) true n 77 cs = some y) :
    ∃ f : F9, cs = EF.enc f ∧ (Lit.int .i64 f.v).wf = true := by
  obtain ⟨y0, y1, n', _, _, g0, g1⟩ := trod_struct2 Try.underlying77 h
  have e1 : Try.prog.cellsOf 2 = 1 := by kernel_rfl
  have e5 : Try.prog.cellsOf 27 = 5 := by kernel_rfl
  match cs, hl with
  | [c0, c1, c2, c3, c4, c5], _ =>
    simp [e1, e5] at g0 g1
    obtain ⟨K, k0, _, kw⟩ := DataW.trod_int Try.underlying2 g1
    simp only [List.cons.injEq, and_true] at k0
    subst k0
    obtain ⟨k, hk⟩ := open_keyc rfl g0
    simp only [List.cons.injEq, and_true] at hk
    obtain ⟨rfl, rfl, rfl, rfl, rfl⟩ := hk
    exact ⟨⟨k, K⟩, rfl, kw⟩
end Go.Proofs.Ytieffpngknglpaa
