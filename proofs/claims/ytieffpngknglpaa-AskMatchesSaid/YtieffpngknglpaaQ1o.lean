
/-
  Stage 13: queries that came in; the chapter's example.
-/
import Derived.Test.YtieffpngknglpaaQ1i
import Derived.Test.YtieffpngknglpaaZo
import Derived.Deep.Strs
namespace Go.Proofs.Ytieffpngknglpaa
open Go.RowKit Go.ChangeShapes Go.WideShapes Go.Deep

set_option maxRecDepth 100000

theorem trod_struct5_13 {P : Program} {H : Type} {enc : TypeId × Value → H} {w : World} {base : Nat} {spare : Nat → Bool} {held : Bool} {t : TypeId} {f0 f1 f2 f3 f4 : Field} {fuel : Nat} {cs : List Value} {x : DataW H × List MemPlace} (ht : P.underlying t = some (.struct #[f0, f1, f2, f3, f4])) (h : DataW.trod enc P w base spare held fuel t cs = some x) :
    ∃ y0 y1 y2 y3 y4 n, DataW.trod enc P w base spare held n f0.type ((cs.drop f0.offset).take (P.cellsOf f0.type)) = some y0 ∧
      DataW.trod enc P w base spare held n f1.type ((cs.drop f1.offset).take (P.cellsOf f1.type)) = some y1 ∧ DataW.trod enc P w base spare held n f2.type ((cs.drop f2.offset).take (P.cellsOf f2.type)) = some y2 ∧
      DataW.trod enc P w base spare held n f3.type ((cs.drop f3.offset).take (P.cellsOf f3.type)) = some y3 ∧ DataW.trod enc P w base spare held n f4.type ((cs.drop f4.offset).take (P.cellsOf f4.type)) = some y4 := by
  obtain ⟨xs, n, _, rfl, hl, hlen, hf⟩ := DataW.trod_struct ht h
  match xs, hlen with
  | [y0, y1, y2, y3, y4], _ => exact ⟨y0, y1, y2, y3, y4, n, by simpa using hf 0 f0 rfl, by simpa using hf 1 f1 rfl, by simpa using hf 2 f2 rfl, by simpa using hf 3 f3 rfl, by simpa using hf 4 f4 rfl⟩
theorem open_flag13 {H : Type} {enc : TypeId × Value → H} {W : World} {n : Nat} {c0 : Value} {y : DataW H × List MemPlace} (h : DataW.trod enc Try.prog W 0 (fun _ => true) true n 4 [c0] = some y) : ∃ a : Bool, c0 = .bool a := by
  obtain ⟨S, k2, _⟩ := DataW.trod_bool Try.underlying4 h
  simp only [List.cons.injEq, and_true] at k2
  exact ⟨S, k2⟩
theorem open_flags13 {H : Type} {enc : TypeId × Value → H} {W : World} {n : Nat} {c0 c1 c2 c3 : Value} {y : DataW H × List MemPlace} (h : DataW.trod enc Try.prog W 0 (fun _ => true) true n 22 [c0, c1, c2, c3] = some y) :
    ∃ v : V4 Bool, c0 = .bool v.a ∧ c1 = .bool v.b ∧ c2 = .bool v.c ∧ c3 = .bool v.d := by
  obtain ⟨y0, y1, y2, y3, n', _, h0, h1, h2, h3⟩ := trod_array4 Try.underlying22 (by kernel_rfl) h
  obtain ⟨a, ha⟩ := open_flag13 h0
  obtain ⟨b, hb⟩ := open_flag13 h1
  obtain ⟨c, hc⟩ := open_flag13 h2
  obtain ⟨d, hd⟩ := open_flag13 h3
  exact ⟨⟨a, b, c, d⟩, ha, hb, hc, hd⟩
theorem open_queryc13 {H : Type} {enc : TypeId × Value → H} {W : World} {n : Nat} {cs : List Value} {y : DataW H × List MemPlace} (hl : cs.length = 14) (h : DataW.trod enc Try.prog W 0 (fun _ => true) true n 25 cs = some y) :
    ∃ q : Q13, cs = (cells13 q).toList := by
  obtain ⟨y0, y1, y2, y3, y4, n', g0, g1, g2, g3, g4⟩ := trod_struct5_13 Try.underlying25 h
  have e1 : Try.prog.cellsOf 2 = 1 := by kernel_rfl
  have e4 : Try.prog.cellsOf 23 = 4 := by kernel_rfl
  have e5 : Try.prog.cellsOf 22 = 4 := by kernel_rfl
  match cs, hl with
  | [c0, c1, c2, c3, c4, c5, c6, c7, c8, c9, c10, c11, c12, c13], _ =>
    simp [e1, e4, e5] at g0 g1 g2 g3 g4
    obtain ⟨K, k0, _, kw⟩ := DataW.trod_int Try.underlying2 g0
    simp only [List.cons.injEq, and_true] at k0
    subst k0
    obtain ⟨L, l0, _, lw⟩ := DataW.trod_int Try.underlying2 g1
    simp only [List.cons.injEq, and_true] at l0
    subst l0
    obtain ⟨g, rfl, rfl, rfl, rfl⟩ := open_flags13 g2
    obtain ⟨h', rfl, rfl, rfl, rfl⟩ := open_flags13 g3
    obtain ⟨a, b, c, d, rfl, rfl, rfl, rfl⟩ := open_texts9 g4
    exact ⟨⟨K, L, g, h', ⟨a, b, c, d⟩⟩, rfl⟩
theorem open_query13 {H : Type} {enc : TypeId × Value → H} {W : World} {b0 : Nat} {v : Value} {d : DataW H} {p : List MemPlace} (hv : Value.okWide Try.prog W .any b0 25 v) (h : DataW.Trod enc Try.prog W 0 (fun _ => true) true 25 v d p) : ∃ q : Q13, v = qv13 q := by
  simp only [Value.okWide, Try.underlying25] at hv
  obtain ⟨cs, rfl, hsz, _⟩ := hv
  obtain ⟨fuel, hf⟩ := h
  have e5 : Try.prog.cellsOf 25 = 14 := by kernel_rfl
  obtain ⟨q, hq⟩ := open_queryc13 (by show (Value.cells (.agg cs)).toList.length = 14; simp [Value.cells]; omega) hf
  refine ⟨q, ?_⟩
  have hq2 : cs.toList = (cells13 q).toList := hq
  have hq3 : cs = cells13 q := by rw [← Array.toList_inj]; exact hq2
  rw [hq3]

theorem Encd13.rd {w w' : World} {q : Q13} {n : Int} {e : Ending} (h : Encd13 w q n e w') : ∃ v, e = .returned (.tuple #[v, .int .i64 (chkQ q n)]) ∧ Rd w' v (if chkQ q n = 0 then encQ q n.toNat else []) ∧ Turn (fun _ => False) w w' ∧ ∀ g, v.ownBlock = some g → g < w'.heap.size := by
  obtain ⟨v, h1, h2⟩ := h
  exact ⟨v, h1, h2.rd, h2.2.1, fun g hg => h2.1.lt hg⟩

def q130 : Q13 := ⟨3, 5, ⟨true, false, false, false⟩, V4.fill false, V4.fill []⟩
set_option maxHeartbeats 4000000 in
theorem alive_any13 (w : World) : Calls Try.prog 8 #[] w fun e w' => e = .returned (.bool true) ∧ Turn (fun _ => False) w w' := by
  have e1 : chkQ q130 1 = 0 := by decide
  have e2 : encQ q130 (1 : Int).toNat = [3, 5, 1, 0] := by decide
  have HEN : Hid (∀ W, Calls Try.prog 13 #[.agg #[.int .i64 3, .int .i64 5, .bool true, .bool false, .bool false, .bool false, .bool false, .bool false, .bool false, .bool false, .string ⟨#[]⟩, .string ⟨#[]⟩, .string ⟨#[]⟩, .string ⟨#[]⟩], .int .i64 1] W fun e w' => ∃ v, e = .returned (.tuple #[v, .int .i64 0]) ∧ Rd w' v [3, 5, 1, 0] ∧ Turn (fun _ => False) W w') := fun W => by
    refine (encode_any13 q130 1 W).mono fun e w' h => ?_
    obtain ⟨v, h1, h2, h3, -⟩ := h.rd
    rw [e1, if_pos rfl, e2] at h2
    rw [e1] at h1
    exact ⟨v, h1, h2, h3⟩
  clear e1 e2
  go_enter Try.func8, Try.ntmps8
  go_wp2_with fail
  refine (HEN.out _).mono ?_
  rintro e w1 ⟨v, rfl, hr, ht⟩
  have HT := Lib.hid ht
  obtain ⟨A, c, rfl⟩ := hr.shape
  obtain ⟨ad, rfl, x0⟩ := hr.at (k := 0) rfl
  obtain ⟨_, h1, x1⟩ := hr.at (k := 1) rfl
  cases h1
  obtain ⟨_, h2, x2⟩ := hr.at (k := 2) rfl
  cases h2
  obtain ⟨_, h3, x3⟩ := hr.at (k := 3) rfl
  cases h3
  rw [show ad.add 0 = ad from rfl] at x0
  have y0 : w1.cell? ad = some (.int .u8 3) := x0
  have y1 : w1.cell? ⟨ad.block, ad.off + 1, none⟩ = some (.int .u8 5) := x1
  have y2 : w1.cell? ⟨ad.block, ad.off + 2, none⟩ = some (.int .u8 1) := x2
  have y3 : w1.cell? ⟨ad.block, ad.off + 3, none⟩ = some (.int .u8 0) := x3
  clear hr ht x0 x1 x2 x3
  go_wp2
  go_ret
  exact ⟨rfl, HT.out⟩

end Go.Proofs.Ytieffpngknglpaa
