/-
  'PartDues': which partitions are due, and the best tier of any hour. No condition.
-/
import Derived.Test.YtmpgfipfijbbkaaJocae
import Derived.Deep.Strs
import Derived.Test.YtmpgfipfijbbkaaJocaj
import Derived.ProofKit
import Derived.OpenShut

/-
  Stage 18: policies that came in.
-/
namespace Go.Proofs.Ytmpgfipfijbbkaa
open Go.RowKit Go.ChangeShapes Go.WideShapes Go.Deep

set_option maxRecDepth 100000

theorem open_polc18 {H : Type} {enc : TypeId × Value → H} {W : World} {n : Nat} {cs : List Value} {y : DataW H × List MemPlace} (hl : cs.length = 9) (h : DataW.trod enc Try.prog W 0 (fun _ => true) true n 34 cs = some y) :
    ∃ p : Y18, cs = (ycells18 p).toList := by
  obtain ⟨xs, n', _, rfl, _, hlen, hf⟩ := DataW.trod_struct Try.underlying34 h
  have e1 : Try.prog.cellsOf 2 = 1 := by kernel_rfl
  have e2 : Try.prog.cellsOf 3 = 1 := by kernel_rfl
  match xs, hlen, cs, hl with
  | [y0, y1, y2, y3, y4, y5, y6, y7, y8], _, [c0, c1, c2, c3, c4, c5, c6, c7, c8], _ =>
    have g0 := hf 0 _ rfl
    have g1 := hf 1 _ rfl
    have g2 := hf 2 _ rfl
    have g3 := hf 3 _ rfl
    have g4 := hf 4 _ rfl
    have g5 := hf 5 _ rfl
    have g6 := hf 6 _ rfl
    have g7 := hf 7 _ rfl
    have g8 := hf 8 _ rfl
    simp [e1, e2] at g0 g1 g2 g3 g4 g5 g6 g7 g8
    obtain ⟨K0, k0, _, _⟩ := DataW.trod_int Try.underlying2 g0
    obtain ⟨K1, k1, _, _⟩ := DataW.trod_int Try.underlying2 g1
    obtain ⟨K2, k2, _, _⟩ := DataW.trod_int Try.underlying2 g2
    obtain ⟨K3, k3, _, _⟩ := DataW.trod_int Try.underlying2 g3
    obtain ⟨K4, k4, _, _⟩ := DataW.trod_int Try.underlying2 g4
    obtain ⟨K5, k5, _, _⟩ := DataW.trod_int Try.underlying2 g5
    obtain ⟨K6, k6, _, _⟩ := DataW.trod_int Try.underlying2 g6
    obtain ⟨K7, k7, _, _⟩ := DataW.trod_int Try.underlying3 g7
    obtain ⟨K8, k8, _, _⟩ := DataW.trod_int Try.underlying2 g8
    simp only [List.cons.injEq, and_true] at k0 k1 k2 k3 k4 k5 k6 k7 k8
    subst k0 k1 k2 k3 k4 k5 k6 k7 k8
    exact ⟨⟨K0, K1, K2, K3, K4, K5, K6, K7, K8⟩, rfl⟩
theorem open_pol18 {H : Type} {enc : TypeId × Value → H} {W : World} {b0 : Nat} {v : Value} {d : DataW H} {p : List MemPlace} (hv : Value.okWide Try.prog W .any b0 34 v) (h : DataW.Trod enc Try.prog W 0 (fun _ => true) true 34 v d p) : ∃ q : Y18, v = yv18 q := by
  simp only [Value.okWide, Try.underlying34] at hv
  obtain ⟨cs, rfl, hsz, _⟩ := hv
  obtain ⟨fuel, hf⟩ := h
  have e5 : Try.prog.cellsOf 34 = 9 := by kernel_rfl
  obtain ⟨q, hq⟩ := open_polc18 (by show (Value.cells (.agg cs)).toList.length = 9; simp [Value.cells]; omega) hf
  refine ⟨q, ?_⟩
  have hq2 : cs.toList = (ycells18 q).toList := hq
  have hq3 : cs = ycells18 q := by rw [← Array.toList_inj]; exact hq2
  rw [hq3]

end Go.Proofs.Ytmpgfipfijbbkaa

namespace Go.Proofs.Ytmpgfipfijbbkaa.partDues
open Go.ChangeShapes Go.WideShapes Go.ChangeAt Go.RowKit
set_option linter.unusedVariables false

theorem own : ownKnob Try.prog.godebug = none := by kernel_rfl
theorem laidOut : laidOutB Try.prog = true := by kernel_rfl

theorem walk (p : T19) (f : Int) (y : Y18) (h : Int) (_wf : (Lit.int .i64 f).wf = true) (_wh : (Lit.int .i64 h).wf = true) (w : World) :
    Calls Try.prog 5 #[tv19 p, .int .i64 f, yv18 y, .int .i64 h] w fun e w' => e = .returned (.bool true) ∧ Below w.heap.size w w' :=
  (dues_any19 prog19 p f y h w).mono fun _ _ h => ⟨h.1, h.2.below (Nat.le_refl _) (fun _ f => f.elim)⟩

set_option maxRecDepth 100000 in
set_option maxRecDepth 100000 in
theorem lifted (os : Os) (started : os.Started) (H : Type) (enc : TypeId × Value → H) :
    ReturnsInHanded {} Try.checked os 5 .any (Rows.partDuesSpec.pre6 enc Try.prog Try.f5 Rows.partDuesRow.domain false) (Rows.partDuesSpec.post enc Try.prog Try.f5 false true false false) := by
  refine returnsInHanded_of_change (C := Try.checked) own started (by kernel_rfl) Try.func5
    (ChangeSpec.witness6 (enc := enc) (C := Try.checked) false ⟨#[], #[.agg #[.int .i64 0, .int .i64 0], .int .i64 0, .agg #[.int .i64 0, .int .i64 0, .int .i64 0, .int .i64 0, .int .i64 0, .int .i64 0, .int .i64 0, .int .i64 0, .int .i64 0], .int .i64 0], []⟩ 8 (by kernel_rfl) (by kernel_rfl) (by kernel_rfl) (by kernel_rfl)) ?_
  intro W base args ds gs before hval0 hW hcnd _
  have hval : ∀ (j : Nat) t v, Try.f5.params[j]? = some t → args[j]? = some v → Value.okWide Try.prog W .any base t v := hval0
  have hW' := hW
  obtain ⟨p, q, hA0, hV, rfl, hfz, hnd⟩ := hW
  have hA : DataW.TrodAll enc Try.prog W 0 (fun _ => true) true Try.f5.params.toList args.toList ds p := hA0
  rw [Try.params5] at hA hval
  obtain ⟨v0, vs0, d0, ds0, p0, q0, hargs, rfl, rfl, h0, r0⟩ := trodAll_cons hA
  obtain ⟨v1, vs1, d1, ds1, p1, q1, rfl, rfl, rfl, h1, r1⟩ := trodAll_cons r0
  obtain ⟨v2, vs2, d2, ds2, p2, q2, rfl, rfl, rfl, h2, r2⟩ := trodAll_cons r1
  obtain ⟨v3, vs3, d3, ds3, p3, q3, rfl, rfl, rfl, h3, r3⟩ := trodAll_cons r2
  obtain ⟨rfl, rfl, rfl⟩ := trodAll_nil r3
  obtain rfl : args = #[v0, v1, v2, v3] := by cases args; simp_all
  obtain ⟨rfl, rfl⟩ := trodVars_none hV
  have k0 := h0
  have lt0 : ∀ x ∈ p0, x.block < W.heap.size := by obtain ⟨m, hm⟩ := k0; exact DataW.trod_lt m _ _ _ hm
  obtain ⟨pa0, hq0, hf0⟩ := open_part19 (hval 0 23 v0 rfl rfl) h0
  subst hq0
  obtain ⟨a1, rfl, rfl, rfl, w1⟩ := open_int Try.underlying2 (hval 1 2 v1 rfl rfl) h1
  have k2 := h2
  have lt2 : ∀ x ∈ p2, x.block < W.heap.size := by obtain ⟨m, hm⟩ := k2; exact DataW.trod_lt m _ _ _ hm
  obtain ⟨py2, hq2⟩ := open_pol18 (hval 2 34 v2 rfl rfl) h2
  subst hq2
  obtain ⟨a3, rfl, rfl, rfl, w3⟩ := open_int Try.underlying2 (hval 3 2 v3 rfl rfl) h3
  clear hA0 hval0
  refine (walk pa0 a1 py2 a3 w1 w3 W).mono fun e W' ⟨he, bel⟩ => ?_
  subst he
  exact ⟨_, rfl, _, _, _, [], _, [], hW', trodAll_mk1 (shut_bool Try.underlying4 _), (trodAll_cons_mk (Below.trod laidOut (by kernel_rfl) (of_decide_eq_true (by kernel_rfl)) k0 bel lt0) (trodAll_cons_mk (shut_int Try.underlying2 w1) (trodAll_cons_mk (Below.trod laidOut (by kernel_rfl) (of_decide_eq_true (by kernel_rfl)) k2 bel lt2) (trodAll_cons_mk (shut_int Try.underlying2 w3) trodAll_mk0)))), rfl, bel.frame _, fun h => by cases h⟩

theorem over : Rows.partDuesRow.holds Try.pinned (OpenSpec.ofChange Rows.partDuesSpec) :=
  OpenClaim.holds_of_wide 5 Try.f5 rfl rfl rfl rfl rfl rfl rfl ⟨rfl, rfl, rfl, rfl, rfl⟩ rfl rfl rfl rfl rfl (by kernel_rfl) Try.func5 (by kernel_rfl)
    (of_decide_eq_true (by kernel_rfl)) (by unfold Func.isWrapper; first | (rw [if_pos (by decide +kernel)]; kernel_rfl) | (rw [if_neg (by decide +kernel)]; exact ⟨rfl, rfl⟩))
    (fun os started H enc _ => lifted os started H enc)

theorem proved : Rows.PartDuesSaid := over
#print axioms proved
end Go.Proofs.Ytmpgfipfijbbkaa.partDues
