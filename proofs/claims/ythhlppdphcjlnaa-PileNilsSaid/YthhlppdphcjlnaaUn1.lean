
/-
  'PileNils': what nil piles, and piles without an order, say. No condition.
-/
import Derived.Test.YthhlppdphcjlnaaUn
import Derived.ProofKit
import Derived.OpenShut
namespace Go.Proofs.Ythhlppdphcjlnaa.pileNils
open Go.ChangeShapes Go.WideShapes Go.ChangeAt Go.RowKit
set_option linter.unusedVariables false

theorem own : ownKnob Try.prog.godebug = none := by kernel_rfl
theorem laidOut : laidOutB Try.prog = true := by kernel_rfl

open pli

set_option maxRecDepth 100000 in
set_option maxHeartbeats 4000000 in
theorem walk (x : Int) (wx : (Lit.int .i64 x).wf = true) (w : World) :
    Calls Try.prog 6 #[.int .i64 x] w fun e w' => e = .returned (.bool true) ∧ Below w.heap.size w w' := by
  clear wx
  go_enter Try.func6, Try.ntmps6
  go_wp2_with fail
  refine (nil_push x w).mono ?_
  rintro e w1 ⟨⟨v, rfl⟩, rfl⟩
  go_wp2_with fail
  refine (np_new w).mono ?_
  rintro e w1 ⟨rfl, hn, ht⟩
  have HN := Lib.hid hn; have HT := Lib.hid ht; clear hn ht
  go_wp2_with fail
  refine (np_push w.heap.size x w1 HN.out).mono ?_
  rintro e w2 ⟨⟨v2, rfl⟩, rfl⟩
  go_wp2_with fail
  refine (nil_pop w1).mono ?_
  rintro e w2 ⟨rfl, rfl⟩
  go_wp2_with fail
  refine (nil_top w1).mono ?_
  rintro e w2 ⟨rfl, rfl⟩
  go_wp2_with fail
  refine (np_pop w.heap.size w1 HN.out).mono ?_
  rintro e w2 ⟨rfl, rfl⟩
  go_wp2_with fail
  refine (nil_len w1).mono ?_
  rintro e w2 ⟨rfl, rfl⟩
  go_wp2_with fail
  refine (np_len w.heap.size _ _ w1 HN.out).mono ?_
  rintro e w2 ⟨rfl, rfl⟩
  go_wp2_with fail
  refine (nil_sorted w1).mono ?_
  rintro e w2 ⟨rfl, rfl⟩
  go_wp2_with fail
  refine (np_sorted w.heap.size w1 HN.out).mono ?_
  rintro e w3 ⟨A3, c3, rfl, ht⟩
  have HT3 : Hid (Turn (fun _ => False) w w3) := HT.out.trans ht (fun _ _ f => f)
  clear ht
  go_wp2_with fail
  refine (np_sort x _ _ _ (one_row ET 2 w3 x)).mono ?_
  rintro e w4 ⟨A4, c4, rfl, ht⟩
  have HT4 : Hid (Turn (fun _ => False) w w4) := (HT3.out.alloc _).trans ht (fun _ _ f => f)
  clear ht
  go_wp2_with fail
  refine (alive_any7 w4).mono ?_
  rintro e w5 ⟨rfl, ht⟩
  have HT5 : Hid (Turn (fun _ => False) w w5) := HT4.out.trans ht (fun _ _ f => f)
  clear ht
  go_wp2
  go_ret
  exact ⟨rfl, HT5.out.below (Nat.le_refl _) (fun _ f => f.elim)⟩

set_option maxRecDepth 100000 in
theorem lifted (os : Os) (started : os.Started) (H : Type) (enc : TypeId × Value → H) :
    ReturnsInHanded {} Try.checked os 6 .any (Rows.pileNilsSpec.pre6 enc Try.prog Try.f6 Rows.pileNilsRow.domain false) (Rows.pileNilsSpec.post enc Try.prog Try.f6 false true false false) := by
  refine returnsInHanded_of_change (C := Try.checked) own started (by kernel_rfl) Try.func6
    (ChangeSpec.witness6 (enc := enc) (C := Try.checked) false ⟨#[], #[.int .i64 0], []⟩ 8 (by kernel_rfl) (by kernel_rfl) (by kernel_rfl) (by kernel_rfl)) ?_
  intro W base args ds gs before hval0 hW hcnd _
  have hval : ∀ (j : Nat) t v, Try.f6.params[j]? = some t → args[j]? = some v → Value.okWide Try.prog W .any base t v := hval0
  have hW' := hW
  obtain ⟨p, q, hA0, hV, rfl, hfz, hnd⟩ := hW
  have hA : DataW.TrodAll enc Try.prog W 0 (fun _ => true) true Try.f6.params.toList args.toList ds p := hA0
  rw [Try.params6] at hA hval
  obtain ⟨v0, vs0, d0, ds0, p0, q0, hargs, rfl, rfl, h0, r0⟩ := trodAll_cons hA
  obtain ⟨rfl, rfl, rfl⟩ := trodAll_nil r0
  obtain rfl : args = #[v0] := by cases args; simp_all
  obtain ⟨rfl, rfl⟩ := trodVars_none hV
  obtain ⟨a0, rfl, rfl, rfl, w0⟩ := open_int Try.underlying2 (hval 0 2 v0 rfl rfl) h0
  clear hA0 hval0
  simp only [List.append_nil] at hW'
  refine (walk a0 w0 W).mono fun e W' ⟨he, bel⟩ => ?_
  subst he
  exact ⟨_, rfl, _, _, _, [], [], [], hW', trodAll_mk1 (shut_bool Try.underlying4 _), (trodAll_cons_mk (shut_int Try.underlying2 w0) trodAll_mk0), rfl, bel.frame _, fun h => by cases h⟩

theorem over : Rows.pileNilsRow.holds Try.pinned (OpenSpec.ofChange Rows.pileNilsSpec) :=
  OpenClaim.holds_of_wide 6 Try.f6 rfl rfl rfl rfl rfl rfl rfl ⟨rfl, rfl, rfl, rfl, rfl⟩ rfl rfl rfl rfl rfl (by kernel_rfl) Try.func6 (by kernel_rfl)
    (of_decide_eq_true (by kernel_rfl)) (by unfold Func.isWrapper; first | (rw [if_pos (by decide +kernel)]; kernel_rfl) | (rw [if_neg (by decide +kernel)]; exact ⟨rfl, rfl⟩))
    (fun os started H enc _ => lifted os started H enc)

theorem proved : Rows.PileNilsSaid := over
#print axioms proved
end Go.Proofs.Ythhlppdphcjlnaa.pileNils
