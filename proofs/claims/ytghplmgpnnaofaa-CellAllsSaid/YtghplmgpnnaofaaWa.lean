
/-
  'CellAlls': the cell of any values, and how much they weigh, by the program and by the document: the same for every slice of numbers. No condition.
-/
import Derived.Test.YtghplmgpnnaofaaMg
import Derived.ProofKit
import Derived.OpenShut
import Derived.Deep.RegionHeld3
namespace Go.Proofs.Ytghplmgpnnaofaa.cellAlls
open Go.ChangeShapes Go.WideShapes Go.ChangeAt Go.RowKit
set_option linter.unusedVariables false

theorem own : ownKnob Try.prog.godebug = none := by kernel_rfl
theorem laidOut : laidOutB Try.prog = true := by kernel_rfl

set_option maxRecDepth 100000 in
set_option maxHeartbeats 4000000 in
theorem walk (v : Value) (l : List Int) (w : World) (hv : RdN .i64 w v l) (hlm : l.length ≤ maxLen) (hf0 : ∀ x ∈ l, (Lit.int .i64 x).wf = true) :
    Calls Try.prog 3 #[v] w fun e w' => e = .returned (.bool true) ∧ Below w.heap.size w w' := by
  have HV := Lib.hid hv
  have HF : Hid (∀ x ∈ l, fit x = true) := fun x hx => fit_of (hf0 x hx)
  clear hf0
  obtain ⟨A, c, rfl, _⟩ := hv
  by_cases hl : 200 < l.length
  · go_enter Try.func3, Try.ntmps3
    go_wp2_with (go_at_call 6; (with_reducible refine (alive_any5 _).mono ?_); rintro e w5 ⟨rfl, ht⟩; have HTa := Lib.hid ht; clear ht)
    go_ret
    exact ⟨rfl, HTa.out.below (Nat.le_refl _) (fun _ f => f.elim)⟩
  have hl2 : l.length ≤ 200 := by omega
  have hl3 : l.length ≤ 1000000 := by omega
  clear hlm
  have HA := Lib.hid (fun w1 (h : RdN .i64 w1 (.slice A l.length c) l) => all_any _ l w1 h hl3 HF.out)
  have HB := Lib.hid (fun w1 (h : RdN .i64 w1 (.slice A l.length c) l) => ref_all5 _ l w1 h hl3 HF.out)
  have HW := Lib.hid (fun w1 (h : RdN .i64 w1 (.slice A l.length c) l) => weight_any _ l w1 h hl3 HF.out)
  have HX := Lib.hid (fun w1 (h : RdN .i64 w1 (.slice A l.length c) l) => ref_weight _ l w1 h hl3)
  obtain ⟨n, s, lo, hi, ho, _⟩ := outC_shape (allC l)
  rw [ho] at HA HB
  unfold weighV at HW HX
  generalize (allC l).isSome = b at *
  generalize (weighO l).1 = m at *
  generalize (weighO l).2 = b2 at *
  clear ho
  go_enter Try.func3, Try.ntmps3
  go_wp2_with (first
    | (go_at_call 7; (with_reducible refine (HA.out _ HV.out).mono ?_); rintro e w1 ⟨rfl, ht⟩; have HT1 := Lib.hid ht; clear ht)
    | (go_at_call 8; refine (HB.out _ (HV.out.later (HT1.out.alloc _))).mono ?_; rintro e w2 ⟨rfl, ht⟩; have HT2 := Lib.hid ((HT1.out.alloc _).trans ht (fun _ _ f => f)); obtain ⟨⟨p0, p1, p2, p3⟩, _⟩ := box_cells (n := n) (s := s) (lo := lo) (hi := hi) ((Box.new w1 _ _).turn ht (fun f => f)); obtain ⟨⟨q0, q1, q2, q3⟩, _⟩ := box_cells (n := n) (s := s) (lo := lo) (hi := hi) (((Box.new w1 _ _).turn ht (fun f => f)).alloc (.cells (ca ⟨n, s, lo, hi⟩) 25)); unfold ca at q0 q1 q2 q3; clear ht)
    | (go_at_call 9; refine (HW.out _ (HV.out.later (HT2.out.alloc _))).mono ?_; rintro e w' ⟨rfl, rfl⟩)
    | (go_at_call 10; refine (HX.out _ (HV.out.later (HT2.out.alloc _))).mono ?_; rintro e w' ⟨rfl, rfl⟩)
    | (go_at_call 6; (with_reducible refine (alive_any5 _).mono ?_); rintro e w5 ⟨rfl, ht⟩; have HTa := Lib.hid ht; clear ht))
  go_ret
  exact ⟨rfl, ((HT2.out.alloc _).trans HTa.out (fun _ _ f => f)).below (Nat.le_refl _) (fun _ f => f.elim)⟩

set_option maxRecDepth 100000 in
theorem lifted (os : Os) (started : os.Started) (H : Type) (enc : TypeId × Value → H) :
    ReturnsInHanded {} Try.checked os 3 .any (Rows.cellAllsSpec.pre6 enc Try.prog Try.f3 Rows.cellAllsRow.domain false) (Rows.cellAllsSpec.post enc Try.prog Try.f3 false true false false) := by
  refine returnsInHanded_of_change (C := Try.checked) own started (by kernel_rfl) Try.func3
    (ChangeSpec.witness6 (enc := enc) (C := Try.checked) false ⟨#[], #[.slice none 0 0], []⟩ 8 (by kernel_rfl) (by kernel_rfl) (by kernel_rfl) (by kernel_rfl)) ?_
  intro W base args ds gs before hval0 hW hcnd _
  have hval : ∀ (j : Nat) t v, Try.f3.params[j]? = some t → args[j]? = some v → Value.okWide Try.prog W .any base t v := hval0
  have hW' := hW
  obtain ⟨p, q, hA0, hV, rfl, hfz, hnd⟩ := hW
  have hA : DataW.TrodAll enc Try.prog W 0 (fun _ => true) true Try.f3.params.toList args.toList ds p := hA0
  rw [Try.params3] at hA hval
  obtain ⟨v0, vs0, d0, ds0, p0, q0, hargs, rfl, rfl, h0, r0⟩ := trodAll_cons hA
  obtain ⟨rfl, rfl, rfl⟩ := trodAll_nil r0
  obtain rfl : args = #[v0] := by cases args; simp_all
  obtain ⟨rfl, rfl⟩ := trodVars_none hV
  have k0 := h0
  have lt0 : ∀ x ∈ p0, x.block < W.heap.size := by obtain ⟨m, hm⟩ := k0; exact DataW.trod_lt m _ _ _ hm
  obtain ⟨a0, len0, cap0, rfl⟩ := okWide_slice Try.underlying22 (hval 0 22 v0 rfl rfl)
  obtain ⟨l0, hp0, hl0, hf0⟩ := open_nums Try.underlying22 Try.underlying2 (by kernel_rfl) rfl h0
  clear hA0 hval0
  refine (walk _ l0 W hp0 hl0 hf0).mono fun e W' ⟨he, bel⟩ => ?_
  subst he
  exact ⟨_, rfl, _, _, _, [], _, [], hW', trodAll_mk1 (shut_bool Try.underlying4 _), (trodAll_cons_mk (Below.trod laidOut (by kernel_rfl) (of_decide_eq_true (by kernel_rfl)) k0 bel lt0) trodAll_mk0), rfl, bel.frame _, fun h => by cases h⟩

theorem over : Rows.cellAllsRow.holds Try.pinned (OpenSpec.ofChange Rows.cellAllsSpec) :=
  OpenClaim.holds_of_wide 3 Try.f3 rfl rfl rfl rfl rfl rfl rfl ⟨rfl, rfl, rfl, rfl, rfl⟩ rfl rfl rfl rfl rfl (by kernel_rfl) Try.func3 (by kernel_rfl)
    (of_decide_eq_true (by kernel_rfl)) (by unfold Func.isWrapper; first | (rw [if_pos (by decide +kernel)]; kernel_rfl) | (rw [if_neg (by decide +kernel)]; exact ⟨rfl, rfl⟩))
    (fun os started H enc _ => lifted os started H enc)

theorem proved : Rows.CellAllsSaid := over
#print axioms proved
end Go.Proofs.Ytghplmgpnnaofaa.cellAlls
