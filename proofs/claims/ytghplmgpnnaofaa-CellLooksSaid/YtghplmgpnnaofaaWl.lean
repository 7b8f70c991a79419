
/-
  'CellLooks': which cells are right, and any one's mean, by the program and by the document: the same for every cell. No condition.
-/
import Derived.Test.YtghplmgpnnaofaaMg
import Derived.ProofKit
import Derived.OpenShut
import Derived.Deep.RegionHeld3
namespace Go.Proofs.Ytghplmgpnnaofaa.cellLooks
open Go.ChangeShapes Go.WideShapes Go.ChangeAt Go.RowKit
set_option linter.unusedVariables false

theorem own : ownKnob Try.prog.godebug = none := by kernel_rfl
theorem laidOut : laidOutB Try.prog = true := by kernel_rfl

set_option maxRecDepth 100000 in
set_option maxHeartbeats 4000000 in
theorem walk (n s lo hi : Int) (w : World) (hc : okC ⟨n, s, lo, hi⟩) :
    Calls Try.prog 4 #[.agg #[.int .i64 n, .int .i64 s, .int .i64 lo, .int .i64 hi]] w fun e w' => e = .returned (.bool true) ∧ Below w.heap.size w w' := by
  have HM := Lib.hid (mean_any n s lo hi · (Lib.hid hc.2.1))
  have HN := Lib.hid (ref_mean n s lo hi · (Lib.hid hc.2.1))
  have HR := Lib.hid (right_any n s lo hi)
  have HQ := Lib.hid (ref_right n s lo hi)
  obtain ⟨x, b, hx⟩ := meanV_shape n s
  rw [hx] at HM HN
  generalize rightC ⟨n, s, lo, hi⟩ = r at *
  clear hc hx
  have HK := Lib.hid (cell_keep (w := w) (c := ⟨n, s, lo, hi⟩))
  go_enter Try.func4, Try.ntmps4
  go_wp2_with (first
    | (go_at_call 11; (with_reducible refine (HM.out _).mono ?_); rintro e w1 ⟨rfl, ht⟩; have HT1 := Lib.hid (((Turn.refl (fun _ => False) w).alloc _).trans ht (fun _ _ f => f)); obtain ⟨p0, p1, p2, p3⟩ := HK.out _ ht; have HU1 := Lib.hid ht; clear ht)
    | (go_at_call 12; (with_reducible refine (HN.out _).mono ?_); rintro e w2 ⟨rfl, ht⟩; obtain ⟨p0, p1, p2, p3⟩ := HK.out _ (HU1.out.trans ht (fun _ _ f => f)); have HU2 := Lib.hid (HU1.out.trans ht (fun _ _ f => f)); clear ht))
  have HKK := Lib.hid (cell_held (c := ⟨n, s, lo, hi⟩) HU2.out)
  go_region_held3 (fun w' => (w'.cell? ⟨w.heap.size, 0, none⟩ = some (.int .i64 n) ∧ w'.cell? ⟨w.heap.size, 1, none⟩ = some (.int .i64 s) ∧ w'.cell? ⟨w.heap.size, 2, none⟩ = some (.int .i64 lo) ∧ w'.cell? ⟨w.heap.size, 3, none⟩ = some (.int .i64 hi)) ∧ Turn (fun _ => False) w2 w')
    (exact HKK.out _ (by first | with_reducible exact (Turn.refl _ w2).drew | with_reducible exact HTa.out | with_reducible exact HTr.out | with_reducible exact HTq.out))
    (first
      | (go_at_call 13; (with_reducible refine (HR.out _).mono ?_); rintro e w3 ⟨rfl, ht⟩; have HTr := Lib.hid (Turn.trans (T := fun _ => False) (S := fun _ => False) (a := w2) (by first | with_reducible exact (Turn.refl _ w2).drew | with_reducible exact HTq.out) ht (fun _ _ f => f)); clear ht)
      | (go_at_call 14; (with_reducible refine (HQ.out _).mono ?_); rintro e w4 ⟨rfl, ht⟩; have HTq := Lib.hid (Turn.trans (T := fun _ => False) (S := fun _ => False) (a := w2) (by first | with_reducible exact (Turn.refl _ w2).drew | with_reducible exact HTr.out) ht (fun _ _ f => f)); clear ht)
      | (go_at_call 6; (with_reducible refine (alive_any5 _).mono ?_); rintro e w5 ⟨rfl, ht⟩; have HTa := Lib.hid (Turn.trans (T := fun _ => False) (S := fun _ => False) (a := w2) (by first | with_reducible exact HTr.out | with_reducible exact HTq.out) ht (fun _ _ f => f)); clear ht))
  all_goals go_wp2
  all_goals go_ret
  all_goals refine ⟨rfl, (Turn.below (S := fun _ => False) ?_ (Nat.le_refl _) (fun _ f => f.elim))⟩
  all_goals exact (((Turn.refl _ w).alloc _).trans HU2.out (fun _ _ f => f)).trans HTa.out (fun _ _ f => f)

set_option maxRecDepth 100000 in
theorem lifted (os : Os) (started : os.Started) (H : Type) (enc : TypeId × Value → H) :
    ReturnsInHanded {} Try.checked os 4 .any (Rows.cellLooksSpec.pre6 enc Try.prog Try.f4 Rows.cellLooksRow.domain false) (Rows.cellLooksSpec.post enc Try.prog Try.f4 false true false false) := by
  refine returnsInHanded_of_change (C := Try.checked) own started (by kernel_rfl) Try.func4
    (ChangeSpec.witness6 (enc := enc) (C := Try.checked) false ⟨#[], #[.agg #[.int .i64 0, .int .i64 0, .int .i64 0, .int .i64 0]], []⟩ 8 (by kernel_rfl) (by kernel_rfl) (by kernel_rfl) (by kernel_rfl)) ?_
  intro W base args ds gs before hval0 hW hcnd _
  have hval : ∀ (j : Nat) t v, Try.f4.params[j]? = some t → args[j]? = some v → Value.okWide Try.prog W .any base t v := hval0
  have hW' := hW
  obtain ⟨p, q, hA0, hV, rfl, hfz, hnd⟩ := hW
  have hA : DataW.TrodAll enc Try.prog W 0 (fun _ => true) true Try.f4.params.toList args.toList ds p := hA0
  rw [Try.params4] at hA hval
  obtain ⟨v0, vs0, d0, ds0, p0, q0, hargs, rfl, rfl, h0, r0⟩ := trodAll_cons hA
  obtain ⟨rfl, rfl, rfl⟩ := trodAll_nil r0
  obtain rfl : args = #[v0] := by cases args; simp_all
  obtain ⟨rfl, rfl⟩ := trodVars_none hV
  have k0 := h0
  have lt0 : ∀ x ∈ p0, x.block < W.heap.size := by obtain ⟨m, hm⟩ := k0; exact DataW.trod_lt m _ _ _ hm
  obtain ⟨n0, s0, lo0, hi0, rfl, hc0⟩ := open_cell (hval 0 25 v0 rfl rfl) h0
  clear hA0 hval0
  refine (walk n0 s0 lo0 hi0 W hc0).mono fun e W' ⟨he, bel⟩ => ?_
  subst he
  exact ⟨_, rfl, _, _, _, [], _, [], hW', trodAll_mk1 (shut_bool Try.underlying4 _), (trodAll_cons_mk (Below.trod laidOut (by kernel_rfl) (of_decide_eq_true (by kernel_rfl)) k0 bel lt0) trodAll_mk0), rfl, bel.frame _, fun h => by cases h⟩

theorem over : Rows.cellLooksRow.holds Try.pinned (OpenSpec.ofChange Rows.cellLooksSpec) :=
  OpenClaim.holds_of_wide 4 Try.f4 rfl rfl rfl rfl rfl rfl rfl ⟨rfl, rfl, rfl, rfl, rfl⟩ rfl rfl rfl rfl rfl (by kernel_rfl) Try.func4 (by kernel_rfl)
    (of_decide_eq_true (by kernel_rfl)) (by unfold Func.isWrapper; first | (rw [if_pos (by decide +kernel)]; kernel_rfl) | (rw [if_neg (by decide +kernel)]; exact ⟨rfl, rfl⟩))
    (fun os started H enc _ => lifted os started H enc)

theorem proved : Rows.CellLooksSaid := over
#print axioms proved
end Go.Proofs.Ytghplmgpnnaofaa.cellLooks
