
/-
  'PileSorts': the things of any list in their order, equal ones as they came. No condition.
-/
import Derived.Test.YthhlppdphcjlnaaUa
import Derived.Test.YthhlppdphcjlnaaPjw
import Derived.Test.YthhlppdphcjlnaaEd
import Derived.Test.YthhlppdphcjlnaaUo
import Derived.ProofKit
import Derived.OpenShut
namespace Go.Proofs.Ythhlppdphcjlnaa.pileSorts
open Go.ChangeShapes Go.WideShapes Go.ChangeAt Go.RowKit
set_option linter.unusedVariables false

theorem own : ownKnob Try.prog.godebug = none := by kernel_rfl
theorem laidOut : laidOutB Try.prog = true := by kernel_rfl

open plw

set_option maxRecDepth 100000 in
set_option maxHeartbeats 4000000 in
theorem walk (v : Value) (l : List (Int × List UInt8)) (w : World) (h : RdE EI w v l) (hlen : l.length ≤ maxLen) :
    Calls Try.prog 4 #[v] w fun e w' => e = .returned (.bool true) ∧ Below w.heap.size w w' := by
  have HV := Lib.hid h
  obtain ⟨A, c, rfl⟩ := h.shape
  unfold maxLen at hlen
  clear h
  by_cases h150 : l.length ≤ 150
  · have HN0 := Lib.hid (NewE.empty (E := EI) (e := 27) w w (Turn.refl _ w))
    have HS := Lib.hid (HV.out.later HN0.out.turn)
    go_enter Try.func4, Try.ntmps4
    go_wp2_with (at_builtin; refine wpList_things _ rfl _ _ rfl _ [] rfl HN0.out.own _ rfl l HS.out (by simp only [List.length_nil]; omega) ?_; intro A3 n3 c3 w1 ho ht hn; have HN1 := Lib.hid (HN0.out.step ho ht hn); clear ho ht hn)
    refine (sort_any _ l w1 (HV.out.later HN1.out.turn) (by omega)).mono ?_
    rintro e w2 ⟨v2, rfl, o2, n2, t2⟩
    have HO2 := Lib.hid o2; have HT2 := Lib.hid (HN1.out.turn.trans t2 (fun _ _ f => f)); have HW2 := Lib.hid (HN1.out.own.rd.later t2)
    clear o2 n2 t2
    go_wp2_with fail
    refine (ref_sort7 _ l w2 HW2.out (by omega)).mono ?_
    rintro e w3 ⟨v3, rfl, r3, t3⟩
    have HR3 := Lib.hid r3; have HO3 := Lib.hid (HO2.out.rd.later t3); have HW3 := Lib.hid (HW2.out.later t3); have HT3 := Lib.hid (HT2.out.trans t3 (fun _ _ f => f))
    clear r3 t3
    go_wp2_with fail
    refine (same_refl7 _ _ _ w3 HO3.out HR3.out (by rw [(sortS_perm l).length_eq]; omega)).mono ?_
    rintro e w4 ⟨rfl, t4⟩
    have HW4 := Lib.hid (HW3.out.later t4); have HT4 := Lib.hid (HT3.out.trans t4 (fun _ _ f => f))
    clear t4
    go_wp2_with fail
    refine (same_refl7 _ _ l w4 (HV.out.later HT4.out) HW4.out (by omega)).mono ?_
    rintro e w5 ⟨rfl, t5⟩
    have HT5 := Lib.hid (HT4.out.trans t5 (fun _ _ f => f))
    clear t5
    go_wp2_with fail
    refine (alive_any7 w5).mono ?_
    rintro e w6 ⟨rfl, t6⟩
    have HT6 := Lib.hid (HT5.out.trans t6 (fun _ _ f => f))
    clear t6
    go_wp2
    go_ret
    exact ⟨rfl, HT6.out.below (Nat.le_refl _) (fun _ f => f.elim)⟩
  · go_enter Try.func4, Try.ntmps4
    go_wp2_with fail
    refine (alive_any7 w).mono ?_
    rintro e w5 ⟨rfl, ht⟩
    have HTa := Lib.hid ht
    clear ht
    go_wp2
    go_ret
    exact ⟨rfl, HTa.out.below (Nat.le_refl _) (fun _ f => f.elim)⟩

set_option maxRecDepth 100000 in
theorem lifted (os : Os) (started : os.Started) (H : Type) (enc : TypeId × Value → H) :
    ReturnsInHanded {} Try.checked os 4 .any (Rows.pileSortsSpec.pre6 enc Try.prog Try.f4 Rows.pileSortsRow.domain false) (Rows.pileSortsSpec.post enc Try.prog Try.f4 false true false false) := by
  refine returnsInHanded_of_change (C := Try.checked) own started (by kernel_rfl) Try.func4
    (ChangeSpec.witness6 (enc := enc) (C := Try.checked) false ⟨#[], #[.slice none 0 0], []⟩ 8 (by kernel_rfl) (by kernel_rfl) (by kernel_rfl) (by kernel_rfl)) ?_
  intro W base args ds gs before hval0 hW hcnd _
  have hval : ∀ (j : Nat) t v, Try.f4.params[j]? = some t → args[j]? = some v → Value.okWide Try.prog W .any base t v := hval0
  have hW' := hW
  obtain ⟨p, q, hA0, hV, rfl, hfz, hnd⟩ := hW
  have hA : DataW.TrodAll enc Try.prog W 0 (fun _ => true) true Try.f4.params.toList args.toList ds p := hA0
  rw [Try.params4] at hA hval
  obtain ⟨v0, vs0, d0, ds0, p0, q0, hargs, rfl, rfl, h0, r0⟩ := trodAll_cons hA
  obtain ⟨rfl, rfl, rfl⟩ := trodAll_nil r0
  obtain rfl : args = #[v0] := by cases args; simp_all
  obtain ⟨rfl, rfl⟩ := trodVars_none hV
  have k0 := h0
  have lt0 : ∀ x ∈ p0, x.block < W.heap.size := by obtain ⟨m, hm⟩ := k0; exact DataW.trod_lt m _ _ _ hm
  obtain ⟨a0, len0, cap0, rfl⟩ := okWide_slice Try.underlying30 (hval 0 30 v0 rfl rfl)
  obtain ⟨l0, hp0, hl0, hf0⟩ := open_items7 rfl h0
  clear hA0 hval0
  refine (walk _ l0 W hp0 hl0).mono fun e W' ⟨he, bel⟩ => ?_
  subst he
  exact ⟨_, rfl, _, _, _, [], _, [], hW', trodAll_mk1 (shut_bool Try.underlying4 _), (trodAll_cons_mk (Below.trod laidOut (by kernel_rfl) (of_decide_eq_true (by kernel_rfl)) k0 bel lt0) trodAll_mk0), rfl, bel.frame _, fun h => by cases h⟩

theorem over : Rows.pileSortsRow.holds Try.pinned (OpenSpec.ofChange Rows.pileSortsSpec) :=
  OpenClaim.holds_of_wide 4 Try.f4 rfl rfl rfl rfl rfl rfl rfl ⟨rfl, rfl, rfl, rfl, rfl⟩ rfl rfl rfl rfl rfl (by kernel_rfl) Try.func4 (by kernel_rfl)
    (of_decide_eq_true (by kernel_rfl)) (by unfold Func.isWrapper; first | (rw [if_pos (by decide +kernel)]; kernel_rfl) | (rw [if_neg (by decide +kernel)]; exact ⟨rfl, rfl⟩))
    (fun os started H enc _ => lifted os started H enc)

theorem proved : Rows.PileSortsSaid := over
#print axioms proved
end Go.Proofs.Ythhlppdphcjlnaa.pileSorts
