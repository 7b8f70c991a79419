/-
  'PackNums': of any number without a sign the writer's bytes are the document's. No condition.
-/
import Derived.Test.YtjanmiafnldkgaaOl
import Derived.ProofKit
import Derived.OpenShut
namespace Go.Proofs.Ytjanmiafnldkgaa.packNums
open Go.ChangeShapes Go.WideShapes Go.ChangeAt Go.RowKit
set_option linter.unusedVariables false

theorem own : ownKnob Try.prog.godebug = none := by kernel_rfl
theorem laidOut : laidOutB Try.prog = true := by kernel_rfl

theorem u64_hid {n : Int} (h : (Lit.int .u64 n).wf = true) : ∃ k : Nat, n = (k : Int) ∧ Hid (k < 18446744073709551616) := by
  have hx : 0 ≤ n ∧ n ≤ 18446744073709551615 := by simpa [Lit.wf, IntKind.min, IntKind.max, IntKind.signed, IntKind.bits] using h
  obtain ⟨k, rfl⟩ := Int.eq_ofNat_of_zero_le hx.1
  refine ⟨k, rfl, ?_⟩
  show k < 18446744073709551616
  omega

set_option maxRecDepth 100000 in
set_option maxHeartbeats 1000000 in
theorem walk (a0 : Int) (w0 : (Lit.int .u64 a0).wf = true) (w : World) :
    Calls Try.prog 3 #[.int .u64 a0] w fun e w' => e = .returned (.bool true) ∧ Below w.heap.size w w' := by
  obtain ⟨n, rfl, hn⟩ := u64_hid w0
  have H0 := Lib.hid (Own.new w)
  clear w0
  go_enter Try.func3, Try.ntmps3
  go_wp2_with (first
    | (go_at_call 9; refine (num_put w.heap.size _ [] n _ H0.out.1 hn (by simp)).mono ?_; rintro e w1 ⟨rfl, u1, h⟩; have H1 := Lib.hid (H0.out.put h); clear h)
    | (go_at_call 10; refine (bytes_any w.heap.size u1 _ w1 H1.out.1 (by have := enc_len n; simp; omega)).mono ?_; rintro e w2 ⟨v2, rfl, hb, ht, hk⟩; have HB2 := Lib.hid hb; have HT2 := Lib.hid (H1.out.2.1.fresh ht (fun _ f => f.elim)); clear hb ht hk)
    | (go_at_call 11; refine (ref_num n w2 hn).mono ?_; rintro e w3 ⟨v3, rfl, hm⟩; have HB3 := Lib.hid hm.1; have HC3 := Lib.hid (HB2.out.turn hm.2.1 (fun _ _ f => f)); have HT3 := Lib.hid (HT2.out.fresh hm.2.1 (fun _ f => f.elim)); clear hm)
    | (go_at_call 8; refine (same_any v2 v3 _ _ w3 HC3.out.rd HB3.out.rd).mono ?_; rintro e w4 ⟨rfl, rfl⟩)
    | (go_at_call 12; refine (alive_any w3).mono ?_; rintro e w5 ⟨rfl, ht⟩; have HT5 := Lib.hid (HT3.out.fresh ht (fun _ f => f.elim)); clear ht))
  go_ret
  exact ⟨rfl, HT5.out.below (Nat.le_refl _) (fun _ f => f.elim)⟩

set_option maxRecDepth 100000 in
theorem lifted (os : Os) (started : os.Started) (H : Type) (enc : TypeId × Value → H) :
    ReturnsInHanded {} Try.checked os 3 .any (Rows.packNumsSpec.pre6 enc Try.prog Try.f3 Rows.packNumsRow.domain false) (Rows.packNumsSpec.post enc Try.prog Try.f3 false true false false) := by
  refine returnsInHanded_of_change (C := Try.checked) own started (by kernel_rfl) Try.func3
    (ChangeSpec.witness6 (enc := enc) (C := Try.checked) false ⟨#[], #[.int .u64 0], []⟩ 8 (by kernel_rfl) (by kernel_rfl) (by kernel_rfl) (by kernel_rfl)) ?_
  intro W base args ds gs before hval0 hW hcnd _
  have hval : ∀ (j : Nat) t v, Try.f3.params[j]? = some t → args[j]? = some v → Value.okWide Try.prog W .any base t v := hval0
  have hW' := hW
  obtain ⟨p, q, hA0, hV, rfl, hfz, hnd⟩ := hW
  have hA : DataW.TrodAll enc Try.prog W 0 (fun _ => true) true Try.f3.params.toList args.toList ds p := hA0
  rw [Try.params3] at hA hval
  obtain ⟨v0, vs0, d0, ds0, p0, q0, hargs, rfl, rfl, h0, r0⟩ := trodAll_cons hA
  obtain ⟨rfl, rfl, rfl⟩ := trodAll_nil r0
  obtain rfl : args = #[v0] := by cases args; simp_all
  obtain ⟨rfl, rfl⟩ := trodVars_none hV
  obtain ⟨a0, rfl, rfl, rfl, w0⟩ := open_int Try.underlying22 (hval 0 22 v0 rfl rfl) h0
  clear hA0 hval0
  simp only [List.append_nil] at hW'
  refine (walk a0 w0 W).mono fun e W' ⟨he, bel⟩ => ?_
  subst he
  exact ⟨_, rfl, _, _, _, [], [], [], hW', trodAll_mk1 (shut_bool Try.underlying4 _), (trodAll_cons_mk (shut_int Try.underlying22 w0) trodAll_mk0), rfl, bel.frame _, fun h => by cases h⟩

theorem over : Rows.packNumsRow.holds Try.pinned (OpenSpec.ofChange Rows.packNumsSpec) :=
  OpenClaim.holds_of_wide 3 Try.f3 rfl rfl rfl rfl rfl rfl rfl ⟨rfl, rfl, rfl, rfl, rfl⟩ rfl rfl rfl rfl rfl (by kernel_rfl) Try.func3 (by kernel_rfl)
    (of_decide_eq_true (by kernel_rfl)) (by unfold Func.isWrapper; first | (rw [if_pos (by decide +kernel)]; kernel_rfl) | (rw [if_neg (by decide +kernel)]; exact ⟨rfl, rfl⟩))
    (fun os started H enc _ => lifted os started H enc)

theorem proved : Rows.PackNumsSaid := over
#print axioms proved
end Go.Proofs.Ytjanmiafnldkgaa.packNums
