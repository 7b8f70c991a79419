/-
  'PackInts': of any number with a sign the writer's bytes are the document's. No condition.
-/
import Derived.Test.YtjanmiafnldkgaaOl
import Derived.ProofKit
import Derived.OpenShut
namespace Go.Proofs.Ytjanmiafnldkgaa.packInts
open Go.ChangeShapes Go.WideShapes Go.ChangeAt Go.RowKit
set_option linter.unusedVariables false

theorem own : ownKnob Try.prog.godebug = none := by kernel_rfl
theorem laidOut : laidOutB Try.prog = true := by kernel_rfl

theorem i64_hid {n : Int} (h : (Lit.int .i64 n).wf = true) : Hid (-9223372036854775808 ≤ n) ∧ Hid (n ≤ 9223372036854775807) := by
  have hx : -9223372036854775808 ≤ n ∧ n ≤ 9223372036854775807 := by simpa [Lit.wf, IntKind.min, IntKind.max, IntKind.signed, IntKind.bits] using h
  exact hx

set_option maxRecDepth 100000 in
set_option maxHeartbeats 1000000 in
theorem walk (a0 : Int) (w0 : (Lit.int .i64 a0).wf = true) (w : World) :
    Calls Try.prog 4 #[.int .i64 a0] w fun e w' => e = .returned (.bool true) ∧ Below w.heap.size w w' := by
  have hn := (i64_hid w0).1
  have hm := (i64_hid w0).2
  have H0 := Lib.hid (Own.new w)
  clear w0
  go_enter Try.func4, Try.ntmps4
  go_wp2_with (first
    | (go_at_call 13; refine (int_put w.heap.size _ [] a0 _ H0.out.1 hn hm (by simp)).mono ?_; rintro e w1 ⟨rfl, u1, h⟩; have H1 := Lib.hid (H0.out.put h); clear h)
    | (go_at_call 10; refine (bytes_any w.heap.size u1 _ w1 H1.out.1 (by have := enc_len (zig a0); simp; omega)).mono ?_; rintro e w2 ⟨v2, rfl, hb, ht, hk⟩; have HB2 := Lib.hid hb; have HT2 := Lib.hid (H1.out.2.1.fresh ht (fun _ f => f.elim)); clear hb ht hk)
    | (go_at_call 14; refine (ref_int a0 w2 hn hm).mono ?_; rintro e w3 ⟨v3, rfl, hm⟩; have HB3 := Lib.hid hm.1; have HC3 := Lib.hid (HB2.out.turn hm.2.1 (fun _ _ f => f)); have HT3 := Lib.hid (HT2.out.fresh hm.2.1 (fun _ f => f.elim)); clear hm)
    | (go_at_call 8; refine (same_any v2 v3 _ _ w3 HC3.out.rd HB3.out.rd).mono ?_; rintro e w4 ⟨rfl, rfl⟩)
    | (go_at_call 12; refine (alive_any w3).mono ?_; rintro e w5 ⟨rfl, ht⟩; have HT5 := Lib.hid (HT3.out.fresh ht (fun _ f => f.elim)); clear ht))
  go_ret
  exact ⟨rfl, HT5.out.below (Nat.le_refl _) (fun _ f => f.elim)⟩

set_option maxRecDepth 100000 in
theorem lifted (os : Os) (started : os.Started) (H : Type) (enc : TypeId × Value → H) :
    ReturnsInHanded {} Try.checked os 4 .any (Rows.packIntsSpec.pre6 enc Try.prog Try.f4 Rows.packIntsRow.domain false) (Rows.packIntsSpec.post enc Try.prog Try.f4 false true false false) := by
  refine returnsInHanded_of_change (C := Try.checked) own started (by kernel_rfl) Try.func4
    (ChangeSpec.witness6 (enc := enc) (C := Try.checked) false ⟨#[], #[.int .i64 0], []⟩ 8 (by kernel_rfl) (by kernel_rfl) (by kernel_rfl) (by kernel_rfl)) ?_
  intro W base args ds gs before hval0 hW hcnd _
  have hval : ∀ (j : Nat) t v, Try.f4.params[j]? = some t → args[j]? = some v → Value.okWide Try.prog W .any base t v := hval0
  have hW' := hW
  obtain ⟨p, q, hA0, hV, rfl, hfz, hnd⟩ := hW
  have hA : DataW.TrodAll enc Try.prog W 0 (fun _ => true) true Try.f4.params.toList args.toList ds p := hA0
  rw [Try.params4] at hA hval
  obtain ⟨v0, vs0, d0, ds0, p0, q0, hargs, rfl, rfl, h0, r0⟩ := trodAll_cons hA
  obtain ⟨rfl, rfl, rfl⟩ := trodAll_nil r0
  obtain rfl : args = #[v0] := by cases args; simp_all
  obtain ⟨rfl, rfl⟩ := trodVars_none hV
  obtain ⟨a0, rfl, rfl, rfl, w0⟩ := open_int Try.underlying2 (hval 0 2 v0 rfl rfl) h0
  clear hA0 hval0
  simp only [List.append_nil] at hW'
  refine (walk a0 w0 W).mono fun e W' ⟨he, bel⟩ => ?_
  subst he
  exact ⟨_, rfl, _, _, _, [], [], [], hW', trodAll_mk1 (shut_bool Try.underlying4 _), (trodAll_cons_mk (shut_int Try.underlying2 w0) trodAll_mk0), rfl, bel.frame _, fun h => by cases h⟩

theorem over : Rows.packIntsRow.holds Try.pinned (OpenSpec.ofChange Rows.packIntsSpec) :=
  OpenClaim.holds_of_wide 4 Try.f4 rfl rfl rfl rfl rfl rfl rfl ⟨rfl, rfl, rfl, rfl, rfl⟩ rfl rfl rfl rfl rfl (by kernel_rfl) Try.func4 (by kernel_rfl)
    (of_decide_eq_true (by kernel_rfl)) (by unfold Func.isWrapper; first | (rw [if_pos (by decide +kernel)]; kernel_rfl) | (rw [if_neg (by decide +kernel)]; exact ⟨rfl, rfl⟩))
    (fun os started H enc _ => lifted os started H enc)

theorem proved : Rows.PackIntsSaid := over
#print axioms proved
end Go.Proofs.Ytjanmiafnldkgaa.packInts
