
/-
  'DictNils': what a nil dictionary says. No condition.
-/
import Derived.Test.YtnapeckpjnbcgaaDt
import Derived.ProofKit
import Derived.OpenShut
namespace Go.Proofs.Ytnapeckpjnbcgaa.dictNils
open Go.ChangeShapes Go.WideShapes Go.ChangeAt Go.RowKit
set_option linter.unusedVariables false

theorem own : ownKnob Try.prog.godebug = none := by kernel_rfl
theorem laidOut : laidOutB Try.prog = true := by kernel_rfl

set_option maxRecDepth 100000 in
set_option maxHeartbeats 4000000 in
theorem walk (S : ByteArray) (_ws : S.size ≤ maxLen) (n : Int) (_wn : (Lit.int .i64 n).wf = true) (w : World) :
    Calls Try.prog 6 #[.string S, .int .i64 n] w fun e w' => e = .returned (.bool true) ∧ Below w.heap.size w w' := by
  clear _ws
  obtain ⟨x, rfl⟩ : ∃ x : List UInt8, S = ⟨x.toArray⟩ := ⟨S.data.toList, by simp⟩
  have HC := Lib.hid (code_any10 (.pointer none) [] x w (DV10.nil w))
  have ec : codeA x [] = .tuple #[.int .i64 0, .bool false] := by simp [codeA, idxG]
  have ea : atA n [] = .tuple #[sv10 [], .bool false] := by unfold atA atT; split <;> simp
  rw [ec] at HC
  have EA := Lib.hid ea
  clear _wn ec ea
  go_enter Try.func6, Try.ntmps6
  go_wp2_with fail
  refine HC.out.mono ?_
  rintro e w1 ⟨rfl, t1⟩
  have HT1 := Lib.hid t1
  have HA := at_any10 (.pointer none) [] n w1 (DV10.nil w1)
  rw [EA.out] at HA
  have HA2 := Lib.hid HA
  clear t1 HA HC
  go_wp2_with fail
  refine HA2.out.mono ?_
  rintro e w2 ⟨rfl, t2⟩
  have HT2 : Hid (Turn (fun _ => False) w w2) := HT1.out.trans t2 (fun _ _ f => f)
  have hrow := one_row ET10 9 w2 x
  have HR := Lib.hid hrow
  clear t2 hrow HA2
  go_wp2_with fail
  refine (codes_nil10 _ _ _ HR.out).mono ?_
  rintro e w3 ⟨u3, rfl, t3⟩
  have HT3 : Hid (Turn (fun _ => False) w w3) := (HT2.out.alloc _).trans t3 (fun _ _ f => f)
  clear t3
  go_wp2_with fail
  refine (things_nil10 _ _).mono ?_
  rintro e w4 ⟨u4, rfl, t4⟩
  have HT4 : Hid (Turn (fun _ => False) w w4) := (HT3.out.alloc _).trans t4 (fun _ _ f => f)
  clear t4
  go_wp2_with fail
  refine (len_any10 _ [] w4 (DV10.nil w4)).mono ?_
  rintro e w5 ⟨rfl, t5⟩
  have HT5 : Hid (Turn (fun _ => False) w w5) := HT4.out.trans t5 (fun _ _ f => f)
  clear t5
  go_wp2_with fail
  refine (join_any10 _ _ [] [] w5 (DV10.nil w5) (DV10.nil w5) (by simp)).mono ?_
  rintro e w6 ⟨d, rfl, h6, t6⟩
  have HD6 := Lib.hid h6
  have HT6 : Hid (Turn (fun _ => False) w w6) := HT5.out.trans t6 (fun _ _ f => f)
  clear h6 t6
  go_wp2_with fail
  refine (len_any10 _ _ w6 HD6.out).mono ?_
  rintro e w7 ⟨rfl, t7⟩
  have HT7 : Hid (Turn (fun _ => False) w w7) := HT6.out.trans t7 (fun _ _ f => f)
  clear t7
  go_wp2_with fail
  refine (alive_any10 w7).mono ?_
  rintro e w8 ⟨rfl, t8⟩
  have HT8 : Hid (Turn (fun _ => False) w w8) := HT7.out.trans t8 (fun _ _ f => f)
  clear t8
  go_wp2
  go_ret
  exact ⟨rfl, HT8.out.below (Nat.le_refl _) (fun _ f => f.elim)⟩

set_option maxRecDepth 100000 in
theorem lifted (os : Os) (started : os.Started) (H : Type) (enc : TypeId × Value → H) :
    ReturnsInHanded {} Try.checked os 6 .any (Rows.dictNilsSpec.pre6 enc Try.prog Try.f6 Rows.dictNilsRow.domain false) (Rows.dictNilsSpec.post enc Try.prog Try.f6 false true false false) := by
  refine returnsInHanded_of_change (C := Try.checked) own started (by kernel_rfl) Try.func6
    (ChangeSpec.witness6 (enc := enc) (C := Try.checked) false ⟨#[], #[.string ⟨#[]⟩, .int .i64 0], []⟩ 8 (by kernel_rfl) (by kernel_rfl) (by kernel_rfl) (by kernel_rfl)) ?_
  intro W base args ds gs before hval0 hW hcnd _
  have hval : ∀ (j : Nat) t v, Try.f6.params[j]? = some t → args[j]? = some v → Value.okWide Try.prog W .any base t v := hval0
  have hW' := hW
  obtain ⟨p, q, hA0, hV, rfl, hfz, hnd⟩ := hW
  have hA : DataW.TrodAll enc Try.prog W 0 (fun _ => true) true Try.f6.params.toList args.toList ds p := hA0
  rw [Try.params6] at hA hval
  obtain ⟨v0, vs0, d0, ds0, p0, q0, hargs, rfl, rfl, h0, r0⟩ := trodAll_cons hA
  obtain ⟨v1, vs1, d1, ds1, p1, q1, rfl, rfl, rfl, h1, r1⟩ := trodAll_cons r0
  obtain ⟨rfl, rfl, rfl⟩ := trodAll_nil r1
  obtain rfl : args = #[v0, v1] := by cases args; simp_all
  obtain ⟨rfl, rfl⟩ := trodVars_none hV
  obtain ⟨a0, rfl, rfl, rfl, w0⟩ := Go.ChangeMaps.open_string Try.underlying9 (hval 0 9 v0 rfl rfl) h0
  obtain ⟨a1, rfl, rfl, rfl, w1⟩ := open_int Try.underlying3 (hval 1 3 v1 rfl rfl) h1
  clear hA0 hval0
  simp only [List.append_nil] at hW'
  refine (walk a0 w0 a1 w1 W).mono fun e W' ⟨he, bel⟩ => ?_
  subst he
  exact ⟨_, rfl, _, _, _, [], [], [], hW', trodAll_mk1 (shut_bool Try.underlying4 _), (trodAll_cons_mk (Go.ChangeMaps.shut_string Try.underlying9 w0) (trodAll_cons_mk (shut_int Try.underlying3 w1) trodAll_mk0)), rfl, bel.frame _, fun h => by cases h⟩

theorem over : Rows.dictNilsRow.holds Try.pinned (OpenSpec.ofChange Rows.dictNilsSpec) :=
  OpenClaim.holds_of_wide 6 Try.f6 rfl rfl rfl rfl rfl rfl rfl ⟨rfl, rfl, rfl, rfl, rfl⟩ rfl rfl rfl rfl rfl (by kernel_rfl) Try.func6 (by kernel_rfl)
    (of_decide_eq_true (by kernel_rfl)) (by unfold Func.isWrapper; first | (rw [if_pos (by decide +kernel)]; kernel_rfl) | (rw [if_neg (by decide +kernel)]; exact ⟨rfl, rfl⟩))
    (fun os started H enc _ => lifted os started H enc)

theorem proved : Rows.DictNilsSaid := over
#print axioms proved
end Go.Proofs.Ytnapeckpjnbcgaa.dictNils
