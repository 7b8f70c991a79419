
/-
  'CivilTexts': the text of any hour, and the hour of any text, or that there is none, are the same by the program and by the document. No condition.
-/
import Derived.Test.YtbhfjmioakldiaaKj
import Derived.Test.YtbhfjmioakldiaaKq
import Derived.ProofKit
import Derived.OpenShut
namespace Go.Proofs.Ytbhfjmioakldiaa.civilTexts
open Go.ChangeShapes Go.WideShapes Go.ChangeAt Go.RowKit
set_option linter.unusedVariables false

theorem own : ownKnob Try.prog.godebug = none := by kernel_rfl
theorem laidOut : laidOutB Try.prog = true := by kernel_rfl

theorem as_list (s : ByteArray) : ∃ l : List UInt8, s = ⟨l.toArray⟩ := ⟨s.data.toList, by cases s; simp⟩

set_option maxRecDepth 100000 in
set_option maxHeartbeats 1000000 in
theorem walk (a0 : Int) (w0 : (Lit.int .i64 a0).wf = true) (a1 : ByteArray) (w1 : a1.size ≤ maxLen) (w : World) :
    Calls Try.prog 6 #[.int .i64 a0, .string a1] w fun e w' => e = .returned (.bool true) ∧ Below w.heap.size w w' := by
  clear w0
  obtain ⟨l, rfl⟩ := as_list a1
  have hsz : ByteArray.size ⟨l.toArray⟩ = l.length := str_len l
  have W1 := Lib.hid w1
  clear w1
  by_cases h1 : a0 < 0
  · go_enter Try.func6, Try.ntmps6
    go_wp2_with (go_at_call 9; refine (alive_any4 _).mono ?_; rintro e w5 ⟨rfl, ht⟩; have HT := Lib.hid ht; clear ht)
    go_ret
    exact ⟨rfl, HT.out.below (Nat.le_refl _) (fun _ f => f.elim)⟩
  by_cases h2 : a0 > 16777216
  · go_enter Try.func6, Try.ntmps6
    go_wp2_with (go_at_call 9; refine (alive_any4 _).mono ?_; rintro e w5 ⟨rfl, ht⟩; have HT := Lib.hid ht; clear ht)
    go_ret
    exact ⟨rfl, HT.out.below (Nat.le_refl _) (fun _ f => f.elim)⟩
  by_cases h3 : l.length > 100
  · go_enter Try.func6, Try.ntmps6
    go_wp2_with (go_at_call 9; refine (alive_any4 _).mono ?_; rintro e w5 ⟨rfl, ht⟩; have HT := Lib.hid ht; clear ht)
    go_ret
    exact ⟨rfl, HT.out.below (Nat.le_refl _) (fun _ f => f.elim)⟩
  obtain ⟨N, rfl⟩ := Int.eq_ofNat_of_zero_le (a := a0) (by omega)
  have HP := Lib.hid (parse_any l · (by omega))
  have HR := Lib.hid (rparse_any l · (by omega))
  have HA := Lib.hid (text_any N · (by omega))
  have HB := Lib.hid (rtext_any N · (by omega))
  go_enter Try.func6, Try.ntmps6
  go_wp2_with (first
    | (go_at_call 23; refine (HP.out _).mono ?_; intro e w1 hp; obtain ⟨n, b, rfl, hd, ht⟩ := hp; have HD := Lib.hid hd; have T1 := Lib.hid ht; clear hd ht)
    | (go_at_call 24; refine (HR.out _).mono ?_; intro e w2 hp; obtain ⟨m, c, rfl, hd, ht⟩ := hp; obtain ⟨rfl, rfl⟩ := parsed_one HD.out hd; have T2 := Lib.hid ht; clear hd ht)
    | (go_at_call 25; refine (HA.out _).mono ?_; rintro e w3 ⟨rfl, ht⟩; have T3 := Lib.hid ht; clear ht)
    | (go_at_call 26; refine (HB.out _).mono ?_; rintro e w4 ⟨rfl, ht⟩; have T4 := Lib.hid ht; clear ht)
    | (go_at_call 9; refine (alive_any4 _).mono ?_; rintro e w5 ⟨rfl, ht⟩; have T5 := Lib.hid ht; clear ht))
  go_ret
  exact ⟨rfl, (((((T1.out).trans T2.out (fun _ _ f => f)).trans T3.out (fun _ _ f => f)).trans T4.out (fun _ _ f => f)).trans T5.out (fun _ _ f => f)).below (Nat.le_refl _) (fun _ f => f.elim)⟩

set_option maxRecDepth 100000 in
theorem lifted (os : Os) (started : os.Started) (H : Type) (enc : TypeId × Value → H) :
    ReturnsInHanded {} Try.checked os 6 .any (Rows.civilTextsSpec.pre6 enc Try.prog Try.f6 Rows.civilTextsRow.domain false) (Rows.civilTextsSpec.post enc Try.prog Try.f6 false true false false) := by
  refine returnsInHanded_of_change (C := Try.checked) own started (by kernel_rfl) Try.func6
    (ChangeSpec.witness6 (enc := enc) (C := Try.checked) false ⟨#[], #[.int .i64 0, .string ⟨#[]⟩], []⟩ 8 (by kernel_rfl) (by kernel_rfl) (by kernel_rfl) (by kernel_rfl)) ?_
  intro W base args ds gs before hval0 hW hcnd _
  have hval : ∀ (j : Nat) t v, Try.f6.params[j]? = some t → args[j]? = some v → Value.okWide Try.prog W .any base t v := hval0
  have hW' := hW
  obtain ⟨p, q, hA0, hV, rfl, hfz, hnd⟩ := hW
  have hA : DataW.TrodAll enc Try.prog W 0 (fun _ => true) true Try.f6.params.toList args.toList ds p := hA0
  rw [Try.params6] at hA hval
  obtain ⟨v0, vs0, d0, ds0, p0, q0, hargs, rfl, rfl, h0, r0⟩ := trodAll_cons hA
  obtain ⟨v1, vs1, d1, ds1, p1, q1, rfl, rfl, rfl, h1, r1⟩ := trodAll_cons r0
  obtain ⟨rfl, rfl, rfl⟩ := trodAll_nil r1
  obtain rfl : args = #[v0, v1] := by cases args; simp_all
  obtain ⟨rfl, rfl⟩ := trodVars_none hV
  obtain ⟨a0, rfl, rfl, rfl, w0⟩ := open_int Try.underlying2 (hval 0 2 v0 rfl rfl) h0
  obtain ⟨a1, rfl, rfl, rfl, w1⟩ := Go.ChangeMaps.open_string Try.underlying9 (hval 1 9 v1 rfl rfl) h1
  clear hA0 hval0
  simp only [List.append_nil] at hW'
  refine (walk a0 w0 a1 w1 W).mono fun e W' ⟨he, bel⟩ => ?_
  subst he
  exact ⟨_, rfl, _, _, _, [], [], [], hW', trodAll_mk1 (shut_bool Try.underlying4 _), (trodAll_cons_mk (shut_int Try.underlying2 w0) (trodAll_cons_mk (Go.ChangeMaps.shut_string Try.underlying9 w1) trodAll_mk0)), rfl, bel.frame _, fun h => by cases h⟩

theorem over : Rows.civilTextsRow.holds Try.pinned (OpenSpec.ofChange Rows.civilTextsSpec) :=
  OpenClaim.holds_of_wide 6 Try.f6 rfl rfl rfl rfl rfl rfl rfl ⟨rfl, rfl, rfl, rfl, rfl⟩ rfl rfl rfl rfl rfl (by kernel_rfl) Try.func6 (by kernel_rfl)
    (of_decide_eq_true (by kernel_rfl)) (by unfold Func.isWrapper; first | (rw [if_pos (by decide +kernel)]; kernel_rfl) | (rw [if_neg (by decide +kernel)]; exact ⟨rfl, rfl⟩))
    (fun os started H enc _ => lifted os started H enc)

theorem proved : Rows.CivilTextsSaid := over
#print axioms proved
end Go.Proofs.Ytbhfjmioakldiaa.civilTexts
