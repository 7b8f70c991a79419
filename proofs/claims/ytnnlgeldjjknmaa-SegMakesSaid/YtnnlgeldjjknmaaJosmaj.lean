/-
  'SegMakes': the segment of any facts, and which rows are a segment's. No condition.
-/
import Derived.Test.YtnnlgeldjjknmaaJocai
import Derived.ProofKit
import Derived.OpenShut

namespace Go.Proofs.Ytnnlgeldjjknmaa.segMakes
open Go.ChangeShapes Go.WideShapes Go.ChangeAt Go.RowKit
set_option linter.unusedVariables false

theorem own : ownKnob Try.prog.godebug = none := by kernel_rfl
theorem laidOut : laidOutB Try.prog = true := by kernel_rfl

set_option maxRecDepth 100000 in
set_option maxHeartbeats 8000000 in
theorem walk (v v' : Value) (l : List F9) (rows : List R11) (w : World) (h : RdE EF w v l) (h' : RdE ER w v' rows) (hlen : l.length ≤ maxLen) (hlen' : rows.length ≤ maxLen) (hf : ∀ f ∈ l, (Lit.int .i64 f.v).wf = true) (hok : ∀ r ∈ rows, okC r.c) :
    Calls Try.prog 3 #[v, v'] w fun e w' => e = .returned (.bool true) ∧ Below w.heap.size w w' := by
  have HV := Lib.hid h; have HV' := Lib.hid h'
  have HF := Lib.hid hf; have HOK := Lib.hid hok
  have HL1 := Lib.hid (light_any9 v l w h hlen)
  have HL2 := Lib.hid (light_any11 v' rows w h' hlen')
  have HAL : Hid (∀ W, Calls Try.prog 10 #[] W fun e w' => e = .returned (.bool true) ∧ Turn (fun _ => False) W w') := fun W => alive_any11 W
  obtain ⟨A, c, rfl⟩ := h.shape
  obtain ⟨A', c', rfl⟩ := h'.shape
  clear h h' hf hok hlen hlen'
  cases hL : light9 l with
  | false =>
    rw [hL] at HL1
    go_enter Try.func3, Try.ntmps3
    go_wp2_with fail
    refine HL1.out.mono ?_
    rintro e w1 ⟨rfl, rfl⟩
    go_wp2_with fail
    refine (HAL.out _).mono ?_
    rintro e wz ⟨rfl, tz⟩
    have HTZ := Lib.hid tz
    clear tz
    go_wp2
    go_ret
    exact ⟨rfl, HTZ.out.below (Nat.le_refl _) (fun _ f => f.elim)⟩
  | true =>
    rw [hL] at HL1
    have h100 := light_len11 hL
    cases hL2 : decide (rows.length ≤ 100) with
    | false =>
      rw [hL2] at HL2
      go_enter Try.func3, Try.ntmps3
      go_wp2_with fail
      refine HL1.out.mono ?_
      rintro e w1 ⟨rfl, rfl⟩
      go_wp2_with fail
      refine HL2.out.mono ?_
      rintro e w1 ⟨rfl, rfl⟩
      go_wp2_with fail
      refine (HAL.out _).mono ?_
      rintro e wz ⟨rfl, tz⟩
      have HTZ := Lib.hid tz
      clear tz
      go_wp2
      go_ret
      exact ⟨rfl, HTZ.out.below (Nat.le_refl _) (fun _ f => f.elim)⟩
    | true =>
      rw [hL2] at HL2
      have hr100 : rows.length ≤ 100 := of_decide_eq_true hL2
      clear hL hL2
      have HOF := Lib.hid (fun W (ht : Turn (fun _ => False) w W) => of_any11 _ l W (HV.out.later ht) (fun f hf => fit_of11 (HF.out f hf)) (by omega))
      have HRO := Lib.hid (fun W (ht : Turn (fun _ => False) w W) => ref_of11 _ l W (HV.out.later ht) (fun f hf => fit_of11 (HF.out f hf)) (by omega))
      have HRS := Lib.hid (fun W (ht : Turn (fun _ => False) w W) => rows_any11 _ rows W (HV'.out.later ht) HOK.out (by omega))
      have HRI := Lib.hid (fun W (ht : Turn (fun _ => False) w W) => ref_right11 _ rows W (HV'.out.later ht) (by omega))
      unfold Seg11 faultO at HOF
      unfold Put11 at HRO
      unfold RowsA11 at HRS
      generalize ofR l = o at *
      obtain ⟨fo, hfo⟩ : ∃ fo : Int, fo = if o.isSome = true then 0 else 6 := ⟨_, rfl⟩
      rw [← hfo] at HOF HRO
      have hff : (fo != fo) = false := by simp
      clear hfo
      go_enter Try.func3, Try.ntmps3
      go_wp2_with fail
      refine HL1.out.mono ?_
      rintro e w1 ⟨rfl, rfl⟩
      go_wp2_with fail
      refine HL2.out.mono ?_
      rintro e w1 ⟨rfl, rfl⟩
      go_wp2_with fail
      refine (HOF.out _ (Turn.refl _ _)).mono ?_
      rintro e w2 ⟨s, rfl, hs, t2⟩
      obtain ⟨p, rfl⟩ := hs.ptr
      have HS2 := Lib.hid hs; have HT2 := Lib.hid t2
      clear hs t2 HL1 HL2
      go_wp2_with fail
      refine (HRO.out _ HT2.out).mono ?_
      rintro e w3 ⟨u, rfl, hu, t3⟩
      obtain ⟨B3, d3, e3⟩ := hu.shape
      subst e3
      have HS3 := Lib.hid (HS2.out.later t3); have HU3 := Lib.hid hu
      have HT3 := Lib.hid (HT2.out.trans t3 (fun _ _ f => f))
      clear hu t3 HOF HRO
      have hgl : (o.getD []).length ≤ 1000 := HS3.out.right.2.2
      generalize o.getD [] = G at *
      go_wp2_with fail
      refine (back_any11 _ G w3 HS3.out).mono ?_
      rintro e w4 ⟨u4, rfl, hu4, t4⟩
      have HT4 := Lib.hid (HT3.out.trans t4 (fun _ _ f => f))
      have HSM := Lib.hid (same_refl11 u4 _ G w4 hu4 (HU3.out.later t4) (by omega))
      clear hu4 t4
      go_wp2_with fail
      refine HSM.out.mono ?_
      rintro e w5 ⟨rfl, t5⟩
      have HT5 := Lib.hid (HT4.out.trans t5 (fun _ _ f => f))
      clear t5 HSM
      go_wp2_with fail
      refine (HRS.out _ HT5.out).mono ?_
      rintro e w6 ⟨s, rfl, hs, hn, t6⟩
      have HT6 := Lib.hid (HT5.out.trans t6 (fun _ _ f => f))
      have HS6 := Lib.hid hs; have HN6 := Lib.hid hn
      obtain ⟨q, rfl⟩ := hs.ptr
      clear hs hn t6
      have HRI6 := Lib.hid (HRI.out _ HT6.out)
      cases hR : rightR rows with
      | true =>
        have HS6 : Hid (SV11 w6 (.pointer q) rows) := by have h := HS6.out; rw [hR, if_pos rfl] at h; exact h
        rw [hR] at HRI6
        simp only [if_true]
        clear HN6
        clear hR HRS HRI
        go_wp2_with fail
        refine HRI6.out.mono ?_
        rintro e w7 ⟨rfl, t7⟩
        have HT7 := Lib.hid (HT6.out.trans t7 (fun _ _ f => f))
        have HS7 := Lib.hid (HS6.out.later t7)
        clear t7
        go_wp2_with fail
        refine (back_any11 _ _ w7 HS7.out).mono ?_
        rintro e w8 ⟨u8, rfl, hu8, t8⟩
        have HT8 := Lib.hid (HT7.out.trans t8 (fun _ _ f => f))
        have HSM := Lib.hid (same_refl11 u8 _ _ w8 hu8 (HV'.out.later HT8.out) (by omega))
        clear hu8 t8
        go_wp2_with fail
        refine HSM.out.mono ?_
        rintro e w9 ⟨rfl, t9⟩
        have HT9 := Lib.hid (HT8.out.trans t9 (fun _ _ f => f))
        clear t9
        go_wp2_with fail
        refine (HAL.out _).mono ?_
        rintro e wz ⟨rfl, tz⟩
        have HTZ := Lib.hid (HT9.out.trans tz (fun _ _ f => f))
        clear tz
        go_wp2
        go_ret
        exact ⟨rfl, HTZ.out.below (Nat.le_refl _) (fun _ f => f.elim)⟩
      | false =>
        have hq := HN6.out hR
        rw [hR] at HRI6
        injection hq with hq
        subst hq
        simp only [Bool.false_eq_true, if_false]
        clear hR HRS HRI HS6 HN6
        go_wp2_with fail
        refine HRI6.out.mono ?_
        rintro e w7 ⟨rfl, t7⟩
        have HT7 := Lib.hid (HT6.out.trans t7 (fun _ _ f => f))
        clear t7
        go_wp2_with fail
        refine (HAL.out _).mono ?_
        rintro e wz ⟨rfl, tz⟩
        have HTZ := Lib.hid (HT7.out.trans tz (fun _ _ f => f))
        clear tz
        go_wp2
        go_ret
        exact ⟨rfl, HTZ.out.below (Nat.le_refl _) (fun _ f => f.elim)⟩

set_option maxRecDepth 100000 in
theorem lifted (os : Os) (started : os.Started) (H : Type) (enc : TypeId × Value → H) :
    ReturnsInHanded {} Try.checked os 3 .any (Rows.segMakesSpec.pre6 enc Try.prog Try.f3 Rows.segMakesRow.domain false) (Rows.segMakesSpec.post enc Try.prog Try.f3 false true false false) := by
  refine returnsInHanded_of_change (C := Try.checked) own started (by kernel_rfl) Try.func3
    (ChangeSpec.witness6 (enc := enc) (C := Try.checked) false ⟨#[], #[.slice none 0 0, .slice none 0 0], []⟩ 8 (by kernel_rfl) (by kernel_rfl) (by kernel_rfl) (by kernel_rfl)) ?_
  intro W base args ds gs before hval0 hW hcnd _
  have hval : ∀ (j : Nat) t v, Try.f3.params[j]? = some t → args[j]? = some v → Value.okWide Try.prog W .any base t v := hval0
  have hW' := hW
  obtain ⟨p, q, hA0, hV, rfl, hfz, hnd⟩ := hW
  have hA : DataW.TrodAll enc Try.prog W 0 (fun _ => true) true Try.f3.params.toList args.toList ds p := hA0
  rw [Try.params3] at hA hval
  obtain ⟨v0, vs0, d0, ds0, p0, q0, hargs, rfl, rfl, h0, r0⟩ := trodAll_cons hA
  obtain ⟨v1, vs1, d1, ds1, p1, q1, rfl, rfl, rfl, h1, r1⟩ := trodAll_cons r0
  obtain ⟨rfl, rfl, rfl⟩ := trodAll_nil r1
  obtain rfl : args = #[v0, v1] := by cases args; simp_all
  obtain ⟨rfl, rfl⟩ := trodVars_none hV
  have k0 := h0
  have lt0 : ∀ x ∈ p0, x.block < W.heap.size := by obtain ⟨m, hm⟩ := k0; exact DataW.trod_lt m _ _ _ hm
  obtain ⟨a0, len0, cap0, rfl⟩ := okWide_slice Try.underlying22 (hval 0 22 v0 rfl rfl)
  obtain ⟨l0, hp0, hl0, hf0⟩ := open_facts9 rfl h0
  have k1 := h1
  have lt1 : ∀ x ∈ p1, x.block < W.heap.size := by obtain ⟨m, hm⟩ := k1; exact DataW.trod_lt m _ _ _ hm
  obtain ⟨a1, len1, cap1, rfl⟩ := okWide_slice Try.underlying23 (hval 1 23 v1 rfl rfl)
  obtain ⟨l1, hp1, hl1, hf1⟩ := open_rows11 rfl h1
  clear hA0 hval0
  refine (walk _ _ l0 l1 W hp0 hp1 hl0 hl1 hf0 hf1).mono fun e W' ⟨he, bel⟩ => ?_
  subst he
  exact ⟨_, rfl, _, _, _, [], _, [], hW', trodAll_mk1 (shut_bool Try.underlying4 _), (trodAll_cons_mk (Below.trod laidOut (by kernel_rfl) (of_decide_eq_true (by kernel_rfl)) k0 bel lt0) (trodAll_cons_mk (Below.trod laidOut (by kernel_rfl) (of_decide_eq_true (by kernel_rfl)) k1 bel lt1) trodAll_mk0)), rfl, bel.frame _, fun h => by cases h⟩

theorem over : Rows.segMakesRow.holds Try.pinned (OpenSpec.ofChange Rows.segMakesSpec) :=
  OpenClaim.holds_of_wide 3 Try.f3 rfl rfl rfl rfl rfl rfl rfl ⟨rfl, rfl, rfl, rfl, rfl⟩ rfl rfl rfl rfl rfl (by kernel_rfl) Try.func3 (by kernel_rfl)
    (of_decide_eq_true (by kernel_rfl)) (by unfold Func.isWrapper; first | (rw [if_pos (by decide +kernel)]; kernel_rfl) | (rw [if_neg (by decide +kernel)]; exact ⟨rfl, rfl⟩))
    (fun os started H enc _ => lifted os started H enc)

theorem proved : Rows.SegMakesSaid := over
#print axioms proved
end Go.Proofs.Ytnnlgeldjjknmaa.segMakes
