/-
  'FoldSegs': the groups of any segment. No condition.
-/
import Derived.Test.YtklpmajaihmmfaaJocao
import Derived.Test.YtklpmajaihmmfaaJocan
import Derived.ProofKit
import Derived.OpenShut

namespace Go.Proofs.Ytklpmajaihmmfaa.foldSegs
open Go.ChangeShapes Go.WideShapes Go.ChangeAt Go.RowKit
set_option linter.unusedVariables false

theorem own : ownKnob Try.prog.godebug = none := by kernel_rfl
theorem laidOut : laidOutB Try.prog = true := by kernel_rfl

set_option maxRecDepth 100000 in
set_option maxHeartbeats 16000000 in
theorem walk (q : Q13) (v : Value) (l : List R11) (w : World) (h : RdE ER w v l) (hlen : l.length ≤ maxLen) (hok : ∀ r ∈ l, okC r.c) :
    Calls Try.prog 3 #[qv13 q, v] w fun e w' => e = .returned (.bool true) ∧ Below w.heap.size w w' := by
  have HAL : Hid (∀ W, Calls Try.prog 8 #[] W fun e w' => e = .returned (.bool true) ∧ Turn (fun _ => False) W w') := fun W => alive_any14 W
  have HRT : Hid (∀ W, Calls Try.prog 6 #[.agg (cells13 q)] W fun e w' => e = .returned (.bool (decide (chkQ q 4 = 0))) ∧ Turn (fun _ => False) W w') := fun W => right_any14 q W
  have HRI : Hid (∀ W, Turn (fun _ => False) w W → l.length ≤ 100 → Calls Try.prog 7 #[v] W fun e w' => e = .returned (.bool (rightR l)) ∧ Turn (fun _ => False) W w') := fun W ht hl => ref_right11 v l W (h.later ht) (by omega)
  have HRS : Hid (∀ W, Turn (fun _ => False) w W → l.length ≤ 100 → Calls Try.prog 9 #[v] W fun e w' => RowsA11 W l e w') := fun W ht hl => rows_any11 v l W (h.later ht) hok (by omega)
  have HRR : Hid (∀ W, Turn (fun _ => False) w W → l.length ≤ 100 → Calls Try.prog 11 #[.agg (cells13 q), v] W fun e w' => Put11 W (foldR q l) e w') := fun W ht hl => ref_rows14 q v l W (h.later ht) hok (by omega)
  have HSG : Hid (∀ (s : Value) (L : List R11) W, SV11 W s L → Calls Try.prog 10 #[.agg (cells13 q), s] W fun e w' => Put11 W (foldR q L) e w') := fun s L W hs => seg_any14 q s L W hs
  have HNL : Hid (∀ W, Calls Try.prog 10 #[.agg (cells13 q), .pointer none] W fun e w' => ∃ B d, e = .returned (.tuple #[.slice B 0 d, .int .i64 0]) ∧ Turn (fun _ => False) W w') := fun W => (seg_any14 q _ [] W (SV11.nil W)).mono fun e w' ⟨u, he, hu, ht⟩ => by
    obtain ⟨B, d, rfl⟩ := hu.shape
    exact ⟨B, d, he, ht⟩
  have HGL : Hid (((foldR q l).getD []).length ≤ l.length) := fold_len14 q l
  obtain ⟨A, c, rfl⟩ := h.shape
  unfold qv13
  unfold maxLen at hlen
  obtain ⟨w0, hw0⟩ : ∃ w0, w0 = w.alloc (.cells (cells13 q) 25) := ⟨_, rfl⟩
  obtain ⟨b, hb⟩ : ∃ b, b = w.heap.size := ⟨_, rfl⟩
  have HB0 : Hid (Box w0 b 25 (cells13 q)) := by rw [hw0, hb]; exact Box.new w _ _
  have HT0 : Hid (Turn (fun _ => False) w w0) := by rw [hw0]; exact (Turn.refl _ w).alloc _
  have HQ : Hid (∀ W, Turn (fun _ => False) w0 W → CQ13 W b q) := fun W ht => cq_box13 (HB0.out.turn ht (fun f => f))
  obtain ⟨b0, b1, b2, b3, b4, b5, b6, b7, b8, b9, b10, b11, b12, b13⟩ := HQ.out w0 (Turn.refl _ _)
  rw [hw0, hb] at b0 b1 b2 b3 b4 b5 b6 b7 b8 b9 b10 b11 b12 b13
  have HW0 := Lib.hid hw0
  have HBB := Lib.hid hb
  generalize decide (chkQ q 4 = 0) = rt at *
  clear h hok hw0 hb
  go_enter Try.func3, Try.ntmps3
  go_wp2_with fail
  rw [← HW0.out, ← HBB.out]
  refine (HRT.out _).mono ?_
  rintro e w1 ⟨rfl, t1⟩
  have HTX := Lib.hid t1
  clear t1 HRT
  clear b0 b1 b2 b3 b4 b5 b6 b7 b8 b9 b10 b11 b12 b13
  cases rt with
  | false =>
    go_wp2_with fail
    refine (HAL.out _).mono ?_
    rintro e wz ⟨rfl, tz⟩
    have HTZ := Lib.hid ((HT0.out.trans HTX.out (fun _ _ f => f)).trans tz (fun _ _ f => f))
    clear tz
    go_wp2
    go_ret
    exact ⟨rfl, HTZ.out.below (Nat.le_refl _) (fun _ f => f.elim)⟩
  | true =>
    by_cases h100 : 100 < l.length
    · have h1 : (100 : Int) < l.length := by omega
      go_wp2_with fail
      refine (HAL.out _).mono ?_
      rintro e wz ⟨rfl, tz⟩
      have HTZ := Lib.hid ((HT0.out.trans HTX.out (fun _ _ f => f)).trans tz (fun _ _ f => f))
      clear tz
      go_wp2
      go_ret
      exact ⟨rfl, HTZ.out.below (Nat.le_refl _) (fun _ f => f.elim)⟩
    · have h1 : ¬ ((100 : Int) < l.length) := by omega
      have HL : Hid (l.length ≤ 100) := by show _ ≤ _; omega
      clear h100
      go_wp2_with fail
      refine (HRI.out _ (HT0.out.trans HTX.out (fun _ _ f => f)) HL.out).mono ?_
      rintro e w2 ⟨rfl, t2⟩
      have HTY := Lib.hid (HTX.out.trans t2 (fun _ _ f => f))
      clear t2 HTX
      have HTX := HTY
      clear HTY
      cases hR : rightR l with
      | false =>
        clear hR
        go_wp2_with fail
        refine (HAL.out _).mono ?_
        rintro e wz ⟨rfl, tz⟩
        have HTZ := Lib.hid ((HT0.out.trans HTX.out (fun _ _ f => f)).trans tz (fun _ _ f => f))
        clear tz
        go_wp2
        go_ret
        exact ⟨rfl, HTZ.out.below (Nat.le_refl _) (fun _ f => f.elim)⟩
      | true =>
        have HR := Lib.hid hR
        clear hR HRI
        go_wp2_with fail
        refine (HRS.out _ (HT0.out.trans HTX.out (fun _ _ f => f)) HL.out).mono ?_
        rintro e w3 ⟨s, rfl, hs, -, t3⟩
        rw [HR.out, if_pos rfl] at hs
        rw [HR.out, if_pos rfl]
        obtain ⟨p, rfl⟩ := hs.ptr
        have HS := Lib.hid hs
        have HTY := Lib.hid (HTX.out.trans t3 (fun _ _ f => f))
        clear hs t3 HTX HRS
        have HTX := HTY
        clear HTY
        obtain ⟨b0, b1, b2, b3, b4, b5, b6, b7, b8, b9, b10, b11, b12, b13⟩ := HQ.out _ HTX.out
        go_wp2_with fail
        refine (HSG.out _ l w3 HS.out).mono ?_
        rintro e w4 ⟨u, rfl, hu, t4⟩
        have HFR3 := Lib.hid (HRR.out w4 ((HT0.out.trans HTX.out (fun _ _ f => f)).trans t4 (fun _ _ f => f)) HL.out)
        clear HRR HSG
        generalize foldR q l = o at *
        obtain ⟨nf, hnf⟩ : ∃ nf : Int, nf = if o.isSome then 0 else 6 := ⟨_, rfl⟩
        unfold Put11 at HFR3
        rw [← hnf] at HFR3 ⊢
        have hnn : (nf == nf) = true := beq_self_eq_true _
        obtain ⟨B3, d3, rfl⟩ := hu.shape
        generalize o.getD [] = G at *
        have HU3 := Lib.hid hu
        have HTY := Lib.hid (HTX.out.trans t4 (fun _ _ f => f))
        clear hu t4 hnf HTX
        have HTX := HTY
        clear HTY
        clear b0 b1 b2 b3 b4 b5 b6 b7 b8 b9 b10 b11 b12 b13
        obtain ⟨b0, b1, b2, b3, b4, b5, b6, b7, b8, b9, b10, b11, b12, b13⟩ := HQ.out _ HTX.out
        go_wp2_with fail
        refine HFR3.out.mono ?_
        rintro e w5 ⟨u4, rfl, hu4, t5⟩
        obtain ⟨B4, d4, rfl⟩ := hu4.shape
        have HU4 := Lib.hid hu4
        have HU3' := Lib.hid (HU3.out.later t5)
        have HTY := Lib.hid (HTX.out.trans t5 (fun _ _ f => f))
        clear hu4 t5 HTX HU3
        have HTX := HTY
        clear HTY
        clear b0 b1 b2 b3 b4 b5 b6 b7 b8 b9 b10 b11 b12 b13
        obtain ⟨b0, b1, b2, b3, b4, b5, b6, b7, b8, b9, b10, b11, b12, b13⟩ := HQ.out _ HTX.out
        go_wp2_with fail
        refine (HNL.out _).mono ?_
        rintro e w6 ⟨B6, d6, rfl, t6⟩
        have HSM := Lib.hid (same_refl11 _ _ G w6 (HU3'.out.later t6) (HU4.out.later t6) (by have := HGL.out; have := HL.out; omega))
        have HTY := Lib.hid (HTX.out.trans t6 (fun _ _ f => f))
        clear t6 HTX
        have HTX := HTY
        clear HTY
        clear b0 b1 b2 b3 b4 b5 b6 b7 b8 b9 b10 b11 b12 b13
        go_wp2_with fail
        refine HSM.out.mono ?_
        rintro e w7 ⟨rfl, t7⟩
        have HTY := Lib.hid (HTX.out.trans t7 (fun _ _ f => f))
        clear t7 HTX HSM
        have HTX := HTY
        clear HTY
        go_wp2_with fail
        refine (HAL.out _).mono ?_
        rintro e wz ⟨rfl, tz⟩
        have HTZ := Lib.hid ((HT0.out.trans HTX.out (fun _ _ f => f)).trans tz (fun _ _ f => f))
        clear tz
        go_wp2
        go_ret
        exact ⟨rfl, HTZ.out.below (Nat.le_refl _) (fun _ f => f.elim)⟩

set_option maxRecDepth 100000 in
set_option maxRecDepth 100000 in
theorem lifted (os : Os) (started : os.Started) (H : Type) (enc : TypeId × Value → H) :
    ReturnsInHanded {} Try.checked os 3 .any (Rows.foldSegsSpec.pre6 enc Try.prog Try.f3 Rows.foldSegsRow.domain false) (Rows.foldSegsSpec.post enc Try.prog Try.f3 false true false false) := by
  refine returnsInHanded_of_change (C := Try.checked) own started (by kernel_rfl) Try.func3
    (ChangeSpec.witness6 (enc := enc) (C := Try.checked) false ⟨#[], #[.agg #[.int .i64 0, .int .i64 0, .bool false, .bool false, .bool false, .bool false, .bool false, .bool false, .bool false, .bool false, .string ⟨#[]⟩, .string ⟨#[]⟩, .string ⟨#[]⟩, .string ⟨#[]⟩], .slice none 0 0], []⟩ 8 (by kernel_rfl) (by kernel_rfl) (by kernel_rfl) (by kernel_rfl)) ?_
  intro W base args ds gs before hval0 hW hcnd _
  have hval : ∀ (j : Nat) t v, Try.f3.params[j]? = some t → args[j]? = some v → Value.okWide Try.prog W .any base t v := hval0
  have hW' := hW
  obtain ⟨p, q, hA0, hV, rfl, hfz, hnd⟩ := hW
  have hA : DataW.TrodAll enc Try.prog W 0 (fun _ => true) true Try.f3.params.toList args.toList ds p := hA0
  rw [Try.params3] at hA hval
  obtain ⟨v0, vs0, d0, ds0, p0, q0, hargs, rfl, rfl, h0, r0⟩ := trodAll_cons hA
  obtain ⟨v1, vs1, d1, ds1, p1, q1, rfl, rfl, rfl, h1, r1⟩ := trodAll_cons r0
  obtain ⟨rfl, rfl, rfl⟩ := trodAll_nil r1
  obtain rfl : args = #[v0, v1] := by cases args; simp_all
  obtain ⟨rfl, rfl⟩ := trodVars_none hV
  have k0 := h0
  have lt0 : ∀ x ∈ p0, x.block < W.heap.size := by obtain ⟨m, hm⟩ := k0; exact DataW.trod_lt m _ _ _ hm
  obtain ⟨qy0, hq0⟩ := open_query13 (hval 0 25 v0 rfl rfl) h0
  subst hq0
  have k1 := h1
  have lt1 : ∀ x ∈ p1, x.block < W.heap.size := by obtain ⟨m, hm⟩ := k1; exact DataW.trod_lt m _ _ _ hm
  obtain ⟨a1, len1, cap1, rfl⟩ := okWide_slice Try.underlying26 (hval 1 26 v1 rfl rfl)
  obtain ⟨l1, hp1, hl1, hf1⟩ := open_rows11 rfl h1
  clear hA0 hval0
  refine (walk qy0 _ l1 W hp1 hl1 hf1).mono fun e W' ⟨he, bel⟩ => ?_
  subst he
  exact ⟨_, rfl, _, _, _, [], _, [], hW', trodAll_mk1 (shut_bool Try.underlying4 _), (trodAll_cons_mk (Below.trod laidOut (by kernel_rfl) (of_decide_eq_true (by kernel_rfl)) k0 bel lt0) (trodAll_cons_mk (Below.trod laidOut (by kernel_rfl) (of_decide_eq_true (by kernel_rfl)) k1 bel lt1) trodAll_mk0)), rfl, bel.frame _, fun h => by cases h⟩

theorem over : Rows.foldSegsRow.holds Try.pinned (OpenSpec.ofChange Rows.foldSegsSpec) :=
  OpenClaim.holds_of_wide 3 Try.f3 rfl rfl rfl rfl rfl rfl rfl ⟨rfl, rfl, rfl, rfl, rfl⟩ rfl rfl rfl rfl rfl (by kernel_rfl) Try.func3 (by kernel_rfl)
    (of_decide_eq_true (by kernel_rfl)) (by unfold Func.isWrapper; first | (rw [if_pos (by decide +kernel)]; kernel_rfl) | (rw [if_neg (by decide +kernel)]; exact ⟨rfl, rfl⟩))
    (fun os started H enc _ => lifted os started H enc)

theorem proved : Rows.FoldSegsSaid := over
#print axioms proved
end Go.Proofs.Ytklpmajaihmmfaa.foldSegs
