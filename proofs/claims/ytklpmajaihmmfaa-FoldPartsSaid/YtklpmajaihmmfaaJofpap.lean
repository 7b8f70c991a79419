/-
  'FoldParts': facts in two parts, joined, in whatever order, are facts at once, and their segment has the same groups, if they weigh not too much. No condition.
-/
import Derived.Test.YtklpmajaihmmfaaJocao
import Derived.Test.YtklpmajaihmmfaaJocan
import Derived.Test.YtklpmajaihmmfaaJocaf
import Derived.ProofKit
import Derived.OpenShut

namespace Go.Proofs.Ytklpmajaihmmfaa.foldParts
open Go.ChangeShapes Go.WideShapes Go.ChangeAt Go.RowKit
set_option linter.unusedVariables false

theorem own : ownKnob Try.prog.godebug = none := by kernel_rfl
theorem laidOut : laidOutB Try.prog = true := by kernel_rfl

set_option maxRecDepth 100000 in
set_option maxHeartbeats 16000000 in
theorem walk (q : Q13) (v : Value) (l : List F9) (n : Int) (_wn : (Lit.int .i64 n).wf = true) (w : World) (h : RdE EF w v l) (hlen : l.length ≤ maxLen) (hf : ∀ f ∈ l, (Lit.int .i64 f.v).wf = true) :
    Calls Try.prog 5 #[qv13 q, v, .int .i64 n] w fun e w' => e = .returned (.bool true) ∧ Below w.heap.size w w' := by
  have HF : Hid (∀ f ∈ l, fit f.v = true) := fun f hf' => fit_of11 (hf f hf')
  have HAL : Hid (∀ W, Calls Try.prog 8 #[] W fun e w' => e = .returned (.bool true) ∧ Turn (fun _ => False) W w') := fun W => alive_any14 W
  have HRT : Hid (∀ W, Calls Try.prog 6 #[.agg (cells13 q)] W fun e w' => e = .returned (.bool (decide (chkQ q 4 = 0))) ∧ Turn (fun _ => False) W w') := fun W => right_any14 q W
  have HLI : Hid (∀ W, Turn (fun _ => False) w W → Calls Try.prog 13 #[v] W fun e w' => e = .returned (.bool (light9 l)) ∧ W = w') := fun W ht => (light_any9 v l W (h.later ht) hlen).mono fun _ _ ⟨a, b⟩ => ⟨a, b.symm⟩
  obtain ⟨A, c, rfl⟩ := h.shape
  unfold qv13
  unfold maxLen at hlen
  obtain ⟨w0, hw0⟩ : ∃ w0, w0 = w.alloc (.cells (cells13 q) 25) := ⟨_, rfl⟩
  obtain ⟨b, hb⟩ : ∃ b, b = w.heap.size := ⟨_, rfl⟩
  have HB0 : Hid (Box w0 b 25 (cells13 q)) := by rw [hw0, hb]; exact Box.new w _ _
  have HT0 : Hid (Turn (fun _ => False) w w0) := by rw [hw0]; exact (Turn.refl _ w).alloc _
  have HV := Lib.hid h
  have HQ : Hid (∀ W, Turn (fun _ => False) w0 W → CQ13 W b q) := fun W ht => cq_box13 (HB0.out.turn ht (fun f => f))
  obtain ⟨b0, b1, b2, b3, b4, b5, b6, b7, b8, b9, b10, b11, b12, b13⟩ := HQ.out w0 (Turn.refl _ _)
  rw [hw0, hb] at b0 b1 b2 b3 b4 b5 b6 b7 b8 b9 b10 b11 b12 b13
  have HW0 := Lib.hid hw0
  have HBB := Lib.hid hb
  generalize decide (chkQ q 4 = 0) = rt at *
  clear h hf hw0 hb _wn
  go_enter Try.func5, Try.ntmps5
  go_wp2_with fail
  rw [← HW0.out, ← HBB.out]
  refine (HRT.out _).mono ?_
  rintro e w1 ⟨rfl, t1⟩
  have HTX := Lib.hid t1
  clear t1 HRT
  clear b0 b1 b2 b3 b4 b5 b6 b7 b8 b9 b10 b11 b12 b13
  cases rt with
  | false =>
    go_wp2_with fail
    refine (HAL.out _).mono ?_
    rintro e wz ⟨rfl, tz⟩
    have HTZ := Lib.hid ((HT0.out.trans HTX.out (fun _ _ f => f)).trans tz (fun _ _ f => f))
    clear tz
    go_wp2
    go_ret
    exact ⟨rfl, HTZ.out.below (Nat.le_refl _) (fun _ f => f.elim)⟩
  | true =>
    go_wp2_with fail
    refine (HLI.out _ (HT0.out.trans HTX.out (fun _ _ f => f))).mono ?_
    rintro e w2 ⟨rfl, hw2⟩
    subst hw2
    cases hL : light9 l with
    | false =>
      clear hL
      go_wp2_with fail
      refine (HAL.out _).mono ?_
      rintro e wz ⟨rfl, tz⟩
      have HTZ := Lib.hid ((HT0.out.trans HTX.out (fun _ _ f => f)).trans tz (fun _ _ f => f))
      clear tz
      go_wp2
      go_ret
      exact ⟨rfl, HTZ.out.below (Nat.le_refl _) (fun _ f => f.elim)⟩
    | true =>
      have h100 := light_len11 hL
      clear hL HLI
      by_cases hn : 0 ≤ n ∧ n ≤ l.length
      · obtain ⟨n0, n1⟩ := hn
        obtain ⟨N, rfl⟩ := Int.eq_ofNat_of_zero_le n0
        have hN : N ≤ l.length := by omega
        go_wp2_with fail
        go_loopw [7] (fun x7 wr => w1 = wr ∧ ∃ i : Nat, x7 = .int .i64 (i : Int) ∧ i ≤ l.length ∧ ∀ f ∈ l.take i, f.v.natAbs ≤ 1099511627776) (fun x7 _ => l.length - (intOf x7).toNat)
        case atStart => exact ⟨rfl, 0, rfl, Nat.zero_le _, fun f hf => by simp at hf⟩
        case round =>
          obtain ⟨rfl, i, rfl, hi, hsm⟩ := hrel
          have HSM := Lib.hid hsm
          clear hsm
          by_cases hlt : i < l.length
          · obtain ⟨f, hfi⟩ : ∃ f, l[i]? = some f := ⟨_, List.getElem?_eq_getElem hlt⟩
            obtain ⟨ad, rfl, hc⟩ := fact_at6 HV.out hfi
            obtain ⟨-, -, -, -, -, e5⟩ := hc w1 (HT0.out.trans HTX.out (fun _ _ f => f))
            have HTK : Hid (l.take (i + 1) = l.take i ++ [f]) := (split_at11 hfi).1
            have hil : (i : Int) < l.length := by omega
            clear hc hfi
            by_cases hb : f.v.natAbs ≤ 1099511627776
            · have b1 : ¬ (1099511627776 < f.v) := by omega
              have b2 : ¬ (f.v < -1099511627776) := by omega
              go_wp2
              go_roundw
              case rel => exact ⟨trivial, i + 1, by go_num, hlt, fun g hg => by rw [HTK.out] at hg; rcases List.mem_append.1 hg with hg | hg <;> first | exact HSM.out g hg | (rw [List.mem_singleton.1 hg]; exact hb)⟩
              case measure => simp [intOf]; omega
            · by_cases b1 : 1099511627776 < f.v
              · go_wp2_with fail
                refine (HAL.out _).mono ?_
                rintro e wz ⟨rfl, tz⟩
                have HTZ := Lib.hid ((HT0.out.trans HTX.out (fun _ _ f => f)).trans tz (fun _ _ f => f))
                clear tz
                go_wp2
                go_ret
                exact ⟨rfl, HTZ.out.below (Nat.le_refl _) (fun _ f => f.elim)⟩
              · have b2 : f.v < -1099511627776 := by omega
                go_wp2_with fail
                refine (HAL.out _).mono ?_
                rintro e wz ⟨rfl, tz⟩
                have HTZ := Lib.hid ((HT0.out.trans HTX.out (fun _ _ f => f)).trans tz (fun _ _ f => f))
                clear tz
                go_wp2
                go_ret
                exact ⟨rfl, HTZ.out.below (Nat.le_refl _) (fun _ f => f.elim)⟩
          · obtain rfl : i = l.length := by omega
            have HS : Hid (Small l) := by
              have h := HSM.out
              rw [List.take_length] at h
              exact ⟨h100, h⟩
            clear HSM
            have HTD : Hid (l.take N ++ l.drop N = l) := List.take_append_drop N l
            obtain ⟨ra, rb, r, hra, hrb, hr, hmg⟩ := fold_parts (q := q) (a := l.take N) (b := l.drop N) (by rw [HTD.out]; exact HS.out)
            rw [HTD.out] at hr
            obtain ⟨sg, hsg, -, -⟩ := of_small HS.out
            have HFS : Hid (foldR q sg = some r) := fold_seg HS.out hsg hr
            have HFA : Hid (∀ f ∈ l.take N, fit f.v = true) := fun f hf => HF.out f (List.mem_of_mem_take hf)
            have HFB : Hid (∀ f ∈ l.drop N, fit f.v = true) := fun f hf => HF.out f (List.mem_of_mem_drop hf)
            have HRL : Hid (r.length ≤ 1000000) := by have := foldF_len14 hr; show _ ≤ _; omega
            have HAB : Hid ((∀ x ∈ ra, okC x.c) ∧ (∀ x ∈ rb, okC x.c) ∧ ra.length ≤ 100 ∧ rb.length ≤ 100) := by
              refine ⟨fold_ok14 HFA.out hra, fold_ok14 HFB.out hrb, ?_, ?_⟩
              · have := foldF_len14 hra; rw [List.length_take] at this; omega
              · have := foldF_len14 hrb; rw [List.length_drop] at this; omega
            have HVX := Lib.hid (HV.out.later (HT0.out.trans HTX.out (fun _ _ f => f)))
            have HOF := Lib.hid (facts_any14 q _ l w1 HVX.out HF.out (by omega))
            have HOA := Lib.hid (fun u W (h : RdE EF W u (l.take N)) => facts_any14 q u (l.take N) W h HFA.out (by rw [List.length_take]; omega))
            have HOB := Lib.hid (fun u W (h : RdE EF W u (l.drop N)) => facts_any14 q u (l.drop N) W h HFB.out (by rw [List.length_drop]; omega))
            have HSO := Lib.hid (fun u W (h : RdE EF W u l) => of_any11 u l W h HF.out (by omega))
            have HSX := Lib.hid (fun s W (h : SV11 W s sg) => seg_any14 q s sg W h)
            have HMG := Lib.hid hmg
            rw [hr] at HOF
            rw [hra] at HOA
            rw [hrb] at HOB
            rw [hsg] at HSO
            rw [HFS.out] at HSX
            unfold Seg11 faultO at HSO
            unfold Put11 at HOF HOA HOB HSX
            simp only [Option.isSome_some, if_true, Option.getD_some] at HOF HOA HOB HSO HSX
            have HSZ : Hid ((Try.prog.info? 46).map (·.size) = some EF.sz) := by show _ = _; kernel_rfl
            have hNc : N ≤ c := by have := HV.out.fits; omega
            have HNC := Lib.hid hNc
            clear hr hra hrb hmg hsg HFA HFB hNc
            obtain ⟨b0, b1, b2, b3, b4, b5, b6, b7, b8, b9, b10, b11, b12, b13⟩ := HQ.out _ HTX.out
            go_wp2_with fail
            refine HOF.out.mono ?_
            rintro e w2 ⟨u, rfl, hu, t2⟩
            obtain ⟨B2, d2, rfl⟩ := hu.shape
            have HU2 := Lib.hid hu
            have HTY := Lib.hid (HTX.out.trans t2 (fun _ _ f => f))
            clear hu t2 HOF HTX HVX
            have HTX := HTY
            clear HTY
            clear b0 b1 b2 b3 b4 b5 b6 b7 b8 b9 b10 b11 b12 b13
            go_wp2_with fail
            have HVX := Lib.hid (HV.out.later (HT0.out.trans HTX.out (fun _ _ f => f)))
            refine drawn_region (fun W => Turn (fun _ => False) w2 W) [] (by kernel_rfl) ?_
            have hS0 : Turn (fun _ => False) w2 (World.drew w2) := (Turn.refl _ w2).drew
            generalize World.drew w2 = wd at *
            refine drawn_take 0 67 (.agg (cells13 q)) rfl rfl (by kernel_rfl) (by kernel_rfl) (by kernel_rfl) (by kernel_rfl) (fun _ _ _ h => h) (by rfl) (by assumption) (by intro w hSw; obtain ⟨b0, b1, b2, b3, b4, b5, b6, b7, b8, b9, b10, b11, b12, b13⟩ := HQ.out w (HTX.out.trans hSw (fun _ _ f => f)); clear hSw; go_simp) ?_
            try simp only [List.setIfInBounds_toArray, List.set_cons_zero, List.set_cons_succ]
            refine drawn_take 1 68 (.slice A l.length c) rfl rfl (by kernel_rfl) (by kernel_rfl) (by kernel_rfl) (by kernel_rfl) (fun _ _ _ h => h) (by rfl) (by assumption) (by intro w hSw; obtain hS1 := hSw; go_simp) ?_
            try simp only [List.setIfInBounds_toArray, List.set_cons_zero, List.set_cons_succ]
            refine drawn_take 2 69 (.int .i64 (N : Int)) rfl rfl (by kernel_rfl) (by kernel_rfl) (by kernel_rfl) (by kernel_rfl) (fun _ _ _ h => h) (by rfl) (by assumption) (by intro w hSw; obtain hS1 := hSw; go_simp) ?_
            try simp only [List.setIfInBounds_toArray, List.set_cons_zero, List.set_cons_succ]
            refine drawn_take 3 70 (.slice A N c) rfl rfl (by kernel_rfl) (by kernel_rfl) (by kernel_rfl) (by kernel_rfl) (fun _ _ _ h => h) (by rfl) (by assumption) (by intro w hSw; exact exec_front (E := EF) rfl rfl rfl Try.underlying39 HSZ.out HNC.out w) ?_
            try simp only [List.setIfInBounds_toArray, List.set_cons_zero, List.set_cons_succ]
            refine drawn_any [4] (by kernel_rfl) (by simp) ?_
            refine drawn_cons rfl (fun K hK => ?_) drawn_nil
            go_simp
            refine (HOA.out _ _ ((HVX.out.front N hN).later hS0)).mono ?_
            rintro e w3 ⟨u, rfl, hu, t3⟩
            obtain ⟨B3, d3, rfl⟩ := hu.shape
            have hS3 := hS0.trans t3 (fun _ _ f => f)
            have HU3 := Lib.hid hu
            refine hK.out _ _ _ hS3 ?_
            clear hK K hS0 t3 hu
            try simp only [List.setIfInBounds_toArray, List.set_cons_zero, List.set_cons_succ]
            refine drawn_take 5 66 (.tuple #[.slice B3 ra.length d3, .int .i64 0]) rfl rfl (by kernel_rfl) (by kernel_rfl) (by kernel_rfl) (by kernel_rfl) (fun _ _ _ h => h) (by rfl) (by assumption) (by intro w hSw; go_simp) ?_
            try simp only [List.setIfInBounds_toArray, List.set_cons_zero, List.set_cons_succ]
            refine drawn_take 6 72 (.slice B3 ra.length d3) rfl rfl (by kernel_rfl) (by kernel_rfl) (by kernel_rfl) (by kernel_rfl) (fun _ _ _ h => h) (by rfl) (by assumption) (by intro w hSw; go_simp) ?_
            try simp only [List.setIfInBounds_toArray, List.set_cons_zero, List.set_cons_succ]
            refine drawn_take 7 73 (.int .i64 0) rfl rfl (by kernel_rfl) (by kernel_rfl) (by kernel_rfl) (by kernel_rfl) (fun _ _ _ h => h) (by rfl) (by assumption) (by intro w hSw; go_simp) ?_
            try simp only [List.setIfInBounds_toArray, List.set_cons_zero, List.set_cons_succ]
            refine drawn_take 8 10 (.slice B3 ra.length d3) rfl rfl (by kernel_rfl) (by kernel_rfl) (by kernel_rfl) (by kernel_rfl) (fun _ _ _ h => h) (by rfl) (by assumption) (by intro w hSw; go_simp) ?_
            try simp only [List.setIfInBounds_toArray, List.set_cons_zero, List.set_cons_succ]
            refine drawn_last1 9 11 (.int .i64 0) rfl rfl (by kernel_rfl) (by kernel_rfl) (by rfl) (by intro w; go_simp) hS3 ?_
            try simp only [List.setIfInBounds_toArray, List.set_cons_zero, List.set_cons_succ]
            have HU2' := Lib.hid (HU2.out.later hS3)
            have HTY := Lib.hid (HTX.out.trans hS3 (fun _ _ f => f))
            clear HTX HVX hS3 HU2 HOA
            have HTX := HTY
            clear HTY
            have HVX := Lib.hid (HV.out.later (HT0.out.trans HTX.out (fun _ _ f => f)))
            go_wp2_with fail
            refine drawn_region (fun W => Turn (fun _ => False) w3 W) [] (by kernel_rfl) ?_
            have hS0 : Turn (fun _ => False) w3 (World.drew w3) := (Turn.refl _ w3).drew
            generalize World.drew w3 = wd at *
            obtain ⟨tv, htv⟩ : ∃ tv, tv = tailV EF A l.length c N := ⟨_, rfl⟩
            have HTV : Hid (RdE EF w3 tv (l.drop N)) := by rw [htv]; exact rd_tailV HVX.out hN
            have HTE := Lib.hid htv
            obtain ⟨Bt, dt, etv⟩ := HTV.out.shape
            rw [List.length_drop] at etv
            have HET := Lib.hid etv
            clear htv etv
            refine drawn_take 0 75 (.agg (cells13 q)) rfl rfl (by kernel_rfl) (by kernel_rfl) (by kernel_rfl) (by kernel_rfl) (fun _ _ _ h => h) (by rfl) (by assumption) (by intro w hSw; obtain ⟨b0, b1, b2, b3, b4, b5, b6, b7, b8, b9, b10, b11, b12, b13⟩ := HQ.out w (HTX.out.trans hSw (fun _ _ f => f)); clear hSw; go_simp) ?_
            try simp only [List.setIfInBounds_toArray, List.set_cons_zero, List.set_cons_succ]
            refine drawn_take 1 76 (.slice A l.length c) rfl rfl (by kernel_rfl) (by kernel_rfl) (by kernel_rfl) (by kernel_rfl) (fun _ _ _ h => h) (by rfl) (by assumption) (by intro w hSw; obtain hS1 := hSw; go_simp) ?_
            try simp only [List.setIfInBounds_toArray, List.set_cons_zero, List.set_cons_succ]
            refine drawn_take 2 77 (.int .i64 (N : Int)) rfl rfl (by kernel_rfl) (by kernel_rfl) (by kernel_rfl) (by kernel_rfl) (fun _ _ _ h => h) (by rfl) (by assumption) (by intro w hSw; obtain hS1 := hSw; go_simp) ?_
            try simp only [List.setIfInBounds_toArray, List.set_cons_zero, List.set_cons_succ]
            refine drawn_take 3 78 (.slice Bt (l.length - N) dt) rfl rfl (by kernel_rfl) (by kernel_rfl) (by kernel_rfl) (by kernel_rfl) (fun _ _ _ h => h) (by rfl) (by assumption) (by intro w hSw; rw [← HET.out, HTE.out]; exact exec_tail (E := EF) rfl rfl rfl Try.underlying39 HSZ.out hN w) ?_
            try simp only [List.setIfInBounds_toArray, List.set_cons_zero, List.set_cons_succ]
            refine drawn_any [4] (by kernel_rfl) (by simp) ?_
            refine drawn_cons rfl (fun K hK => ?_) drawn_nil
            go_simp
            refine (HOB.out _ _ (by have h := HTV.out.later hS0; rw [HET.out] at h; exact h)).mono ?_
            rintro e w4 ⟨u, rfl, hu, t4⟩
            obtain ⟨B4, d4, rfl⟩ := hu.shape
            have hS4 := hS0.trans t4 (fun _ _ f => f)
            have HU4 := Lib.hid hu
            refine hK.out _ _ _ hS4 ?_
            clear hK K hS0 t4 hu
            try simp only [List.setIfInBounds_toArray, List.set_cons_zero, List.set_cons_succ]
            refine drawn_take 5 74 (.tuple #[.slice B4 rb.length d4, .int .i64 0]) rfl rfl (by kernel_rfl) (by kernel_rfl) (by kernel_rfl) (by kernel_rfl) (fun _ _ _ h => h) (by rfl) (by assumption) (by intro w hSw; go_simp) ?_
            try simp only [List.setIfInBounds_toArray, List.set_cons_zero, List.set_cons_succ]
            refine drawn_take 6 80 (.slice B4 rb.length d4) rfl rfl (by kernel_rfl) (by kernel_rfl) (by kernel_rfl) (by kernel_rfl) (fun _ _ _ h => h) (by rfl) (by assumption) (by intro w hSw; go_simp) ?_
            try simp only [List.setIfInBounds_toArray, List.set_cons_zero, List.set_cons_succ]
            refine drawn_take 7 81 (.int .i64 0) rfl rfl (by kernel_rfl) (by kernel_rfl) (by kernel_rfl) (by kernel_rfl) (fun _ _ _ h => h) (by rfl) (by assumption) (by intro w hSw; go_simp) ?_
            try simp only [List.setIfInBounds_toArray, List.set_cons_zero, List.set_cons_succ]
            refine drawn_take 8 12 (.slice B4 rb.length d4) rfl rfl (by kernel_rfl) (by kernel_rfl) (by kernel_rfl) (by kernel_rfl) (fun _ _ _ h => h) (by rfl) (by assumption) (by intro w hSw; go_simp) ?_
            try simp only [List.setIfInBounds_toArray, List.set_cons_zero, List.set_cons_succ]
            refine drawn_last1 9 13 (.int .i64 0) rfl rfl (by kernel_rfl) (by kernel_rfl) (by rfl) (by intro w; go_simp) hS4 ?_
            try simp only [List.setIfInBounds_toArray, List.set_cons_zero, List.set_cons_succ]
            have HU2 := Lib.hid (HU2'.out.later hS4)
            have HU3' := Lib.hid (HU3.out.later hS4)
            have HTY := Lib.hid (HTX.out.trans hS4 (fun _ _ f => f))
            clear HTX HVX hS4 HU2' HU3 HOB HTV HTE HET
            have HTX := HTY
            clear HTY
            have HMV : Hid (RdS (w4.alloc (.cells #[.slice B4 rb.length d4, .slice B3 ra.length d3] 26)) (.slice (some ⟨w4.heap.size, 0, none⟩) 2 2) [rb, ra]) := by
              have ha := (Turn.refl (fun _ => False) w4).alloc (.cells #[.slice B4 rb.length d4, .slice B3 ra.length d3] 26)
              refine ⟨[(B4, rb.length, d4), (B3, ra.length, d3)], (OwE.made (E := ESL) (e := 26) w4 [(B4, rb.length, d4), (B3, ra.length, d3)] (by simp [maxLen])).rd, rfl, fun j s x h1 h2 => ?_⟩
              match j with
              | 0 => simp at h1 h2; subst h1 h2; exact HU4.out.later ha
              | 1 => simp at h1 h2; subst h1 h2; exact HU3'.out.later ha
              | j + 2 => simp at h1
            have HMC := Lib.hid (join_any14 _ [rb, ra] _ HMV.out (fun x hx => by simp only [List.mem_cons, List.not_mem_nil, or_false] at hx; rcases hx with rfl | rfl <;> first | exact HAB.out.2.1 | exact HAB.out.1) (by simp) (by have h1 := HAB.out.2.2.1; have h2 := HAB.out.2.2.2; simp only [List.flatten_cons, List.flatten_nil, List.append_nil, List.length_append]; omega))
            unfold Put11 at HMC
            rw [HMG.out] at HMC
            simp only [Option.isSome_some, if_true, Option.getD_some] at HMC
            go_wp2_with fail
            refine HMC.out.mono ?_
            rintro e w5 ⟨u, rfl, hu, t5⟩
            obtain ⟨B5, d5, rfl⟩ := hu.shape
            have HU5 := Lib.hid hu
            have ht45 : Turn (fun _ => False) w4 w5 := ((Turn.refl _ w4).alloc (.cells #[.slice B4 rb.length d4, .slice B3 ra.length d3] 26)).trans t5 (fun _ _ f => f)
            have HU2' := Lib.hid (HU2.out.later ht45)
            have HTY := Lib.hid (HTX.out.trans ht45 (fun _ _ f => f))
            clear HTX hu t5 ht45 HU2 HU3' HU4 HMV HMC HMG
            have HTX := HTY
            clear HTY
            have HVX := Lib.hid (HV.out.later (HT0.out.trans HTX.out (fun _ _ f => f)))
            go_wp2_with fail
            refine (HSO.out _ _ HVX.out).mono ?_
            rintro e w6 ⟨s, rfl, hs, t6⟩
            obtain ⟨p, rfl⟩ := hs.ptr
            have HS6 := Lib.hid hs
            have HU2 := Lib.hid (HU2'.out.later t6)
            have HU5' := Lib.hid (HU5.out.later t6)
            have HTY := Lib.hid (HTX.out.trans t6 (fun _ _ f => f))
            clear HTX hs t6 HU2' HU5 HVX HSO
            have HTX := HTY
            clear HTY
            obtain ⟨b0, b1, b2, b3, b4, b5, b6, b7, b8, b9, b10, b11, b12, b13⟩ := HQ.out _ HTX.out
            go_wp2_with fail
            refine (HSX.out _ _ HS6.out).mono ?_
            rintro e w7 ⟨u, rfl, hu, t7⟩
            obtain ⟨B7, d7, rfl⟩ := hu.shape
            have HU7 := Lib.hid hu
            have HU2' := Lib.hid (HU2.out.later t7)
            have HSM1 := Lib.hid (same_refl11 _ _ r w7 (HU2.out.later t7) (HU5'.out.later t7) HRL.out)
            have HTY := Lib.hid (HTX.out.trans t7 (fun _ _ f => f))
            clear HTX hu t7 HU2 HU5' HSX HS6
            have HTX := HTY
            clear HTY
            clear b0 b1 b2 b3 b4 b5 b6 b7 b8 b9 b10 b11 b12 b13
            go_wp2_with fail
            refine HSM1.out.mono ?_
            rintro e w8 ⟨rfl, t8⟩
            have HSM2 := Lib.hid (same_refl11 _ _ r w8 (HU2'.out.later t8) (HU7.out.later t8) HRL.out)
            have HTY := Lib.hid (HTX.out.trans t8 (fun _ _ f => f))
            clear HTX t8 HU2' HU7 HSM1
            have HTX := HTY
            clear HTY
            go_wp2_with fail
            refine HSM2.out.mono ?_
            rintro e w9 ⟨rfl, t9⟩
            have HTY := Lib.hid (HTX.out.trans t9 (fun _ _ f => f))
            clear HTX t9 HSM2
            have HTX := HTY
            clear HTY
            go_wp2_with fail
            refine (HAL.out _).mono ?_
            rintro e wz ⟨rfl, tz⟩
            have HTZ := Lib.hid ((HT0.out.trans HTX.out (fun _ _ f => f)).trans tz (fun _ _ f => f))
            clear tz
            go_wp2
            go_ret
            exact ⟨rfl, HTZ.out.below (Nat.le_refl _) (fun _ f => f.elim)⟩
      · have hN : n < 0 ∨ ((l.length : Int) < n) := by omega
        rcases hN with hN | hN
        · clear hn
          go_wp2_with fail
          refine (HAL.out _).mono ?_
          rintro e wz ⟨rfl, tz⟩
          have HTZ := Lib.hid ((HT0.out.trans HTX.out (fun _ _ f => f)).trans tz (fun _ _ f => f))
          clear tz
          go_wp2
          go_ret
          exact ⟨rfl, HTZ.out.below (Nat.le_refl _) (fun _ f => f.elim)⟩
        · have hn0 : ¬ (n < 0) := by omega
          clear hn
          go_wp2_with fail
          refine (HAL.out _).mono ?_
          rintro e wz ⟨rfl, tz⟩
          have HTZ := Lib.hid ((HT0.out.trans HTX.out (fun _ _ f => f)).trans tz (fun _ _ f => f))
          clear tz
          go_wp2
          go_ret
          exact ⟨rfl, HTZ.out.below (Nat.le_refl _) (fun _ f => f.elim)⟩

set_option maxRecDepth 100000 in
set_option maxRecDepth 100000 in
theorem lifted (os : Os) (started : os.Started) (H : Type) (enc : TypeId × Value → H) :
    ReturnsInHanded {} Try.checked os 5 .any (Rows.foldPartsSpec.pre6 enc Try.prog Try.f5 Rows.foldPartsRow.domain false) (Rows.foldPartsSpec.post enc Try.prog Try.f5 false true false false) := by
  refine returnsInHanded_of_change (C := Try.checked) own started (by kernel_rfl) Try.func5
    (ChangeSpec.witness6 (enc := enc) (C := Try.checked) false ⟨#[], #[.agg #[.int .i64 0, .int .i64 0, .bool false, .bool false, .bool false, .bool false, .bool false, .bool false, .bool false, .bool false, .string ⟨#[]⟩, .string ⟨#[]⟩, .string ⟨#[]⟩, .string ⟨#[]⟩], .slice none 0 0, .int .i64 0], []⟩ 8 (by kernel_rfl) (by kernel_rfl) (by kernel_rfl) (by kernel_rfl)) ?_
  intro W base args ds gs before hval0 hW hcnd _
  have hval : ∀ (j : Nat) t v, Try.f5.params[j]? = some t → args[j]? = some v → Value.okWide Try.prog W .any base t v := hval0
  have hW' := hW
  obtain ⟨p, q, hA0, hV, rfl, hfz, hnd⟩ := hW
  have hA : DataW.TrodAll enc Try.prog W 0 (fun _ => true) true Try.f5.params.toList args.toList ds p := hA0
  rw [Try.params5] at hA hval
  obtain ⟨v0, vs0, d0, ds0, p0, q0, hargs, rfl, rfl, h0, r0⟩ := trodAll_cons hA
  obtain ⟨v1, vs1, d1, ds1, p1, q1, rfl, rfl, rfl, h1, r1⟩ := trodAll_cons r0
  obtain ⟨v2, vs2, d2, ds2, p2, q2, rfl, rfl, rfl, h2, r2⟩ := trodAll_cons r1
  obtain ⟨rfl, rfl, rfl⟩ := trodAll_nil r2
  obtain rfl : args = #[v0, v1, v2] := by cases args; simp_all
  obtain ⟨rfl, rfl⟩ := trodVars_none hV
  have k0 := h0
  have lt0 : ∀ x ∈ p0, x.block < W.heap.size := by obtain ⟨m, hm⟩ := k0; exact DataW.trod_lt m _ _ _ hm
  obtain ⟨qy0, hq0⟩ := open_query13 (hval 0 25 v0 rfl rfl) h0
  subst hq0
  have k1 := h1
  have lt1 : ∀ x ∈ p1, x.block < W.heap.size := by obtain ⟨m, hm⟩ := k1; exact DataW.trod_lt m _ _ _ hm
  obtain ⟨a1, len1, cap1, rfl⟩ := okWide_slice Try.underlying39 (hval 1 39 v1 rfl rfl)
  obtain ⟨l1, hp1, hl1, hf1⟩ := open_facts9 rfl h1
  obtain ⟨a2, rfl, rfl, rfl, w2⟩ := open_int Try.underlying3 (hval 2 3 v2 rfl rfl) h2
  clear hA0 hval0
  refine (walk qy0 _ l1 a2 w2 W hp1 hl1 hf1).mono fun e W' ⟨he, bel⟩ => ?_
  subst he
  exact ⟨_, rfl, _, _, _, [], _, [], hW', trodAll_mk1 (shut_bool Try.underlying4 _), (trodAll_cons_mk (Below.trod laidOut (by kernel_rfl) (of_decide_eq_true (by kernel_rfl)) k0 bel lt0) (trodAll_cons_mk (Below.trod laidOut (by kernel_rfl) (of_decide_eq_true (by kernel_rfl)) k1 bel lt1) (trodAll_cons_mk (shut_int Try.underlying3 w2) trodAll_mk0))), rfl, bel.frame _, fun h => by cases h⟩

theorem over : Rows.foldPartsRow.holds Try.pinned (OpenSpec.ofChange Rows.foldPartsSpec) :=
  OpenClaim.holds_of_wide 5 Try.f5 rfl rfl rfl rfl rfl rfl rfl ⟨rfl, rfl, rfl, rfl, rfl⟩ rfl rfl rfl rfl rfl (by kernel_rfl) Try.func5 (by kernel_rfl)
    (of_decide_eq_true (by kernel_rfl)) (by unfold Func.isWrapper; first | (rw [if_pos (by decide +kernel)]; kernel_rfl) | (rw [if_neg (by decide +kernel)]; exact ⟨rfl, rfl⟩))
    (fun os started H enc _ => lifted os started H enc)

theorem proved : Rows.FoldPartsSaid := over
#print axioms proved
end Go.Proofs.Ytklpmajaihmmfaa.foldParts
