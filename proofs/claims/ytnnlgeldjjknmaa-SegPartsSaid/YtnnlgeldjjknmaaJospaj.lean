/-
  'SegParts': in whatever two parts facts are put together the segment is the same, if they weigh not too much, and its total counts them all. No condition.
-/
import Derived.Test.YtnnlgeldjjknmaaJocai
import Derived.Test.YtnnlgeldjjknmaaJocad
import Derived.ProofKit
import Derived.OpenShut

namespace Go.Proofs.Ytnnlgeldjjknmaa.segParts
open Go.ChangeShapes Go.WideShapes Go.ChangeAt Go.RowKit
set_option linter.unusedVariables false

theorem own : ownKnob Try.prog.godebug = none := by kernel_rfl
theorem laidOut : laidOutB Try.prog = true := by kernel_rfl

theorem puts_len11 : ∀ {l acc m : List R11}, putsR acc l = some m → m.length ≤ acc.length + l.length
  | [], acc, m, h => by cases h; simp
  | x :: l, acc, m, h => by
    unfold putsR at h
    cases hp : putR x acc with
    | none => rw [hp] at h; cases h
    | some a =>
      rw [hp] at h
      have h1 := putR_len hp
      have h2 := puts_len11 (l := l) (acc := a) (m := m) h
      simp only [List.length_cons]
      omega
theorem of_len11 {l : List F9} {m : List R11} (h : ofR l = some m) : m.length ≤ l.length := by
  have := puts_len11 h
  simpa using this

set_option maxRecDepth 100000 in
set_option maxHeartbeats 8000000 in
theorem walk (v : Value) (l : List F9) (n : Int) (_wn : (Lit.int .i64 n).wf = true) (w : World) (h : RdE EF w v l) (hlen : l.length ≤ maxLen) (hf : ∀ f ∈ l, (Lit.int .i64 f.v).wf = true) :
    Calls Try.prog 6 #[v, .int .i64 n] w fun e w' => e = .returned (.bool true) ∧ Below w.heap.size w w' := by
  have HV := Lib.hid h
  have HF := Lib.hid hf
  have HL1 : Hid (∀ W, w = W → Calls Try.prog 8 #[v] W fun e w' => e = .returned (.bool (light9 l)) ∧ w = w') := fun W e => by subst e; exact (light_any9 v l w h hlen).mono fun _ _ ⟨a, b⟩ => ⟨a, b.symm⟩
  have HAL : Hid (∀ W, Calls Try.prog 10 #[] W fun e w' => e = .returned (.bool true) ∧ Turn (fun _ => False) W w') := fun W => alive_any11 W
  obtain ⟨A, c, rfl⟩ := h.shape
  unfold maxLen at hlen
  clear h hf _wn
  cases hL : light9 l with
  | false =>
    rw [hL] at HL1
    go_enter Try.func6, Try.ntmps6
    go_wp2_with fail
    refine (HL1.out w rfl).mono ?_
    rintro e w1 ⟨rfl, hw1⟩
    subst hw1
    go_wp2_with fail
    refine (HAL.out _).mono ?_
    rintro e wz ⟨rfl, tz⟩
    have HTZ := Lib.hid tz
    clear tz
    go_wp2
    go_ret
    exact ⟨rfl, HTZ.out.below (Nat.le_refl _) (fun _ f => f.elim)⟩
  | true =>
    rw [hL] at HL1
    have h100 := light_len11 hL
    clear hL
    by_cases hn : 0 ≤ n ∧ n ≤ l.length
    · obtain ⟨n0, n1⟩ := hn
      obtain ⟨N, rfl⟩ := Int.eq_ofNat_of_zero_le n0
      have hN : N ≤ l.length := by omega
      go_enter Try.func6, Try.ntmps6
      go_wp2_with fail
      refine (HL1.out w rfl).mono ?_
      rintro e w1 ⟨rfl, hw1⟩
      subst hw1
      go_wp2_with fail
      go_loopw [5] (fun x5 wr => w = wr ∧ ∃ i : Nat, x5 = .int .i64 (i : Int) ∧ i ≤ l.length ∧ ∀ f ∈ l.take i, f.v.natAbs ≤ 1099511627776) (fun x5 _ => l.length - (intOf x5).toNat)
      case atStart => exact ⟨rfl, 0, rfl, Nat.zero_le _, fun f hf => by simp at hf⟩
      case round =>
        obtain ⟨rfl, i, rfl, hi, hsm⟩ := hrel
        have HSM := Lib.hid hsm
        clear hsm
        by_cases hlt : i < l.length
        · obtain ⟨f, hfi⟩ : ∃ f, l[i]? = some f := ⟨_, List.getElem?_eq_getElem hlt⟩
          obtain ⟨ad, rfl, hc⟩ := fact_at6 HV.out hfi
          obtain ⟨-, -, -, -, -, e5⟩ := hc w (Turn.refl _ w)
          have HTK : Hid (l.take (i + 1) = l.take i ++ [f]) := (split_at11 hfi).1
          have hil : (i : Int) < l.length := by omega
          clear hc hfi
          by_cases hb : f.v.natAbs ≤ 1099511627776
          · have b1 : ¬ (1099511627776 < f.v) := by omega
            have b2 : ¬ (f.v < -1099511627776) := by omega
            go_wp2
            go_roundw
            case rel => exact ⟨trivial, i + 1, by go_num, hlt, fun g hg => by rw [HTK.out] at hg; rcases List.mem_append.1 hg with hg | hg <;> first | exact HSM.out g hg | (rw [List.mem_singleton.1 hg]; exact hb)⟩
            case measure => simp [intOf]; omega
          · by_cases b1 : 1099511627776 < f.v
            · go_wp2_with fail
              refine (HAL.out _).mono ?_
              rintro e wz ⟨rfl, tz⟩
              have HTZ := Lib.hid tz
              clear tz
              go_wp2
              go_ret
              exact ⟨rfl, HTZ.out.below (Nat.le_refl _) (fun _ f => f.elim)⟩
            · have b2 : f.v < -1099511627776 := by omega
              go_wp2_with fail
              refine (HAL.out _).mono ?_
              rintro e wz ⟨rfl, tz⟩
              have HTZ := Lib.hid tz
              clear tz
              go_wp2
              go_ret
              exact ⟨rfl, HTZ.out.below (Nat.le_refl _) (fun _ f => f.elim)⟩
        · obtain rfl : i = l.length := by omega
          have HS : Hid (Small l) := by
            have h := HSM.out
            rw [List.take_length] at h
            exact ⟨h100, h⟩
          clear HSM
          have HTD : Hid (l.take N ++ l.drop N = l) := List.take_append_drop N l
          have HSA : Hid (Small (l.take N)) := HS.out.part (fun f hf => List.mem_of_mem_take hf) (by rw [List.length_take]; omega)
          have HSB : Hid (Small (l.drop N)) := HS.out.part (fun f hf => List.mem_of_mem_drop hf) (by rw [List.length_drop]; omega)
          obtain ⟨r, hr, hr1, hr2⟩ := of_small HS.out
          obtain ⟨ra, hra, hra1, hra2⟩ := of_small HSA.out
          obtain ⟨rb, hrb, hrb1, hrb2⟩ := of_small HSB.out
          have HMG : Hid (mergeR [rb, ra] = some r) := parts_small (a := l.take N) (b := l.drop N) (by rw [HTD.out]; exact HS.out) ⟨hra1, hra2⟩ ⟨hrb1, hrb2⟩ (by rw [HTD.out]; exact ⟨hr1, hr2⟩)
          obtain ⟨ct, hct, hcn⟩ := total_small HS.out hr1 hr2
          have HFA : Hid (∀ f ∈ l.take N, fit f.v = true) := fun f hf => fit_of11 (HF.out f (List.mem_of_mem_take hf))
          have HFB : Hid (∀ f ∈ l.drop N, fit f.v = true) := fun f hf => fit_of11 (HF.out f (List.mem_of_mem_drop hf))
          have HOF := Lib.hid (of_any11 _ l w HV.out (fun f hf => fit_of11 (HF.out f hf)) (by omega))
          have HOA := Lib.hid (fun u W (h : RdE EF W u (l.take N)) => of_any11 u (l.take N) W h HFA.out (by rw [List.length_take]; omega))
          have HOB := Lib.hid (fun u W (h : RdE EF W u (l.drop N)) => of_any11 u (l.drop N) W h HFB.out (by rw [List.length_drop]; omega))
          have HRA : Hid (ofR (l.take N) = some ra) := hra
          have HRB : Hid (ofR (l.drop N) = some rb) := hrb
          rw [hr] at HOF
          rw [hra] at HOA
          rw [hrb] at HOB
          have HCT := Lib.hid hct; have HCN := Lib.hid hcn
          unfold Seg11 faultO at HOF HOA HOB
          simp only [Option.isSome_some, if_true, Option.getD_some] at HOF HOA HOB
          clear hr hr1 hr2 hra hra1 hra2 hrb hrb1 hrb2 hct hcn HSA HSB HFA HFB HL1
          have hsz : (Try.prog.info? 60).map (·.size) = some EF.sz := by kernel_rfl
          have HSZ := Lib.hid hsz
          clear hsz
          go_wp2_with fail
          refine HOF.out.mono ?_
          rintro e w2 ⟨s, rfl, hs, t2⟩
          obtain ⟨p, rfl⟩ := hs.ptr
          have HS2 := Lib.hid hs; have HT2 := Lib.hid t2; have HV2 := Lib.hid (HV.out.later t2)
          clear hs t2 HOF
          go_wp2_with (with_reducible refine wpList_front (E := EF) (op := ⟨some 59, _, _, _, _, _⟩) Try.underlying22 HSZ.out rfl _ _ rfl HV2.out rfl rfl hN ?_; intro hfr; have HFR := Lib.hid hfr; clear hfr)
          refine (HOA.out _ _ HFR.out).mono ?_
          rintro e w3 ⟨s, rfl, hs, t3⟩
          obtain ⟨pa, rfl⟩ := hs.ptr
          have HT3 := Lib.hid (HT2.out.trans t3 (fun _ _ f => f)); have HA3 := Lib.hid hs
          have HS3 := Lib.hid (HS2.out.later t3); have HV3 := Lib.hid (HV2.out.later t3)
          clear hs t3 HOA HFR
          go_wp2_with (with_reducible refine wpList_cut (E := EF) (op := ⟨some 66, _, _, _, _, _⟩) Try.underlying22 HSZ.out rfl _ _ rfl HV3.out rfl rfl hN ?_; intro B8 h8 o8; have HR8 := Lib.hid h8; clear h8 o8)
          refine (HOB.out _ _ HR8.out).mono ?_
          rintro e w4 ⟨s, rfl, hs, t4⟩
          obtain ⟨pb, rfl⟩ := hs.ptr
          have HT4 := Lib.hid (HT3.out.trans t4 (fun _ _ f => f)); have HB4 := Lib.hid hs
          have HS4 := Lib.hid (HS3.out.later t4); have HA4 := Lib.hid (HA3.out.later t4)
          clear hs t4 HOB HR8
          have HMV : Hid (SVs11 (w4.alloc (.cells #[.pointer pb, .pointer pa] 27)) (.slice (some ⟨w4.heap.size, 0, none⟩) 2 2) [rb, ra]) := by
            have ha := (Turn.refl (fun _ => False) w4).alloc (.cells #[.pointer pb, .pointer pa] 27)
            refine ⟨[pb, pa], (OwE.made (E := EP11) (e := 27) w4 [pb, pa] (by simp [maxLen])).rd, rfl, fun j q x h1 h2 => ?_⟩
            match j with
            | 0 => simp at h1 h2; subst h1 h2; exact HB4.out.later ha
            | 1 => simp at h1 h2; subst h1 h2; exact HA4.out.later ha
            | j + 2 => simp at h1
          have HLS : Hid ([rb, ra].flatten.length ≤ 1000 ∧ [rb, ra].length ≤ 1000) := by
            have h1 := of_len11 HRB.out; have h2 := of_len11 HRA.out
            simp only [List.flatten_cons, List.flatten_nil, List.append_nil, List.length_append, List.length_cons, List.length_nil]
            rw [List.length_drop] at h1
            rw [List.length_take] at h2
            constructor <;> omega
          have HMC := Lib.hid (merge_any11 _ [rb, ra] _ HMV.out HLS.out.1 HLS.out.2)
          unfold Seg11 faultO at HMC
          rw [HMG.out] at HMC
          simp only [Option.isSome_some, if_true, Option.getD_some] at HMC
          go_wp2_with fail
          refine HMC.out.mono ?_
          rintro e w5 ⟨s, rfl, hs, t5⟩
          obtain ⟨pt, rfl⟩ := hs.ptr
          have HT5 := Lib.hid ((HT4.out.alloc (.cells #[.pointer pb, .pointer pa] 27)).trans t5 (fun _ _ f => f)); have HT5s := Lib.hid hs
          have HS5 := Lib.hid (HS4.out.later (((Turn.refl _ w4).alloc (.cells #[.pointer pb, .pointer pa] 27)).trans t5 (fun _ _ f => f)))
          clear hs t5 HMC HMV HLS HMG
          have HTO := Lib.hid (total_any11 _ r w5 HS5.out)
          rw [HCT.out] at HTO
          unfold outC cv at HTO
          go_wp2_with fail
          refine HTO.out.mono ?_
          rintro e w6 ⟨rfl, t6⟩
          have HT6 := Lib.hid (HT5.out.trans t6 (fun _ _ f => f))
          have HK6 := Lib.hid (HS5.out.later t6); have HM6 := Lib.hid (HT5s.out.later t6)
          clear t6 HTO
          have HSAM : Hid (∀ W, Turn (fun _ => False) w6 W → Calls Try.prog 26 #[.pointer p, .pointer pt] W fun e w' => e = .returned (.bool true) ∧ Turn (fun _ => False) W w') := fun W ht => by have h := same_any11 _ _ r r W (HK6.out.later ht) (HM6.out.later ht); rwa [decide_eq_true rfl] at h
          have HSAN : Hid (∀ W, Turn (fun _ => False) w6 W → Calls Try.prog 26 #[.pointer pt, .pointer p] W fun e w' => e = .returned (.bool true) ∧ Turn (fun _ => False) W w') := fun W ht => by have h := same_any11 _ _ r r W (HM6.out.later ht) (HK6.out.later ht); rwa [decide_eq_true rfl] at h
          obtain ⟨⟨cn, cs, cl, ch⟩, ect⟩ : ∃ d, d = ct := ⟨_, rfl⟩
          subst ect
          have hcn : cn = (l.length : Int) := HCN.out
          subst hcn
          obtain ⟨wa, hwa⟩ : ∃ wa, wa = w6.alloc (.cells #[.int .i64 (l.length : Int), .int .i64 cs, .int .i64 cl, .int .i64 ch] 47) := ⟨_, rfl⟩
          have HWA : Hid (Turn (fun _ => False) w6 wa) := by rw [hwa]; exact (Turn.refl _ w6).alloc _
          have HBA : Hid (Box wa w6.heap.size 47 #[.int .i64 (l.length : Int), .int .i64 cs, .int .i64 cl, .int .i64 ch]) := by rw [hwa]; exact Box.new w6 _ _
          have HWE := Lib.hid hwa
          clear hwa
          go_wp2_with fail
          rw [← HWE.out]
          refine (HSAM.out _ HWA.out).mono ?_
          rintro e w7 ⟨rfl, t7⟩
          have HT7 := Lib.hid (HWA.out.trans t7 (fun _ _ f => f))
          have HB7 := Lib.hid (HBA.out.turn t7 (fun f => f))
          clear t7
          go_wp2_with fail
          refine (HSAN.out _ HT7.out).mono ?_
          rintro e w8 ⟨rfl, t8⟩
          have HT8 := Lib.hid (HT7.out.trans t8 (fun _ _ f => f))
          have c0 := (HB7.out.turn t8 (fun f => f)).cell 0
          have hee : ((l.length : Int) == (l.length : Int)) = true := beq_self_eq_true _
          clear t8
          go_wp2_with fail
          refine (HAL.out _).mono ?_
          rintro e wz ⟨rfl, tz⟩
          have HTZ := Lib.hid ((HT6.out.trans HT8.out (fun _ _ f => f)).trans tz (fun _ _ f => f))
          clear tz
          go_wp2
          go_ret
          exact ⟨rfl, HTZ.out.below (Nat.le_refl _) (fun _ f => f.elim)⟩
    · have hN : n < 0 ∨ ((l.length : Int) < n) := by omega
      rcases hN with hN | hN
      · clear hn
        go_enter Try.func6, Try.ntmps6
        go_wp2_with fail
        refine (HL1.out w rfl).mono ?_
        rintro e w1 ⟨rfl, hw1⟩
        subst hw1
        go_wp2_with fail
        refine (HAL.out _).mono ?_
        rintro e wz ⟨rfl, tz⟩
        have HTZ := Lib.hid tz
        clear tz
        go_wp2
        go_ret
        exact ⟨rfl, HTZ.out.below (Nat.le_refl _) (fun _ f => f.elim)⟩
      · have hn0 : ¬ (n < 0) := by omega
        clear hn
        go_enter Try.func6, Try.ntmps6
        go_wp2_with fail
        refine (HL1.out w rfl).mono ?_
        rintro e w1 ⟨rfl, hw1⟩
        subst hw1
        go_wp2_with fail
        refine (HAL.out _).mono ?_
        rintro e wz ⟨rfl, tz⟩
        have HTZ := Lib.hid tz
        clear tz
        go_wp2
        go_ret
        exact ⟨rfl, HTZ.out.below (Nat.le_refl _) (fun _ f => f.elim)⟩

set_option maxRecDepth 100000 in
theorem lifted (os : Os) (started : os.Started) (H : Type) (enc : TypeId × Value → H) :
    ReturnsInHanded {} Try.checked os 6 .any (Rows.segPartsSpec.pre6 enc Try.prog Try.f6 Rows.segPartsRow.domain false) (Rows.segPartsSpec.post enc Try.prog Try.f6 false true false false) := by
  refine returnsInHanded_of_change (C := Try.checked) own started (by kernel_rfl) Try.func6
    (ChangeSpec.witness6 (enc := enc) (C := Try.checked) false ⟨#[], #[.slice none 0 0, .int .i64 0], []⟩ 8 (by kernel_rfl) (by kernel_rfl) (by kernel_rfl) (by kernel_rfl)) ?_
  intro W base args ds gs before hval0 hW hcnd _
  have hval : ∀ (j : Nat) t v, Try.f6.params[j]? = some t → args[j]? = some v → Value.okWide Try.prog W .any base t v := hval0
  have hW' := hW
  obtain ⟨p, q, hA0, hV, rfl, hfz, hnd⟩ := hW
  have hA : DataW.TrodAll enc Try.prog W 0 (fun _ => true) true Try.f6.params.toList args.toList ds p := hA0
  rw [Try.params6] at hA hval
  obtain ⟨v0, vs0, d0, ds0, p0, q0, hargs, rfl, rfl, h0, r0⟩ := trodAll_cons hA
  obtain ⟨v1, vs1, d1, ds1, p1, q1, rfl, rfl, rfl, h1, r1⟩ := trodAll_cons r0
  obtain ⟨rfl, rfl, rfl⟩ := trodAll_nil r1
  obtain rfl : args = #[v0, v1] := by cases args; simp_all
  obtain ⟨rfl, rfl⟩ := trodVars_none hV
  have k0 := h0
  have lt0 : ∀ x ∈ p0, x.block < W.heap.size := by obtain ⟨m, hm⟩ := k0; exact DataW.trod_lt m _ _ _ hm
  obtain ⟨a0, len0, cap0, rfl⟩ := okWide_slice Try.underlying22 (hval 0 22 v0 rfl rfl)
  obtain ⟨l0, hp0, hl0, hf0⟩ := open_facts9 rfl h0
  obtain ⟨a1, rfl, rfl, rfl, w1⟩ := open_int Try.underlying3 (hval 1 3 v1 rfl rfl) h1
  clear hA0 hval0
  refine (walk _ l0 a1 w1 W hp0 hl0 hf0).mono fun e W' ⟨he, bel⟩ => ?_
  subst he
  exact ⟨_, rfl, _, _, _, [], _, [], hW', trodAll_mk1 (shut_bool Try.underlying4 _), (trodAll_cons_mk (Below.trod laidOut (by kernel_rfl) (of_decide_eq_true (by kernel_rfl)) k0 bel lt0) (trodAll_cons_mk (shut_int Try.underlying3 w1) trodAll_mk0)), rfl, bel.frame _, fun h => by cases h⟩

theorem over : Rows.segPartsRow.holds Try.pinned (OpenSpec.ofChange Rows.segPartsSpec) :=
  OpenClaim.holds_of_wide 6 Try.f6 rfl rfl rfl rfl rfl rfl rfl ⟨rfl, rfl, rfl, rfl, rfl⟩ rfl rfl rfl rfl rfl (by kernel_rfl) Try.func6 (by kernel_rfl)
    (of_decide_eq_true (by kernel_rfl)) (by unfold Func.isWrapper; first | (rw [if_pos (by decide +kernel)]; kernel_rfl) | (rw [if_neg (by decide +kernel)]; exact ⟨rfl, rfl⟩))
    (fun os started H enc _ => lifted os started H enc)

theorem proved : Rows.SegPartsSaid := over
#print axioms proved
end Go.Proofs.Ytnnlgeldjjknmaa.segParts
