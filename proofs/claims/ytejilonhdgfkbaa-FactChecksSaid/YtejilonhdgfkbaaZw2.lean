
/-
  'FactChecks': which facts, and which batches, are right, and what is wrong first, and where. No condition.
-/
import Derived.Test.YtejilonhdgfkbaaZs
import Derived.Test.YtejilonhdgfkbaaZo
import Derived.Test.YtejilonhdgfkbaaEg
import Derived.Test.YtejilonhdgfkbaaZn
import Derived.Test.YtejilonhdgfkbaaZck
import Derived.Test.YtejilonhdgfkbaaZe
import Derived.Test.YtejilonhdgfkbaaZf
import Derived.ProofKit
import Derived.OpenShut
namespace Go.Proofs.Ytejilonhdgfkbaa.factChecks
open Go.ChangeShapes Go.WideShapes Go.ChangeAt Go.RowKit
set_option linter.unusedVariables false

theorem own : ownKnob Try.prog.godebug = none := by kernel_rfl
theorem laidOut : laidOutB Try.prog = true := by kernel_rfl

set_option maxRecDepth 100000 in
set_option maxHeartbeats 8000000 in
theorem walk (v : Value) (l : List F9) (n : Int) (_wn : (Lit.int .i64 n).wf = true) (w : World) (h : RdE EF w v l) (hlen : l.length ≤ maxLen) :
    Calls Try.prog 4 #[v, .int .i64 n] w fun e w' => e = .returned (.bool true) ∧ Below w.heap.size w w' := by
  have HV := Lib.hid h
  have HLI := Lib.hid (light_any9 v l w h hlen)
  obtain ⟨A, c, rfl⟩ := h.shape
  unfold maxLen at hlen
  clear h _wn
  cases hL : light9 l
  · rw [hL] at HLI
    go_enter Try.func4, Try.ntmps4
    go_wp2_with fail
    refine HLI.out.mono ?_
    rintro e w2 ⟨rfl, rfl⟩
    go_wp2_with fail
    refine (alive_any9 w2).mono ?_
    rintro e w3 ⟨rfl, ht⟩
    have HTa := Lib.hid ht
    clear ht
    go_wp2
    go_ret
    exact ⟨rfl, HTa.out.below (Nat.le_refl _) (fun _ f => f.elim)⟩
  · rw [hL] at HLI
    have h100 := light_len9 hL
    have h1k : l.length ≤ 1000 := by omega
    go_enter Try.func4, Try.ntmps4
    go_wp2_with fail
    refine HLI.out.mono ?_
    rintro e w2 ⟨rfl, rfl⟩
    clear HLI
    go_wp2_with fail
    go_loopw [5] (fun x5 wr => ∃ i : Nat, x5 = .int .i64 (i : Int) ∧ i ≤ l.length ∧ Turn (fun _ => False) w2 wr) (fun x5 _ => l.length - (intOf x5).toNat)
    case atStart => exact ⟨0, rfl, Nat.zero_le _, Turn.refl _ _⟩
    case round =>
      obtain ⟨i, rfl, hi, ht⟩ := hrel
      have HT := Lib.hid ht
      clear ht
      by_cases hlt : i < l.length
      · obtain ⟨f, hf⟩ : ∃ f, l[i]? = some f := ⟨_, List.getElem?_eq_getElem hlt⟩
        obtain ⟨ad, rfl, hc⟩ := fact_at6 HV.out hf
        have HC : Hid (∀ W, Turn (fun _ => False) w2 W → _) := hc
        have hil : (i : Int) < l.length := by omega
        clear hc hf
        have HA : Hid (∀ W, Calls Try.prog 12 #[fv9 f, .int .i64 n] W fun e w' => e = .returned (.int .i64 (chkF f n)) ∧ Turn (fun _ => False) W w') := fun W => check_any9 f n W
        have HR : Hid (∀ W, Calls Try.prog 13 #[fv9 f, .int .i64 n] W fun e w' => e = .returned (.int .i64 (chkF f n)) ∧ Turn (fun _ => False) W w') := fun W => ref_check9 f n W
        generalize chkF f n = cf at *
        go_wp2_with fail
        refine drawn_region (fun W => Turn (fun _ => False) w2 W) [] (by kernel_rfl) ?_
        have ht0 : Turn (fun _ => False) w2 (World.drew wr) := HT.out.drew
        generalize World.drew wr = wd at *
        have HD := Lib.hid ht0
        have hS0 := ht0
        clear ht0
        refine drawn_take 0 20 (.slice (some ad) l.length c) rfl rfl (by kernel_rfl) (by kernel_rfl) (by kernel_rfl) (by kernel_rfl) (fun _ _ _ h => h) (by rfl) (by assumption) (by intro w hSw; obtain hS1 := hSw; go_simp) ?_
        try simp only [List.setIfInBounds_toArray, List.set_cons_zero, List.set_cons_succ]
        refine drawn_take 1 21 (.int .i64 (i : Int)) rfl rfl (by kernel_rfl) (by kernel_rfl) (by kernel_rfl) (by kernel_rfl) (fun _ _ _ h => h) (by rfl) (by assumption) (by intro w hSw; obtain hS1 := hSw; go_simp) ?_
        try simp only [List.setIfInBounds_toArray, List.set_cons_zero, List.set_cons_succ]
        refine drawn_take 2 22 (.pointer (some (ad.add (i * 6)))) rfl rfl (by kernel_rfl) (by kernel_rfl) (by kernel_rfl) (by kernel_rfl) (fun _ _ _ h => h) (by rfl) (by assumption) (by intro w hSw; obtain hS1 := hSw; go_simp) ?_
        try simp only [List.setIfInBounds_toArray, List.set_cons_zero, List.set_cons_succ]
        refine drawn_take 3 23 (fv9 f) rfl rfl (by kernel_rfl) (by kernel_rfl) (by kernel_rfl) (by kernel_rfl) (fun _ _ _ h => h) (by rfl) (by assumption) (by intro w hSw; obtain ⟨a0, a1, a2, a3, a4, a5⟩ := HC.out w hSw; go_simp) ?_
        try simp only [List.setIfInBounds_toArray, List.set_cons_zero, List.set_cons_succ]
        refine drawn_take 4 24 (.int .i64 n) rfl rfl (by kernel_rfl) (by kernel_rfl) (by kernel_rfl) (by kernel_rfl) (fun _ _ _ h => h) (by rfl) (by assumption) (by intro w hSw; obtain hS1 := hSw; go_simp) ?_
        try simp only [List.setIfInBounds_toArray, List.set_cons_zero, List.set_cons_succ]
        refine drawn_take 6 26 (.slice (some ad) l.length c) rfl rfl (by kernel_rfl) (by kernel_rfl) (by kernel_rfl) (by kernel_rfl) (fun _ _ _ h => h) (by rfl) (by assumption) (by intro w hSw; obtain hS1 := hSw; go_simp) ?_
        try simp only [List.setIfInBounds_toArray, List.set_cons_zero, List.set_cons_succ]
        refine drawn_take 7 27 (.int .i64 (i : Int)) rfl rfl (by kernel_rfl) (by kernel_rfl) (by kernel_rfl) (by kernel_rfl) (fun _ _ _ h => h) (by rfl) (by assumption) (by intro w hSw; obtain hS1 := hSw; go_simp) ?_
        try simp only [List.setIfInBounds_toArray, List.set_cons_zero, List.set_cons_succ]
        refine drawn_take 8 28 (.pointer (some (ad.add (i * 6)))) rfl rfl (by kernel_rfl) (by kernel_rfl) (by kernel_rfl) (by kernel_rfl) (fun _ _ _ h => h) (by rfl) (by assumption) (by intro w hSw; obtain hS1 := hSw; go_simp) ?_
        try simp only [List.setIfInBounds_toArray, List.set_cons_zero, List.set_cons_succ]
        refine drawn_take 9 29 (fv9 f) rfl rfl (by kernel_rfl) (by kernel_rfl) (by kernel_rfl) (by kernel_rfl) (fun _ _ _ h => h) (by rfl) (by assumption) (by intro w hSw; obtain ⟨a0, a1, a2, a3, a4, a5⟩ := HC.out w hSw; go_simp) ?_
        try simp only [List.setIfInBounds_toArray, List.set_cons_zero, List.set_cons_succ]
        refine drawn_take 10 30 (.int .i64 n) rfl rfl (by kernel_rfl) (by kernel_rfl) (by kernel_rfl) (by kernel_rfl) (fun _ _ _ h => h) (by rfl) (by assumption) (by intro w hSw; obtain hS1 := hSw; go_simp) ?_
        try simp only [List.setIfInBounds_toArray, List.set_cons_zero, List.set_cons_succ]
        refine drawn_any [5] (by kernel_rfl) (by simp) ?_
        refine drawn_cons rfl (fun K hK => ?_) drawn_nil
        go_simp
        refine (HA.out wd).mono ?_
        rintro e w3 ⟨rfl, t3⟩
        have HT3 : Hid (Turn (fun _ => False) w2 w3) := HD.out.trans t3 (fun _ _ f => f)
        refine hK.out _ _ _ HT3.out ?_
        clear hK K hS0 t3
        have hS0 := HT3.out
        try simp only [List.setIfInBounds_toArray, List.set_cons_zero, List.set_cons_succ]
        refine drawn_any [11] (by kernel_rfl) (by simp) ?_
        refine drawn_cons rfl (fun K hK => ?_) drawn_nil
        go_simp
        refine (HR.out w3).mono ?_
        rintro e w4 ⟨rfl, t4⟩
        have HT4 : Hid (Turn (fun _ => False) w2 w4) := HT3.out.trans t4 (fun _ _ f => f)
        refine hK.out _ _ _ HT4.out ?_
        clear hK K hS0 t4
        have hS0 := HT4.out
        try simp only [List.setIfInBounds_toArray, List.set_cons_zero, List.set_cons_succ]
        refine drawn_last1 12 32 (.bool false) rfl rfl (by kernel_rfl) (by kernel_rfl) (by rfl) (by intro w; go_simp) hS0 ?_
        try simp only [List.setIfInBounds_toArray, List.set_cons_zero, List.set_cons_succ]
        clear hS0
        go_wp2
        go_roundw
        case rel => exact ⟨i + 1, by go_num, hlt, HT4.out⟩
        case measure => simp [intOf]; omega
      · obtain rfl : i = l.length := by omega
        have HV1 := Lib.hid (HV.out.later HT.out)
        go_wp2_with fail
        refine (all_any9 _ l n wr HV1.out h1k).mono ?_
        unfold allV
        rintro e w3 ⟨rfl, t3⟩
        have HV3 := Lib.hid (HV1.out.later t3); have HT3 := Lib.hid (HT.out.trans t3 (fun _ _ f => f))
        clear t3
        have HRA := Lib.hid (ref_all9 _ l n w3 HV3.out (by omega))
        go_wp2_with fail
        refine HRA.out.mono ?_
        unfold allV
        rintro e w4 ⟨rfl, t4⟩
        have HT4 := Lib.hid (HT3.out.trans t4 (fun _ _ f => f))
        clear t4 HRA
        generalize (allB l n).1 = fa at *
        generalize (allB l n).2 = fb at *
        go_wp2_with fail
        refine (alive_any9 w4).mono ?_
        rintro e w5 ⟨rfl, t5⟩
        have HT5 := Lib.hid (HT4.out.trans t5 (fun _ _ f => f))
        clear t5
        go_wp2
        go_ret
        exact ⟨rfl, HT5.out.below (Nat.le_refl _) (fun _ f => f.elim)⟩

set_option maxRecDepth 100000 in
theorem lifted (os : Os) (started : os.Started) (H : Type) (enc : TypeId × Value → H) :
    ReturnsInHanded {} Try.checked os 4 .any (Rows.factChecksSpec.pre6 enc Try.prog Try.f4 Rows.factChecksRow.domain false) (Rows.factChecksSpec.post enc Try.prog Try.f4 false true false false) := by
  refine returnsInHanded_of_change (C := Try.checked) own started (by kernel_rfl) Try.func4
    (ChangeSpec.witness6 (enc := enc) (C := Try.checked) false ⟨#[], #[.slice none 0 0, .int .i64 0], []⟩ 8 (by kernel_rfl) (by kernel_rfl) (by kernel_rfl) (by kernel_rfl)) ?_
  intro W base args ds gs before hval0 hW hcnd _
  have hval : ∀ (j : Nat) t v, Try.f4.params[j]? = some t → args[j]? = some v → Value.okWide Try.prog W .any base t v := hval0
  have hW' := hW
  obtain ⟨p, q, hA0, hV, rfl, hfz, hnd⟩ := hW
  have hA : DataW.TrodAll enc Try.prog W 0 (fun _ => true) true Try.f4.params.toList args.toList ds p := hA0
  rw [Try.params4] at hA hval
  obtain ⟨v0, vs0, d0, ds0, p0, q0, hargs, rfl, rfl, h0, r0⟩ := trodAll_cons hA
  obtain ⟨v1, vs1, d1, ds1, p1, q1, rfl, rfl, rfl, h1, r1⟩ := trodAll_cons r0
  obtain ⟨rfl, rfl, rfl⟩ := trodAll_nil r1
  obtain rfl : args = #[v0, v1] := by cases args; simp_all
  obtain ⟨rfl, rfl⟩ := trodVars_none hV
  have k0 := h0
  have lt0 : ∀ x ∈ p0, x.block < W.heap.size := by obtain ⟨m, hm⟩ := k0; exact DataW.trod_lt m _ _ _ hm
  obtain ⟨a0, len0, cap0, rfl⟩ := okWide_slice Try.underlying28 (hval 0 28 v0 rfl rfl)
  obtain ⟨l0, hp0, hl0, hf0⟩ := open_facts9 rfl h0
  obtain ⟨a1, rfl, rfl, rfl, w1⟩ := open_int Try.underlying3 (hval 1 3 v1 rfl rfl) h1
  clear hA0 hval0
  refine (walk _ l0 a1 w1 W hp0 hl0).mono fun e W' ⟨he, bel⟩ => ?_
  subst he
  exact ⟨_, rfl, _, _, _, [], _, [], hW', trodAll_mk1 (shut_bool Try.underlying4 _), (trodAll_cons_mk (Below.trod laidOut (by kernel_rfl) (of_decide_eq_true (by kernel_rfl)) k0 bel lt0) (trodAll_cons_mk (shut_int Try.underlying3 w1) trodAll_mk0)), rfl, bel.frame _, fun h => by cases h⟩

theorem over : Rows.factChecksRow.holds Try.pinned (OpenSpec.ofChange Rows.factChecksSpec) :=
  OpenClaim.holds_of_wide 4 Try.f4 rfl rfl rfl rfl rfl rfl rfl ⟨rfl, rfl, rfl, rfl, rfl⟩ rfl rfl rfl rfl rfl (by kernel_rfl) Try.func4 (by kernel_rfl)
    (of_decide_eq_true (by kernel_rfl)) (by unfold Func.isWrapper; first | (rw [if_pos (by decide +kernel)]; kernel_rfl) | (rw [if_neg (by decide +kernel)]; exact ⟨rfl, rfl⟩))
    (fun os started H enc _ => lifted os started H enc)

theorem proved : Rows.FactChecksSaid := over
#print axioms proved
end Go.Proofs.Ytejilonhdgfkbaa.factChecks
