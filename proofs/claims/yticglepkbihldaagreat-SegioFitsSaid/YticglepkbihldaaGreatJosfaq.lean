/-
  'SegioFits': which segments fit any dimensions, and the texts that one has. No condition.
-/
import Derived.Test.YticglepkbihldaaGreatJocap
import Derived.Test.YticglepkbihldaaGreatJocaa
import Derived.ProofKit
import Derived.OpenShut

namespace Go.Proofs.YticglepkbihldaaGreat.segioFits
open Go.ChangeShapes Go.WideShapes Go.ChangeAt Go.RowKit
set_option linter.unusedVariables false

theorem own : ownKnob Tryz.prog.godebug = none := by kernel_rfl
theorem laidOut : laidOutB Tryz.prog = true := by kernel_rfl

set_option maxRecDepth 100000 in
set_option maxHeartbeats 16000000 in
theorem walk (v : Value) (l : List R11) (n : Int) (_wn : (Lit.int .i64 n).wf = true) (dm : Int) (_wd : (Lit.int .i64 dm).wf = true) (w : World) (h : RdE ER w v l) (hlen : l.length ≤ maxLen) (hok : ∀ r ∈ l, okC r.c) :
    Calls Tryz.prog 3 #[v, .int .i64 n, .int .i64 dm] w fun e w' => e = .returned (.bool true) ∧ Below w.heap.size w w' := by
  have HV := Lib.hid h
  have HOK := Lib.hid hok
  have HLI := Lib.hid (light_any12 v l w h hlen)
  have HAL : Hid (∀ W, Calls Tryz.prog 7 #[] W fun e w' => e = .returned (.bool true) ∧ Turn (fun _ => False) W w') := fun W => alive_any12 W
  obtain ⟨A, c, rfl⟩ := h.shape
  clear h _wn _wd hlen hok
  cases hL : light12 l with
  | false =>
    rw [hL] at HLI
    clear hL
    go_enter Tryz.func3, Tryz.ntmps3
    go_wp2_with fail
    refine HLI.out.mono ?_
    rintro e w1 ⟨rfl, t1⟩
    have HT1 := Lib.hid t1
    clear t1 HLI
    go_wp2_with fail
    refine (HAL.out w1).mono ?_
    rintro e w2 ⟨rfl, t2⟩
    have HT2 := Lib.hid (HT1.out.trans t2 (fun _ _ f => f))
    clear t2
    go_wp2
    go_ret
    exact ⟨rfl, HT2.out.below (Nat.le_refl _) (fun _ f => f.elim)⟩
  | true =>
    rw [hL] at HLI
    obtain ⟨h60, hrr⟩ := light12_spec hL
    clear hL
    have HMD := Lib.hid (fun W (ht : Turn (fun _ => False) w W) => made_any12 _ l W (HV.out.later ht) HOK.out (by omega) hrr)
    have HTL : Hid ((textsL l dm).length ≤ 20000) := by
      show _ ≤ _
      unfold textsL
      split
      · exact Nat.le_trans (dimT_len _ _) (by omega)
      · exact Nat.zero_le _
    obtain ⟨T, hT⟩ : ∃ T, T = textsL l dm := ⟨_, rfl⟩
    obtain ⟨f, hf⟩ : ∃ f, f = fitL l n := ⟨_, rfl⟩
    have HTE := Lib.hid hT; have HFE := Lib.hid hf
    rw [← hT] at HTL
    have hff : (f == f) = true := by simp
    clear hrr hT hf
    go_enter Tryz.func3, Tryz.ntmps3
    go_wp2_with fail
    refine HLI.out.mono ?_
    rintro e w1 ⟨rfl, t1⟩
    have HT1 := Lib.hid t1
    clear t1 HLI
    go_wp2_with fail
    refine (HMD.out w1 HT1.out).mono ?_
    rintro e w2 ⟨s, rfl, hs, t2⟩
    have HFT := fits_any12 s l n w2 hs
    rw [← HFE.out] at HFT
    have HF := Lib.hid HFT
    obtain ⟨ps, rfl⟩ := hs.ptr
    have HS := Lib.hid hs; have HT2 := Lib.hid (HT1.out.trans t2 (fun _ _ f => f))
    clear hs t2 HMD HFT
    go_wp2_with fail
    refine HF.out.mono ?_
    rintro e w3 ⟨rfl, t3⟩
    have HS3 := Lib.hid (HS.out.later t3); have HT3 := Lib.hid (HT2.out.trans t3 (fun _ _ f => f))
    have HRF := ref_fits12 _ l n w3 (HV.out.later HT3.out) (by omega)
    rw [← HFE.out] at HRF
    have HR := Lib.hid HRF
    clear t3 HF HRF
    go_wp2_with fail
    refine HR.out.mono ?_
    rintro e w4 ⟨rfl, t4⟩
    have HS4 := Lib.hid (HS3.out.later t4); have HT4 := Lib.hid (HT3.out.trans t4 (fun _ _ f => f))
    have HTX := texts_any12 _ l dm w4 HS4.out
    rw [← HTE.out] at HTX
    have HX := Lib.hid HTX
    clear t4 HR HTX
    go_wp2_with fail
    refine HX.out.mono ?_
    rintro e w5 ⟨u, rfl, hu, t5⟩
    obtain ⟨A5, c5, rfl⟩ := hu.rd.shape
    have HU := Lib.hid hu.rd; have HT5 := Lib.hid (HT4.out.trans t5 (fun _ _ f => f))
    have HTY := ref_texts12 _ l dm w5 (HV.out.later HT5.out) (by omega)
    rw [← HTE.out] at HTY
    have HY := Lib.hid HTY
    clear hu t5 HX HTY
    go_wp2_with fail
    refine HY.out.mono ?_
    rintro e w6 ⟨y, rfl, hy, t6, -⟩
    obtain ⟨A6, c6, rfl⟩ := hy.shape
    have HU6 := Lib.hid (HU.out.later t6); have HY6 := Lib.hid hy; have HT6 := Lib.hid (HT5.out.trans t6 (fun _ _ f => f))
    clear hy t6 HY
    go_wp2_with fail
    refine (same_refl10 _ _ T w6 HU6.out HY6.out (by have := HTL.out; omega)).mono ?_
    rintro e w7 ⟨rfl, t7⟩
    have HT7 := Lib.hid (HT6.out.trans t7 (fun _ _ f => f))
    clear t7
    go_wp2_with fail
    refine (HAL.out w7).mono ?_
    rintro e w8 ⟨rfl, t8⟩
    have HT8 := Lib.hid (HT7.out.trans t8 (fun _ _ f => f))
    clear t8
    go_wp2
    go_ret
    exact ⟨rfl, HT8.out.below (Nat.le_refl _) (fun _ f => f.elim)⟩

set_option maxRecDepth 100000 in
set_option maxRecDepth 100000 in
theorem lifted (os : Os) (started : os.Started) (H : Type) (enc : TypeId × Value → H) :
    ReturnsInHanded {} Tryz.checked os 3 .any (Rows.segioFitsSpec.pre6 enc Tryz.prog Tryz.f3 Rows.segioFitsRow.domain false) (Rows.segioFitsSpec.post enc Tryz.prog Tryz.f3 false true false false) := by
  refine returnsInHanded_of_change (C := Tryz.checked) own started (by kernel_rfl) Tryz.func3
    (ChangeSpec.witness6 (enc := enc) (C := Tryz.checked) false ⟨#[], #[.slice none 0 0, .int .i64 0, .int .i64 0], []⟩ 8 (by kernel_rfl) (by kernel_rfl) (by kernel_rfl) (by kernel_rfl)) ?_
  intro W base args ds gs before hval0 hW hcnd _
  have hval : ∀ (j : Nat) t v, Tryz.f3.params[j]? = some t → args[j]? = some v → Value.okWide Tryz.prog W .any base t v := hval0
  have hW' := hW
  obtain ⟨p, q, hA0, hV, rfl, hfz, hnd⟩ := hW
  have hA : DataW.TrodAll enc Tryz.prog W 0 (fun _ => true) true Tryz.f3.params.toList args.toList ds p := hA0
  rw [Tryz.params3] at hA hval
  obtain ⟨v0, vs0, d0, ds0, p0, q0, hargs, rfl, rfl, h0, r0⟩ := trodAll_cons hA
  obtain ⟨v1, vs1, d1, ds1, p1, q1, rfl, rfl, rfl, h1, r1⟩ := trodAll_cons r0
  obtain ⟨v2, vs2, d2, ds2, p2, q2, rfl, rfl, rfl, h2, r2⟩ := trodAll_cons r1
  obtain ⟨rfl, rfl, rfl⟩ := trodAll_nil r2
  obtain rfl : args = #[v0, v1, v2] := by cases args; simp_all
  obtain ⟨rfl, rfl⟩ := trodVars_none hV
  have k0 := h0
  have lt0 : ∀ x ∈ p0, x.block < W.heap.size := by obtain ⟨m, hm⟩ := k0; exact DataW.trod_lt m _ _ _ hm
  obtain ⟨a0, len0, cap0, rfl⟩ := okWide_slice Tryz.underlying22 (hval 0 22 v0 rfl rfl)
  obtain ⟨l0, hp0, hl0, hf0⟩ := open_rows11 rfl h0
  obtain ⟨a1, rfl, rfl, rfl, w1⟩ := open_int Tryz.underlying3 (hval 1 3 v1 rfl rfl) h1
  obtain ⟨a2, rfl, rfl, rfl, w2⟩ := open_int Tryz.underlying3 (hval 2 3 v2 rfl rfl) h2
  clear hA0 hval0
  refine (walk _ l0 a1 w1 a2 w2 W hp0 hl0 hf0).mono fun e W' ⟨he, bel⟩ => ?_
  subst he
  exact ⟨_, rfl, _, _, _, [], _, [], hW', trodAll_mk1 (shut_bool Tryz.underlying4 _), (trodAll_cons_mk (Below.trod laidOut (by kernel_rfl) (of_decide_eq_true (by kernel_rfl)) k0 bel lt0) (trodAll_cons_mk (shut_int Tryz.underlying3 w1) (trodAll_cons_mk (shut_int Tryz.underlying3 w2) trodAll_mk0))), rfl, bel.frame _, fun h => by cases h⟩

theorem over : Rows.segioFitsRow.holds Tryz.pinned (OpenSpec.ofChange Rows.segioFitsSpec) :=
  OpenClaim.holds_of_wide 3 Tryz.f3 rfl rfl rfl rfl rfl rfl rfl ⟨rfl, rfl, rfl, rfl, rfl⟩ rfl rfl rfl rfl rfl (by kernel_rfl) Tryz.func3 (by kernel_rfl)
    (of_decide_eq_true (by kernel_rfl)) (by unfold Func.isWrapper; first | (rw [if_pos (by decide +kernel)]; kernel_rfl) | (rw [if_neg (by decide +kernel)]; exact ⟨rfl, rfl⟩))
    (fun os started H enc _ => lifted os started H enc)

theorem proved : Rows.SegioFitsSaid := over
#print axioms proved
end Go.Proofs.YticglepkbihldaaGreat.segioFits
