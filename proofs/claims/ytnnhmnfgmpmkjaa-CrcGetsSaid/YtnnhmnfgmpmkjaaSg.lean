/-
  'CrcGets': of any bytes, the bytes with their check, and what is got of them, are the document's. No condition.
-/
import Derived.Test.YtnnhmnfgmpmkjaaCe
namespace Go.Proofs.Ytnnhmnfgmpmkjaa.crcGets
open Go.ChangeShapes Go.WideShapes Go.ChangeAt Go.RowKit
set_option linter.unusedVariables false

theorem own : ownKnob Try.prog.godebug = none := by kernel_rfl
theorem laidOut : laidOutB Try.prog = true := by kernel_rfl

theorem Rd.shape {w : World} {v : Value} {l : List UInt8} (h : Rd w v l) : ∃ A c, v = .slice A l.length c := by
  obtain ⟨A, c, e, _⟩ := h
  exact ⟨A, c, e⟩
theorem put_len (l : List UInt8) : (l ++ tl (more 0 l)).length = l.length + 4 := by rw [List.length_append, tl_len]

set_option maxRecDepth 100000 in
set_option maxHeartbeats 2000000 in
theorem walk (v : Value) (l : List UInt8) (w : World) (h : Rd w v l) (hlen : l.length ≤ maxLen) :
    Calls Try.prog 4 #[v] w fun e w' => e = .returned (.bool true) ∧ Below w.heap.size w w' := by
  have HV := Lib.hid h
  obtain ⟨A, c, rfl, _⟩ := h
  unfold maxLen at hlen
  by_cases h100 : l.length ≤ 100
  · obtain ⟨m, hm⟩ : ∃ m, m = l ++ tl (more 0 l) := ⟨_, rfl⟩
    have HML : Hid (m.length = l.length + 4) := by rw [hm, put_len]; trivial
    have HMM := Lib.hid hm; clear hm
    obtain ⟨g, hg⟩ : ∃ g, g = gets l := ⟨_, rfl⟩
    have HG := Lib.hid hg; clear hg
    have HGP : Hid (∀ W e W', GetPost W l e W' → ∃ A c, e = .returned (.tuple #[.slice A g.1.length c, .int .i64 g.2]) ∧ Rd W' (.slice A g.1.length c) g.1 ∧ Turn (fun _ => False) W W') := by
      rintro W e W' ⟨v', he, hr, ht⟩
      rw [← HG.out] at he hr
      obtain ⟨A, c, rfl⟩ := Rd.shape hr
      exact ⟨A, c, he, hr, ht⟩
    go_enter Try.func4, Try.ntmps4
    go_wp2_with (first
      | (go_at_call 12; refine (crc_get _ l w HV.out (by omega)).mono ?_; intro e w1 hp; obtain ⟨A1, c1, rfl, hr1, ht1⟩ := HGP.out _ _ _ hp; have HR1 := Lib.hid hr1; have HT1 := Lib.hid ht1; clear hp hr1 ht1)
      | (go_at_call 13; refine (ref_get _ l w1 (HV.out.later HT1.out) (by omega)).mono ?_; intro e w2 hp; obtain ⟨A2, c2, rfl, hr2, ht2⟩ := HGP.out _ _ _ hp; have HR2 := Lib.hid hr2; have HT2 := Lib.hid (HT1.out.trans ht2 (fun _ _ f => f)); have HR1b := Lib.hid (HR1.out.later ht2); clear hp hr2 ht2)
      | (go_at_call 15; refine (crc_put _ l w2 (HV.out.later HT2.out) (by omega)).mono ?_; rintro e w3 ⟨rfl, hb3, ht3⟩; rw [← HMM.out] at hb3; have hb := Box.by hb3 (by rw [HML.out]; simp only [maxLen]; omega); rw [HML.out] at hb; have HB3 := Lib.hid hb; have HT3 := Lib.hid ht3; clear hb3 ht3 hb)
      | (go_at_call 16; refine (ref_put _ l w3 ((HV.out.later HT2.out).later HT3.out) (by omega)).mono ?_; rintro e w4 ⟨v4, rfl, hm4⟩; rw [← HMM.out] at hm4; have HM4 := Lib.hid hm4; clear hm4)
      | (go_at_call 14; refine (same_any _ v4 m m w4 (HB3.out.rd.later HM4.out.2.1) HM4.out.rd).mono ?_; rintro e w5 ⟨rfl, rfl⟩)
      | (go_at_call 14; refine (same_any _ _ g.1 g.1 w4 ((HR1b.out.later HT3.out).later HM4.out.2.1) ((HR2.out.later HT3.out).later HM4.out.2.1)).mono ?_; rintro e w5 ⟨rfl, rfl⟩)
      | (go_at_call 7; refine (alive_any w4).mono ?_; rintro e w5 ⟨rfl, ht⟩; have HT5 := Lib.hid ht; clear ht))
    go_ret
    exact ⟨rfl, (((HT2.out.trans HT3.out (fun _ _ f => f)).trans HM4.out.2.1 (fun _ _ f => f)).trans HT5.out (fun _ _ f => f)).below (Nat.le_refl _) (fun _ f => f.elim)⟩
  · go_enter Try.func4, Try.ntmps4
    go_wp2_with (go_at_call 7; refine (alive_any w).mono ?_; rintro e w5 ⟨rfl, ht⟩; have HT5 := Lib.hid ht; clear ht)
    go_ret
    exact ⟨rfl, HT5.out.below (Nat.le_refl _) (fun _ f => f.elim)⟩

set_option maxRecDepth 100000 in
theorem lifted (os : Os) (started : os.Started) (H : Type) (enc : TypeId × Value → H) :
    ReturnsInHanded {} Try.checked os 4 .any (Rows.crcGetsSpec.pre6 enc Try.prog Try.f4 Rows.crcGetsRow.domain false) (Rows.crcGetsSpec.post enc Try.prog Try.f4 false true false false) := by
  refine returnsInHanded_of_change (C := Try.checked) own started (by kernel_rfl) Try.func4
    (ChangeSpec.witness6 (enc := enc) (C := Try.checked) false ⟨#[], #[.slice none 0 0], []⟩ 8 (by kernel_rfl) (by kernel_rfl) (by kernel_rfl) (by kernel_rfl)) ?_
  intro W base args ds gs before hval0 hW hcnd _
  have hval : ∀ (j : Nat) t v, Try.f4.params[j]? = some t → args[j]? = some v → Value.okWide Try.prog W .any base t v := hval0
  have hW' := hW
  obtain ⟨p, q, hA0, hV, rfl, hfz, hnd⟩ := hW
  have hA : DataW.TrodAll enc Try.prog W 0 (fun _ => true) true Try.f4.params.toList args.toList ds p := hA0
  rw [Try.params4] at hA hval
  obtain ⟨v0, vs0, d0, ds0, p0, q0, hargs, rfl, rfl, h0, r0⟩ := trodAll_cons hA
  obtain ⟨rfl, rfl, rfl⟩ := trodAll_nil r0
  obtain rfl : args = #[v0] := by cases args; simp_all
  obtain ⟨rfl, rfl⟩ := trodVars_none hV
  have k0 := h0
  have lt0 : ∀ x ∈ p0, x.block < W.heap.size := by obtain ⟨m, hm⟩ := k0; exact DataW.trod_lt m _ _ _ hm
  obtain ⟨a0, len0, cap0, rfl⟩ := okWide_slice Try.underlying22 (hval 0 22 v0 rfl rfl)
  obtain ⟨l0, hp0, hl0⟩ := open_bytes rfl h0
  clear hA0 hval0
  refine (walk _ l0 W hp0 hl0).mono fun e W' ⟨he, bel⟩ => ?_
  subst he
  exact ⟨_, rfl, _, _, _, [], _, [], hW', trodAll_mk1 (shut_bool Try.underlying4 _), (trodAll_cons_mk (Below.trod laidOut (by kernel_rfl) (of_decide_eq_true (by kernel_rfl)) k0 bel lt0) trodAll_mk0), rfl, bel.frame _, fun h => by cases h⟩

theorem over : Rows.crcGetsRow.holds Try.pinned (OpenSpec.ofChange Rows.crcGetsSpec) :=
  OpenClaim.holds_of_wide 4 Try.f4 rfl rfl rfl rfl rfl rfl rfl ⟨rfl, rfl, rfl, rfl, rfl⟩ rfl rfl rfl rfl rfl (by kernel_rfl) Try.func4 (by kernel_rfl)
    (of_decide_eq_true (by kernel_rfl)) (by unfold Func.isWrapper; first | (rw [if_pos (by decide +kernel)]; kernel_rfl) | (rw [if_neg (by decide +kernel)]; exact ⟨rfl, rfl⟩))
    (fun os started H enc _ => lifted os started H enc)

theorem proved : Rows.CrcGetsSaid := over
#print axioms proved
end Go.Proofs.Ytnnhmnfgmpmkjaa.crcGets
