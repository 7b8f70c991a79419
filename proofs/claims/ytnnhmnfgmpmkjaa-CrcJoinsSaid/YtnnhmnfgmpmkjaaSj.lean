/-
  'CrcJoins': a check goes on where it was left, and what is put is got. No condition.
-/
import Derived.Test.YtnnhmnfgmpmkjaaCe
namespace Go.Proofs.Ytnnhmnfgmpmkjaa.crcJoins
open Go.ChangeShapes Go.WideShapes Go.ChangeAt Go.RowKit
set_option linter.unusedVariables false

theorem own : ownKnob Try.prog.godebug = none := by kernel_rfl
theorem laidOut : laidOutB Try.prog = true := by kernel_rfl

theorem Rd.shape {w : World} {v : Value} {l : List UInt8} (h : Rd w v l) : ∃ A c, v = .slice A l.length c := by
  obtain ⟨A, c, e, _⟩ := h
  exact ⟨A, c, e⟩
theorem gets_put (l : List UInt8) : gets (l ++ tl (more 0 l)) = (l, 0) := by
  unfold gets
  have e : (l ++ tl (more 0 l)).length - 4 = l.length := by rw [List.length_append, tl_len]; omega
  rw [if_neg (by rw [List.length_append, tl_len]; omega), e, List.drop_left, List.take_left, if_pos (by simp)]

theorem more_new (v : Value) (l : List UInt8) (w : World) (hv : Rd w v l) (hl : l.length ≤ 1000000) :
    Calls Try.prog 10 #[.int .u32 0, v] w fun e w' => e = .returned (.int .u32 (more 0 l)) ∧ w = w' :=
  crc_more 0 v l w (show (0 : Nat) < 4294967296 by omega) hv hl

set_option maxRecDepth 100000 in
set_option maxHeartbeats 2000000 in
theorem walk (v : Value) (l : List UInt8) (u : Value) (m : List UInt8) (w : World) (h : Rd w v l) (hlen : l.length ≤ maxLen) (h' : Rd w u m) (hlen' : m.length ≤ maxLen) :
    Calls Try.prog 5 #[v, u] w fun e w' => e = .returned (.bool true) ∧ Below w.heap.size w w' := by
  have HV := Lib.hid h
  have HU := Lib.hid h'
  obtain ⟨A, c, rfl, _⟩ := h
  obtain ⟨B, d, rfl, _⟩ := h'
  unfold maxLen at hlen hlen'
  by_cases h100 : l.length ≤ 100
  · by_cases h101 : m.length ≤ 100
    · have HM0 := Lib.hid (made_empty w)
      have HY : Hid (Yields (w.alloc (.cells #[] 5)) 22 (.slice A l.length c) l) := (HV.out.later ((Turn.refl _ w).alloc _)).yields
      go_enter Try.func5, Try.ntmps5
      go_wp2_with (at_builtin; go_must (refine wpList_app (o := ⟨some 19, _, _, _, _, _⟩) _ rfl (.tmp 17) (.tmp 18) 22 rfl _ [] rfl HM0.out.1 _ rfl l HY.out (by simp; omega) ?_))
      intro A1 n1 c1 w1 hb hg ha
      have HM1 := Lib.hid (made_app HM0.out (Turn.refl _ _) hb hg ha (by simp))
      clear hb hg ha
      have HY1 : Hid (Yields w1 22 (.slice B m.length d) m) := (HU.out.later HM1.out.2.1).yields
      go_wp2_with (at_builtin; go_must (refine wpList_app (o := ⟨some 21, _, _, _, _, _⟩) _ rfl (.tmp 19) (.tmp 20) 22 rfl _ l rfl HM1.out.1 _ rfl m HY1.out (by omega) ?_))
      intro A2 n2 c2 w2 hb hg ha
      have HM2 := Lib.hid (made_app HM1.out (Turn.refl _ _) hb hg ha rfl)
      clear hb hg ha
      obtain ⟨p, hp⟩ : ∃ p, p = l ++ m := ⟨_, rfl⟩
      rw [← hp] at HM2
      have HPL : Hid (p.length = l.length + m.length) := by rw [hp, List.length_append]; trivial
      have HS := Lib.hid (more_more 0 l m)
      rw [← hp] at HS
      have HP := Lib.hid hp; clear hp
      obtain ⟨q, hq⟩ : ∃ q, q = p ++ tl (more 0 p) := ⟨_, rfl⟩
      have HQL : Hid (q.length = p.length + 4) := by rw [hq, List.length_append, tl_len]; trivial
      have HGQ : Hid (gets q = (p, 0)) := by rw [hq]; exact gets_put p
      have HQ := Lib.hid hq; clear hq
      have hn2 : Hid (n2 = p.length) := HM2.out.1.rd.fits.1
      go_wp2_with (first
        | (go_at_call 15; refine (crc_put _ p w2 HM2.out.1.rd (by rw [HPL.out]; omega)).mono ?_; rintro e w3 ⟨rfl, hb3, ht3⟩; rw [← HQ.out] at hb3; have hb := Box.by hb3 (by rw [HQL.out, HPL.out]; simp only [maxLen]; omega); rw [HQL.out] at hb; have HB3 := Lib.hid hb; have HT3 := Lib.hid ht3; clear hb3 ht3 hb)
        | (go_at_call 12; refine (crc_get _ q w3 HB3.out.rd (by rw [HQL.out, HPL.out]; omega)).mono ?_; rintro e w4 ⟨v4, rfl, hr4, ht4⟩; rw [HGQ.out] at hr4; rw [HGQ.out]; obtain ⟨A4, c4, rfl⟩ := Rd.shape hr4; have HR4 := Lib.hid hr4; have HT4 := Lib.hid ((HM2.out.2.1.trans HT3.out (fun _ _ f => f)).trans ht4 (fun _ _ f => f)); have HA4 := Lib.hid ((HM2.out.1.rd.later HT3.out).later ht4); clear hr4 ht4))
      have HL0 : Hid (more 0 l < 4294967296) := more_lt _ _
      have HA := Lib.hid (HV.out.later HT4.out)
      have HB := Lib.hid (HU.out.later HT4.out)
      go_wp2_with (first
        | (go_at_call 8; ((with_reducible refine (crc_sum (.slice A l.length c) l w4 HA.out (by omega)).mono ?_); rintro e w5 ⟨rfl, rfl⟩))
        | (go_at_call 8; ((with_reducible refine (crc_sum (.slice A2 n2 c2) p w4 HA4.out (by rw [HPL.out]; omega)).mono ?_); rintro e w5 ⟨rfl, rfl⟩))
        | (go_at_call 10; ((with_reducible refine (crc_more (more 0 l) (.slice B m.length d) m w4 HL0 HB.out (by omega)).mono ?_); rintro e w5 ⟨rfl, rfl⟩; rw [HS.out]))
        | (go_at_call 10; ((with_reducible refine (more_new (.slice A l.length c) l w4 HA.out (by omega)).mono ?_); rintro e w5 ⟨rfl, rfl⟩))
        | (go_at_call 14; refine (same_any _ _ p p w4 HR4.out HA4.out).mono ?_; rintro e w5 ⟨rfl, rfl⟩)
        | (go_at_call 7; refine (alive_any w4).mono ?_; rintro e w5 ⟨rfl, ht⟩; have HT5 := Lib.hid ht; clear ht))
      go_ret
      exact ⟨rfl, (HT4.out.trans HT5.out (fun _ _ f => f)).below (Nat.le_refl _) (fun _ f => f.elim)⟩
    · go_enter Try.func5, Try.ntmps5
      go_wp2_with (go_at_call 7; refine (alive_any w).mono ?_; rintro e w5 ⟨rfl, ht⟩; have HT5 := Lib.hid ht; clear ht)
      go_ret
      exact ⟨rfl, HT5.out.below (Nat.le_refl _) (fun _ f => f.elim)⟩
  · go_enter Try.func5, Try.ntmps5
    go_wp2_with (go_at_call 7; refine (alive_any w).mono ?_; rintro e w5 ⟨rfl, ht⟩; have HT5 := Lib.hid ht; clear ht)
    go_ret
    exact ⟨rfl, HT5.out.below (Nat.le_refl _) (fun _ f => f.elim)⟩

set_option maxRecDepth 100000 in
theorem lifted (os : Os) (started : os.Started) (H : Type) (enc : TypeId × Value → H) :
    ReturnsInHanded {} Try.checked os 5 .any (Rows.crcJoinsSpec.pre6 enc Try.prog Try.f5 Rows.crcJoinsRow.domain false) (Rows.crcJoinsSpec.post enc Try.prog Try.f5 false true false false) := by
  refine returnsInHanded_of_change (C := Try.checked) own started (by kernel_rfl) Try.func5
    (ChangeSpec.witness6 (enc := enc) (C := Try.checked) false ⟨#[], #[.slice none 0 0, .slice none 0 0], []⟩ 8 (by kernel_rfl) (by kernel_rfl) (by kernel_rfl) (by kernel_rfl)) ?_
  intro W base args ds gs before hval0 hW hcnd _
  have hval : ∀ (j : Nat) t v, Try.f5.params[j]? = some t → args[j]? = some v → Value.okWide Try.prog W .any base t v := hval0
  have hW' := hW
  obtain ⟨p, q, hA0, hV, rfl, hfz, hnd⟩ := hW
  have hA : DataW.TrodAll enc Try.prog W 0 (fun _ => true) true Try.f5.params.toList args.toList ds p := hA0
  rw [Try.params5] at hA hval
  obtain ⟨v0, vs0, d0, ds0, p0, q0, hargs, rfl, rfl, h0, r0⟩ := trodAll_cons hA
  obtain ⟨v1, vs1, d1, ds1, p1, q1, rfl, rfl, rfl, h1, r1⟩ := trodAll_cons r0
  obtain ⟨rfl, rfl, rfl⟩ := trodAll_nil r1
  obtain rfl : args = #[v0, v1] := by cases args; simp_all
  obtain ⟨rfl, rfl⟩ := trodVars_none hV
  have k0 := h0
  have lt0 : ∀ x ∈ p0, x.block < W.heap.size := by obtain ⟨m, hm⟩ := k0; exact DataW.trod_lt m _ _ _ hm
  obtain ⟨a0, len0, cap0, rfl⟩ := okWide_slice Try.underlying22 (hval 0 22 v0 rfl rfl)
  obtain ⟨l0, hp0, hl0⟩ := open_bytes rfl h0
  have k1 := h1
  have lt1 : ∀ x ∈ p1, x.block < W.heap.size := by obtain ⟨m, hm⟩ := k1; exact DataW.trod_lt m _ _ _ hm
  obtain ⟨a1, len1, cap1, rfl⟩ := okWide_slice Try.underlying22 (hval 1 22 v1 rfl rfl)
  obtain ⟨l1, hp1, hl1⟩ := open_bytes rfl h1
  clear hA0 hval0
  refine (walk _ l0 _ l1 W hp0 hl0 hp1 hl1).mono fun e W' ⟨he, bel⟩ => ?_
  subst he
  exact ⟨_, rfl, _, _, _, [], _, [], hW', trodAll_mk1 (shut_bool Try.underlying4 _), (trodAll_cons_mk (Below.trod laidOut (by kernel_rfl) (of_decide_eq_true (by kernel_rfl)) k0 bel lt0) (trodAll_cons_mk (Below.trod laidOut (by kernel_rfl) (of_decide_eq_true (by kernel_rfl)) k1 bel lt1) trodAll_mk0)), rfl, bel.frame _, fun h => by cases h⟩

theorem over : Rows.crcJoinsRow.holds Try.pinned (OpenSpec.ofChange Rows.crcJoinsSpec) :=
  OpenClaim.holds_of_wide 5 Try.f5 rfl rfl rfl rfl rfl rfl rfl ⟨rfl, rfl, rfl, rfl, rfl⟩ rfl rfl rfl rfl rfl (by kernel_rfl) Try.func5 (by kernel_rfl)
    (of_decide_eq_true (by kernel_rfl)) (by unfold Func.isWrapper; first | (rw [if_pos (by decide +kernel)]; kernel_rfl) | (rw [if_neg (by decide +kernel)]; exact ⟨rfl, rfl⟩))
    (fun os started H enc _ => lifted os started H enc)

theorem proved : Rows.CrcJoinsSaid := over
#print axioms proved
end Go.Proofs.Ytnnhmnfgmpmkjaa.crcJoins
