
/-
  'CellWeighs': values that weigh at most 2^62 together have a cell, which is right, whose sum is not greater than that, and which is the same in whatever two parts they are put together. No condition.
-/
import Derived.Test.YtghplmgpnnaofaaMg
import Derived.ProofKit
import Derived.OpenShut
import Derived.Deep.RegionHeld3
namespace Go.Proofs.Ytghplmgpnnaofaa.cellWeighs
open Go.ChangeShapes Go.WideShapes Go.ChangeAt Go.RowKit
set_option linter.unusedVariables false

theorem own : ownKnob Try.prog.godebug = none := by kernel_rfl
theorem laidOut : laidOutB Try.prog = true := by kernel_rfl

theorem parts_back (l : List Int) (k : Nat) (h : weighN l ≤ 4611686018427387904) (hn : l.length ≤ 1000000) : mergeC (cellL (l.drop k)) (cellL (l.take k)) = some (cellL l) := by
  have hw := weighN_append (l.take k) (l.drop k)
  rw [List.take_append_drop] at hw
  have hp := merge_parts (l.take k) (l.drop k) (by omega) (by rw [List.length_take, List.length_drop]; omega)
  rw [List.take_append_drop] at hp
  rw [merge_swap _ _ ?_]
  · exact hp
  · rw [cellL_n, cellL_n]
    by_cases h1 : (l.drop k).length = 0
    · by_cases h2 : (l.take k).length = 0
      · rw [List.eq_nil_of_length_eq_zero h1, List.eq_nil_of_length_eq_zero h2]
        exact .inr (.inr rfl)
      · exact .inr (.inl (by omega))
    · exact .inl (by omega)
theorem light_take (l : List Int) (k : Nat) (h : weighN l ≤ 4611686018427387904) (hn : l.length ≤ 1000000) : allC (l.take k) = some (cellL (l.take k)) :=
  all_light _ (Nat.le_trans (weighN_le_take l k) h) (by rw [List.length_take]; omega)
theorem light_drop (l : List Int) (k : Nat) (h : weighN l ≤ 4611686018427387904) (hn : l.length ≤ 1000000) : allC (l.drop k) = some (cellL (l.drop k)) := by
  have hw := weighN_append (l.take k) (l.drop k)
  rw [List.take_append_drop] at hw
  exact all_light _ (by omega) (by rw [List.length_drop]; omega)
theorem okC_all {l : List Int} {c : Cl} (hf : ∀ x ∈ l, fit x = true) (h : allC l = some c) : okC c := by
  suffices g : ∀ k, k ≤ l.length → ∀ c, allC (l.take k) = some c → okC c by
    have := g l.length (Nat.le_refl _) c
    rw [List.take_length] at this
    exact this h
  intro k
  induction k with
  | zero =>
    intro _ c h
    cases h
    exact okC_zero
  | succ k ih =>
    intro hk c h
    obtain ⟨x, hx⟩ : ∃ x, l[k]? = some x := ⟨_, List.getElem?_eq_getElem (by omega)⟩
    rw [allC_take hx] at h
    cases hd : allC (l.take k) with
    | none => rw [hd] at h; cases h
    | some d =>
      rw [hd] at h
      exact okC_merge (ih (by omega) d hd) (okC_of (hf x (List.mem_of_getElem? hx))) h

set_option maxRecDepth 100000 in
set_option maxHeartbeats 4000000 in
theorem walk (v : Value) (l : List Int) (a1 : Int) (w1 : (Lit.int .i64 a1).wf = true) (w : World) (hv : RdN .i64 w v l) (hlm : l.length ≤ maxLen) (hf0 : ∀ x ∈ l, (Lit.int .i64 x).wf = true) :
    Calls Try.prog 5 #[v, .int .i64 a1] w fun e w' => e = .returned (.bool true) ∧ Below w.heap.size w w' := by
  clear w1
  have HV := Lib.hid hv
  have HF : Hid (∀ x ∈ l, fit x = true) := fun x hx => fit_of (hf0 x hx)
  clear hf0
  obtain ⟨A, c, rfl, _⟩ := hv
  by_cases hl : 200 < l.length
  · go_enter Try.func5, Try.ntmps5
    go_wp2_with (go_at_call 6; (with_reducible refine (alive_any5 _).mono ?_); rintro e w5 ⟨rfl, ht⟩; have HTa := Lib.hid ht; clear ht)
    go_ret
    exact ⟨rfl, HTa.out.below (Nat.le_refl _) (fun _ f => f.elim)⟩
  have hl2 : l.length ≤ 200 := by omega
  clear hlm
  by_cases h1 : a1 < 0
  · go_enter Try.func5, Try.ntmps5
    go_wp2_with (go_at_call 6; (with_reducible refine (alive_any5 _).mono ?_); rintro e w5 ⟨rfl, ht⟩; have HTa := Lib.hid ht; clear ht)
    go_ret
    exact ⟨rfl, HTa.out.below (Nat.le_refl _) (fun _ f => f.elim)⟩
  obtain ⟨k, rfl⟩ := Int.eq_ofNat_of_zero_le (a := a1) (by omega)
  by_cases h2 : l.length < k
  · go_enter Try.func5, Try.ntmps5
    go_wp2_with (go_at_call 6; (with_reducible refine (alive_any5 _).mono ?_); rintro e w5 ⟨rfl, ht⟩; have HTa := Lib.hid ht; clear ht)
    go_ret
    exact ⟨rfl, HTa.out.below (Nat.le_refl _) (fun _ f => f.elim)⟩
  have hk : k ≤ l.length := by omega
  have hl3 : l.length ≤ 1000000 := by omega
  have HW := Lib.hid (fun w1 (h : RdN .i64 w1 (.slice A l.length c) l) => weight_any _ l w1 h hl3 HF.out)
  by_cases hwt : weighN l ≤ 4611686018427387904
  · have HA := Lib.hid (fun w1 (h : RdN .i64 w1 (.slice A l.length c) l) => all_any _ l w1 h hl3 HF.out)
    rw [all_light l hwt hl3] at HA
    have hM := parts_back l k hwt hl3
    have hO : okC (cellL l) := okC_all HF.out (all_light l hwt hl3)
    have hOa : okC (cellL (l.take k)) := okC_all (fun x hx => HF.out x (List.mem_of_mem_take hx)) (light_take l k hwt hl3)
    have hOb : okC (cellL (l.drop k)) := okC_all (fun x hx => HF.out x (List.mem_of_mem_drop hx)) (light_drop l k hwt hl3)
    have HB := Lib.hid (fun w1 v (h : RdN .i64 w1 v (l.take k)) => all_any v _ w1 h (by rw [List.length_take]; omega) (fun x hx => HF.out x (List.mem_of_mem_take hx)))
    have HC := Lib.hid (fun w1 v (h : RdN .i64 w1 v (l.drop k)) => all_any v _ w1 h (by rw [List.length_drop]; omega) (fun x hx => HF.out x (List.mem_of_mem_drop hx)))
    rw [light_take l k hwt hl3] at HB
    rw [light_drop l k hwt hl3] at HC
    have hright := right_cell l
    have hn := cellL_n l
    have hs1 : (cellL l).s ≤ weighN l ∧ -(cellL l).s ≤ weighN l := by have := sum_abs l; rw [cellL_s]; omega
    unfold weighV at HW
    rw [weighO_yes hwt] at HW
    generalize cellL l = C at *
    generalize cellL (l.take k) = CA at *
    generalize cellL (l.drop k) = CB at *
    obtain ⟨n, s, lo, hi⟩ := C
    obtain ⟨na, sa, la, ha⟩ := CA
    obtain ⟨nb, sb, lb, hb⟩ := CB
    have HM := Lib.hid (merge_any nb sb lb hb na sa la ha · (Lib.hid hOb) (Lib.hid hOa))
    rw [hM] at HM
    have HR := Lib.hid (right_any n s lo hi)
    rw [hright] at HR
    have hn' : n = (l.length : Int) := hn
    subst hn'
    obtain ⟨hs1, hs2⟩ : s ≤ (weighN l : Int) ∧ -s ≤ (weighN l : Int) := hs1
    have hneg : wrap64 (-s) = -s := by have := (fit_iff s).1 hO.2.1; unfold wrap64; omega
    generalize weighN l = m at *
    have HWT := Lib.hid hwt; clear hwt hn hM hO hOa hOb hright
    unfold outC cv at HA HB HC HM
    cases A with
    | none =>
      obtain ⟨A', c', hv', hc', hnil, _⟩ := HV.out
      injection hv' with e1 e2 e3
      subst e1 e3
      obtain ⟨rfl, rfl⟩ := hnil rfl
      have hk0 : k = 0 := by simpa using hk
      subst hk0
      have HNIL : Hid (∀ w', RdN .i64 w' (.slice none 0 0) []) := fun w' => ⟨none, 0, rfl, ⟨Nat.le_refl _, Nat.zero_le _⟩, fun _ => ⟨rfl, rfl⟩, fun _ e => by cases e⟩
      clear hc' hnil HV e2 hk
      simp only [List.length_nil, List.take_nil, List.drop_nil, Int.natCast_zero] at *
      go_enter Try.func5, Try.ntmps5
      go_wp2_with (first
        | (go_at_call 9; refine (HW.out _ (HNIL.out _)).mono ?_; rintro e w' ⟨rfl, rfl⟩)
        | (go_at_call 7; (with_reducible refine (HA.out _ (HNIL.out _)).mono ?_); rintro e w1 ⟨rfl, ht⟩; have HT1 := Lib.hid ht; clear ht HA)
        | (go_at_call 7; (with_reducible refine (HB.out _ _ (HNIL.out _)).mono ?_); rintro e w2 ⟨rfl, ht⟩; have HT2 := Lib.hid ((HT1.out.alloc _).trans ht (fun _ _ f => f)); have BC2 := Lib.hid ((Box.new w1 25 (ca ⟨0, s, lo, hi⟩)).turn ht (fun f => f)); clear ht HB)
        | (go_at_call 7; (with_reducible refine (HC.out _ _ (HNIL.out _)).mono ?_); rintro e w3 ⟨rfl, ht⟩; have HT3 := Lib.hid ((HT2.out.alloc _).trans ht (fun _ _ f => f)); have BC3 := Lib.hid ((BC2.out.alloc (.cells (ca ⟨na, sa, la, ha⟩) 25)).turn ht (fun f => f)); have ba := (((Box.new w2 25 (ca ⟨na, sa, la, ha⟩)).turn ht (fun f => f)).alloc (.cells (ca ⟨nb, sb, lb, hb⟩) 25)); obtain ⟨⟨p0, p1, p2, p3⟩, _⟩ := box_cells ba; unfold ca at p0 p1 p2 p3; clear ht ba)
        | (go_at_call 15; (with_reducible refine (HM.out _).mono ?_); rintro e w4 ⟨rfl, ht⟩; have HT4 := Lib.hid ((HT3.out.alloc _).trans ht (fun _ _ f => f)); have bc := ((BC3.out.alloc (.cells (ca ⟨nb, sb, lb, hb⟩) 25)).turn ht (fun f => f)).alloc (.cells (ca ⟨0, s, lo, hi⟩) 25); have BC4 := Lib.hid bc; obtain ⟨⟨q0, q1, q2, q3⟩, _⟩ := box_cells bc; unfold ca at q0 q1 q2 q3; clear ht bc)
        | (go_at_call 13; (with_reducible refine (HR.out _).mono ?_); rintro e w5 ⟨rfl, ht⟩; have HT5 := Lib.hid ((HT4.out.alloc _).trans ht (fun _ _ f => f)); obtain ⟨⟨r0, r1, r2, r3⟩, _⟩ := box_cells (BC4.out.turn ht (fun f => f)); clear ht)
        | (go_at_call 6; (with_reducible refine (alive_any5 _).mono ?_); rintro e w6 ⟨rfl, ht⟩; have HT6 := Lib.hid (HT5.out.trans ht (fun _ _ f => f)); clear ht))
      all_goals go_ret
      all_goals exact ⟨rfl, HT6.out.below (Nat.le_refl _) (fun _ f => f.elim)⟩
    | some ad =>
      have HF1 := Lib.hid (fun w' (ht : Turn (fun _ => False) w w') => (HV.out.front k hk).later ht)
      have HF2 := Lib.hid (fun w' (ht : Turn (fun _ => False) w w') => (HV.out.back k hk).later ht)
      by_cases hck : c ≤ k
      · have HF3 : Hid (∀ w', RdN .i64 w' (.slice (some ad) (l.length - k) 0) (l.drop k)) := fun w' => by
          have hc := HV.out.fits
          have e : l.drop k = [] := List.eq_nil_of_length_eq_zero (by rw [List.length_drop]; omega)
          rw [e, show l.length - k = 0 by omega]
          exact ⟨some ad, 0, rfl, ⟨Nat.le_refl _, Nat.zero_le _⟩, (fun e => by cases e), fun _ _ j b hj => by cases hj⟩
        have hcc := HV.out.fits.2.1
        have hck2 : c - k = 0 := by omega
        go_enter Try.func5, Try.ntmps5
        go_wp2_with (first
          | (go_at_call 9; refine (HW.out _ HV.out).mono ?_; rintro e w' ⟨rfl, rfl⟩)
          | (go_at_call 7; (with_reducible refine (HA.out _ HV.out).mono ?_); rintro e w1 ⟨rfl, ht⟩; have HT1 := Lib.hid ht; clear ht)
          | (go_at_call 7; (with_reducible refine (HB.out _ _ (HF1.out _ (HT1.out.alloc _))).mono ?_); rintro e w2 ⟨rfl, ht⟩; have HT2 := Lib.hid ((HT1.out.alloc _).trans ht (fun _ _ f => f)); have BC2 := Lib.hid ((Box.new w1 25 (ca ⟨l.length, s, lo, hi⟩)).turn ht (fun f => f)); clear ht)
          | (go_at_call 7; (with_reducible refine (HC.out _ _ (HF3.out _)).mono ?_); rintro e w3 ⟨rfl, ht⟩; have HT3 := Lib.hid ((HT2.out.alloc _).trans ht (fun _ _ f => f)); have BC3 := Lib.hid ((BC2.out.alloc (.cells (ca ⟨na, sa, la, ha⟩) 25)).turn ht (fun f => f)); have ba := (((Box.new w2 25 (ca ⟨na, sa, la, ha⟩)).turn ht (fun f => f)).alloc (.cells (ca ⟨nb, sb, lb, hb⟩) 25)); obtain ⟨⟨p0, p1, p2, p3⟩, _⟩ := box_cells ba; unfold ca at p0 p1 p2 p3; clear ht ba)
          | (go_at_call 15; (with_reducible refine (HM.out _).mono ?_); rintro e w4 ⟨rfl, ht⟩; have HT4 := Lib.hid ((HT3.out.alloc _).trans ht (fun _ _ f => f)); have bc := ((BC3.out.alloc (.cells (ca ⟨nb, sb, lb, hb⟩) 25)).turn ht (fun f => f)).alloc (.cells (ca ⟨l.length, s, lo, hi⟩) 25); have BC4 := Lib.hid bc; obtain ⟨⟨q0, q1, q2, q3⟩, _⟩ := box_cells bc; unfold ca at q0 q1 q2 q3; clear ht bc)
          | (go_at_call 13; (with_reducible refine (HR.out _).mono ?_); rintro e w5 ⟨rfl, ht⟩; have HT5 := Lib.hid ((HT4.out.alloc _).trans ht (fun _ _ f => f)); obtain ⟨⟨r0, r1, r2, r3⟩, _⟩ := box_cells (BC4.out.turn ht (fun f => f)); clear ht)
          | (go_at_call 6; (with_reducible refine (alive_any5 _).mono ?_); rintro e w6 ⟨rfl, ht⟩; have HT6 := Lib.hid (HT5.out.trans ht (fun _ _ f => f)); clear ht))
        all_goals go_ret
        all_goals exact ⟨rfl, HT6.out.below (Nat.le_refl _) (fun _ f => f.elim)⟩
      · have hck2 : ¬ c - k = 0 := by omega
        go_enter Try.func5, Try.ntmps5
        go_wp2_with (first
          | (go_at_call 9; refine (HW.out _ HV.out).mono ?_; rintro e w' ⟨rfl, rfl⟩)
          | (go_at_call 7; (with_reducible refine (HA.out _ HV.out).mono ?_); rintro e w1 ⟨rfl, ht⟩; have HT1 := Lib.hid ht; clear ht)
          | (go_at_call 7; (with_reducible refine (HB.out _ _ (HF1.out _ (HT1.out.alloc _))).mono ?_); rintro e w2 ⟨rfl, ht⟩; have HT2 := Lib.hid ((HT1.out.alloc _).trans ht (fun _ _ f => f)); have BC2 := Lib.hid ((Box.new w1 25 (ca ⟨l.length, s, lo, hi⟩)).turn ht (fun f => f)); clear ht)
          | (go_at_call 7; (with_reducible refine (HC.out _ _ (HF2.out _ (HT2.out.alloc _))).mono ?_); rintro e w3 ⟨rfl, ht⟩; have HT3 := Lib.hid ((HT2.out.alloc _).trans ht (fun _ _ f => f)); have BC3 := Lib.hid ((BC2.out.alloc (.cells (ca ⟨na, sa, la, ha⟩) 25)).turn ht (fun f => f)); have ba := (((Box.new w2 25 (ca ⟨na, sa, la, ha⟩)).turn ht (fun f => f)).alloc (.cells (ca ⟨nb, sb, lb, hb⟩) 25)); obtain ⟨⟨p0, p1, p2, p3⟩, _⟩ := box_cells ba; unfold ca at p0 p1 p2 p3; clear ht ba)
          | (go_at_call 15; (with_reducible refine (HM.out _).mono ?_); rintro e w4 ⟨rfl, ht⟩; have HT4 := Lib.hid ((HT3.out.alloc _).trans ht (fun _ _ f => f)); have bc := ((BC3.out.alloc (.cells (ca ⟨nb, sb, lb, hb⟩) 25)).turn ht (fun f => f)).alloc (.cells (ca ⟨l.length, s, lo, hi⟩) 25); have BC4 := Lib.hid bc; obtain ⟨⟨q0, q1, q2, q3⟩, _⟩ := box_cells bc; unfold ca at q0 q1 q2 q3; clear ht bc)
          | (go_at_call 13; (with_reducible refine (HR.out _).mono ?_); rintro e w5 ⟨rfl, ht⟩; have HT5 := Lib.hid ((HT4.out.alloc _).trans ht (fun _ _ f => f)); obtain ⟨⟨r0, r1, r2, r3⟩, _⟩ := box_cells (BC4.out.turn ht (fun f => f)); clear ht)
          | (go_at_call 6; (with_reducible refine (alive_any5 _).mono ?_); rintro e w6 ⟨rfl, ht⟩; have HT6 := Lib.hid (HT5.out.trans ht (fun _ _ f => f)); clear ht))
        all_goals go_ret
        all_goals exact ⟨rfl, HT6.out.below (Nat.le_refl _) (fun _ f => f.elim)⟩
  · unfold weighV at HW
    rw [show weighO l = (0, false) from by unfold weighO; rw [if_neg hwt]] at HW
    have HN := Lib.hid hwt; clear hwt
    go_enter Try.func5, Try.ntmps5
    go_wp2_with (first
      | (go_at_call 9; refine (HW.out _ HV.out).mono ?_; rintro e w' ⟨rfl, rfl⟩)
      | (go_at_call 6; (with_reducible refine (alive_any5 _).mono ?_); rintro e w5 ⟨rfl, ht⟩; have HTa := Lib.hid ht; clear ht))
    go_ret
    exact ⟨rfl, HTa.out.below (Nat.le_refl _) (fun _ f => f.elim)⟩

set_option maxRecDepth 100000 in
theorem lifted (os : Os) (started : os.Started) (H : Type) (enc : TypeId × Value → H) :
    ReturnsInHanded {} Try.checked os 5 .any (Rows.cellWeighsSpec.pre6 enc Try.prog Try.f5 Rows.cellWeighsRow.domain false) (Rows.cellWeighsSpec.post enc Try.prog Try.f5 false true false false) := by
  refine returnsInHanded_of_change (C := Try.checked) own started (by kernel_rfl) Try.func5
    (ChangeSpec.witness6 (enc := enc) (C := Try.checked) false ⟨#[], #[.slice none 0 0, .int .i64 0], []⟩ 8 (by kernel_rfl) (by kernel_rfl) (by kernel_rfl) (by kernel_rfl)) ?_
  intro W base args ds gs before hval0 hW hcnd _
  have hval : ∀ (j : Nat) t v, Try.f5.params[j]? = some t → args[j]? = some v → Value.okWide Try.prog W .any base t v := hval0
  have hW' := hW
  obtain ⟨p, q, hA0, hV, rfl, hfz, hnd⟩ := hW
  have hA : DataW.TrodAll enc Try.prog W 0 (fun _ => true) true Try.f5.params.toList args.toList ds p := hA0
  rw [Try.params5] at hA hval
  obtain ⟨v0, vs0, d0, ds0, p0, q0, hargs, rfl, rfl, h0, r0⟩ := trodAll_cons hA
  obtain ⟨v1, vs1, d1, ds1, p1, q1, rfl, rfl, rfl, h1, r1⟩ := trodAll_cons r0
  obtain ⟨rfl, rfl, rfl⟩ := trodAll_nil r1
  obtain rfl : args = #[v0, v1] := by cases args; simp_all
  obtain ⟨rfl, rfl⟩ := trodVars_none hV
  have k0 := h0
  have lt0 : ∀ x ∈ p0, x.block < W.heap.size := by obtain ⟨m, hm⟩ := k0; exact DataW.trod_lt m _ _ _ hm
  obtain ⟨a0, len0, cap0, rfl⟩ := okWide_slice Try.underlying22 (hval 0 22 v0 rfl rfl)
  obtain ⟨l0, hp0, hl0, hf0⟩ := open_nums Try.underlying22 Try.underlying2 (by kernel_rfl) rfl h0
  obtain ⟨a1, rfl, rfl, rfl, w1⟩ := open_int Try.underlying3 (hval 1 3 v1 rfl rfl) h1
  clear hA0 hval0
  refine (walk _ l0 a1 w1 W hp0 hl0 hf0).mono fun e W' ⟨he, bel⟩ => ?_
  subst he
  exact ⟨_, rfl, _, _, _, [], _, [], hW', trodAll_mk1 (shut_bool Try.underlying4 _), (trodAll_cons_mk (Below.trod laidOut (by kernel_rfl) (of_decide_eq_true (by kernel_rfl)) k0 bel lt0) (trodAll_cons_mk (shut_int Try.underlying3 w1) trodAll_mk0)), rfl, bel.frame _, fun h => by cases h⟩

theorem over : Rows.cellWeighsRow.holds Try.pinned (OpenSpec.ofChange Rows.cellWeighsSpec) :=
  OpenClaim.holds_of_wide 5 Try.f5 rfl rfl rfl rfl rfl rfl rfl ⟨rfl, rfl, rfl, rfl, rfl⟩ rfl rfl rfl rfl rfl (by kernel_rfl) Try.func5 (by kernel_rfl)
    (of_decide_eq_true (by kernel_rfl)) (by unfold Func.isWrapper; first | (rw [if_pos (by decide +kernel)]; kernel_rfl) | (rw [if_neg (by decide +kernel)]; exact ⟨rfl, rfl⟩))
    (fun os started H enc _ => lifted os started H enc)

theorem proved : Rows.CellWeighsSaid := over
#print axioms proved
end Go.Proofs.Ytghplmgpnnaofaa.cellWeighs
