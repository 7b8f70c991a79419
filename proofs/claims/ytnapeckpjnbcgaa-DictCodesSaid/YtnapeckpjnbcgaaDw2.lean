
/-
  'DictCodes': the things of any list's dictionary, the number of any thing, the thing of any number. No condition.
-/
import Derived.Test.YtnapeckpjnbcgaaDt
import Derived.Test.YtnapeckpjnbcgaaDo
import Derived.ProofKit
import Derived.OpenShut
namespace Go.Proofs.Ytnapeckpjnbcgaa.dictCodes
open Go.ChangeShapes Go.WideShapes Go.ChangeAt Go.RowKit
set_option linter.unusedVariables false

theorem own : ownKnob Try.prog.godebug = none := by kernel_rfl
theorem laidOut : laidOutB Try.prog = true := by kernel_rfl

set_option maxRecDepth 100000 in
set_option maxHeartbeats 8000000 in
theorem walk (v : Value) (l : List (List UInt8)) (S : ByteArray) (_ws : S.size ≤ maxLen) (n : Int) (_wn : (Lit.int .i64 n).wf = true) (w : World) (h : RdE ET10 w v l) (hlen : l.length ≤ maxLen) :
    Calls Try.prog 3 #[v, .string S, .int .i64 n] w fun e w' => e = .returned (.bool true) ∧ Below w.heap.size w w' := by
  obtain ⟨x, rfl⟩ : ∃ x : List UInt8, S = ⟨x.toArray⟩ := ⟨S.data.toList, by simp⟩
  have HV := Lib.hid h
  obtain ⟨A, c, rfl⟩ := h.shape
  unfold maxLen at hlen
  clear h _ws _wn
  by_cases h60 : l.length ≤ 60
  · have hli : ¬ ((60 : Int) < l.length) := by omega
    have hL : (ofT l).length ≤ 60 := by have := setG_len Op.bytesLess l l.length; rw [List.take_length] at this; exact Nat.le_trans this h60
    go_enter Try.func3, Try.ntmps3
    go_wp2_with fail
    refine (of_any10 _ l w HV.out (by omega)).mono ?_
    rintro e w1 ⟨d, rfl, h1, t1⟩
    obtain ⟨p, rfl⟩ := h1.ptr
    have HD1 := Lib.hid h1; have HT1 := Lib.hid t1
    clear h1 t1
    go_wp2_with fail
    refine (ref_of10 _ l w1 (HV.out.later HT1.out) (by omega)).mono ?_
    rintro e w2 ⟨v2, rfl, r2, t2⟩
    obtain ⟨A2, c2, rfl⟩ := r2.shape
    have HD2 := Lib.hid (HD1.out.later t2); have HT2 : Hid (Turn (fun _ => False) w w2) := HT1.out.trans t2 (fun _ _ f => f); have HR2 := Lib.hid r2
    clear r2 t2
    generalize ofT l = L at *
    have HC := Lib.hid (code_any10 _ L x w2 HD2.out)
    by_cases hkl : idxG x L < L.length
    · have EC : Hid (codeA x L = .tuple #[.int .i64 (idxG x L : Int), .bool true]) := by show _ = _; unfold codeA; rw [if_pos hkl, decide_eq_true hkl]
      have ET : Hid (codeT x L = (idxG x L : Int)) := by show _ = _; unfold codeT; rw [if_pos hkl]
      generalize idxG x L = k at *
      have hk0 : (0 : Int) ≤ k := by omega
      have hmx : max (k : Int) 0 = k := by omega
      have hkk : ((k : Int) == (k : Int)) = true := beq_self_eq_true _
      go_wp2_with fail
      rw [EC.out] at HC
      refine HC.out.mono ?_
      rintro e w3 ⟨rfl, t3⟩
      have HD3 := Lib.hid (HD2.out.later t3); have HT3 : Hid (Turn (fun _ => False) w w3) := HT2.out.trans t3 (fun _ _ f => f); have HR3 := Lib.hid (HR2.out.later t3)
      clear t3 HC
      have HRC := Lib.hid (ref_code10 _ L x w3 HR3.out (by omega))
      rw [ET.out] at HRC
      go_wp2_with fail
      refine HRC.out.mono ?_
      rintro e w4 ⟨rfl, rfl⟩
      clear HRC EC ET
      have HA := Lib.hid (at_any10 _ L n w4 HD3.out)
      by_cases hn : 0 ≤ n ∧ n < L.length
      · obtain ⟨n0, n1⟩ := hn
        obtain ⟨N, rfl⟩ := Int.eq_ofNat_of_zero_le n0
        have hNl : N < L.length := by omega
        obtain ⟨y, hy⟩ : ∃ y, L[N]? = some y := ⟨_, List.getElem?_eq_getElem hNl⟩
        have EA : Hid (atA (N : Int) L = .tuple #[sv10 y, .bool true]) := at_in10 hy
        have HY := Lib.hid hy
        clear hy
        go_wp2_with fail
        rw [EA.out] at HA
        refine HA.out.mono ?_
        rintro e w5 ⟨rfl, t5⟩
        have HD5 := Lib.hid (HD3.out.later t5); have HT5 : Hid (Turn (fun _ => False) w w5) := HT3.out.trans t5 (fun _ _ f => f); have HR5 := Lib.hid (HR3.out.later t5)
        clear t5 HA EA
        go_wp2_with fail
        refine (things10 _ L w5 HD5.out (by omega)).mono ?_
        rintro e w6 ⟨v6, rfl, r6, t6⟩
        have HR6 := Lib.hid r6; have HT6 : Hid (Turn (fun _ => False) w w6) := HT5.out.trans t6 (fun _ _ f => f); have HRa := Lib.hid (HR5.out.later t6)
        clear r6 t6
        go_wp2_with fail
        refine (same_refl10 _ _ L w6 HR6.out HRa.out (by omega)).mono ?_
        rintro e w7 ⟨rfl, t7⟩
        have HT7 : Hid (Turn (fun _ => False) w w7) := HT6.out.trans t7 (fun _ _ f => f); have HRb := Lib.hid (HRa.out.later t7)
        clear t7
        obtain ⟨ad, rfl, hc⟩ := str_at10 HRb.out HY.out
        have e0 := hc _ (Turn.refl _ _)
        have hyy : (y == y) = true := beq_self_eq_true y
        unfold sv10 at e0 ⊢
        clear hc
        go_wp2_with fail
        refine (alive_any10 w7).mono ?_
        rintro e w8 ⟨rfl, t8⟩
        have HT8 : Hid (Turn (fun _ => False) w w8) := HT7.out.trans t8 (fun _ _ f => f)
        clear t8
        go_wp2
        go_ret
        exact ⟨rfl, HT8.out.below (Nat.le_refl _) (fun _ f => f.elim)⟩
      · have EA : Hid (atA n L = .tuple #[sv10 [], .bool false]) := by
          show _ = _
          have ey : atT n L = none := by
            unfold atT
            split
            · rw [List.getElem?_eq_none (by omega)]
            · rfl
          unfold atA
          rw [ey]
          rfl
        by_cases n0 : n < 0
        · clear hn
          go_wp2_with fail
          rw [EA.out] at HA
          refine HA.out.mono ?_
          rintro e w5 ⟨rfl, t5⟩
          have HD5 := Lib.hid (HD3.out.later t5); have HT5 : Hid (Turn (fun _ => False) w w5) := HT3.out.trans t5 (fun _ _ f => f); have HR5 := Lib.hid (HR3.out.later t5)
          clear t5 HA EA
          go_wp2_with fail
          refine (things10 _ L w5 HD5.out (by omega)).mono ?_
          rintro e w6 ⟨v6, rfl, r6, t6⟩
          have HR6 := Lib.hid r6; have HT6 : Hid (Turn (fun _ => False) w w6) := HT5.out.trans t6 (fun _ _ f => f); have HRa := Lib.hid (HR5.out.later t6)
          clear r6 t6
          go_wp2_with fail
          refine (same_refl10 _ _ L w6 HR6.out HRa.out (by omega)).mono ?_
          rintro e w7 ⟨rfl, t7⟩
          have HT7 : Hid (Turn (fun _ => False) w w7) := HT6.out.trans t7 (fun _ _ f => f); have HRb := Lib.hid (HRa.out.later t7)
          clear t7
          unfold sv10
          go_wp2_with fail
          refine (alive_any10 w7).mono ?_
          rintro e w8 ⟨rfl, t8⟩
          have HT8 : Hid (Turn (fun _ => False) w w8) := HT7.out.trans t8 (fun _ _ f => f)
          clear t8
          go_wp2
          go_ret
          exact ⟨rfl, HT8.out.below (Nat.le_refl _) (fun _ f => f.elim)⟩
        · have n1 : (L.length : Int) ≤ n := by omega
          clear hn
          go_wp2_with fail
          rw [EA.out] at HA
          refine HA.out.mono ?_
          rintro e w5 ⟨rfl, t5⟩
          have HD5 := Lib.hid (HD3.out.later t5); have HT5 : Hid (Turn (fun _ => False) w w5) := HT3.out.trans t5 (fun _ _ f => f); have HR5 := Lib.hid (HR3.out.later t5)
          clear t5 HA EA
          go_wp2_with fail
          refine (things10 _ L w5 HD5.out (by omega)).mono ?_
          rintro e w6 ⟨v6, rfl, r6, t6⟩
          have HR6 := Lib.hid r6; have HT6 : Hid (Turn (fun _ => False) w w6) := HT5.out.trans t6 (fun _ _ f => f); have HRa := Lib.hid (HR5.out.later t6)
          clear r6 t6
          go_wp2_with fail
          refine (same_refl10 _ _ L w6 HR6.out HRa.out (by omega)).mono ?_
          rintro e w7 ⟨rfl, t7⟩
          have HT7 : Hid (Turn (fun _ => False) w w7) := HT6.out.trans t7 (fun _ _ f => f); have HRb := Lib.hid (HRa.out.later t7)
          clear t7
          unfold sv10
          go_wp2_with fail
          refine (alive_any10 w7).mono ?_
          rintro e w8 ⟨rfl, t8⟩
          have HT8 : Hid (Turn (fun _ => False) w w8) := HT7.out.trans t8 (fun _ _ f => f)
          clear t8
          go_wp2
          go_ret
          exact ⟨rfl, HT8.out.below (Nat.le_refl _) (fun _ f => f.elim)⟩
    · have EC : Hid (codeA x L = .tuple #[.int .i64 0, .bool false]) := by show _ = _; unfold codeA; rw [if_neg hkl, decide_eq_false hkl]
      have ET : Hid (codeT x L = -1) := by show _ = _; unfold codeT; rw [if_neg hkl]
      clear hkl
      go_wp2_with fail
      rw [EC.out] at HC
      refine HC.out.mono ?_
      rintro e w3 ⟨rfl, t3⟩
      have HD3 := Lib.hid (HD2.out.later t3); have HT3 : Hid (Turn (fun _ => False) w w3) := HT2.out.trans t3 (fun _ _ f => f); have HR3 := Lib.hid (HR2.out.later t3)
      clear t3 HC
      have HRC := Lib.hid (ref_code10 _ L x w3 HR3.out (by omega))
      rw [ET.out] at HRC
      go_wp2_with fail
      refine HRC.out.mono ?_
      rintro e w4 ⟨rfl, rfl⟩
      clear HRC EC ET
      have HA := Lib.hid (at_any10 _ L n w4 HD3.out)
      by_cases hn : 0 ≤ n ∧ n < L.length
      · obtain ⟨n0, n1⟩ := hn
        obtain ⟨N, rfl⟩ := Int.eq_ofNat_of_zero_le n0
        have hNl : N < L.length := by omega
        obtain ⟨y, hy⟩ : ∃ y, L[N]? = some y := ⟨_, List.getElem?_eq_getElem hNl⟩
        have EA : Hid (atA (N : Int) L = .tuple #[sv10 y, .bool true]) := at_in10 hy
        have HY := Lib.hid hy
        clear hy
        go_wp2_with fail
        rw [EA.out] at HA
        refine HA.out.mono ?_
        rintro e w5 ⟨rfl, t5⟩
        have HD5 := Lib.hid (HD3.out.later t5); have HT5 : Hid (Turn (fun _ => False) w w5) := HT3.out.trans t5 (fun _ _ f => f); have HR5 := Lib.hid (HR3.out.later t5)
        clear t5 HA EA
        go_wp2_with fail
        refine (things10 _ L w5 HD5.out (by omega)).mono ?_
        rintro e w6 ⟨v6, rfl, r6, t6⟩
        have HR6 := Lib.hid r6; have HT6 : Hid (Turn (fun _ => False) w w6) := HT5.out.trans t6 (fun _ _ f => f); have HRa := Lib.hid (HR5.out.later t6)
        clear r6 t6
        go_wp2_with fail
        refine (same_refl10 _ _ L w6 HR6.out HRa.out (by omega)).mono ?_
        rintro e w7 ⟨rfl, t7⟩
        have HT7 : Hid (Turn (fun _ => False) w w7) := HT6.out.trans t7 (fun _ _ f => f); have HRb := Lib.hid (HRa.out.later t7)
        clear t7
        obtain ⟨ad, rfl, hc⟩ := str_at10 HRb.out HY.out
        have e0 := hc _ (Turn.refl _ _)
        have hyy : (y == y) = true := beq_self_eq_true y
        unfold sv10 at e0 ⊢
        clear hc
        go_wp2_with fail
        refine (alive_any10 w7).mono ?_
        rintro e w8 ⟨rfl, t8⟩
        have HT8 : Hid (Turn (fun _ => False) w w8) := HT7.out.trans t8 (fun _ _ f => f)
        clear t8
        go_wp2
        go_ret
        exact ⟨rfl, HT8.out.below (Nat.le_refl _) (fun _ f => f.elim)⟩
      · have EA : Hid (atA n L = .tuple #[sv10 [], .bool false]) := by
          show _ = _
          have ey : atT n L = none := by
            unfold atT
            split
            · rw [List.getElem?_eq_none (by omega)]
            · rfl
          unfold atA
          rw [ey]
          rfl
        by_cases n0 : n < 0
        · clear hn
          go_wp2_with fail
          rw [EA.out] at HA
          refine HA.out.mono ?_
          rintro e w5 ⟨rfl, t5⟩
          have HD5 := Lib.hid (HD3.out.later t5); have HT5 : Hid (Turn (fun _ => False) w w5) := HT3.out.trans t5 (fun _ _ f => f); have HR5 := Lib.hid (HR3.out.later t5)
          clear t5 HA EA
          go_wp2_with fail
          refine (things10 _ L w5 HD5.out (by omega)).mono ?_
          rintro e w6 ⟨v6, rfl, r6, t6⟩
          have HR6 := Lib.hid r6; have HT6 : Hid (Turn (fun _ => False) w w6) := HT5.out.trans t6 (fun _ _ f => f); have HRa := Lib.hid (HR5.out.later t6)
          clear r6 t6
          go_wp2_with fail
          refine (same_refl10 _ _ L w6 HR6.out HRa.out (by omega)).mono ?_
          rintro e w7 ⟨rfl, t7⟩
          have HT7 : Hid (Turn (fun _ => False) w w7) := HT6.out.trans t7 (fun _ _ f => f); have HRb := Lib.hid (HRa.out.later t7)
          clear t7
          unfold sv10
          go_wp2_with fail
          refine (alive_any10 w7).mono ?_
          rintro e w8 ⟨rfl, t8⟩
          have HT8 : Hid (Turn (fun _ => False) w w8) := HT7.out.trans t8 (fun _ _ f => f)
          clear t8
          go_wp2
          go_ret
          exact ⟨rfl, HT8.out.below (Nat.le_refl _) (fun _ f => f.elim)⟩
        · have n1 : (L.length : Int) ≤ n := by omega
          clear hn
          go_wp2_with fail
          rw [EA.out] at HA
          refine HA.out.mono ?_
          rintro e w5 ⟨rfl, t5⟩
          have HD5 := Lib.hid (HD3.out.later t5); have HT5 : Hid (Turn (fun _ => False) w w5) := HT3.out.trans t5 (fun _ _ f => f); have HR5 := Lib.hid (HR3.out.later t5)
          clear t5 HA EA
          go_wp2_with fail
          refine (things10 _ L w5 HD5.out (by omega)).mono ?_
          rintro e w6 ⟨v6, rfl, r6, t6⟩
          have HR6 := Lib.hid r6; have HT6 : Hid (Turn (fun _ => False) w w6) := HT5.out.trans t6 (fun _ _ f => f); have HRa := Lib.hid (HR5.out.later t6)
          clear r6 t6
          go_wp2_with fail
          refine (same_refl10 _ _ L w6 HR6.out HRa.out (by omega)).mono ?_
          rintro e w7 ⟨rfl, t7⟩
          have HT7 : Hid (Turn (fun _ => False) w w7) := HT6.out.trans t7 (fun _ _ f => f); have HRb := Lib.hid (HRa.out.later t7)
          clear t7
          unfold sv10
          go_wp2_with fail
          refine (alive_any10 w7).mono ?_
          rintro e w8 ⟨rfl, t8⟩
          have HT8 : Hid (Turn (fun _ => False) w w8) := HT7.out.trans t8 (fun _ _ f => f)
          clear t8
          go_wp2
          go_ret
          exact ⟨rfl, HT8.out.below (Nat.le_refl _) (fun _ f => f.elim)⟩
  · have hli : (60 : Int) < l.length := by omega
    go_enter Try.func3, Try.ntmps3
    go_wp2_with fail
    refine (alive_any10 w).mono ?_
    rintro e w8 ⟨rfl, t8⟩
    have HT8 := Lib.hid t8
    clear t8
    go_wp2
    go_ret
    exact ⟨rfl, HT8.out.below (Nat.le_refl _) (fun _ f => f.elim)⟩

set_option maxRecDepth 100000 in
theorem lifted (os : Os) (started : os.Started) (H : Type) (enc : TypeId × Value → H) :
    ReturnsInHanded {} Try.checked os 3 .any (Rows.dictCodesSpec.pre6 enc Try.prog Try.f3 Rows.dictCodesRow.domain false) (Rows.dictCodesSpec.post enc Try.prog Try.f3 false true false false) := by
  refine returnsInHanded_of_change (C := Try.checked) own started (by kernel_rfl) Try.func3
    (ChangeSpec.witness6 (enc := enc) (C := Try.checked) false ⟨#[], #[.slice none 0 0, .string ⟨#[]⟩, .int .i64 0], []⟩ 8 (by kernel_rfl) (by kernel_rfl) (by kernel_rfl) (by kernel_rfl)) ?_
  intro W base args ds gs before hval0 hW hcnd _
  have hval : ∀ (j : Nat) t v, Try.f3.params[j]? = some t → args[j]? = some v → Value.okWide Try.prog W .any base t v := hval0
  have hW' := hW
  obtain ⟨p, q, hA0, hV, rfl, hfz, hnd⟩ := hW
  have hA : DataW.TrodAll enc Try.prog W 0 (fun _ => true) true Try.f3.params.toList args.toList ds p := hA0
  rw [Try.params3] at hA hval
  obtain ⟨v0, vs0, d0, ds0, p0, q0, hargs, rfl, rfl, h0, r0⟩ := trodAll_cons hA
  obtain ⟨v1, vs1, d1, ds1, p1, q1, rfl, rfl, rfl, h1, r1⟩ := trodAll_cons r0
  obtain ⟨v2, vs2, d2, ds2, p2, q2, rfl, rfl, rfl, h2, r2⟩ := trodAll_cons r1
  obtain ⟨rfl, rfl, rfl⟩ := trodAll_nil r2
  obtain rfl : args = #[v0, v1, v2] := by cases args; simp_all
  obtain ⟨rfl, rfl⟩ := trodVars_none hV
  have k0 := h0
  have lt0 : ∀ x ∈ p0, x.block < W.heap.size := by obtain ⟨m, hm⟩ := k0; exact DataW.trod_lt m _ _ _ hm
  obtain ⟨a0, len0, cap0, rfl⟩ := okWide_slice Try.underlying22 (hval 0 22 v0 rfl rfl)
  obtain ⟨l0, hp0, hl0, _⟩ := open_texts10 rfl h0
  obtain ⟨a1, rfl, rfl, rfl, w1⟩ := Go.ChangeMaps.open_string Try.underlying9 (hval 1 9 v1 rfl rfl) h1
  obtain ⟨a2, rfl, rfl, rfl, w2⟩ := open_int Try.underlying3 (hval 2 3 v2 rfl rfl) h2
  clear hA0 hval0
  refine (walk _ l0 a1 w1 a2 w2 W hp0 hl0).mono fun e W' ⟨he, bel⟩ => ?_
  subst he
  exact ⟨_, rfl, _, _, _, [], _, [], hW', trodAll_mk1 (shut_bool Try.underlying4 _), (trodAll_cons_mk (Below.trod laidOut (by kernel_rfl) (of_decide_eq_true (by kernel_rfl)) k0 bel lt0) (trodAll_cons_mk (Go.ChangeMaps.shut_string Try.underlying9 w1) (trodAll_cons_mk (shut_int Try.underlying3 w2) trodAll_mk0))), rfl, bel.frame _, fun h => by cases h⟩

theorem over : Rows.dictCodesRow.holds Try.pinned (OpenSpec.ofChange Rows.dictCodesSpec) :=
  OpenClaim.holds_of_wide 3 Try.f3 rfl rfl rfl rfl rfl rfl rfl ⟨rfl, rfl, rfl, rfl, rfl⟩ rfl rfl rfl rfl rfl (by kernel_rfl) Try.func3 (by kernel_rfl)
    (of_decide_eq_true (by kernel_rfl)) (by unfold Func.isWrapper; first | (rw [if_pos (by decide +kernel)]; kernel_rfl) | (rw [if_neg (by decide +kernel)]; exact ⟨rfl, rfl⟩))
    (fun os started H enc _ => lifted os started H enc)

theorem proved : Rows.DictCodesSaid := over
#print axioms proved
end Go.Proofs.Ytnapeckpjnbcgaa.dictCodes
