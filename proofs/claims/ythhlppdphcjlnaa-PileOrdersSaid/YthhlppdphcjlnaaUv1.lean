
/-
  'PileOrders': numbers that are pushed are popped, each one, in order. No condition.
-/
import Derived.Test.YthhlppdphcjlnaaUa
import Derived.Test.YthhlppdphcjlnaaUo
import Derived.ProofKit
import Derived.OpenShut
namespace Go.Proofs.Ythhlppdphcjlnaa.pileOrders
open Go.ChangeShapes Go.WideShapes Go.ChangeAt Go.RowKit
set_option linter.unusedVariables false

theorem own : ownKnob Try.prog.godebug = none := by kernel_rfl
theorem laidOut : laidOutB Try.prog = true := by kernel_rfl

open pli

theorem count_step {L : List Int} {k : Nat} {y : Int} (h : L[k]? = some y) (x : Int) : (L.take (k + 1)).count x = (L.take k).count x + if y = x then 1 else 0 := by
  obtain ⟨h0, e⟩ := List.getElem?_eq_some_iff.1 h
  rw [List.take_succ_eq_append_getElem h0, e, List.count_append, List.count_singleton]
  simp
theorem fewer {l : List Int} {i : Nat} {x : Int} {R : List Int} (h : (sortS ltN l).drop i = x :: R) : R.count x < l.count x := by
  have h1 : l.count x = (sortS ltN l).count x := ((sortS_perm (lt := ltN) l).count_eq x).symm
  have h2 : (sortS ltN l).count x = ((sortS ltN l).take i).count x + (x :: R).count x := by rw [← List.count_append, ← h, List.take_append_drop]
  rw [h1, h2, List.count_cons_self]
  omega
theorem rising {l : List Int} {i : Nat} {x : Int} {R : List Int} (h : (sortS ltN l).drop i = x :: R) : ∀ y ∈ R, x ≤ y := fun y hy => by
  have hs : Srt ltN ((sortS ltN l).drop i) := (sort_srt weak_lt l).sublist (List.drop_sublist _ _)
  rw [h] at hs
  have := (List.pairwise_cons.1 hs).1 y hy
  unfold ltN at this
  simpa using this

set_option maxRecDepth 100000 in
set_option maxHeartbeats 8000000 in
theorem walk (v : Value) (l : List Int) (w : World) (h : RdE ET w v l) (hlen : l.length ≤ maxLen) (hwf : ∀ x ∈ l, (Lit.int .i64 x).wf = true) :
    Calls Try.prog 5 #[v] w fun e w' => e = .returned (.bool true) ∧ Below w.heap.size w w' := by
  have HV := Lib.hid h
  obtain ⟨A, c, rfl⟩ := h.shape
  have HLO : Hid (∀ y ∈ sortS ltN l, -9223372036854775808 ≤ y) := fun y hy => by
    have h1 := hwf y ((sortS_perm l).mem_iff.1 hy)
    simp [Lit.wf, IntKind.min, IntKind.max, IntKind.signed, IntKind.bits] at h1
    exact h1.1
  unfold maxLen at hlen
  clear h hwf
  by_cases h150 : l.length ≤ 150
  · go_enter Try.func5, Try.ntmps5
    go_wp2_with fail
    refine (mine_new (Turn.refl _ w)).mono ?_
    rintro e w1 ⟨rfl, hm, -⟩
    have HM0 := Lib.hid hm
    clear hm
    go_wp2_with fail
    go_loopw [4] (fun x4 wr => ∃ i : Nat, x4 = .int .i64 (i : Int) ∧ i ≤ l.length ∧ Mine w w.heap.size (sortS ltN (l.take i)) i wr) (fun x4 _ => l.length - (intOf x4).toNat)
    case atStart => exact ⟨0, rfl, Nat.zero_le _, HM0.out⟩
    case round =>
      obtain ⟨i, rfl, hi, hm⟩ := hrel
      have HM := Lib.hid hm
      clear hm
      by_cases hlt : i < l.length
      · obtain ⟨x, hx⟩ : ∃ x, l[i]? = some x := ⟨_, List.getElem?_eq_getElem hlt⟩
        have htk : l.take (i + 1) = l.take i ++ [x] := by
          obtain ⟨h0, e⟩ := List.getElem?_eq_some_iff.1 hx
          rw [List.take_succ_eq_append_getElem h0, e]
        have hsl : (sortS ltN (l.take i)).length ≤ 100000 := by rw [(sortS_perm _).length_eq, List.length_take]; omega
        obtain ⟨ad, rfl, hc⟩ := et_at HV.out hx
        have e0 := hc wr HM.out.turn
        have HPU := Lib.hid (mine_push x HM.out (by omega) hsl)
        have HTK := Lib.hid htk
        clear htk hx hc hsl
        have hil : (i : Int) < l.length := by omega
        go_wp2_with fail
        refine HPU.out.mono ?_
        rintro e w2 ⟨⟨v, rfl⟩, hm, -⟩
        have HM2 : Hid (Mine w w.heap.size (sortS ltN (l.take (i + 1))) (i + 1) w2) := by rw [HTK.out, sortS_snoc]; exact hm
        clear hm
        go_wp2
        go_roundw
        case rel => exact ⟨i + 1, by go_num, hlt, HM2.out⟩
        case measure => simp [intOf]; omega
      · obtain rfl : i = l.length := by omega
        have HM1 : Hid (Mine w w.heap.size (sortS ltN l) l.length wr) := by have := HM.out; rwa [List.take_length] at this
        clear HM HM0
        have hSl : (sortS ltN l).length = l.length := (sortS_perm l).length_eq
        have HS0 : Hid (∃ la : Int, (.int .i64 (-9223372036854775808) : Value) = .int .i64 la ∧ (∀ y ∈ (sortS ltN l).drop 0, la ≤ y) ∧ Mine w w.heap.size ((sortS ltN l).drop 0) l.length wr) := ⟨_, rfl, by rw [List.drop_zero]; exact HLO.out, by rw [List.drop_zero]; exact HM1.out⟩
        clear HM1
        go_wp2_with fail
        go_loopw [5, 6] (fun x5 x6 wr => ∃ i : Nat, x6 = .int .i64 (i : Int) ∧ i ≤ l.length ∧ ∃ la : Int, x5 = .int .i64 la ∧ (∀ y ∈ (sortS ltN l).drop i, la ≤ y) ∧ Mine w w.heap.size ((sortS ltN l).drop i) l.length wr) (fun _ x6 _ => l.length - (intOf x6).toNat)
        case atStart => exact ⟨0, rfl, Nat.zero_le _, HS0.out⟩
        case round =>
          obtain ⟨i, rfl, hi, la, rfl, hla, hm⟩ := hrel
          have HM := Lib.hid hm; have HLA := Lib.hid hla
          clear hm hla
          by_cases hlt : i < l.length
          · have hil : (i : Int) < l.length := by omega
            obtain ⟨x, hx⟩ : ∃ x, (sortS ltN l).drop i = x :: (sortS ltN l).drop (i + 1) := ⟨_, List.drop_eq_getElem_cons (by omega)⟩
            have HX := Lib.hid hx
            have hlx : la ≤ x := HLA.out x (by rw [hx]; simp)
            have hR : ((sortS ltN l).drop (i + 1)).length ≤ 150 := by rw [List.length_drop]; omega
            rw [hx] at HM
            clear hx
            have HR := Lib.hid hR
            clear hR
            obtain ⟨R, hRR⟩ : ∃ R, R = (sortS ltN l).drop (i + 1) := ⟨_, rfl⟩
            rw [← hRR] at HM HR HX
            have HRR := Lib.hid hRR
            clear hRR
            go_wp2_with fail
            refine (mine_pop HM.out (by have := HR.out; omega)).mono ?_
            rintro e w2 ⟨rfl, hm, -⟩
            have HM2 := Lib.hid hm
            clear hm HM
            go_wp2_with fail
            go_loopw [9, 11] (fun x9 x11 wk => wk = w2 ∧ ∃ k : Nat, x11 = .int .i64 (k : Int) ∧ k ≤ l.length ∧ x9 = .int .i64 (((l.take k).count x : Nat) : Int)) (fun _ x11 _ => l.length - (intOf x11).toNat)
            case atStart => exact ⟨rfl, 0, rfl, Nat.zero_le _, by simp⟩
            case round =>
              obtain ⟨rfl, k, rfl, hk, rfl⟩ := hrel
              by_cases hkl : k < l.length
              · obtain ⟨y, hy⟩ : ∃ y, l[k]? = some y := ⟨_, List.getElem?_eq_getElem hkl⟩
                obtain ⟨ad, rfl, hc⟩ := et_at HV.out hy
                have e0 := hc _ HM2.out.turn
                have HCS := Lib.hid (count_step hy x)
                have hcl : (l.take k).count x ≤ k := Nat.le_trans List.count_le_length (by rw [List.length_take]; omega)
                have hkil : (k : Int) < l.length := by omega
                clear hc hy
                by_cases hyx : y = x
                · rw [if_pos hyx] at HCS
                  subst hyx
                  go_wp2_with fail
                  go_roundw
                  case rel => exact ⟨trivial, k + 1, by go_num, hkl, by rw [HCS.out]; go_num⟩
                  case measure => simp [intOf]; omega
                · rw [if_neg hyx] at HCS
                  have hyb : (y == x) = false := by simpa using hyx
                  go_wp2_with fail
                  go_roundw
                  case rel => exact ⟨trivial, k + 1, by go_num, hkl, by rw [HCS.out, Nat.add_zero]⟩
                  case measure => simp [intOf]; omega
              · obtain rfl : k = l.length := by omega
                rw [List.take_length]
                go_wp2_with fail
                refine (mine_sorted HM2.out (by have := HR.out; omega)).mono ?_
                rintro e w4 ⟨vy, rfl, oy, ny, ty⟩
                have HOY := Lib.hid oy.rd
                have HM4 := Lib.hid (HM2.out.later ty)
                clear oy ny ty
                obtain ⟨AY, cY, hvy⟩ := HOY.out.shape
                subst hvy
                have HFE : Hid ((R.count x : Int) < (l.count x : Int)) := by have := fewer HX.out; show _ < _; omega
                go_wp2_with fail
                go_loopw [10, 13] (fun x10 x13 wk => wk = w4 ∧ ∃ k : Nat, x13 = .int .i64 (k : Int) ∧ k ≤ R.length ∧ x10 = .int .i64 (((R.take k).count x : Nat) : Int)) (fun _ x13 _ => R.length - (intOf x13).toNat)
                case atStart => exact ⟨rfl, 0, rfl, Nat.zero_le _, by simp⟩
                case round =>
                  obtain ⟨rfl, k, rfl, hk2, rfl⟩ := hrel
                  by_cases hkl2 : k < R.length
                  · obtain ⟨y, hy⟩ : ∃ y, R[k]? = some y := ⟨_, List.getElem?_eq_getElem hkl2⟩
                    obtain ⟨ay, hay, hc⟩ := et_at HOY.out hy
                    subst hay
                    have e0 := hc _ (Turn.refl _ _)
                    have HCS := Lib.hid (count_step hy x)
                    have hcl : (R.take k).count x ≤ k := Nat.le_trans List.count_le_length (by rw [List.length_take]; omega)
                    have hR150 := HR.out
                    have hkil : (k : Int) < R.length := by omega
                    clear hc hy
                    by_cases hyx : y = x
                    · rw [if_pos hyx] at HCS
                      subst hyx
                      go_wp2_with fail
                      go_roundw
                      case rel => exact ⟨trivial, k + 1, by go_num, hkl2, by rw [HCS.out]; go_num⟩
                      case measure => simp [intOf]; omega
                    · rw [if_neg hyx] at HCS
                      have hyb : (y == x) = false := by simpa using hyx
                      go_wp2_with fail
                      go_roundw
                      case rel => exact ⟨trivial, k + 1, by go_num, hkl2, by rw [HCS.out, Nat.add_zero]⟩
                      case measure => simp [intOf]; omega
                  · obtain rfl : k = R.length := by omega
                    rw [List.take_length]
                    have hfe := HFE.out
                    go_wp2_with fail
                    go_roundw
                    case rel => exact ⟨i + 1, by go_num, hlt, x, rfl, by rw [← HRR.out]; exact rising HX.out, by rw [← HRR.out]; exact HM4.out⟩
                    case measure => simp [intOf]; omega
          · obtain rfl : i = l.length := by omega
            have HM1 : Hid (Mine w w.heap.size [] l.length wr) := by have := HM.out; rwa [List.drop_of_length_le (by omega)] at this
            go_wp2_with fail
            refine (mine_pop0 HM1.out).mono ?_
            rintro e w2 ⟨rfl, hm, -⟩
            have HM2 := Lib.hid hm
            clear hm
            go_wp2_with fail
            refine (alive_any7 w2).mono ?_
            rintro e w5 ⟨rfl, ht⟩
            have HTa := Lib.hid (HM2.out.turn.trans ht (fun _ _ f => f))
            clear ht
            go_wp2
            go_ret
            exact ⟨rfl, HTa.out.below (Nat.le_refl _) (fun _ f => f.elim)⟩
  · go_enter Try.func5, Try.ntmps5
    go_wp2_with fail
    refine (alive_any7 w).mono ?_
    rintro e w5 ⟨rfl, ht⟩
    have HTa := Lib.hid ht
    clear ht
    go_wp2
    go_ret
    exact ⟨rfl, HTa.out.below (Nat.le_refl _) (fun _ f => f.elim)⟩

set_option maxRecDepth 100000 in
theorem lifted (os : Os) (started : os.Started) (H : Type) (enc : TypeId × Value → H) :
    ReturnsInHanded {} Try.checked os 5 .any (Rows.pileOrdersSpec.pre6 enc Try.prog Try.f5 Rows.pileOrdersRow.domain false) (Rows.pileOrdersSpec.post enc Try.prog Try.f5 false true false false) := by
  refine returnsInHanded_of_change (C := Try.checked) own started (by kernel_rfl) Try.func5
    (ChangeSpec.witness6 (enc := enc) (C := Try.checked) false ⟨#[], #[.slice none 0 0], []⟩ 8 (by kernel_rfl) (by kernel_rfl) (by kernel_rfl) (by kernel_rfl)) ?_
  intro W base args ds gs before hval0 hW hcnd _
  have hval : ∀ (j : Nat) t v, Try.f5.params[j]? = some t → args[j]? = some v → Value.okWide Try.prog W .any base t v := hval0
  have hW' := hW
  obtain ⟨p, q, hA0, hV, rfl, hfz, hnd⟩ := hW
  have hA : DataW.TrodAll enc Try.prog W 0 (fun _ => true) true Try.f5.params.toList args.toList ds p := hA0
  rw [Try.params5] at hA hval
  obtain ⟨v0, vs0, d0, ds0, p0, q0, hargs, rfl, rfl, h0, r0⟩ := trodAll_cons hA
  obtain ⟨rfl, rfl, rfl⟩ := trodAll_nil r0
  obtain rfl : args = #[v0] := by cases args; simp_all
  obtain ⟨rfl, rfl⟩ := trodVars_none hV
  have k0 := h0
  have lt0 : ∀ x ∈ p0, x.block < W.heap.size := by obtain ⟨m, hm⟩ := k0; exact DataW.trod_lt m _ _ _ hm
  obtain ⟨a0, len0, cap0, rfl⟩ := okWide_slice Try.underlying45 (hval 0 45 v0 rfl rfl)
  obtain ⟨l0, hp0, hl0, hf0⟩ := open_nums7 rfl h0
  clear hA0 hval0
  refine (walk _ l0 W hp0 hl0 hf0).mono fun e W' ⟨he, bel⟩ => ?_
  subst he
  exact ⟨_, rfl, _, _, _, [], _, [], hW', trodAll_mk1 (shut_bool Try.underlying4 _), (trodAll_cons_mk (Below.trod laidOut (by kernel_rfl) (of_decide_eq_true (by kernel_rfl)) k0 bel lt0) trodAll_mk0), rfl, bel.frame _, fun h => by cases h⟩

theorem over : Rows.pileOrdersRow.holds Try.pinned (OpenSpec.ofChange Rows.pileOrdersSpec) :=
  OpenClaim.holds_of_wide 5 Try.f5 rfl rfl rfl rfl rfl rfl rfl ⟨rfl, rfl, rfl, rfl, rfl⟩ rfl rfl rfl rfl rfl (by kernel_rfl) Try.func5 (by kernel_rfl)
    (of_decide_eq_true (by kernel_rfl)) (by unfold Func.isWrapper; first | (rw [if_pos (by decide +kernel)]; kernel_rfl) | (rw [if_neg (by decide +kernel)]; exact ⟨rfl, rfl⟩))
    (fun os started H enc _ => lifted os started H enc)

theorem proved : Rows.PileOrdersSaid := over
#print axioms proved
end Go.Proofs.Ythhlppdphcjlnaa.pileOrders
