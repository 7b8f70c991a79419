
/-
  'DictBack': numbers of a dictionary of numbers are in their order, and there and back all is as it was. No condition.
-/
import Derived.Test.YtnapeckpjnbcgaaDt
import Derived.ProofKit
import Derived.OpenShut
namespace Go.Proofs.Ytnapeckpjnbcgaa.dictBack
open Go.ChangeShapes Go.WideShapes Go.ChangeAt Go.RowKit
set_option linter.unusedVariables false

theorem own : ownKnob Try.prog.godebug = none := by kernel_rfl
theorem laidOut : laidOutB Try.prog = true := by kernel_rfl

set_option maxRecDepth 100000 in
set_option maxHeartbeats 8000000 in
theorem walk (v : Value) (l : List Int) (w : World) (h : RdE EC10 w v l) (hlen : l.length ≤ maxLen) :
    Calls Try.prog 5 #[v] w fun e w' => e = .returned (.bool true) ∧ Below w.heap.size w w' := by
  have HV := Lib.hid h
  obtain ⟨A, c, rfl⟩ := h.shape
  unfold maxLen at hlen
  clear h
  by_cases h60 : l.length ≤ 60
  · have hli : ¬ ((60 : Int) < l.length) := by omega
    have hset := setG_is ltI rises_ltI l
    have hL := setG_len ltI l l.length
    rw [List.take_length] at hL
    have HSUB : Hid (∀ x ∈ l, x ∈ setG ltI l) := fun x hx => (hset.2 x).2 hx
    have hallin : allIn l (setG ltI l) = true := allIn_iff.2 HSUB.out
    have hback := there_back HSUB.out
    have hcodes : codesG l (setG ltI l) = l.map fun x => (idxG x (setG ltI l) : Int) := by unfold codesG; rw [if_pos hallin]
    have HORD : Hid (∀ x ∈ l, ∀ y ∈ l, (decide ((idxG x (setG ltI l) : Int) < (idxG y (setG ltI l) : Int))) = decide (x < y)) := fun x hx y hy => by
      have h1 := idx_order rises_ltI hset.1 (HSUB.out x hx) (HSUB.out y hy)
      by_cases hxy : x < y
      · rw [decide_eq_true hxy, decide_eq_true (Int.ofNat_lt.2 (h1.2 (decide_eq_true hxy)))]
      · rw [decide_eq_false hxy, decide_eq_false (fun h => hxy (of_decide_eq_true (h1.1 (Int.ofNat_lt.1 h))))]
    have HOF := Lib.hid (of_int10 _ l w HV.out (by omega))
    have HCA : Hid (∀ (d : Value) (W : World), DI10 W d (setG ltI l) → d ≠ .pointer none → Turn (fun _ => False) w W → Calls Try.prog 19 #[d, .slice A l.length c] W fun e w' => ∃ u, e = .returned (.tuple #[u, .bool true]) ∧ RdE EC10 w' u (codesG l (setG ltI l)) ∧ Turn (fun _ => False) W w') := fun d W hd hn ht => by
      have h := codes_int10 d _ _ l W hd hn (HV.out.later ht) (by omega)
      unfold Codes10 at h
      rwa [hallin] at h
    have HTA : Hid (∀ (d u : Value) (W : World), DI10 W d (setG ltI l) → d ≠ .pointer none → RdE EC10 W u (codesG l (setG ltI l)) → Calls Try.prog 20 #[d, u] W fun e w' => ∃ x, e = .returned (.tuple #[x, .bool true]) ∧ RdE EC10 w' x l ∧ Turn (fun _ => False) W w') := fun d u W hd hn hu => by
      have h := things_int10 d u _ (codesG l (setG ltI l)) W hd hn hu (by rw [hcodes, List.length_map]; omega)
      unfold Things10 at h
      rwa [hback.1, hback.2] at h
    have HCD := Lib.hid hcodes
    clear hallin hback hset hcodes HSUB
    generalize setG ltI l = L at *
    generalize hN : codesG l L = N at *
    have HN := Lib.hid hN
    have hNl : N.length = l.length := by rw [HCD.out, List.length_map]
    clear hN
    go_enter Try.func5, Try.ntmps5
    go_wp2_with fail
    refine HOF.out.mono ?_
    rintro e w1 ⟨d, rfl, h1, hn1, t1⟩
    obtain ⟨p, rfl⟩ := h1.ptr
    have HDN := Lib.hid hn1
    clear hn1
    have HD1 := Lib.hid h1; have HT1 := Lib.hid t1
    clear h1 t1
    go_wp2_with fail
    refine (HCA.out _ _ HD1.out HDN.out HT1.out).mono ?_
    rintro e w2 ⟨u, rfl, hu, t2⟩
    obtain ⟨A2, c2, rfl⟩ := hu.shape
    rw [hNl] at hu
    have HD2 := Lib.hid (HD1.out.later t2); have HT2 : Hid (Turn (fun _ => False) w w2) := HT1.out.trans t2 (fun _ _ f => f); have HU := Lib.hid hu
    clear hu t2
    go_wp2_with fail
    refine (HTA.out _ _ _ HD2.out HDN.out HU.out).mono ?_
    rintro e w3 ⟨x, rfl, hx, t3⟩
    obtain ⟨A3, c3, rfl⟩ := hx.shape
    have HD3 := Lib.hid (HD2.out.later t3); have HT3 : Hid (Turn (fun _ => False) w w3) := HT2.out.trans t3 (fun _ _ f => f); have HU3 := Lib.hid (HU.out.later t3); have HX3 := Lib.hid hx; have HV3 := Lib.hid (HV.out.later HT3.out)
    clear hx t3 HU HD2 HD1 HOF HCA HTA
    go_wp2_with fail
    go_loopw [8] (fun x8 wr => ∃ i : Nat, x8 = .int .i64 (i : Int) ∧ i ≤ l.length ∧ ∃ n, wr = w3.drewN n) (fun x8 _ => l.length - (intOf x8).toNat)
    case atStart => exact ⟨0, rfl, Nat.zero_le _, 0, rfl⟩
    case round =>
      obtain ⟨i, rfl, hi, n, rfl⟩ := hrel
      by_cases hlt : i < l.length
      · obtain ⟨y, hy⟩ : ∃ y, l[i]? = some y := ⟨_, List.getElem?_eq_getElem hlt⟩
        have hyN : N[i]? = some (idxG y L : Int) := by rw [HCD.out, List.getElem?_map, hy]; rfl
        obtain ⟨a1, rfl, k1⟩ := num_at10 HV3.out hy
        obtain ⟨a2, rfl, k2⟩ := num_at10 HX3.out hy
        obtain ⟨a3, rfl, k3⟩ := num_at10 HU3.out hyN
        have HK3 := Lib.hid (k3 w3 (Turn.refl _ _))
        have HK1 := Lib.hid (k1 w3 (Turn.refl _ _))
        have e1 := k1 w3 (Turn.refl _ _)
        have e2 := k2 w3 (Turn.refl _ _)
        have HY := Lib.hid (List.mem_of_getElem? hy)
        have hyy : (y == y) = true := beq_self_eq_true y
        have hil : (i : Int) < l.length := by omega
        generalize hQ : idxG y L = q at *
        have HQ := Lib.hid hQ
        clear k1 k2 k3 hy hyN hQ
        go_wp2_with fail
        go_quiet (fail)
        obtain ⟨n2, hn2⟩ : ∃ n2, n2 = n + nq := ⟨_, rfl⟩
        clear e2
        go_wp2_with fail
        go_loopw [9] (fun x9 wk => ∃ k : Nat, x9 = .int .i64 (k : Int) ∧ k ≤ l.length ∧ ∃ m, wk = w3.drewN m) (fun x9 _ => l.length - (intOf x9).toNat)
        case atStart => exact ⟨0, rfl, Nat.zero_le _, n + nq, by simp [World.drewN, Nat.add_assoc]⟩
        case round =>
          obtain ⟨k, rfl, hk, m, rfl⟩ := hrel
          by_cases hkt : k < l.length
          · obtain ⟨z, hz⟩ : ∃ z, l[k]? = some z := ⟨_, List.getElem?_eq_getElem hkt⟩
            have hzN : N[k]? = some (idxG z L : Int) := by rw [HCD.out, List.getElem?_map, hz]; rfl
            obtain ⟨_, g1, k1⟩ := num_at10 HV3.out hz
            cases g1
            obtain ⟨_, g3, k3⟩ := num_at10 HU3.out hzN
            cases g3
            have f1 := k1 w3 (Turn.refl _ _)
            have f3 := k3 w3 (Turn.refl _ _)
            have e1 := HK1.out
            have e3 := HK3.out
            have hor := HORD.out y HY.out z (List.mem_of_getElem? hz)
            rw [HQ.out] at hor
            have hkl : (k : Int) < l.length := by omega
            generalize idxG z L = q2 at *
            clear k1 k3 hz hzN
            by_cases hlt2 : y < z
            · have hq2 : (q : Int) < (q2 : Int) := by rw [decide_eq_true hlt2] at hor; exact of_decide_eq_true hor
              clear hor
              go_wp2_with fail
              go_quiet (fail)
              go_wp2
              go_roundw
              case rel => exact ⟨k + 1, by go_num, hkt, m + nq, by simp [World.drewN]⟩
              case measure => simp [intOf]; omega
            · have hq2 : ¬ ((q : Int) < (q2 : Int)) := by rw [decide_eq_false hlt2] at hor; exact of_decide_eq_false hor
              have hd1 : decide ((q : Int) < (q2 : Int)) = false := decide_eq_false hq2
              have hd2 : decide (y < z) = false := decide_eq_false hlt2
              have hd3 : (decide ((q : Int) < (q2 : Int)) != decide (y < z)) = false := by rw [hd1, hd2]; rfl
              clear hor
              go_wp2_with fail
              go_quiet (fail)
              go_wp2
              go_roundw
              case rel => exact ⟨k + 1, by go_num, hkt, m + nq, by simp [World.drewN]⟩
              case measure => simp [intOf]; omega
          · obtain rfl : k = l.length := by omega
            go_wp2
            go_roundw
            case rel => exact ⟨i + 1, by go_num, hlt, m, rfl⟩
            case measure => simp [intOf]; omega
      · obtain rfl : i = l.length := by omega
        have hLi : (L.length : Int) ≤ l.length := by omega
        go_wp2_with fail
        refine (len_int10 _ L _ (HD3.out.later ((Turn.refl _ w3).drewN n))).mono ?_
        rintro e w4 ⟨rfl, t4⟩
        have HT4 : Hid (Turn (fun _ => False) w w4) := (HT3.out.drewN n).trans t4 (fun _ _ f => f)
        clear t4
        go_wp2_with fail
        refine (alive_any10 w4).mono ?_
        rintro e w5 ⟨rfl, t5⟩
        have HT5 : Hid (Turn (fun _ => False) w w5) := HT4.out.trans t5 (fun _ _ f => f)
        clear t5
        go_wp2
        go_ret
        exact ⟨rfl, HT5.out.below (Nat.le_refl _) (fun _ f => f.elim)⟩
  · have hli : (60 : Int) < l.length := by omega
    go_enter Try.func5, Try.ntmps5
    go_wp2_with fail
    refine (alive_any10 w).mono ?_
    rintro e w8 ⟨rfl, t8⟩
    have HT8 := Lib.hid t8
    clear t8
    go_wp2
    go_ret
    exact ⟨rfl, HT8.out.below (Nat.le_refl _) (fun _ f => f.elim)⟩

set_option maxRecDepth 100000 in
theorem lifted (os : Os) (started : os.Started) (H : Type) (enc : TypeId × Value → H) :
    ReturnsInHanded {} Try.checked os 5 .any (Rows.dictBackSpec.pre6 enc Try.prog Try.f5 Rows.dictBackRow.domain false) (Rows.dictBackSpec.post enc Try.prog Try.f5 false true false false) := by
  refine returnsInHanded_of_change (C := Try.checked) own started (by kernel_rfl) Try.func5
    (ChangeSpec.witness6 (enc := enc) (C := Try.checked) false ⟨#[], #[.slice none 0 0], []⟩ 8 (by kernel_rfl) (by kernel_rfl) (by kernel_rfl) (by kernel_rfl)) ?_
  intro W base args ds gs before hval0 hW hcnd _
  have hval : ∀ (j : Nat) t v, Try.f5.params[j]? = some t → args[j]? = some v → Value.okWide Try.prog W .any base t v := hval0
  have hW' := hW
  obtain ⟨p, q, hA0, hV, rfl, hfz, hnd⟩ := hW
  have hA : DataW.TrodAll enc Try.prog W 0 (fun _ => true) true Try.f5.params.toList args.toList ds p := hA0
  rw [Try.params5] at hA hval
  obtain ⟨v0, vs0, d0, ds0, p0, q0, hargs, rfl, rfl, h0, r0⟩ := trodAll_cons hA
  obtain ⟨rfl, rfl, rfl⟩ := trodAll_nil r0
  obtain rfl : args = #[v0] := by cases args; simp_all
  obtain ⟨rfl, rfl⟩ := trodVars_none hV
  have k0 := h0
  have lt0 : ∀ x ∈ p0, x.block < W.heap.size := by obtain ⟨m, hm⟩ := k0; exact DataW.trod_lt m _ _ _ hm
  obtain ⟨a0, len0, cap0, rfl⟩ := okWide_slice Try.underlying42 (hval 0 42 v0 rfl rfl)
  obtain ⟨l0, hp0, hl0, _⟩ := open_numas10 rfl h0
  clear hA0 hval0
  refine (walk _ l0 W hp0 hl0).mono fun e W' ⟨he, bel⟩ => ?_
  subst he
  exact ⟨_, rfl, _, _, _, [], _, [], hW', trodAll_mk1 (shut_bool Try.underlying4 _), (trodAll_cons_mk (Below.trod laidOut (by kernel_rfl) (of_decide_eq_true (by kernel_rfl)) k0 bel lt0) trodAll_mk0), rfl, bel.frame _, fun h => by cases h⟩

theorem over : Rows.dictBackRow.holds Try.pinned (OpenSpec.ofChange Rows.dictBackSpec) :=
  OpenClaim.holds_of_wide 5 Try.f5 rfl rfl rfl rfl rfl rfl rfl ⟨rfl, rfl, rfl, rfl, rfl⟩ rfl rfl rfl rfl rfl (by kernel_rfl) Try.func5 (by kernel_rfl)
    (of_decide_eq_true (by kernel_rfl)) (by unfold Func.isWrapper; first | (rw [if_pos (by decide +kernel)]; kernel_rfl) | (rw [if_neg (by decide +kernel)]; exact ⟨rfl, rfl⟩))
    (fun os started H enc _ => lifted os started H enc)

theorem proved : Rows.DictBackSaid := over
#print axioms proved
end Go.Proofs.Ytnapeckpjnbcgaa.dictBack
