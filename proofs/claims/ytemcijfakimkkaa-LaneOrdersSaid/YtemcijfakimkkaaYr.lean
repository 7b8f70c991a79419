
/-
  'LaneOrders': what is put, as far as there is room, comes out in order, the lower lane first, and nothing else. No condition.
-/
import Derived.Test.YtemcijfakimkkaaYf
import Derived.Test.YtemcijfakimkkaaYo
import Derived.ProofKit
import Derived.OpenShut
namespace Go.Proofs.Ytemcijfakimkkaa.laneOrders
open Go.ChangeShapes Go.WideShapes Go.ChangeAt Go.RowKit
set_option linter.unusedVariables false

theorem own : ownKnob Try.prog.godebug = none := by kernel_rfl
theorem laidOut : laidOutB Try.prog = true := by kernel_rfl

/-- The first things, as far as there is room. -/
def fit8 (l : List Int) (R i : Nat) : List Int := l.take (min i R)
theorem fit_step {l : List Int} {R i : Nat} {x : Int} (h : l[i]? = some x) (hr : i < R) : (fit8 l R i).length = i ∧ fit8 l R (i + 1) = fit8 l R i ++ [x] := by
  obtain ⟨h0, e⟩ := List.getElem?_eq_some_iff.1 h
  unfold fit8
  rw [Nat.min_eq_left (by omega), Nat.min_eq_left (by omega), List.length_take]
  exact ⟨by omega, by rw [List.take_succ_eq_append_getElem h0, e]⟩
theorem fit_full {l : List Int} {R i : Nat} (hi : i < l.length) (hr : ¬ i < R) : (fit8 l R i).length = R ∧ fit8 l R (i + 1) = fit8 l R i := by
  unfold fit8
  rw [Nat.min_eq_right (by omega), Nat.min_eq_right (by omega), List.length_take]
  exact ⟨by omega, rfl⟩
theorem fit_drop {l : List Int} {R i : Nat} {x : Int} (h : l[i]? = some x) (hr : i < R) : (fit8 l R l.length).drop i = x :: (fit8 l R l.length).drop (i + 1) := by
  obtain ⟨h0, e⟩ := List.getElem?_eq_some_iff.1 h
  have hl : i < (fit8 l R l.length).length := by unfold fit8; rw [List.length_take]; omega
  rw [List.drop_eq_getElem_cons hl]
  congr 1
  simp only [fit8, List.getElem_take]
  exact e
theorem fit_end {l : List Int} {R i : Nat} (h : ¬ (i < l.length ∧ i < R)) : (fit8 l R l.length).drop i = [] := by
  refine List.drop_of_length_le ?_
  unfold fit8
  rw [List.length_take]
  omega
theorem put_high {a b : List Int} {R : Nat} (x : Int) : putF R [a, b] 1 = (if b.length < R then 0 else 7) ∧ putL R [a, b] 1 x = (if b.length < R then [a, b ++ [x]] else [a, b]) := ⟨rfl, rfl⟩
theorem put_low {a b : List Int} {R : Nat} (x : Int) : putF R [a, b] 0 = (if a.length < R then 0 else 7) ∧ putL R [a, b] 0 x = (if a.length < R then [a ++ [x], b] else [a, b]) := ⟨rfl, rfl⟩

set_option maxRecDepth 100000 in
set_option maxHeartbeats 16000000 in
theorem walk (k : Int) (_wk : (Lit.int .i64 k).wf = true) (va vb : Value) (la lb : List Int) (w : World) (ha : RdE E8 w va la) (hb : RdE E8 w vb lb) (hla : la.length ≤ maxLen) (hlb : lb.length ≤ maxLen) :
    Calls Try.prog 4 #[.int .i64 k, va, vb] w fun e w' => e = .returned (.bool true) ∧ Below w.heap.size w w' := by
  have HA := Lib.hid ha
  have HB := Lib.hid hb
  obtain ⟨A, ca, rfl⟩ := ha.shape
  obtain ⟨B, cb, rfl⟩ := hb.shape
  unfold maxLen at hla hlb
  clear ha hb _wk
  by_cases hgood : 1 ≤ k ∧ k ≤ 64 ∧ la.length ≤ 100 ∧ lb.length ≤ 100
  · obtain ⟨g1, g2, g3, g4⟩ := hgood
    obtain ⟨R, rfl⟩ := Int.eq_ofNat_of_zero_le (show 0 ≤ k by omega)
    have HN : Hid (Calls Try.prog 7 #[.int .i64 2, .int .i64 (R : Int)] w fun e w' => ∃ g ar cs, e = .returned (.tuple #[.pointer (some ⟨g, 0, none⟩), .int .i64 0]) ∧ Own8 w g ar cs R [fit8 la R 0, fit8 lb R 0] w' ∧ Turn (fun _ => False) w w') := by
      unfold fit8
      rw [Nat.zero_min, List.take_zero, List.take_zero]
      exact own_new 2 R w w (Turn.refl _ w) (by omega) (by omega) (by omega) (by omega)
    go_enter Try.func4, Try.ntmps4
    go_wp2_with fail
    refine HN.out.mono ?_
    rintro e w1 ⟨g, ar, cs, rfl, h1, -⟩
    have H1 := Lib.hid h1
    clear h1 HN
    go_wp2_with fail
    go_loopw [9] (fun x9 wr => ∃ i : Nat, x9 = .int .i64 (i : Int) ∧ i ≤ lb.length ∧ Own8 w g ar cs R [fit8 la R 0, fit8 lb R i] wr) (fun x9 _ => lb.length - (intOf x9).toNat)
    case atStart => exact ⟨0, rfl, Nat.zero_le _, H1.out⟩
    case round =>
      obtain ⟨i, rfl, hi, hm⟩ := hrel
      have HM := Lib.hid hm
      clear hm
      by_cases hlt : i < lb.length
      · obtain ⟨x, hx⟩ : ∃ x, lb[i]? = some x := ⟨_, List.getElem?_eq_getElem hlt⟩
        obtain ⟨ad, rfl, hc⟩ := num_at HB.out hx
        have e0 := hc wr HM.out.2.2
        have hil : (i : Int) < lb.length := by omega
        have hpu := own_put 1 x HM.out
        obtain ⟨p1, p2⟩ := put_high (a := fit8 la R 0) (b := fit8 lb R i) (R := R) x
        rw [p1, p2] at hpu
        clear hc p1 p2
        by_cases hr : i < R
        · obtain ⟨q1, q2⟩ := fit_step hx hr
          rw [q1, if_pos hr, if_pos hr, ← q2] at hpu
          have HPU := Lib.hid hpu
          have hri : (i : Int) < R := by omega
          clear hpu q1 q2 hx
          go_wp2_with fail
          refine HPU.out.mono ?_
          rintro e w2 ⟨rfl, h2⟩
          have H2 := Lib.hid h2
          clear h2
          go_wp2
          go_roundw
          case rel => exact ⟨i + 1, by go_num, hlt, H2.out⟩
          case measure => simp [intOf]; omega
        · obtain ⟨q1, q2⟩ := fit_full hlt hr
          rw [q1, if_neg (Nat.lt_irrefl R), if_neg (Nat.lt_irrefl R), ← q2] at hpu
          have HPU := Lib.hid hpu
          have hri : ¬ ((i : Int) < R) := by omega
          clear hpu q1 q2 hx
          go_wp2_with fail
          refine HPU.out.mono ?_
          rintro e w2 ⟨rfl, h2⟩
          have H2 := Lib.hid h2
          clear h2
          go_wp2
          go_roundw
          case rel => exact ⟨i + 1, by go_num, hlt, H2.out⟩
          case measure => simp [intOf]; omega
      · obtain rfl : i = lb.length := by omega
        clear H1
        go_wp2_with fail
        go_loopw [10] (fun x10 wr => ∃ i : Nat, x10 = .int .i64 (i : Int) ∧ i ≤ la.length ∧ Own8 w g ar cs R [fit8 la R i, fit8 lb R lb.length] wr) (fun x10 _ => la.length - (intOf x10).toNat)
        case atStart => exact ⟨0, rfl, Nat.zero_le _, HM.out⟩
        case round =>
          clear HM
          obtain ⟨i, rfl, hi, hm⟩ := hrel
          have HM := Lib.hid hm
          clear hm
          by_cases hlt : i < la.length
          · obtain ⟨x, hx⟩ : ∃ x, la[i]? = some x := ⟨_, List.getElem?_eq_getElem hlt⟩
            obtain ⟨ad, rfl, hc⟩ := num_at HA.out hx
            have e0 := hc _ HM.out.2.2
            have hil : (i : Int) < la.length := by omega
            have hpu := own_put 0 x HM.out
            obtain ⟨p1, p2⟩ := put_low (a := fit8 la R i) (b := fit8 lb R lb.length) (R := R) x
            rw [p1, p2] at hpu
            clear hc p1 p2
            by_cases hr : i < R
            · obtain ⟨q1, q2⟩ := fit_step hx hr
              rw [q1, if_pos hr, if_pos hr, ← q2] at hpu
              have HPU := Lib.hid hpu
              have hri : (i : Int) < R := by omega
              clear hpu q1 q2 hx
              go_wp2_with fail
              refine HPU.out.mono ?_
              rintro e w2 ⟨rfl, h2⟩
              have H2 := Lib.hid h2
              clear h2
              go_wp2
              go_roundw
              case rel => exact ⟨i + 1, by go_num, hlt, H2.out⟩
              case measure => simp [intOf]; omega
            · obtain ⟨q1, q2⟩ := fit_full hlt hr
              rw [q1, if_neg (Nat.lt_irrefl R), if_neg (Nat.lt_irrefl R), ← q2] at hpu
              have HPU := Lib.hid hpu
              have hri : ¬ ((i : Int) < R) := by omega
              clear hpu q1 q2 hx
              go_wp2_with fail
              refine HPU.out.mono ?_
              rintro e w2 ⟨rfl, h2⟩
              have H2 := Lib.hid h2
              clear h2
              go_wp2
              go_roundw
              case rel => exact ⟨i + 1, by go_num, hlt, H2.out⟩
              case measure => simp [intOf]; omega
          · obtain rfl : i = la.length := by omega
            go_wp2_with fail
            go_loopw [11] (fun x11 wr => ∃ i : Nat, x11 = .int .i64 (i : Int) ∧ i ≤ la.length ∧ Own8 w g ar cs R [(fit8 la R la.length).drop i, fit8 lb R lb.length] wr) (fun x11 _ => la.length - (intOf x11).toNat)
            case atStart => exact ⟨0, rfl, Nat.zero_le _, by rw [List.drop_zero]; exact HM.out⟩
            case round =>
              clear HM
              obtain ⟨i, rfl, hi, hm⟩ := hrel
              have HM := Lib.hid hm
              clear hm
              by_cases hlt : i < la.length ∧ i < R
              · obtain ⟨hlt, hr⟩ := hlt
                obtain ⟨x, hx⟩ : ∃ x, la[i]? = some x := ⟨_, List.getElem?_eq_getElem hlt⟩
                obtain ⟨ad, rfl, hc⟩ := num_at HA.out hx
                have HX := Lib.hid hc
                have hil : (i : Int) < la.length := by omega
                have hri : (i : Int) < R := by omega
                have htk := HM.out
                rw [fit_drop hx hr] at htk
                have HTK : Hid (Calls Try.prog 13 #[.pointer (some ⟨g, 0, none⟩)] _ fun e w' => e = .returned (.tuple #[.int .i64 0, .int .i64 x, .bool true]) ∧ Own8 w g ar cs R [(fit8 la R la.length).drop (i + 1), fit8 lb R lb.length] w') := own_take htk
                clear htk hc hx
                go_wp2_with fail
                refine HTK.out.mono ?_
                rintro e w2 ⟨rfl, h2⟩
                have H2 := Lib.hid h2
                have e0 := HX.out _ h2.2.2
                clear h2
                go_wp2
                go_roundw
                case rel => exact ⟨i + 1, by go_num, hlt, H2.out⟩
                case measure => simp [intOf]; omega
              · have h0 := HM.out
                rw [fit_end hlt] at h0
                have HM0 := Lib.hid h0
                clear HM h0
                by_cases hl2 : i < la.length
                · have hil : (i : Int) < la.length := by omega
                  have hri : ¬ ((i : Int) < R) := by omega
                  clear hlt
                  go_wp2_with fail
                  go_loopw [15] (fun x15 wr => ∃ i : Nat, x15 = .int .i64 (i : Int) ∧ i ≤ lb.length ∧ Own8 w g ar cs R [[], (fit8 lb R lb.length).drop i] wr) (fun x15 _ => lb.length - (intOf x15).toNat)
                  case atStart => exact ⟨0, rfl, Nat.zero_le _, by rw [List.drop_zero]; exact HM0.out⟩
                  case round =>
                    clear HM0
                    obtain ⟨i, rfl, hi, hm⟩ := hrel
                    have HM := Lib.hid hm
                    clear hm
                    by_cases hlt : i < lb.length ∧ i < R
                    · obtain ⟨hlt, hr⟩ := hlt
                      obtain ⟨x, hx⟩ : ∃ x, lb[i]? = some x := ⟨_, List.getElem?_eq_getElem hlt⟩
                      obtain ⟨ad, rfl, hc⟩ := num_at HB.out hx
                      have HX := Lib.hid hc
                      have hil : (i : Int) < lb.length := by omega
                      have hri : (i : Int) < R := by omega
                      have htk := HM.out
                      rw [fit_drop hx hr] at htk
                      have HTK : Hid (Calls Try.prog 13 #[.pointer (some ⟨g, 0, none⟩)] _ fun e w' => e = .returned (.tuple #[.int .i64 1, .int .i64 x, .bool true]) ∧ Own8 w g ar cs R [[], (fit8 lb R lb.length).drop (i + 1)] w') := own_take htk
                      clear htk hc hx
                      go_wp2_with fail
                      refine HTK.out.mono ?_
                      rintro e w2 ⟨rfl, h2⟩
                      have H2 := Lib.hid h2
                      have e0 := HX.out _ h2.2.2
                      clear h2
                      go_wp2
                      go_roundw
                      case rel => exact ⟨i + 1, by go_num, hlt, H2.out⟩
                      case measure => simp [intOf]; omega
                    · have htk := HM.out
                      rw [fit_end hlt] at htk
                      have HTK : Hid (Calls Try.prog 13 #[.pointer (some ⟨g, 0, none⟩)] _ fun e w' => e = .returned (.tuple #[.int .i64 0, .int .i64 0, .bool false]) ∧ Own8 w g ar cs R [[], []] w') := own_take htk
                      clear htk HM
                      by_cases hl2 : i < lb.length
                      · have hil : (i : Int) < lb.length := by omega
                        have hri : ¬ ((i : Int) < R) := by omega
                        clear hlt
                        go_wp2_with fail
                        refine HTK.out.mono ?_
                        rintro e w2 ⟨rfl, h2⟩
                        have H2 := Lib.hid h2
                        clear h2
                        go_wp2_with fail
                        refine (alive_any8 w2).mono ?_
                        rintro e w5 ⟨rfl, ht⟩
                        have HTa := Lib.hid (H2.out.2.2.trans ht (fun _ _ f => f))
                        clear ht
                        go_wp2
                        go_ret
                        exact ⟨rfl, HTa.out.below (Nat.le_refl _) (fun _ f => f.elim)⟩
                      · have hil : ¬ ((i : Int) < lb.length) := by omega
                        clear hlt
                        go_wp2_with fail
                        refine HTK.out.mono ?_
                        rintro e w2 ⟨rfl, h2⟩
                        have H2 := Lib.hid h2
                        clear h2
                        go_wp2_with fail
                        refine (alive_any8 w2).mono ?_
                        rintro e w5 ⟨rfl, ht⟩
                        have HTa := Lib.hid (H2.out.2.2.trans ht (fun _ _ f => f))
                        clear ht
                        go_wp2
                        go_ret
                        exact ⟨rfl, HTa.out.below (Nat.le_refl _) (fun _ f => f.elim)⟩
                · have hil : ¬ ((i : Int) < la.length) := by omega
                  clear hlt
                  go_wp2_with fail
                  go_loopw [15] (fun x15 wr => ∃ i : Nat, x15 = .int .i64 (i : Int) ∧ i ≤ lb.length ∧ Own8 w g ar cs R [[], (fit8 lb R lb.length).drop i] wr) (fun x15 _ => lb.length - (intOf x15).toNat)
                  case atStart => exact ⟨0, rfl, Nat.zero_le _, by rw [List.drop_zero]; exact HM0.out⟩
                  case round =>
                    clear HM0
                    obtain ⟨i, rfl, hi, hm⟩ := hrel
                    have HM := Lib.hid hm
                    clear hm
                    by_cases hlt : i < lb.length ∧ i < R
                    · obtain ⟨hlt, hr⟩ := hlt
                      obtain ⟨x, hx⟩ : ∃ x, lb[i]? = some x := ⟨_, List.getElem?_eq_getElem hlt⟩
                      obtain ⟨ad, rfl, hc⟩ := num_at HB.out hx
                      have HX := Lib.hid hc
                      have hil : (i : Int) < lb.length := by omega
                      have hri : (i : Int) < R := by omega
                      have htk := HM.out
                      rw [fit_drop hx hr] at htk
                      have HTK : Hid (Calls Try.prog 13 #[.pointer (some ⟨g, 0, none⟩)] _ fun e w' => e = .returned (.tuple #[.int .i64 1, .int .i64 x, .bool true]) ∧ Own8 w g ar cs R [[], (fit8 lb R lb.length).drop (i + 1)] w') := own_take htk
                      clear htk hc hx
                      go_wp2_with fail
                      refine HTK.out.mono ?_
                      rintro e w2 ⟨rfl, h2⟩
                      have H2 := Lib.hid h2
                      have e0 := HX.out _ h2.2.2
                      clear h2
                      go_wp2
                      go_roundw
                      case rel => exact ⟨i + 1, by go_num, hlt, H2.out⟩
                      case measure => simp [intOf]; omega
                    · have htk := HM.out
                      rw [fit_end hlt] at htk
                      have HTK : Hid (Calls Try.prog 13 #[.pointer (some ⟨g, 0, none⟩)] _ fun e w' => e = .returned (.tuple #[.int .i64 0, .int .i64 0, .bool false]) ∧ Own8 w g ar cs R [[], []] w') := own_take htk
                      clear htk HM
                      by_cases hl2 : i < lb.length
                      · have hil : (i : Int) < lb.length := by omega
                        have hri : ¬ ((i : Int) < R) := by omega
                        clear hlt
                        go_wp2_with fail
                        refine HTK.out.mono ?_
                        rintro e w2 ⟨rfl, h2⟩
                        have H2 := Lib.hid h2
                        clear h2
                        go_wp2_with fail
                        refine (alive_any8 w2).mono ?_
                        rintro e w5 ⟨rfl, ht⟩
                        have HTa := Lib.hid (H2.out.2.2.trans ht (fun _ _ f => f))
                        clear ht
                        go_wp2
                        go_ret
                        exact ⟨rfl, HTa.out.below (Nat.le_refl _) (fun _ f => f.elim)⟩
                      · have hil : ¬ ((i : Int) < lb.length) := by omega
                        clear hlt
                        go_wp2_with fail
                        refine HTK.out.mono ?_
                        rintro e w2 ⟨rfl, h2⟩
                        have H2 := Lib.hid h2
                        clear h2
                        go_wp2_with fail
                        refine (alive_any8 w2).mono ?_
                        rintro e w5 ⟨rfl, ht⟩
                        have HTa := Lib.hid (H2.out.2.2.trans ht (fun _ _ f => f))
                        clear ht
                        go_wp2
                        go_ret
                        exact ⟨rfl, HTa.out.below (Nat.le_refl _) (fun _ f => f.elim)⟩
  · by_cases h1 : k < 1
    · clear hgood
      go_enter Try.func4, Try.ntmps4
      go_wp2_with fail
      refine (alive_any8 w).mono ?_
      rintro e w5 ⟨rfl, ht⟩
      have HTa := Lib.hid ht
      clear ht
      go_wp2
      go_ret
      exact ⟨rfl, HTa.out.below (Nat.le_refl _) (fun _ f => f.elim)⟩
    · by_cases h2 : 64 < k
      · clear hgood
        go_enter Try.func4, Try.ntmps4
        go_wp2_with fail
        refine (alive_any8 w).mono ?_
        rintro e w5 ⟨rfl, ht⟩
        have HTa := Lib.hid ht
        clear ht
        go_wp2
        go_ret
        exact ⟨rfl, HTa.out.below (Nat.le_refl _) (fun _ f => f.elim)⟩
      · by_cases h3 : 100 < la.length
        · have h3i : (100 : Int) < la.length := by omega
          clear hgood
          go_enter Try.func4, Try.ntmps4
          go_wp2_with fail
          refine (alive_any8 w).mono ?_
          rintro e w5 ⟨rfl, ht⟩
          have HTa := Lib.hid ht
          clear ht
          go_wp2
          go_ret
          exact ⟨rfl, HTa.out.below (Nat.le_refl _) (fun _ f => f.elim)⟩
        · have h3i : ¬ ((100 : Int) < la.length) := by omega
          have h4i : (100 : Int) < lb.length := by omega
          clear hgood
          go_enter Try.func4, Try.ntmps4
          go_wp2_with fail
          refine (alive_any8 w).mono ?_
          rintro e w5 ⟨rfl, ht⟩
          have HTa := Lib.hid ht
          clear ht
          go_wp2
          go_ret
          exact ⟨rfl, HTa.out.below (Nat.le_refl _) (fun _ f => f.elim)⟩

set_option maxRecDepth 100000 in
theorem lifted (os : Os) (started : os.Started) (H : Type) (enc : TypeId × Value → H) :
    ReturnsInHanded {} Try.checked os 4 .any (Rows.laneOrdersSpec.pre6 enc Try.prog Try.f4 Rows.laneOrdersRow.domain false) (Rows.laneOrdersSpec.post enc Try.prog Try.f4 false true false false) := by
  refine returnsInHanded_of_change (C := Try.checked) own started (by kernel_rfl) Try.func4
    (ChangeSpec.witness6 (enc := enc) (C := Try.checked) false ⟨#[], #[.int .i64 0, .slice none 0 0, .slice none 0 0], []⟩ 8 (by kernel_rfl) (by kernel_rfl) (by kernel_rfl) (by kernel_rfl)) ?_
  intro W base args ds gs before hval0 hW hcnd _
  have hval : ∀ (j : Nat) t v, Try.f4.params[j]? = some t → args[j]? = some v → Value.okWide Try.prog W .any base t v := hval0
  have hW' := hW
  obtain ⟨p, q, hA0, hV, rfl, hfz, hnd⟩ := hW
  have hA : DataW.TrodAll enc Try.prog W 0 (fun _ => true) true Try.f4.params.toList args.toList ds p := hA0
  rw [Try.params4] at hA hval
  obtain ⟨v0, vs0, d0, ds0, p0, q0, hargs, rfl, rfl, h0, r0⟩ := trodAll_cons hA
  obtain ⟨v1, vs1, d1, ds1, p1, q1, rfl, rfl, rfl, h1, r1⟩ := trodAll_cons r0
  obtain ⟨v2, vs2, d2, ds2, p2, q2, rfl, rfl, rfl, h2, r2⟩ := trodAll_cons r1
  obtain ⟨rfl, rfl, rfl⟩ := trodAll_nil r2
  obtain rfl : args = #[v0, v1, v2] := by cases args; simp_all
  obtain ⟨rfl, rfl⟩ := trodVars_none hV
  obtain ⟨a0, rfl, rfl, rfl, w0⟩ := open_int Try.underlying3 (hval 0 3 v0 rfl rfl) h0
  have k1 := h1
  have lt1 : ∀ x ∈ p1, x.block < W.heap.size := by obtain ⟨m, hm⟩ := k1; exact DataW.trod_lt m _ _ _ hm
  obtain ⟨a1, len1, cap1, rfl⟩ := okWide_slice Try.underlying35 (hval 1 35 v1 rfl rfl)
  obtain ⟨l1, hp1, hl1, _⟩ := open_nums8 rfl h1
  have k2 := h2
  have lt2 : ∀ x ∈ p2, x.block < W.heap.size := by obtain ⟨m, hm⟩ := k2; exact DataW.trod_lt m _ _ _ hm
  obtain ⟨a2, len2, cap2, rfl⟩ := okWide_slice Try.underlying35 (hval 2 35 v2 rfl rfl)
  obtain ⟨l2, hp2, hl2, _⟩ := open_nums8 rfl h2
  clear hA0 hval0
  refine (walk a0 w0 _ _ l1 l2 W hp1 hp2 hl1 hl2).mono fun e W' ⟨he, bel⟩ => ?_
  subst he
  exact ⟨_, rfl, _, _, _, [], _, [], hW', trodAll_mk1 (shut_bool Try.underlying4 _), (trodAll_cons_mk (shut_int Try.underlying3 w0) (trodAll_cons_mk (Below.trod laidOut (by kernel_rfl) (of_decide_eq_true (by kernel_rfl)) k1 bel lt1) (trodAll_cons_mk (Below.trod laidOut (by kernel_rfl) (of_decide_eq_true (by kernel_rfl)) k2 bel lt2) trodAll_mk0))), rfl, bel.frame _, fun h => by cases h⟩

theorem over : Rows.laneOrdersRow.holds Try.pinned (OpenSpec.ofChange Rows.laneOrdersSpec) :=
  OpenClaim.holds_of_wide 4 Try.f4 rfl rfl rfl rfl rfl rfl rfl ⟨rfl, rfl, rfl, rfl, rfl⟩ rfl rfl rfl rfl rfl (by kernel_rfl) Try.func4 (by kernel_rfl)
    (of_decide_eq_true (by kernel_rfl)) (by unfold Func.isWrapper; first | (rw [if_pos (by decide +kernel)]; kernel_rfl) | (rw [if_neg (by decide +kernel)]; exact ⟨rfl, rfl⟩))
    (fun os started H enc _ => lifted os started H enc)

theorem proved : Rows.LaneOrdersSaid := over
#print axioms proved
end Go.Proofs.Ytemcijfakimkkaa.laneOrders
