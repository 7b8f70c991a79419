
/-
  'LanePlays': what any acts on lanes answer, one behind the other, and how long a lane is. No condition.
-/
import Derived.Test.YtemcijfakimkkaaYi
import Derived.Test.YtemcijfakimkkaaYo
import Derived.ProofKit
import Derived.OpenShut
namespace Go.Proofs.Ytemcijfakimkkaa.lanePlays
open Go.ChangeShapes Go.WideShapes Go.ChangeAt Go.RowKit
set_option linter.unusedVariables false

theorem own : ownKnob Try.prog.godebug = none := by kernel_rfl
theorem laidOut : laidOutB Try.prog = true := by kernel_rfl

set_option maxRecDepth 100000 in
set_option maxHeartbeats 8000000 in
theorem walk (n : Int) (_wn : (Lit.int .i64 n).wf = true) (k : Int) (_wk : (Lit.int .i64 k).wf = true) (v : Value) (l : List A8) (w : World) (h : RdE EA8 w v l) (hlen : l.length ≤ maxLen) :
    Calls Try.prog 3 #[.int .i64 n, .int .i64 k, v] w fun e w' => e = .returned (.bool true) ∧ Below w.heap.size w w' := by
  have HV := Lib.hid h
  obtain ⟨A, c, rfl⟩ := h.shape
  unfold maxLen at hlen
  clear h _wn _wk
  by_cases h150 : l.length ≤ 150
  · by_cases hbad : bad8 n k
    · have HN := Lib.hid (new_bad n k w hbad)
      have HR := Lib.hid (rnew_bad n k w hbad)
      clear hbad
      go_enter Try.func3, Try.ntmps3
      go_wp2_with fail
      refine HN.out.mono ?_
      rintro e w' ⟨rfl, rfl⟩
      go_wp2_with fail
      refine HR.out.mono ?_
      rintro e w' ⟨rfl, rfl⟩
      go_wp2_with fail
      refine (alive_any8 w).mono ?_
      rintro e w5 ⟨rfl, ht⟩
      have HTa := Lib.hid ht
      clear ht
      go_wp2
      go_ret
      exact ⟨rfl, HTa.out.below (Nat.le_refl _) (fun _ f => f.elim)⟩
    · unfold bad8 at hbad
      obtain ⟨N, rfl⟩ := Int.eq_ofNat_of_zero_le (show 0 ≤ n by omega)
      obtain ⟨R, rfl⟩ := Int.eq_ofNat_of_zero_le (show 0 ≤ k by omega)
      have HN := Lib.hid (own_new N R w w (Turn.refl _ w) (by omega) (by omega) (by omega) (by omega))
      have HRN : Hid (∀ W, Calls Try.prog 8 #[.int .i64 (N : Int), .int .i64 (R : Int)] W fun e w' => e = .returned (.tuple #[.pointer (some ⟨W.heap.size + 1, 0, none⟩), .int .i64 0]) ∧ LR w' (W.heap.size + 1) W.heap.size R (List.replicate N []) ∧ Turn (fun _ => False) W w') := fun W => rnew_good N R W (by omega) (by omega) (by omega) (by omega)
      clear hbad
      go_enter Try.func3, Try.ntmps3
      go_wp2_with fail
      refine HN.out.mono ?_
      rintro e w1 ⟨g, ar, cs, rfl, h1, -⟩
      have H1 := Lib.hid h1
      clear h1
      go_wp2_with fail
      refine (HRN.out w1).mono ?_
      rintro e w2 ⟨rfl, h2, t2⟩
      have HR0 : Hid (Run8 w g ar cs (w1.heap.size + 1) w1.heap.size R w2) := ⟨_, (H1.out.later t2).1, h2, H1.out.2.1, H1.out.2.2.size, (H1.out.later t2).2.2⟩
      generalize w1.heap.size + 1 = g2 at *
      generalize w1.heap.size = ar2 at *
      clear h2 t2 H1 HN HRN
      go_wp2_with fail
      go_loopw [11] (fun x11 wr => ∃ i : Nat, x11 = .int .i64 (i : Int) ∧ i ≤ l.length ∧ Run8 w g ar cs g2 ar2 R wr) (fun x11 _ => l.length - (intOf x11).toNat)
      case atStart => exact ⟨0, rfl, Nat.zero_le _, HR0.out⟩
      case round =>
        obtain ⟨i, rfl, hi, hm⟩ := hrel
        have HM := Lib.hid hm
        have HTM : Hid (Turn (fun _ => False) w wr) := by obtain ⟨LL, h⟩ := hm; exact h.turn
        clear hm
        by_cases hlt : i < l.length
        · obtain ⟨a, ha⟩ : ∃ a, l[i]? = some a := ⟨_, List.getElem?_eq_getElem hlt⟩
          obtain ⟨ad, rfl, hc⟩ := act_at8 HV.out ha
          have HC := Lib.hid hc
          obtain ⟨c0, c1, c2⟩ := hc wr HTM.out
          have hil : (i : Int) < l.length := by omega
          obtain ⟨kd, ln, x⟩ := a
          clear hc ha
          go_wp2_with fail
          refine (act_any8 kd ln x HM.out).mono ?_
          rintro e w3 ⟨rfl, LL, h3⟩
          have H3 := Lib.hid h3
          have HC3 : Hid (∀ W, Turn (fun _ => False) w3 W → W.cell? ⟨(ad.add (i * 3)).block, (ad.add (i * 3)).off + 1, none⟩ = some (.int .i64 ln)) := fun W ht => (HC.out W (h3.turn.trans ht (fun _ _ f => f))).2.1
          have HLEN : Hid (∀ W, Turn (fun _ => False) w3 W → Calls Try.prog 11 #[.pointer (some ⟨g, 0, none⟩), .int .i64 ln] W fun e w' => e = .returned (.int .i64 (lenN LL ln : Int)) ∧ W = w') := fun W ht => lp_len ln (h3.p.later ht)
          have HRUN : Hid (∀ W, Turn (fun _ => False) w3 W → Run8 w g ar cs g2 ar2 R W) := fun W ht => ⟨LL, h3.later ht⟩
          have hh := h3.r.head
          clear h3 c0 c1 c2 HM
          have d1 := HC3.out w3 (Turn.refl _ w3)
          rcases at8_cases LL ln with ⟨e0, hno⟩ | ⟨j, m, rfl, hj, e0⟩
          · have HHAS := Lib.hid (rhas_no g2 _ _ _ ln w3 hh hno)
            have hl0 : lenN LL ln = 0 := by unfold lenN; rw [e0]
            rw [hl0] at HLEN
            clear hno e0 hl0 hh
            go_wp2_with fail
            refine HHAS.out.mono ?_
            rintro e w4 ⟨rfl, rfl⟩
            go_wp2_with fail
            refine (HLEN.out w3 (Turn.refl _ w3)).mono ?_
            rintro e w4 ⟨rfl, rfl⟩
            go_wp2
            go_roundw
            case rel => exact ⟨i + 1, by go_num, hlt, HRUN.out _ (Turn.refl _ w3)⟩
            case measure => simp [intOf]; omega
          · obtain ⟨B, cB, nB, hjn, -, -, -, hs⟩ := H3.out.r.lane hj
            obtain ⟨⟨-, b1, b2⟩, -⟩ := hs w3 (Turn.refl _ w3)
            have HHAS := Lib.hid (rhas_yes g2 _ _ _ j w3 b1 hjn)
            have hl0 : lenN LL (j : Int) = m.length := by unfold lenN; rw [e0]
            rw [hl0] at HLEN
            have hji : (j : Int) < nB := by omega
            clear e0 hl0 hh hs hj
            go_wp2_with fail
            refine HHAS.out.mono ?_
            rintro e w4 ⟨rfl, rfl⟩
            go_wp2_with fail
            go_quiet (fail)
            have d2 := HC3.out (w3.drewN nq) ((Turn.refl _ w3).drewN nq)
            go_wp2_with fail
            refine (HLEN.out (w3.drewN nq) ((Turn.refl _ w3).drewN nq)).mono ?_
            rintro e w4 ⟨rfl, rfl⟩
            go_wp2
            go_roundw
            case rel => exact ⟨i + 1, by go_num, hlt, HRUN.out _ ((Turn.refl _ w3).drewN nq)⟩
            case measure => simp [intOf]; omega
        · obtain rfl : i = l.length := by omega
          go_wp2_with fail
          refine (alive_any8 wr).mono ?_
          rintro e w5 ⟨rfl, ht⟩
          have HTa := Lib.hid (HTM.out.trans ht (fun _ _ f => f))
          clear ht
          go_wp2
          go_ret
          exact ⟨rfl, HTa.out.below (Nat.le_refl _) (fun _ f => f.elim)⟩
  · go_enter Try.func3, Try.ntmps3
    go_wp2_with fail
    refine (alive_any8 w).mono ?_
    rintro e w5 ⟨rfl, ht⟩
    have HTa := Lib.hid ht
    clear ht
    go_wp2
    go_ret
    exact ⟨rfl, HTa.out.below (Nat.le_refl _) (fun _ f => f.elim)⟩

set_option maxRecDepth 100000 in
theorem lifted (os : Os) (started : os.Started) (H : Type) (enc : TypeId × Value → H) :
    ReturnsInHanded {} Try.checked os 3 .any (Rows.lanePlaysSpec.pre6 enc Try.prog Try.f3 Rows.lanePlaysRow.domain false) (Rows.lanePlaysSpec.post enc Try.prog Try.f3 false true false false) := by
  refine returnsInHanded_of_change (C := Try.checked) own started (by kernel_rfl) Try.func3
    (ChangeSpec.witness6 (enc := enc) (C := Try.checked) false ⟨#[], #[.int .i64 0, .int .i64 0, .slice none 0 0], []⟩ 8 (by kernel_rfl) (by kernel_rfl) (by kernel_rfl) (by kernel_rfl)) ?_
  intro W base args ds gs before hval0 hW hcnd _
  have hval : ∀ (j : Nat) t v, Try.f3.params[j]? = some t → args[j]? = some v → Value.okWide Try.prog W .any base t v := hval0
  have hW' := hW
  obtain ⟨p, q, hA0, hV, rfl, hfz, hnd⟩ := hW
  have hA : DataW.TrodAll enc Try.prog W 0 (fun _ => true) true Try.f3.params.toList args.toList ds p := hA0
  rw [Try.params3] at hA hval
  obtain ⟨v0, vs0, d0, ds0, p0, q0, hargs, rfl, rfl, h0, r0⟩ := trodAll_cons hA
  obtain ⟨v1, vs1, d1, ds1, p1, q1, rfl, rfl, rfl, h1, r1⟩ := trodAll_cons r0
  obtain ⟨v2, vs2, d2, ds2, p2, q2, rfl, rfl, rfl, h2, r2⟩ := trodAll_cons r1
  obtain ⟨rfl, rfl, rfl⟩ := trodAll_nil r2
  obtain rfl : args = #[v0, v1, v2] := by cases args; simp_all
  obtain ⟨rfl, rfl⟩ := trodVars_none hV
  obtain ⟨a0, rfl, rfl, rfl, w0⟩ := open_int Try.underlying3 (hval 0 3 v0 rfl rfl) h0
  obtain ⟨a1, rfl, rfl, rfl, w1⟩ := open_int Try.underlying3 (hval 1 3 v1 rfl rfl) h1
  have k2 := h2
  have lt2 : ∀ x ∈ p2, x.block < W.heap.size := by obtain ⟨m, hm⟩ := k2; exact DataW.trod_lt m _ _ _ hm
  obtain ⟨a2, len2, cap2, rfl⟩ := okWide_slice Try.underlying22 (hval 2 22 v2 rfl rfl)
  obtain ⟨l2, hp2, hl2, _⟩ := open_acts8 rfl h2
  clear hA0 hval0
  refine (walk a0 w0 a1 w1 _ l2 W hp2 hl2).mono fun e W' ⟨he, bel⟩ => ?_
  subst he
  exact ⟨_, rfl, _, _, _, [], _, [], hW', trodAll_mk1 (shut_bool Try.underlying4 _), (trodAll_cons_mk (shut_int Try.underlying3 w0) (trodAll_cons_mk (shut_int Try.underlying3 w1) (trodAll_cons_mk (Below.trod laidOut (by kernel_rfl) (of_decide_eq_true (by kernel_rfl)) k2 bel lt2) trodAll_mk0))), rfl, bel.frame _, fun h => by cases h⟩

theorem over : Rows.lanePlaysRow.holds Try.pinned (OpenSpec.ofChange Rows.lanePlaysSpec) :=
  OpenClaim.holds_of_wide 3 Try.f3 rfl rfl rfl rfl rfl rfl rfl ⟨rfl, rfl, rfl, rfl, rfl⟩ rfl rfl rfl rfl rfl (by kernel_rfl) Try.func3 (by kernel_rfl)
    (of_decide_eq_true (by kernel_rfl)) (by unfold Func.isWrapper; first | (rw [if_pos (by decide +kernel)]; kernel_rfl) | (rw [if_neg (by decide +kernel)]; exact ⟨rfl, rfl⟩))
    (fun os started H enc _ => lifted os started H enc)

theorem proved : Rows.LanePlaysSaid := over
#print axioms proved
end Go.Proofs.Ytemcijfakimkkaa.lanePlays
