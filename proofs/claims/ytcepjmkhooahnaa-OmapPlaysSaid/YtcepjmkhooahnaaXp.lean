
/-
  'OmapPlays': what any acts on a map answer, one behind the other, and how many keys it has. No condition.
-/
import Derived.Test.YtcepjmkhooahnaaHh
import Derived.ProofKit
import Derived.OpenShut
namespace Go.Proofs.Ytcepjmkhooahnaa.omapPlays
open Go.ChangeShapes Go.WideShapes Go.ChangeAt Go.RowKit
set_option linter.unusedVariables false

theorem own : ownKnob Try.prog.godebug = none := by kernel_rfl
theorem laidOut : laidOutB Try.prog = true := by kernel_rfl

open omi

set_option maxRecDepth 100000 in
set_option maxHeartbeats 2000000 in
theorem walk (v : Value) (l : List AC) (w : World) (h : RdE EA w v l) (hlen : l.length ≤ maxLen) :
    Calls Try.prog 3 #[v] w fun e w' => e = .returned (.bool true) ∧ Below w.heap.size w w' := by
  have HV := Lib.hid h
  obtain ⟨A, c, rfl⟩ := h.shape
  unfold maxLen at hlen
  clear h
  by_cases h200 : l.length ≤ 200
  · go_enter Try.func3, Try.ntmps3
    go_wp2_with (go_at_call 9; refine (new_any _).mono ?_; rintro e w1 ⟨rfl, hm, ht⟩; (have HR0 : Hid (Run w w.heap.size w1.heap.size 0 (w1.alloc (.cells #[.slice none 0 0] 29))) := Run.start hm ht (Nat.le_refl _)); clear hm ht)
    go_loopw [5] (fun x5 wr => ∃ i : Nat, x5 = .int .i64 (i : Int) ∧ i ≤ l.length ∧ Run w w.heap.size w1.heap.size i wr) (fun x5 _ => l.length - (intOf x5).toNat)
    case atStart => exact ⟨0, rfl, Nat.zero_le _, HR0.out⟩
    case round =>
      obtain ⟨i, rfl, hi, hr⟩ := hrel
      have HR := Lib.hid hr
      have HT := Lib.hid hr.turn
      obtain ⟨L, sv, h2, hl, hn⟩ := hr.out
      have H2 := Lib.hid h2; have HN := Lib.hid hn
      clear hr h2 hn
      by_cases hlt : i < l.length
      · obtain ⟨a, ha⟩ : ∃ a, l[i]? = some a := ⟨_, List.getElem?_eq_getElem hlt⟩
        obtain ⟨ad, rfl, hc⟩ := ac_at HV.out ha
        have HC := Lib.hid hc; clear hc ha
        have HK : Hid (∀ W, Turn (fun _ => False) w W → (W.cell? (ad.add (i * 3)) = some (.int .i64 a.kind) ∧ W.cell? ⟨(ad.add (i * 3)).block, (ad.add (i * 3)).off + 1, none⟩ = some (.int .i64 a.k) ∧ W.cell? ⟨(ad.add (i * 3)).block, (ad.add (i * 3)).off + 2, none⟩ = some (.string ⟨a.v.toArray⟩)) ∧ Turn (fun _ => False) w W) := fun W ht => ⟨HC.out W ht, ht⟩
        go_wp2_with fail
        obtain ⟨hc0, hc1, hc2⟩ := HC.out _ HT.out
        go_region_with
          (first
            | (go_at_call 10; (with_reducible refine (act_any a w.heap.size w1.heap.size sv L _ (H2.out.later (Turn.refl _ wr).drew) ?_).mono ?_); (focus omega); rintro e w2 ⟨rfl, hac⟩; have hrun := (HR.out.later (Turn.refl _ wr).drew).step (H2.out.later (Turn.refl _ wr).drew) hl HN.out hac; have HR2 := Lib.hid hrun; have HTB := Lib.hid hrun.turn; obtain ⟨M, sv2, h2b, hMl, -⟩ := hrun.out; obtain ⟨A2, c2, hsv⟩ := h2b.r.row.shape; subst hsv; have hobj2 := h2b.r.obj.cell 0; have HLn := Lib.hid (len_any h2b.m); clear hac hrun h2b)
            | (go_at_call 11; (with_reducible refine (HLn.out).mono ?_); rintro e w3 ⟨rfl, rfl⟩)
            | fail)
        all_goals go_wp2
        all_goals go_roundw
        all_goals first
          | exact ⟨i + 1, by go_num, hlt, HR2.out⟩
          | (simp [intOf]; omega)
      · go_wp2_with (go_at_call 8; refine (alive_any6 _).mono ?_; rintro e w5 ⟨rfl, ht⟩; have HTa := Lib.hid (HT.out.trans ht (fun _ _ f => f)); clear ht)
        go_ret
        exact ⟨rfl, HTa.out.below (Nat.le_refl _) (fun _ f => f.elim)⟩
  · go_enter Try.func3, Try.ntmps3
    go_wp2_with (go_at_call 8; refine (alive_any6 _).mono ?_; rintro e w5 ⟨rfl, ht⟩; have HTa := Lib.hid ht; clear ht)
    go_ret
    exact ⟨rfl, HTa.out.below (Nat.le_refl _) (fun _ f => f.elim)⟩

set_option maxRecDepth 100000 in
theorem lifted (os : Os) (started : os.Started) (H : Type) (enc : TypeId × Value → H) :
    ReturnsInHanded {} Try.checked os 3 .any (Rows.omapPlaysSpec.pre6 enc Try.prog Try.f3 Rows.omapPlaysRow.domain false) (Rows.omapPlaysSpec.post enc Try.prog Try.f3 false true false false) := by
  refine returnsInHanded_of_change (C := Try.checked) own started (by kernel_rfl) Try.func3
    (ChangeSpec.witness6 (enc := enc) (C := Try.checked) false ⟨#[], #[.slice none 0 0], []⟩ 8 (by kernel_rfl) (by kernel_rfl) (by kernel_rfl) (by kernel_rfl)) ?_
  intro W base args ds gs before hval0 hW hcnd _
  have hval : ∀ (j : Nat) t v, Try.f3.params[j]? = some t → args[j]? = some v → Value.okWide Try.prog W .any base t v := hval0
  have hW' := hW
  obtain ⟨p, q, hA0, hV, rfl, hfz, hnd⟩ := hW
  have hA : DataW.TrodAll enc Try.prog W 0 (fun _ => true) true Try.f3.params.toList args.toList ds p := hA0
  rw [Try.params3] at hA hval
  obtain ⟨v0, vs0, d0, ds0, p0, q0, hargs, rfl, rfl, h0, r0⟩ := trodAll_cons hA
  obtain ⟨rfl, rfl, rfl⟩ := trodAll_nil r0
  obtain rfl : args = #[v0] := by cases args; simp_all
  obtain ⟨rfl, rfl⟩ := trodVars_none hV
  have k0 := h0
  have lt0 : ∀ x ∈ p0, x.block < W.heap.size := by obtain ⟨m, hm⟩ := k0; exact DataW.trod_lt m _ _ _ hm
  obtain ⟨a0, len0, cap0, rfl⟩ := okWide_slice Try.underlying22 (hval 0 22 v0 rfl rfl)
  obtain ⟨l0, hp0, hl0, hf0⟩ := open_acts rfl h0
  clear hA0 hval0
  refine (walk _ l0 W hp0 hl0).mono fun e W' ⟨he, bel⟩ => ?_
  subst he
  exact ⟨_, rfl, _, _, _, [], _, [], hW', trodAll_mk1 (shut_bool Try.underlying4 _), (trodAll_cons_mk (Below.trod laidOut (by kernel_rfl) (of_decide_eq_true (by kernel_rfl)) k0 bel lt0) trodAll_mk0), rfl, bel.frame _, fun h => by cases h⟩

theorem over : Rows.omapPlaysRow.holds Try.pinned (OpenSpec.ofChange Rows.omapPlaysSpec) :=
  OpenClaim.holds_of_wide 3 Try.f3 rfl rfl rfl rfl rfl rfl rfl ⟨rfl, rfl, rfl, rfl, rfl⟩ rfl rfl rfl rfl rfl (by kernel_rfl) Try.func3 (by kernel_rfl)
    (of_decide_eq_true (by kernel_rfl)) (by unfold Func.isWrapper; first | (rw [if_pos (by decide +kernel)]; kernel_rfl) | (rw [if_neg (by decide +kernel)]; exact ⟨rfl, rfl⟩))
    (fun os started H enc _ => lifted os started H enc)

theorem proved : Rows.OmapPlaysSaid := over
#print axioms proved
end Go.Proofs.Ytcepjmkhooahnaa.omapPlays
