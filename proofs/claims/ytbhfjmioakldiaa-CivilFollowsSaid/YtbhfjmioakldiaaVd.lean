
/-
  'CivilFollows': each day follows the one ahead by the program alone: its date, its number, its month. No condition.
-/
import Derived.Test.YtbhfjmioakldiaaKj
import Derived.Test.YtbhfjmioakldiaaKl
import Derived.ProofKit
import Derived.OpenShut
namespace Go.Proofs.Ytbhfjmioakldiaa.civilFollows
open Go.ChangeShapes Go.WideShapes Go.ChangeAt Go.RowKit
set_option linter.unusedVariables false

theorem own : ownKnob Try.prog.godebug = none := by kernel_rfl
theorem laidOut : laidOutB Try.prog = true := by kernel_rfl

set_option maxRecDepth 100000 in
theorem calls {N u v x : Nat} (h : N ≤ 1048576) (e : dateOf N = (u, v, x)) :
    ∃ M A B : Nat, A ≤ N ∧ N < B ∧ (∀ w, Calls Try.prog 16 #[.int .i64 u, .int .i64 v, .int .i64 x] w fun e w' => e = .returned (.tuple #[.int .i64 N, .bool true]) ∧ ∃ k, w' = w.drewN k) ∧
      (∀ w, Calls Try.prog 20 #[.int .i64 N] w fun e w' => e = .returned (.int .i64 M) ∧ ∃ k, w' = w.drewN k) ∧
      (∀ w, Calls Try.prog 18 #[.int .i64 M] w fun e w' => e = .returned (.tuple #[.int .i64 A, .int .i64 B]) ∧ ∃ k, w' = w.drewN k) := by
  obtain ⟨g1, g2, g3, g4, g5, g6, g7, g8, g9, g10, g11⟩ := asks h e
  refine ⟨12 * (u - 1970) + (v - 1), num u v 1, num u v 1 + mlen u v, g10, g11, fun w => ?_, fun w => ?_, fun w => ?_⟩
  · have := number_any u v x w
    rw [← numV_yes g1 g2 g5 g6 _ rfl, g7] at this
    exact this
  · have := month_any N w (by omega)
    rw [e] at this
    exact this
  · have := span_any (12 * (u - 1970) + (v - 1)) w (by omega)
    rw [g8, g9, show 1970 + (u - 1970) = u by omega, show v - 1 + 1 = v by omega] at this
    exact this
theorem date_to {N u v x : Nat} (n : Int) (hn : n = N) (h : N ≤ 1048576) (e : dateOf N = (u, v, x)) (w : World) :
    Calls Try.prog 14 #[.int .i64 n] w fun e w' => e = .returned (.tuple #[.int .i64 u, .int .i64 v, .int .i64 x]) ∧ ∃ k, w' = w.drewN k := by
  subst hn
  have := date_any N w (by omega)
  unfold dateV at this
  rw [e] at this
  exact this

set_option maxRecDepth 100000 in
set_option maxHeartbeats 2000000 in
theorem walk (a0 : Int) (w0 : (Lit.int .i64 a0).wf = true) (w : World) :
    Calls Try.prog 7 #[.int .i64 a0] w fun e w' => e = .returned (.bool true) ∧ Below w.heap.size w w' := by
  clear w0
  by_cases h1 : a0 < 1
  · go_enter Try.func7, Try.ntmps7
    go_wp2_with (go_at_call 9; refine (alive_any4 _).mono ?_; rintro e w5 ⟨rfl, ht⟩; have HT := Lib.hid ht; clear ht)
    go_ret
    exact ⟨rfl, HT.out.below (Nat.le_refl _) (fun _ f => f.elim)⟩
  by_cases h2 : a0 > 1048576
  · go_enter Try.func7, Try.ntmps7
    go_wp2_with (go_at_call 9; refine (alive_any4 _).mono ?_; rintro e w5 ⟨rfl, ht⟩; have HT := Lib.hid ht; clear ht)
    go_ret
    exact ⟨rfl, HT.out.below (Nat.le_refl _) (fun _ f => f.elim)⟩
  obtain ⟨N, rfl⟩ := Int.eq_ofNat_of_zero_le (a := a0) (by omega)
  obtain ⟨P, hNP⟩ : ∃ P, N = P + 1 := ⟨N - 1, by omega⟩
  obtain ⟨⟨y, m, d⟩, hp⟩ : ∃ t, dateOf P = t := ⟨_, rfl⟩
  obtain ⟨g1, g2, g3, g4, g5, g6, g7, _⟩ := asks (by omega) hp
  have HP := Lib.hid (date_to ((N : Int) - 1) (by omega) (by omega) hp)
  have hL := Lib.hid (length_at (y : Int) m y m rfl rfl (by omega))
  have bN : N ≤ 1048576 := by omega
  rcases follows hp ⟨g1, g3, g4, g5, g6⟩ g7 with ⟨c1, c2⟩ | ⟨c1, c3, c2⟩ | ⟨c1, c3, c2⟩
  · rw [← hNP] at c2
    obtain ⟨M, A, B, l1, l2, k1, k2, k3⟩ := calls bN c2
    have HN := Lib.hid (date_to (N : Int) rfl bN c2)
    have K1 := Lib.hid k1
    have K2 := Lib.hid k2
    have K3 := Lib.hid k3
    have bd : d ≤ 31 := by have := mlen_le y m; omega
    clear c1
    clear k1 k2 k3 c2 hp g7 g6 hNP
    go_enter Try.func7, Try.ntmps7
    go_wp2_with (first
      | (go_at_call 14; (with_reducible refine (HP.out _).mono ?_); rintro e w' ⟨rfl, k, rfl⟩)
      | (go_at_call 14; (with_reducible refine (HN.out _).mono ?_); rintro e w' ⟨rfl, k2, rfl⟩)
      | (go_at_call 12; refine (hL.out _).mono ?_; rintro e w' ⟨rfl, rfl⟩)
      | (go_at_call 16; refine (K1.out _).mono ?_; rintro e w' ⟨rfl, k3, rfl⟩)
      | (go_at_call 20; refine (K2.out _).mono ?_; rintro e w' ⟨rfl, k4, rfl⟩)
      | (go_at_call 18; refine (K3.out _).mono ?_; rintro e w' ⟨rfl, k5, rfl⟩)
      | (go_at_call 9; refine (alive_any4 _).mono ?_; rintro e w5 ⟨rfl, ht⟩; have HT := Lib.hid ht; clear ht))
    go_ret
    exact ⟨rfl, (((Turn.refl (fun _ => False) w).drewN _).trans HT.out (fun _ _ f => f)).below (Nat.le_refl _) (fun _ f => f.elim)⟩
  · rw [← hNP] at c2
    obtain ⟨M, A, B, l1, l2, k1, k2, k3⟩ := calls bN c2
    have HN := Lib.hid (date_to (N : Int) rfl bN c2)
    have K1 := Lib.hid k1
    have K2 := Lib.hid k2
    have K3 := Lib.hid k3
    have bd : d ≤ 31 := by have := mlen_le y m; omega
    have bl : mlen y m ≤ 31 := mlen_le y m
    rw [← c1] at hL
    clear c1
    clear k1 k2 k3 c2 hp g7 g6 hNP
    go_enter Try.func7, Try.ntmps7
    go_wp2_with (first
      | (go_at_call 14; (with_reducible refine (HP.out _).mono ?_); rintro e w' ⟨rfl, k, rfl⟩)
      | (go_at_call 14; (with_reducible refine (HN.out _).mono ?_); rintro e w' ⟨rfl, k2, rfl⟩)
      | (go_at_call 12; refine (hL.out _).mono ?_; rintro e w' ⟨rfl, rfl⟩)
      | (go_at_call 16; refine (K1.out _).mono ?_; rintro e w' ⟨rfl, k3, rfl⟩)
      | (go_at_call 20; refine (K2.out _).mono ?_; rintro e w' ⟨rfl, k4, rfl⟩)
      | (go_at_call 18; refine (K3.out _).mono ?_; rintro e w' ⟨rfl, k5, rfl⟩)
      | (go_at_call 9; refine (alive_any4 _).mono ?_; rintro e w5 ⟨rfl, ht⟩; have HT := Lib.hid ht; clear ht))
    go_ret
    exact ⟨rfl, (((Turn.refl (fun _ => False) w).drewN _).trans HT.out (fun _ _ f => f)).below (Nat.le_refl _) (fun _ f => f.elim)⟩
  · rw [← hNP] at c2
    obtain ⟨M, A, B, l1, l2, k1, k2, k3⟩ := calls bN c2
    have HN := Lib.hid (date_to (N : Int) rfl bN c2)
    have K1 := Lib.hid k1
    have K2 := Lib.hid k2
    have K3 := Lib.hid k3
    have bd : d ≤ 31 := by have := mlen_le y m; omega
    have gy : y + 1 ≤ 4900 := (asks bN c2).2.1
    subst c1 c3
    clear k1 k2 k3 c2 hp g7 g6 hNP
    go_enter Try.func7, Try.ntmps7
    go_wp2_with (first
      | (go_at_call 14; (with_reducible refine (HP.out _).mono ?_); rintro e w' ⟨rfl, k, rfl⟩)
      | (go_at_call 14; (with_reducible refine (HN.out _).mono ?_); rintro e w' ⟨rfl, k2, rfl⟩)
      | (go_at_call 12; refine (hL.out _).mono ?_; rintro e w' ⟨rfl, rfl⟩)
      | (go_at_call 16; refine (K1.out _).mono ?_; rintro e w' ⟨rfl, k3, rfl⟩)
      | (go_at_call 20; refine (K2.out _).mono ?_; rintro e w' ⟨rfl, k4, rfl⟩)
      | (go_at_call 18; refine (K3.out _).mono ?_; rintro e w' ⟨rfl, k5, rfl⟩)
      | (go_at_call 9; refine (alive_any4 _).mono ?_; rintro e w5 ⟨rfl, ht⟩; have HT := Lib.hid ht; clear ht))
    go_ret
    exact ⟨rfl, (((Turn.refl (fun _ => False) w).drewN _).trans HT.out (fun _ _ f => f)).below (Nat.le_refl _) (fun _ f => f.elim)⟩

set_option maxRecDepth 100000 in
theorem lifted (os : Os) (started : os.Started) (H : Type) (enc : TypeId × Value → H) :
    ReturnsInHanded {} Try.checked os 7 .any (Rows.civilFollowsSpec.pre6 enc Try.prog Try.f7 Rows.civilFollowsRow.domain false) (Rows.civilFollowsSpec.post enc Try.prog Try.f7 false true false false) := by
  refine returnsInHanded_of_change (C := Try.checked) own started (by kernel_rfl) Try.func7
    (ChangeSpec.witness6 (enc := enc) (C := Try.checked) false ⟨#[], #[.int .i64 0], []⟩ 8 (by kernel_rfl) (by kernel_rfl) (by kernel_rfl) (by kernel_rfl)) ?_
  intro W base args ds gs before hval0 hW hcnd _
  have hval : ∀ (j : Nat) t v, Try.f7.params[j]? = some t → args[j]? = some v → Value.okWide Try.prog W .any base t v := hval0
  have hW' := hW
  obtain ⟨p, q, hA0, hV, rfl, hfz, hnd⟩ := hW
  have hA : DataW.TrodAll enc Try.prog W 0 (fun _ => true) true Try.f7.params.toList args.toList ds p := hA0
  rw [Try.params7] at hA hval
  obtain ⟨v0, vs0, d0, ds0, p0, q0, hargs, rfl, rfl, h0, r0⟩ := trodAll_cons hA
  obtain ⟨rfl, rfl, rfl⟩ := trodAll_nil r0
  obtain rfl : args = #[v0] := by cases args; simp_all
  obtain ⟨rfl, rfl⟩ := trodVars_none hV
  obtain ⟨a0, rfl, rfl, rfl, w0⟩ := open_int Try.underlying2 (hval 0 2 v0 rfl rfl) h0
  clear hA0 hval0
  simp only [List.append_nil] at hW'
  refine (walk a0 w0 W).mono fun e W' ⟨he, bel⟩ => ?_
  subst he
  exact ⟨_, rfl, _, _, _, [], [], [], hW', trodAll_mk1 (shut_bool Try.underlying4 _), (trodAll_cons_mk (shut_int Try.underlying2 w0) trodAll_mk0), rfl, bel.frame _, fun h => by cases h⟩

theorem over : Rows.civilFollowsRow.holds Try.pinned (OpenSpec.ofChange Rows.civilFollowsSpec) :=
  OpenClaim.holds_of_wide 7 Try.f7 rfl rfl rfl rfl rfl rfl rfl ⟨rfl, rfl, rfl, rfl, rfl⟩ rfl rfl rfl rfl rfl (by kernel_rfl) Try.func7 (by kernel_rfl)
    (of_decide_eq_true (by kernel_rfl)) (by unfold Func.isWrapper; first | (rw [if_pos (by decide +kernel)]; kernel_rfl) | (rw [if_neg (by decide +kernel)]; exact ⟨rfl, rfl⟩))
    (fun os started H enc _ => lifted os started H enc)

theorem proved : Rows.CivilFollowsSaid := over
#print axioms proved
end Go.Proofs.Ytbhfjmioakldiaa.civilFollows
