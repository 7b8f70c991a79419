
/-
  The weight of values, by the program and by the document.
-/
import Derived.Test.YtejilonhdgfkbaaMd
namespace Go.Proofs.Ytejilonhdgfkbaa
open Go.RowKit

/-- What Weight answers, as a value. -/
def weighV (l : List Int) : Value := .tuple #[.int .i64 (weighO l).1, .bool (weighO l).2]
theorem weigh_no {l : List Int} {k n : Nat} {x : Int} (hn : weighN (l.take k) = n) (hx : l[k]? = some x) (h : ¬ n + x.natAbs ≤ 4611686018427387904) : Ending.returned (.tuple #[.int .i64 0, .bool false]) = .returned (weighV l) := by
  unfold weighV
  rw [weighO_no (k := k + 1) (by rw [weighN_take hx, hn]; exact h)]
  rfl
theorem weigh_yes {l : List Int} {k n : Nat} (hn : weighN (l.take k) = n) (hk : k = l.length) (h : n ≤ 4611686018427387904) {z : Int} (hz : z = n) : Ending.returned (.tuple #[.int .i64 z, .bool true]) = .returned (weighV l) := by
  rw [hk, List.take_length] at hn
  unfold weighV
  rw [weighO_yes (by rw [hn]; exact h), hn, hz]

set_option maxRecDepth 100000 in
set_option maxHeartbeats 2000000 in
theorem weight_any (v : Value) (l : List Int) (w : World) (hv : RdN .i64 w v l) (hl : l.length ≤ 1000000) (hf : ∀ x ∈ l, fit x = true) :
    Calls Try.prog 34 #[v] w fun e w' => e = .returned (weighV l) ∧ w = w' := by
  have HV := Lib.hid hv
  have HF := Lib.hid hf; clear hf
  obtain ⟨A, c, rfl, _⟩ := hv
  go_enter Try.func34, Try.ntmps34
  go_wp2_with fail
  go_loop [4, 10] (fun x4 x10 => ∃ k n : Nat, x4 = .int .u64 n ∧ x10 = .int .i64 k ∧ k ≤ l.length ∧ weighN (l.take k) = n ∧ n ≤ 4611686018427387904) (fun _ x10 => l.length - (intOf x10).toNat)
  case atStart => exact ⟨0, 0, rfl, rfl, Nat.zero_le _, rfl, by omega⟩
  case round =>
    obtain ⟨k, n, rfl, rfl, hk, hw, hn⟩ := hrel
    have HW := Lib.hid hw; clear hw
    have HN := Lib.hid hn; clear hn
    by_cases hlt : k < l.length
    · obtain ⟨x, hx⟩ : ∃ x, l[k]? = some x := ⟨_, List.getElem?_eq_getElem hlt⟩
      obtain ⟨ad, rfl, hcell⟩ := HV.out.at hx
      have HX := Lib.hid hx; clear hx
      have HS := Lib.hid (cell_size x · (HF.out x (List.mem_of_getElem? HX.out)))
      have he : IntKind.u64.wrap (4611686018427387904 - (n : Int)) = 4611686018427387904 - n := by rw [IntKind.wrap_u64]; have := HN.out; omega
      by_cases hm : n + x.natAbs ≤ 4611686018427387904
      · have hg : decide (4611686018427387904 - (n : Int) < (x.natAbs : Int)) = false := decide_eq_false (by omega)
        have ha : IntKind.u64.wrap ((n : Int) + (x.natAbs : Int)) = ((n + x.natAbs : Nat) : Int) := by rw [IntKind.wrap_u64]; omega
        have HM := Lib.hid hm; clear hm
        generalize hj : x.natAbs = m at *
        go_wp2_with (go_at_call 58; (with_reducible refine (HS.out _).mono ?_); rintro e w' ⟨rfl, rfl⟩)
        go_round
        case rel => exact ⟨k + 1, n + m, rfl, by go_num, by omega, by rw [weighN_take HX.out, HW.out, hj], HM.out⟩
        case measure => simp [intOf]; omega
      · have hg : decide (4611686018427387904 - (n : Int) < (x.natAbs : Int)) = true := decide_eq_true (by omega)
        have HR := Lib.hid (weigh_no HW.out HX.out hm); clear hm
        generalize hj : x.natAbs = m at *
        go_wp2_with (go_at_call 58; (with_reducible refine (HS.out _).mono ?_); rintro e w' ⟨rfl, rfl⟩)
        go_ret2
        exact ⟨HR.out, rfl⟩
    · have he : IntKind.i64.wrap (n : Int) = n := IntWalk.i64_in _ (by have := HN.out; omega)
      have HR := Lib.hid (weigh_yes HW.out (by omega) HN.out rfl)
      go_wp2
      go_ret2
      exact ⟨HR.out, rfl⟩

set_option maxRecDepth 100000 in
set_option maxHeartbeats 2000000 in
theorem ref_weight (v : Value) (l : List Int) (w : World) (hv : RdN .i64 w v l) (hl : l.length ≤ 1000000) :
    Calls Try.prog 35 #[v] w fun e w' => e = .returned (weighV l) ∧ w = w' := by
  have HV := Lib.hid hv
  obtain ⟨A, c, rfl, _⟩ := hv
  go_enter Try.func35, Try.ntmps35
  go_wp2_with fail
  go_loop [4, 5] (fun x4 x5 => ∃ k n : Nat, x4 = .int .i64 n ∧ x5 = .int .i64 k ∧ k ≤ l.length ∧ weighN (l.take k) = n ∧ n ≤ 4611686018427387904) (fun _ x5 => l.length - (intOf x5).toNat)
  case atStart => exact ⟨0, 0, rfl, rfl, Nat.zero_le _, rfl, by omega⟩
  case round =>
    obtain ⟨k, n, rfl, rfl, hk, hw, hn⟩ := hrel
    have HW := Lib.hid hw; clear hw
    have HN := Lib.hid hn; clear hn
    by_cases hlt : k < l.length
    · obtain ⟨x, hx⟩ : ∃ x, l[k]? = some x := ⟨_, List.getElem?_eq_getElem hlt⟩
      obtain ⟨ad, rfl, hcell⟩ := HV.out.at hx
      have HX := Lib.hid hx; clear hx
      have HS := Lib.hid (ref_size x ·)
      have he : wrap64 (4611686018427387904 - (n : Int)) = 4611686018427387904 - n := by unfold wrap64; have := HN.out; omega
      have hc := sizeC_over (x := x) HN.out
      by_cases hm : n + x.natAbs ≤ 4611686018427387904
      · have hg : decide (4611686018427387904 - (n : Int) < (sizeC x : Int)) = false := decide_eq_false (fun g => hc.1 g hm)
        have hs := sizeC_small hm
        have ha : wrap64 ((n : Int) + (sizeC x : Int)) = ((n + x.natAbs : Nat) : Int) := by rw [hs]; unfold wrap64; omega
        have HM := Lib.hid hm; clear hm hc hs
        generalize sizeC x = m at *
        go_wp2_with (go_at_call 59; (with_reducible refine (HS.out _).mono ?_); rintro e w' ⟨rfl, rfl⟩)
        go_round
        case rel => exact ⟨k + 1, n + x.natAbs, by rw [ha], by go_num, by omega, by rw [weighN_take HX.out, HW.out], HM.out⟩
        case measure => simp [intOf]; omega
      · have hg : decide (4611686018427387904 - (n : Int) < (sizeC x : Int)) = true := decide_eq_true (hc.2 hm)
        have HR := Lib.hid (weigh_no HW.out HX.out hm); clear hm hc
        generalize sizeC x = m at *
        go_wp2_with (go_at_call 59; (with_reducible refine (HS.out _).mono ?_); rintro e w' ⟨rfl, rfl⟩)
        go_ret2
        exact ⟨HR.out, rfl⟩
    · have HR := Lib.hid (weigh_yes HW.out (by omega) HN.out rfl)
      go_wp2
      go_ret2
      exact ⟨HR.out, rfl⟩

end Go.Proofs.Ytejilonhdgfkbaa
