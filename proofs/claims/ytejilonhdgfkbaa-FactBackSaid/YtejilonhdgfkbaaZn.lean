
/-
  Stage 9: lists of numbers held against each other; what light facts are.
-/
import Derived.Test.YtejilonhdgfkbaaZf
import Derived.Test.YtejilonhdgfkbaaZp
namespace Go.Proofs.Ytejilonhdgfkbaa
open Go.RowKit

set_option maxRecDepth 100000

theorem light_len9 {l : List F9} (h : light9 l = true) : l.length ≤ 100 := by
  unfold light9 at h
  rw [Bool.and_eq_true, decide_eq_true_iff] at h
  exact h.1

theorem readB_len {m : List UInt8} {n : Int} : (readB m n).2.length ≤ 1000 := by
  by_cases h : (readB m n).1 = 0
  · have e : readB m n = (0, (readB m n).2) := by rw [← h]
    obtain ⟨_, h2⟩ := readB_there e
    have := (all_good h2).2.1
    omega
  · rw [readB_none h]
    exact Nat.zero_le _
theorem batch_len9 {l : List F9} {n : Int} (h : (allB l n).1 = 0) : (batchB l n.toNat).length ≤ 100000 := by
  obtain ⟨h1, h2, h3, _⟩ := all_good h
  have h4 := partB_len (l := l) (n := n.toNat) (by omega) (fun f hf => good_chk (h3 f hf)) l.length
  rw [partB_all] at h4
  omega

set_option maxHeartbeats 4000000 in
theorem same_nums9 (a b : Value) (L : List Int) (w : World) (ha : RdE EN9 w a L) (hb : RdE EN9 w b L) (hl : L.length ≤ 1000000) :
    Calls Try.prog 18 #[a, b] w fun e w' => e = .returned (.bool true) ∧ Turn (fun _ => False) w w' := by
  have HA := Lib.hid ha; have HB := Lib.hid hb
  obtain ⟨A, c, rfl⟩ := ha.shape
  obtain ⟨B, d, rfl⟩ := hb.shape
  clear ha hb
  go_enter Try.func18, Try.ntmps18
  go_wp2_with fail
  go_loopw [5] (fun x5 wr => ∃ i : Nat, x5 = .int .i64 (i : Int) ∧ i ≤ L.length ∧ ∃ n, wr = w.drewN n) (fun x5 _ => L.length - (intOf x5).toNat)
  case atStart => exact ⟨0, rfl, Nat.zero_le _, 0, rfl⟩
  case round =>
    obtain ⟨i, rfl, hi, n, rfl⟩ := hrel
    by_cases hlt : i < L.length
    · obtain ⟨x, hx⟩ : ∃ x, L[i]? = some x := ⟨_, List.getElem?_eq_getElem hlt⟩
      obtain ⟨ad, rfl, hc⟩ := num_at9 HA.out hx
      obtain ⟨bd, rfl, hd⟩ := num_at9 HB.out hx
      have e0 := hc w (Turn.refl _ _)
      have e2 := hd w (Turn.refl _ _)
      clear hc hd hx
      have hil : (i : Int) < L.length := by omega
      go_wp2_with fail
      go_quiet (fail)
      go_wp2
      go_roundw
      case rel => exact ⟨i + 1, by go_num, hlt, n + nq, by simp [World.drewN]⟩
      case measure => simp [intOf]; omega
    · obtain rfl : i = L.length := by omega
      go_wp2
      go_ret
      exact ⟨rfl, (Turn.refl _ w).drewN _⟩

end Go.Proofs.Ytejilonhdgfkbaa
