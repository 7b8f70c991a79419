
/-
  Stage 9: the document's All; facts held against each other.
-/
import Derived.Test.YtejilonhdgfkbaaZd
namespace Go.Proofs.Ytejilonhdgfkbaa
open Go.RowKit

set_option maxRecDepth 100000

/-- What All answers, as a value. -/
def allV (l : List F9) (n : Int) : Value := .tuple #[.int .i64 (allB l n).1, .int .i64 (allB l n).2]
theorem allV_bad {l : List F9} {n : Int} (h : ¬ (1 ≤ n ∧ n ≤ 4 ∧ 1 ≤ l.length ∧ l.length ≤ 50)) : allV l n = .tuple #[.int .i64 1, .int .i64 0] := by
  unfold allV allB
  rw [if_neg]
  intro ⟨h1, h2, h3⟩
  unfold okDims at h1
  simp only [Bool.and_eq_true, decide_eq_true_iff] at h1
  exact h ⟨h1.1, h1.2, h2, h3⟩
theorem allV_at {l : List F9} {n : Int} (h : 1 ≤ n ∧ n ≤ 4 ∧ 1 ≤ l.length ∧ l.length ≤ 50) {a b : Int} (e : badAt n l 0 = (a, b)) : allV l n = .tuple #[.int .i64 a, .int .i64 b] := by
  unfold allV allB
  rw [if_pos ⟨by unfold okDims; simp [h.1, h.2.1], h.2.2⟩, e]

set_option maxHeartbeats 4000000 in
theorem ref_all9 (v : Value) (l : List F9) (n : Int) (w : World) (hv : RdE EF w v l) (hl : l.length ≤ 1000000) : Calls Try.prog 15 #[v, .int .i64 n] w fun e w' => e = .returned (allV l n) ∧ Turn (fun _ => False) w w' := by
  have HV := Lib.hid hv
  obtain ⟨A, c, rfl⟩ := hv.shape
  clear hv
  by_cases hg : 1 ≤ n ∧ n ≤ 4 ∧ 1 ≤ l.length ∧ l.length ≤ 50
  · have HG := Lib.hid hg
    obtain ⟨g1, g2, g3, g4⟩ := hg
    have g3' : (1 : Int) ≤ l.length := by omega
    have g4' : (l.length : Int) ≤ 50 := by omega
    go_enter Try.func15, Try.ntmps15
    go_wp2_with fail
    go_loopw [6] (fun x6 wr => ∃ i : Nat, x6 = .int .i64 (i : Int) ∧ i ≤ l.length ∧ badAt n l 0 = badAt n (l.drop i) i ∧ Turn (fun _ => False) w wr) (fun x6 _ => l.length - (intOf x6).toNat)
    case atStart => exact ⟨0, rfl, Nat.zero_le _, rfl, Turn.refl _ w⟩
    case round =>
      obtain ⟨i, rfl, hi, hb, ht⟩ := hrel
      have HB := Lib.hid hb
      have HT := Lib.hid ht
      clear hb ht
      by_cases hlt : i < l.length
      · obtain ⟨f, hf⟩ : ∃ f, l[i]? = some f := ⟨_, List.getElem?_eq_getElem hlt⟩
        obtain ⟨ad, rfl, hc⟩ := fact_at6 HV.out hf
        obtain ⟨c0, c1, c2, c3, c4, c5⟩ := hc wr HT.out
        have hil : (i : Int) < l.length := by omega
        have HF := Lib.hid hf
        clear hc hf
        go_wp2_with fail
        refine (ref_check9 f n wr).mono ?_
        rintro e w2 ⟨rfl, t2⟩
        have HT2 : Hid (Turn (fun _ => False) w w2) := HT.out.trans t2 (fun _ _ f => f)
        clear t2 c0 c1 c2 c3 c4 c5
        by_cases hk : chkF f n = 0
        · have HB2 : Hid (badAt n l 0 = badAt n (l.drop (i + 1)) (i + 1)) := HB.out.trans (bad_step HF.out hk)
          rw [hk]
          go_wp2
          go_roundw
          case rel => exact ⟨i + 1, by go_num, hlt, HB2.out, HT2.out⟩
          case measure => simp [intOf]; omega
        · have HA : Hid (allV l n = .tuple #[.int .i64 (chkF f n), .int .i64 (i : Int)]) := allV_at HG.out (HB.out.trans (bad_here HF.out hk))
          have hk2 : (chkF f n == 0) = false := by simpa using hk
          clear hk
          generalize chkF f n = cf at *
          go_wp2
          go_ret2
          rw [HA.out]
          exact ⟨rfl, HT2.out⟩
      · obtain rfl : i = l.length := by omega
        have HA : Hid (allV l n = .tuple #[.int .i64 0, .int .i64 0]) := allV_at HG.out (by rw [HB.out, List.drop_length]; rfl)
        go_wp2
        go_ret2
        rw [HA.out]
        exact ⟨rfl, HT.out⟩
  · rw [allV_bad hg]
    by_cases n1 : n < 1
    · clear hg
      go_enter Try.func15, Try.ntmps15
      go_wp2_with fail
      go_ret2
      exact ⟨rfl, Turn.refl _ w⟩
    · by_cases n2 : 4 < n
      · clear hg
        go_enter Try.func15, Try.ntmps15
        go_wp2_with fail
        go_ret2
        exact ⟨rfl, Turn.refl _ w⟩
      · by_cases n3 : l.length < 1
        · have n3' : (l.length : Int) < 1 := by omega
          clear hg
          go_enter Try.func15, Try.ntmps15
          go_wp2_with fail
          go_ret2
          exact ⟨rfl, Turn.refl _ w⟩
        · have n3' : ¬ ((l.length : Int) < 1) := by omega
          have n4' : (50 : Int) < l.length := by omega
          clear hg
          go_enter Try.func15, Try.ntmps15
          go_wp2_with fail
          go_ret2
          exact ⟨rfl, Turn.refl _ w⟩

end Go.Proofs.Ytejilonhdgfkbaa
