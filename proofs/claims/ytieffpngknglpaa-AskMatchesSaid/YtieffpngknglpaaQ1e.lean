
/-
  Stage 13: the document's Check, Matches, Group; which queries are light.
-/
import Derived.Test.YtieffpngknglpaaQ1d
namespace Go.Proofs.Ytieffpngknglpaa
open Go.RowKit

set_option maxRecDepth 100000

set_option maxHeartbeats 16000000 in
theorem ref_check13 (q : Q13) (n : Int) (w : World) : Calls Try.prog 7 #[qv13 q, .int .i64 n] w fun e w' => e = .returned (.int .i64 (chkQ q n)) ∧ Turn (fun _ => False) w w' := by
  unfold qv13
  obtain ⟨w0, hw0⟩ : ∃ w0, w0 = w.alloc (.cells (cells13 q) 25) := ⟨_, rfl⟩
  have HT0 : Hid (Turn (fun _ => False) w w0) := by rw [hw0]; exact (Turn.refl _ w).alloc _
  have hb0 : Box w0 w.heap.size 25 (cells13 q) := by rw [hw0]; exact Box.new w _ _
  have HB0 := Lib.hid hb0
  obtain ⟨c0, c1, -⟩ := box_query13 hb0
  have HW := Lib.hid hw0
  clear hw0 hb0
  by_cases hn : 1 ≤ n ∧ n ≤ 4
  · by_cases hr : 0 ≤ q.lo ∧ q.lo ≤ q.hi ∧ q.hi ≤ 16777217
    · have HN := Lib.hid hn
      have HR := Lib.hid hr
      obtain ⟨n1, n2⟩ := hn
      obtain ⟨r1, r2, r3⟩ := hr
      have HBAD : Hid (okQ n q = false → chkQ q n = 4) := fun h => chkQ_text HN.out HR.out h
      have HGOOD : Hid (okQ n q = true → chkQ q n = 0) := fun h => chkQ_ok HN.out HR.out h
      go_enter Try.func7, Try.ntmps7
      go_wp2_with fail
      rw [← HW.out]
      clear c0 c1
      go_loopw [5] (fun x5 wr => wr = w0 ∧ ∃ i : Nat, x5 = .int .i64 (i : Int) ∧ i ≤ 4 ∧ ∀ k, k < i → okD n k (q.g.nth k) (q.h.nth k) (q.f.nth k) = true) (fun x5 _ => 4 - (intOf x5).toNat)
      case atStart => exact ⟨rfl, 0, rfl, Nat.zero_le _, fun k hk => absurd hk (Nat.not_lt_zero k)⟩
      case round =>
        obtain ⟨rfl, i, rfl, hi, he⟩ := hrel
        have HE := Lib.hid he
        clear he
        by_cases hlt : i < 4
        · have e1 := (HB0.out.cell (2 + i)).trans (q_group13 q hlt)
          have e2 := (HB0.out.cell (6 + i)).trans (q_has13 q hlt)
          have e3 := (HB0.out.cell (10 + i)).trans (q_text13 q hlt)
          have hil : (i : Int) < 4 := by omega
          have HNOT : Hid (okD n i (q.g.nth i) (q.h.nth i) (q.f.nth i) = false → chkQ q n = 4) := fun h => HBAD.out (okQ_not hlt h)
          have HSTEP : Hid (okD n i (q.g.nth i) (q.h.nth i) (q.f.nth i) = true → ∀ k, k < i + 1 → okD n k (q.g.nth k) (q.h.nth k) (q.f.nth k) = true) := fun h k hk => by
            by_cases ek : k = i
            · rw [ek]; exact h
            · exact HE.out k (by omega)
          unfold sv9 at e3
          generalize q.g.nth i = G at e1 HNOT HSTEP
          generalize q.h.nth i = H at e2 HNOT HSTEP
          generalize q.f.nth i = T at e3 HNOT HSTEP
          clear HBAD HGOOD HE HN HR
          by_cases hin : (i : Int) < n
          · have hnn : ¬ (n ≤ (i : Int)) := by omega
            cases T with
            | nil =>
              cases H with
              | false =>
                cases G with
                | false =>
                  have HK := Lib.hid (HSTEP.out (by simp [okD, hnn]))
                  clear HSTEP HNOT
                  go_wp2_with fail
                  go_roundw
                  case rel => exact ⟨trivial, i + 1, by go_num, hlt, HK.out⟩
                  case measure => simp [intOf]; omega
                | true =>
                  have HK := Lib.hid (HSTEP.out (by simp [okD, hnn]))
                  clear HSTEP HNOT
                  go_wp2_with fail
                  go_roundw
                  case rel => exact ⟨trivial, i + 1, by go_num, hlt, HK.out⟩
                  case measure => simp [intOf]; omega
              | true =>
                cases G with
                | false =>
                  have HK := Lib.hid (HSTEP.out (by simp [okD, hnn]))
                  clear HSTEP HNOT
                  go_wp2_with fail
                  go_roundw
                  case rel => exact ⟨trivial, i + 1, by go_num, hlt, HK.out⟩
                  case measure => simp [intOf]; omega
                | true =>
                  have HK := Lib.hid (HSTEP.out (by simp [okD, hnn]))
                  clear HSTEP HNOT
                  go_wp2_with fail
                  go_roundw
                  case rel => exact ⟨trivial, i + 1, by go_num, hlt, HK.out⟩
                  case measure => simp [intOf]; omega
            | cons t T =>
              by_cases hlen : 16 < T.length + 1
              · have hli : (16 : Int) < (T.length : Int) + 1 := by omega
                cases H with
                | false =>
                  cases G with
                  | false =>
                    have HK := Lib.hid (HNOT.out (by simp [okD, hnn, hlen]))
                    clear HSTEP HNOT
                    go_wp2_with fail
                    go_ret
                    rw [HK.out]
                    exact ⟨rfl, HT0.out⟩
                  | true =>
                    have HK := Lib.hid (HNOT.out (by simp [okD, hnn, hlen]))
                    clear HSTEP HNOT
                    go_wp2_with fail
                    go_ret
                    rw [HK.out]
                    exact ⟨rfl, HT0.out⟩
                | true =>
                  cases G with
                  | false =>
                    have HK := Lib.hid (HNOT.out (by simp [okD, hnn, hlen]))
                    clear HSTEP HNOT
                    go_wp2_with fail
                    go_ret
                    rw [HK.out]
                    exact ⟨rfl, HT0.out⟩
                  | true =>
                    have HK := Lib.hid (HNOT.out (by simp [okD, hnn, hlen]))
                    clear HSTEP HNOT
                    go_wp2_with fail
                    go_ret
                    rw [HK.out]
                    exact ⟨rfl, HT0.out⟩
              · have hli : ¬ ((16 : Int) < (T.length : Int) + 1) := by omega
                cases H with
                | false =>
                  cases G with
                  | false =>
                    have HK := Lib.hid (HNOT.out (by simp [okD, hnn, hlen]))
                    clear HSTEP HNOT
                    go_wp2_with fail
                    go_ret
                    rw [HK.out]
                    exact ⟨rfl, HT0.out⟩
                  | true =>
                    have HK := Lib.hid (HNOT.out (by simp [okD, hnn, hlen]))
                    clear HSTEP HNOT
                    go_wp2_with fail
                    go_ret
                    rw [HK.out]
                    exact ⟨rfl, HT0.out⟩
                | true =>
                  cases G with
                  | false =>
                    have HK := Lib.hid (HSTEP.out (by simp [okD, hnn]; omega))
                    clear HSTEP HNOT
                    go_wp2_with fail
                    go_roundw
                    case rel => exact ⟨trivial, i + 1, by go_num, hlt, HK.out⟩
                    case measure => simp [intOf]; omega
                  | true =>
                    have HK := Lib.hid (HSTEP.out (by simp [okD, hnn]; omega))
                    clear HSTEP HNOT
                    go_wp2_with fail
                    go_roundw
                    case rel => exact ⟨trivial, i + 1, by go_num, hlt, HK.out⟩
                    case measure => simp [intOf]; omega
          · have hnn : n ≤ (i : Int) := by omega
            cases T with
            | nil =>
              cases H with
              | false =>
                cases G with
                | false =>
                  have HK := Lib.hid (HSTEP.out (by simp [okD, hnn]))
                  clear HSTEP HNOT
                  go_wp2_with fail
                  go_roundw
                  case rel => exact ⟨trivial, i + 1, by go_num, hlt, HK.out⟩
                  case measure => simp [intOf]; omega
                | true =>
                  have HK := Lib.hid (HNOT.out (by simp [okD, hnn]))
                  clear HSTEP HNOT
                  go_wp2_with fail
                  go_ret
                  rw [HK.out]
                  exact ⟨rfl, HT0.out⟩
              | true =>
                cases G with
                | false =>
                  have HK := Lib.hid (HNOT.out (by simp [okD, hnn]))
                  clear HSTEP HNOT
                  go_wp2_with fail
                  go_ret
                  rw [HK.out]
                  exact ⟨rfl, HT0.out⟩
                | true =>
                  have HK := Lib.hid (HNOT.out (by simp [okD, hnn]))
                  clear HSTEP HNOT
                  go_wp2_with fail
                  go_ret
                  rw [HK.out]
                  exact ⟨rfl, HT0.out⟩
            | cons t T =>
              by_cases hlen : 16 < T.length + 1
              · have hli : (16 : Int) < (T.length : Int) + 1 := by omega
                cases H with
                | false =>
                  cases G with
                  | false =>
                    have HK := Lib.hid (HNOT.out (by simp [okD, hnn, hlen]))
                    clear HSTEP HNOT
                    go_wp2_with fail
                    go_ret
                    rw [HK.out]
                    exact ⟨rfl, HT0.out⟩
                  | true =>
                    have HK := Lib.hid (HNOT.out (by simp [okD, hnn, hlen]))
                    clear HSTEP HNOT
                    go_wp2_with fail
                    go_ret
                    rw [HK.out]
                    exact ⟨rfl, HT0.out⟩
                | true =>
                  cases G with
                  | false =>
                    have HK := Lib.hid (HNOT.out (by simp [okD, hnn, hlen]))
                    clear HSTEP HNOT
                    go_wp2_with fail
                    go_ret
                    rw [HK.out]
                    exact ⟨rfl, HT0.out⟩
                  | true =>
                    have HK := Lib.hid (HNOT.out (by simp [okD, hnn, hlen]))
                    clear HSTEP HNOT
                    go_wp2_with fail
                    go_ret
                    rw [HK.out]
                    exact ⟨rfl, HT0.out⟩
              · have hli : ¬ ((16 : Int) < (T.length : Int) + 1) := by omega
                cases H with
                | false =>
                  cases G with
                  | false =>
                    have HK := Lib.hid (HNOT.out (by simp [okD, hnn, hlen]))
                    clear HSTEP HNOT
                    go_wp2_with fail
                    go_ret
                    rw [HK.out]
                    exact ⟨rfl, HT0.out⟩
                  | true =>
                    have HK := Lib.hid (HNOT.out (by simp [okD, hnn, hlen]))
                    clear HSTEP HNOT
                    go_wp2_with fail
                    go_ret
                    rw [HK.out]
                    exact ⟨rfl, HT0.out⟩
                | true =>
                  cases G with
                  | false =>
                    have HK := Lib.hid (HNOT.out (by simp [okD, hnn, hlen]))
                    clear HSTEP HNOT
                    go_wp2_with fail
                    go_ret
                    rw [HK.out]
                    exact ⟨rfl, HT0.out⟩
                  | true =>
                    have HK := Lib.hid (HNOT.out (by simp [okD, hnn, hlen]))
                    clear HSTEP HNOT
                    go_wp2_with fail
                    go_ret
                    rw [HK.out]
                    exact ⟨rfl, HT0.out⟩
        · obtain rfl : i = 4 := by omega
          have HK := Lib.hid (HGOOD.out (okQ_iff.2 HE.out))
          go_wp2
          go_ret
          rw [HK.out]
          exact ⟨rfl, HT0.out⟩
    · rw [chkQ_range hn hr]
      obtain ⟨n1, n2⟩ := hn
      by_cases r1 : q.lo < 0
      · clear hr
        go_enter Try.func7, Try.ntmps7
        go_wp2_with fail
        rw [← HW.out]
        go_ret
        exact ⟨rfl, HT0.out⟩
      · by_cases r2 : 16777217 < q.hi
        · clear hr
          go_enter Try.func7, Try.ntmps7
          go_wp2_with fail
          rw [← HW.out]
          go_ret
          exact ⟨rfl, HT0.out⟩
        · have r3 : q.hi < q.lo := by omega
          clear hr
          go_enter Try.func7, Try.ntmps7
          go_wp2_with fail
          rw [← HW.out]
          go_ret
          exact ⟨rfl, HT0.out⟩
  · rw [chkQ_dims hn]
    by_cases n1 : n < 1
    · clear hn
      go_enter Try.func7, Try.ntmps7
      go_wp2_with fail
      rw [← HW.out]
      go_ret
      exact ⟨rfl, HT0.out⟩
    · have n2 : 4 < n := by omega
      clear hn
      go_enter Try.func7, Try.ntmps7
      go_wp2_with fail
      rw [← HW.out]
      go_ret
      exact ⟨rfl, HT0.out⟩

end Go.Proofs.Ytieffpngknglpaa
