
/-
  Stage 9: the document's Check and All.
-/
import Derived.Test.YtejilonhdgfkbaaZc
namespace Go.Proofs.Ytejilonhdgfkbaa
open Go.RowKit

set_option maxRecDepth 100000

theorem chk_dims {f : F9} {n : Int} (h : ¬ (1 ≤ n ∧ n ≤ 4)) : chkF f n = 1 := by
  unfold chkF okDims
  rw [if_neg (by simpa using h)]
theorem chk_range {f : F9} {n : Int} (hn : 1 ≤ n ∧ n ≤ 4) (h : ¬ (0 ≤ f.k.h ∧ f.k.h ≤ 16777216 ∧ f.v ≤ 1152921504606846976 ∧ -1152921504606846976 ≤ f.v)) : chkF f n = 2 := by
  unfold chkF okDims
  rw [if_pos (by simpa using hn), if_neg h]
theorem chk_text {f : F9} {n : Int} (hn : 1 ≤ n ∧ n ≤ 4) (h : 0 ≤ f.k.h ∧ f.k.h ≤ 16777216 ∧ f.v ≤ 1152921504606846976 ∧ -1152921504606846976 ≤ f.v) (ht : okTexts n f.k = false) : chkF f n = 4 := by
  unfold chkF okDims
  rw [if_pos (by simpa using hn), if_pos h, ht]
  rfl
theorem chk_ok {f : F9} {n : Int} (hn : 1 ≤ n ∧ n ≤ 4) (h : 0 ≤ f.k.h ∧ f.k.h ≤ 16777216 ∧ f.v ≤ 1152921504606846976 ∧ -1152921504606846976 ≤ f.v) (ht : okTexts n f.k = true) : chkF f n = 0 := by
  unfold chkF okDims
  rw [if_pos (by simpa using hn), if_pos h, ht]
  rfl

set_option maxHeartbeats 4000000 in
theorem ref_check9 (f : F9) (n : Int) (w : World) : Calls Try.prog 13 #[fv9 f, .int .i64 n] w fun e w' => e = .returned (.int .i64 (chkF f n)) ∧ Turn (fun _ => False) w w' := by
  unfold fv9
  obtain ⟨w0, hw0⟩ : ∃ w0, w0 = w.alloc (.cells #[.int .i64 f.k.h, sv9 f.k.a, sv9 f.k.b, sv9 f.k.c, sv9 f.k.d, .int .i64 f.v] 33) := ⟨_, rfl⟩
  have HT0 : Hid (Turn (fun _ => False) w w0) := by rw [hw0]; exact (Turn.refl _ w).alloc _
  have hb1 : Box w0 w.heap.size 33 #[.int .i64 f.k.h, sv9 f.k.a, sv9 f.k.b, sv9 f.k.c, sv9 f.k.d, .int .i64 f.v] := by rw [hw0]; exact Box.new w _ _
  have HD1 := Lib.hid (dim_cell (o := 1) hb1 fact_cells)
  have c1 := hb1.cell 0
  have c2 := hb1.cell 5
  have HW := Lib.hid hw0
  clear hb1 hw0
  by_cases hn : 1 ≤ n ∧ n ≤ 4
  · by_cases hr : 0 ≤ f.k.h ∧ f.k.h ≤ 16777216 ∧ f.v ≤ 1152921504606846976 ∧ -1152921504606846976 ≤ f.v
    · have HN := Lib.hid hn
      have HR := Lib.hid hr
      obtain ⟨n1, n2⟩ := hn
      obtain ⟨r1, r2, r3, r4⟩ := hr
      go_enter Try.func13, Try.ntmps13
      go_wp2_with fail
      rw [← HW.out]
      clear c1 c2
      go_loopw [5] (fun x5 wr => wr = w0 ∧ ∃ i : Nat, x5 = .int .i64 (i : Int) ∧ i ≤ 4 ∧ ∀ k, k < i → okText n k (f.k.dim k) = true) (fun x5 _ => 4 - (intOf x5).toNat)
      case atStart => exact ⟨rfl, 0, rfl, Nat.zero_le _, fun k hk => absurd hk (Nat.not_lt_zero k)⟩
      case round =>
        obtain ⟨rfl, i, rfl, hi, he⟩ := hrel
        have HE := Lib.hid he
        clear he
        by_cases hlt : i < 4
        · have e1 := HD1.out i hlt
          have hil : (i : Int) < 4 := by omega
          unfold sv9 at e1
          generalize hT : f.k.dim i = T at *
          by_cases hlen : 16 < T.length
          · have HK : Hid (chkF f n = 4) := chk_text HN.out HR.out (okTexts_not hlt (by rw [hT]; simp [okText]; intro h; omega))
            have hli : (16 : Int) < T.length := by omega
            go_wp2_with fail
            go_ret
            rw [HK.out]
            exact ⟨rfl, HT0.out⟩
          · have hli : ¬ ((16 : Int) < T.length) := by omega
            by_cases hin : (i : Int) < n
            · have hk : okText n i T = true := by simp [okText, hin]; omega
              have HK := Lib.hid hk
              clear hk
              go_wp2_with fail
              go_roundw
              case rel => exact ⟨trivial, i + 1, by go_num, hlt, fun k hk => by
                by_cases ek : k = i
                · rw [ek, hT]; exact HK.out
                · exact HE.out k (by omega)⟩
              case measure => simp [intOf]; omega
            · cases T with
              | nil =>
                have HK := Lib.hid (show okText n i [] = true by simp [okText])
                go_wp2_with fail
                go_roundw
                case rel => exact ⟨trivial, i + 1, by go_num, hlt, fun k hk => by
                  by_cases ek : k = i
                  · rw [ek, hT]; exact HK.out
                  · exact HE.out k (by omega)⟩
                case measure => simp [intOf]; omega
              | cons t T =>
                have hli2 : (T.length : Int) + 1 ≤ 16 := by rw [List.length_cons] at hlen; omega
                have HK : Hid (chkF f n = 4) := chk_text HN.out HR.out (okTexts_not hlt (by rw [hT]; simp [okText]; omega))
                go_wp2_with fail
                go_ret
                rw [HK.out]
                exact ⟨rfl, HT0.out⟩
        · obtain rfl : i = 4 := by omega
          have HK : Hid (chkF f n = 0) := chk_ok HN.out HR.out (okTexts_all HE.out)
          go_wp2
          go_ret
          rw [HK.out]
          exact ⟨rfl, HT0.out⟩
    · rw [chk_range hn hr]
      obtain ⟨n1, n2⟩ := hn
      by_cases r1 : f.k.h < 0
      · clear hr
        go_enter Try.func13, Try.ntmps13
        go_wp2_with fail
        rw [← HW.out]
        go_ret
        exact ⟨rfl, HT0.out⟩
      · by_cases r2 : 16777216 < f.k.h
        · clear hr
          go_enter Try.func13, Try.ntmps13
          go_wp2_with fail
          rw [← HW.out]
          go_ret
          exact ⟨rfl, HT0.out⟩
        · by_cases r3 : 1152921504606846976 < f.v
          · clear hr
            go_enter Try.func13, Try.ntmps13
            go_wp2_with fail
            rw [← HW.out]
            go_ret
            exact ⟨rfl, HT0.out⟩
          · have r4 : f.v < -1152921504606846976 := by omega
            clear hr
            go_enter Try.func13, Try.ntmps13
            go_wp2_with fail
            rw [← HW.out]
            go_ret
            exact ⟨rfl, HT0.out⟩
  · rw [chk_dims hn]
    by_cases n1 : n < 1
    · clear hn
      go_enter Try.func13, Try.ntmps13
      go_wp2_with fail
      rw [← HW.out]
      go_ret
      exact ⟨rfl, HT0.out⟩
    · have n2 : 4 < n := by omega
      clear hn
      go_enter Try.func13, Try.ntmps13
      go_wp2_with fail
      rw [← HW.out]
      go_ret
      exact ⟨rfl, HT0.out⟩

end Go.Proofs.Ytejilonhdgfkbaa
