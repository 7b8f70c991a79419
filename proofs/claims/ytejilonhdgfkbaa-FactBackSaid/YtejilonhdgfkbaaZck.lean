
/-
  Stage 9: the program's Check and All, with the document's answers.
-/
import Derived.Test.YtejilonhdgfkbaaZe
import Derived.Laws.IdiomArrays
namespace Go.Proofs.Ytejilonhdgfkbaa
open Go.RowKit

set_option maxRecDepth 100000

theorem counted_any9 (n : Int) (w : World) : Calls Try.prog 32 #[.int .i64 n] w fun e w' => e = .returned (.bool (okDims n)) ∧ w' = w := by
  unfold okDims
  by_cases n1 : 1 ≤ n
  · by_cases n4 : n ≤ 4
    · rw [decide_eq_true n1, decide_eq_true n4]
      go_enter Try.func32, Try.ntmps32
      go_wp2
      go_ret
      exact ⟨rfl, rfl⟩
    · rw [decide_eq_true n1, decide_eq_false n4]
      go_enter Try.func32, Try.ntmps32
      go_wp2
      go_ret
      exact ⟨rfl, rfl⟩
  · rw [decide_eq_false n1]
    go_enter Try.func32, Try.ntmps32
    go_wp2
    go_ret
    exact ⟨rfl, rfl⟩

theorem okText_in {n : Int} {i : Nat} {t : List UInt8} (h : (i : Int) < n) : okText n i t = decide (t.length ≤ 16) := by simp [okText, h]
theorem okText_out {n : Int} {i : Nat} {t : List UInt8} (h : ¬ (i : Int) < n) : okText n i t = decide (t.length ≤ 0) := by
  cases t with
  | nil => simp [okText]
  | cons x t => simp [okText, h]

set_option maxHeartbeats 8000000 in
theorem fits_any9 (k : K9) (n : Int) (w : World) : Calls Try.prog 33 #[.agg #[sv9 k.a, sv9 k.b, sv9 k.c, sv9 k.d], .int .i64 n] w fun e w' => e = .returned (.bool (okTexts n k)) ∧ Turn (fun _ => False) w w' := by
  obtain ⟨w0, hw0⟩ : ∃ w0, w0 = w.alloc (.cells #[sv9 k.a, sv9 k.b, sv9 k.c, sv9 k.d] 22) := ⟨_, rfl⟩
  have HT0 : Hid (Turn (fun _ => False) w w0) := by rw [hw0]; exact (Turn.refl _ w).alloc _
  have HW := Lib.hid hw0
  have hix0 : ∀ i : Nat, i < 4 → ∀ W, Sem.run Try.prog (Instr.index 22 (.agg #[sv9 k.a, sv9 k.b, sv9 k.c, sv9 k.d]) (.int .i64 (i : Int))) W = .ok (sv9 (k.dim i)) W := fun i hi W => by
    match i, hi with
    | 0, _ => rfl
    | 1, _ => rfl
    | 2, _ => rfl
    | 3, _ => rfl
  have HIX := Lib.hid hix0
  clear hw0 hix0
  go_enter Try.func33, Try.ntmps33
  go_wp2_with fail
  rw [← HW.out]
  go_loopw [9] (fun x9 wr => wr = w0 ∧ ∃ i : Nat, x9 = .int .i64 (i : Int) ∧ i ≤ 4 ∧ ∀ j, j < i → okText n j (k.dim j) = true) (fun x9 _ => 4 - (intOf x9).toNat)
  case atStart => exact ⟨rfl, 0, rfl, Nat.zero_le _, fun k hk => absurd hk (Nat.not_lt_zero k)⟩
  case round =>
    obtain ⟨rfl, i, rfl, hi, he⟩ := hrel
    have HE := Lib.hid he
    clear he
    by_cases hlt : i < 4
    · have hix := HIX.out i hlt
      have hil : (i : Int) < 4 := by omega
      unfold sv9 at hix ⊢
      have HBAD : Hid (okText n i (k.dim i) = false → okTexts n k = false) := fun h => okTexts_not hlt h
      have HGOOD : Hid (okText n i (k.dim i) = true → ∀ j, j < i + 1 → okText n j (k.dim j) = true) := fun h j hj => by
        by_cases ek : j = i
        · rw [ek]; exact h
        · exact HE.out j (by omega)
      generalize hT : k.dim i = T at *
      by_cases hin : (i : Int) < n
      · by_cases hlen : T.length ≤ 16
        · have HK := Lib.hid (HGOOD.out ((okText_in hin).trans (decide_eq_true hlen)))
          have hl2 : ¬ ((16 : Int) < T.length) := by omega
          have hnn : ¬ (n ≤ (i : Int)) := by omega
          clear HBAD HGOOD
          go_wp2
          go_roundw
          case rel => exact ⟨trivial, i + 1, by go_num, hlt, HK.out⟩
          case measure => simp [intOf]; omega
        · have HK := Lib.hid (HBAD.out ((okText_in hin).trans (decide_eq_false hlen)))
          have hl2 : (16 : Int) < T.length := by omega
          have hnn : ¬ (n ≤ (i : Int)) := by omega
          clear HBAD HGOOD
          go_wp2
          go_ret
          rw [HK.out]
          exact ⟨rfl, HT0.out⟩
      · by_cases hlen : T.length ≤ 0
        · have HK := Lib.hid (HGOOD.out ((okText_out hin).trans (decide_eq_true hlen)))
          have hl2 : ¬ ((0 : Int) < T.length) := by omega
          have hnn : n ≤ (i : Int) := by omega
          clear HBAD HGOOD
          go_wp2
          go_roundw
          case rel => exact ⟨trivial, i + 1, by go_num, hlt, HK.out⟩
          case measure => simp [intOf]; omega
        · have HK := Lib.hid (HBAD.out ((okText_out hin).trans (decide_eq_false hlen)))
          have hl2 : (0 : Int) < T.length := by omega
          have hnn : n ≤ (i : Int) := by omega
          clear HBAD HGOOD
          go_wp2
          go_ret
          rw [HK.out]
          exact ⟨rfl, HT0.out⟩
    · obtain rfl : i = 4 := by omega
      have HK : Hid (okTexts n k = true) := okTexts_all HE.out
      go_wp2
      go_ret
      rw [HK.out]
      exact ⟨rfl, HT0.out⟩

set_option maxHeartbeats 8000000 in
theorem check_any9 (f : F9) (n : Int) (w : World) : Calls Try.prog 12 #[fv9 f, .int .i64 n] w fun e w' => e = .returned (.int .i64 (chkF f n)) ∧ Turn (fun _ => False) w w' := by
  unfold fv9
  obtain ⟨w0, hw0⟩ : ∃ w0, w0 = w.alloc (.cells #[.int .i64 f.k.h, sv9 f.k.a, sv9 f.k.b, sv9 f.k.c, sv9 f.k.d, .int .i64 f.v] 33) := ⟨_, rfl⟩
  have HT0 : Hid (Turn (fun _ => False) w w0) := by rw [hw0]; exact (Turn.refl _ w).alloc _
  have hb1 : Box w0 w.heap.size 33 #[.int .i64 f.k.h, sv9 f.k.a, sv9 f.k.b, sv9 f.k.c, sv9 f.k.d, .int .i64 f.v] := by rw [hw0]; exact Box.new w _ _
  have c0 := hb1.cell 0
  have c1 := hb1.cell 1
  have c2 := hb1.cell 2
  have c3 := hb1.cell 3
  have c4 := hb1.cell 4
  have c5 := hb1.cell 5
  have HW := Lib.hid hw0
  have HCT : Hid (∀ W, Calls Try.prog 32 #[.int .i64 n] W fun e w' => e = .returned (.bool (okDims n)) ∧ w' = W) := fun W => counted_any9 n W
  clear hb1 hw0
  by_cases hn : 1 ≤ n ∧ n ≤ 4
  · rw [show okDims n = true by unfold okDims; simp [hn]] at HCT
    by_cases hr : 0 ≤ f.k.h ∧ f.k.h ≤ 16777216 ∧ f.v ≤ 1152921504606846976 ∧ -1152921504606846976 ≤ f.v
    · have HN := Lib.hid hn
      have HR := Lib.hid hr
      obtain ⟨n1, n2⟩ := hn
      obtain ⟨r1, r2, r3, r4⟩ := hr
      have HK : Hid (chkF f n = if okTexts n f.k then 0 else 4) := by
        show _ = _
        cases ht : okTexts n f.k with
        | true => exact chk_ok HN.out HR.out ht
        | false => exact chk_text HN.out HR.out ht
      have HFT := Lib.hid (fits_any9 f.k n w0)
      cases hb : okTexts n f.k with
      | true =>
        rw [hb] at HK HFT
        clear hb
        go_enter Try.func12, Try.ntmps12
        go_wp2_with fail
        rw [← HW.out]
        refine (HCT.out _).mono ?_
        rintro e w1 ⟨rfl, rfl⟩
        go_wp2_with fail
        refine HFT.out.mono ?_
        rintro e w2 ⟨rfl, t2⟩
        have HT2 := Lib.hid (HT0.out.trans t2 (fun _ _ f => f))
        clear t2 c0 c1 c2 c3 c4 c5
        go_wp2
        go_ret
        rw [HK.out]
        exact ⟨rfl, HT2.out⟩
      | false =>
        rw [hb] at HK HFT
        clear hb
        go_enter Try.func12, Try.ntmps12
        go_wp2_with fail
        rw [← HW.out]
        refine (HCT.out _).mono ?_
        rintro e w1 ⟨rfl, rfl⟩
        go_wp2_with fail
        refine HFT.out.mono ?_
        rintro e w2 ⟨rfl, t2⟩
        have HT2 := Lib.hid (HT0.out.trans t2 (fun _ _ f => f))
        clear t2 c0 c1 c2 c3 c4 c5
        go_wp2
        go_ret
        rw [HK.out]
        exact ⟨rfl, HT2.out⟩
    · rw [chk_range hn hr]
      obtain ⟨n1, n2⟩ := hn
      by_cases r1 : f.k.h < 0
      · clear hr
        go_enter Try.func12, Try.ntmps12
        go_wp2_with fail
        rw [← HW.out]
        refine (HCT.out _).mono ?_
        rintro e w1 ⟨rfl, rfl⟩
        go_wp2
        go_ret
        exact ⟨rfl, HT0.out⟩
      · by_cases r2 : 16777216 < f.k.h
        · clear hr
          go_enter Try.func12, Try.ntmps12
          go_wp2_with fail
          rw [← HW.out]
          refine (HCT.out _).mono ?_
          rintro e w1 ⟨rfl, rfl⟩
          go_wp2
          go_ret
          exact ⟨rfl, HT0.out⟩
        · by_cases r3 : 1152921504606846976 < f.v
          · clear hr
            go_enter Try.func12, Try.ntmps12
            go_wp2_with fail
            rw [← HW.out]
            refine (HCT.out _).mono ?_
            rintro e w1 ⟨rfl, rfl⟩
            go_wp2
            go_ret
            exact ⟨rfl, HT0.out⟩
          · have r4 : f.v < -1152921504606846976 := by omega
            clear hr
            go_enter Try.func12, Try.ntmps12
            go_wp2_with fail
            rw [← HW.out]
            refine (HCT.out _).mono ?_
            rintro e w1 ⟨rfl, rfl⟩
            go_wp2
            go_ret
            exact ⟨rfl, HT0.out⟩
  · rw [show okDims n = false by unfold okDims; simpa using hn] at HCT
    rw [chk_dims hn]
    clear hn
    go_enter Try.func12, Try.ntmps12
    go_wp2_with fail
    rw [← HW.out]
    refine (HCT.out _).mono ?_
    rintro e w1 ⟨rfl, rfl⟩
    go_wp2
    go_ret
    exact ⟨rfl, HT0.out⟩

set_option maxHeartbeats 8000000 in
theorem all_any9 (v : Value) (l : List F9) (n : Int) (w : World) (hv : RdE EF w v l) (hl : l.length ≤ 1000) : Calls Try.prog 14 #[v, .int .i64 n] w fun e w' => e = .returned (allV l n) ∧ Turn (fun _ => False) w w' := by
  have HV := Lib.hid hv
  obtain ⟨A, c, rfl⟩ := hv.shape
  clear hv
  have HCT : Hid (∀ W, Calls Try.prog 32 #[.int .i64 n] W fun e w' => e = .returned (.bool (okDims n)) ∧ w' = W) := fun W => counted_any9 n W
  by_cases hn : 1 ≤ n ∧ n ≤ 4
  · rw [show okDims n = true by unfold okDims; simp [hn]] at HCT
    by_cases hg : 1 ≤ l.length ∧ l.length ≤ 50
    · have HG : Hid (1 ≤ n ∧ n ≤ 4 ∧ 1 ≤ l.length ∧ l.length ≤ 50) := ⟨hn.1, hn.2, hg.1, hg.2⟩
      obtain ⟨g3, g4⟩ := hg
      have g0 : ((l.length : Int) == 0) = false := by simp; intro e; simp [e] at g3
      have g3' : (1 : Int) ≤ l.length := by omega
      have g4' : (l.length : Int) ≤ 50 := by omega
      clear hn
      go_enter Try.func14, Try.ntmps14
      go_wp2_with fail
      refine (HCT.out _).mono ?_
      rintro e w1 ⟨rfl, rfl⟩
      go_wp2_with fail
      go_loopw [24] (fun x24 wr => ∃ i : Nat, x24 = .int .i64 (i : Int) ∧ i ≤ l.length ∧ badAt n l 0 = badAt n (l.drop i) i ∧ Turn (fun _ => False) w1 wr) (fun x24 _ => l.length - (intOf x24).toNat)
      case atStart => exact ⟨0, rfl, Nat.zero_le _, rfl, Turn.refl _ w1⟩
      case round =>
        obtain ⟨i, rfl, hi, hb, ht⟩ := hrel
        have HB := Lib.hid hb
        have HT := Lib.hid ht
        clear hb ht
        by_cases hlt : i < l.length
        · obtain ⟨f, hf⟩ : ∃ f, l[i]? = some f := ⟨_, List.getElem?_eq_getElem hlt⟩
          obtain ⟨ad, rfl, hc⟩ := fact_at6 HV.out hf
          obtain ⟨c0, c1, c2, c3, c4, c5⟩ := hc wr HT.out
          have hil : (i : Int) < l.length := by omega
          have HF := Lib.hid hf
          obtain ⟨wf, hwf⟩ : ∃ wf, wf = wr.alloc (.cells #[.int .i64 f.k.h, sv9 f.k.a, sv9 f.k.b, sv9 f.k.c, sv9 f.k.d, .int .i64 f.v] 33) := ⟨_, rfl⟩
          have HTF : Hid (Turn (fun _ => False) w1 wf) := by rw [hwf]; exact HT.out.alloc _
          have HWF := Lib.hid hwf
          clear hc hf hwf
          go_wp2_with fail
          rw [← HWF.out]
          refine (check_any9 f n wf).mono ?_
          rintro e w2 ⟨rfl, t2⟩
          have HT2 : Hid (Turn (fun _ => False) w1 w2) := HTF.out.trans t2 (fun _ _ f => f)
          clear t2 c0 c1 c2 c3 c4 c5
          by_cases hk : chkF f n = 0
          · have HB2 : Hid (badAt n l 0 = badAt n (l.drop (i + 1)) (i + 1)) := HB.out.trans (bad_step HF.out hk)
            rw [hk]
            go_wp2
            go_roundw
            case rel => exact ⟨i + 1, by go_num, hlt, HB2.out, HT2.out⟩
            case measure => simp [intOf]; omega
          · have HA : Hid (allV l n = .tuple #[.int .i64 (chkF f n), .int .i64 (i : Int)]) := allV_at HG.out (HB.out.trans (bad_here HF.out hk))
            have hk2 : (chkF f n != 0) = true := by simp [bne, hk]
            clear hk
            generalize chkF f n = cf at *
            go_wp2
            go_ret2
            rw [HA.out]
            exact ⟨rfl, HT2.out⟩
        · obtain rfl : i = l.length := by omega
          have HA : Hid (allV l n = .tuple #[.int .i64 0, .int .i64 0]) := allV_at HG.out (by rw [HB.out, List.drop_length]; rfl)
          go_wp2
          go_ret2
          rw [HA.out]
          exact ⟨rfl, HT.out⟩
    · rw [allV_bad (fun h => hg h.2.2)]
      clear hn
      by_cases n3 : l.length < 1
      · have n3' : ((l.length : Int) == 0) = true := by simp; exact List.eq_nil_of_length_eq_zero (by omega)
        clear hg
        go_enter Try.func14, Try.ntmps14
        go_wp2_with fail
        refine (HCT.out _).mono ?_
        rintro e w1 ⟨rfl, rfl⟩
        go_wp2
        go_ret2
        exact ⟨rfl, Turn.refl _ w1⟩
      · have n3' : ((l.length : Int) == 0) = false := by simp; intro e; simp [e] at n3
        have n4' : (50 : Int) < l.length := by omega
        clear hg
        go_enter Try.func14, Try.ntmps14
        go_wp2_with fail
        refine (HCT.out _).mono ?_
        rintro e w1 ⟨rfl, rfl⟩
        go_wp2
        go_ret2
        exact ⟨rfl, Turn.refl _ w1⟩
  · rw [show okDims n = false by unfold okDims; simpa using hn] at HCT
    rw [allV_bad (fun h => hn ⟨h.1, h.2.1⟩)]
    clear hn
    go_enter Try.func14, Try.ntmps14
    go_wp2_with fail
    refine (HCT.out _).mono ?_
    rintro e w1 ⟨rfl, rfl⟩
    go_wp2
    go_ret2
    exact ⟨rfl, Turn.refl _ w1⟩

end Go.Proofs.Ytejilonhdgfkbaa
