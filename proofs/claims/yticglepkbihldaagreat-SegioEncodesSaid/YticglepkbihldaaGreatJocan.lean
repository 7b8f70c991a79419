/-
  Texts laid one behind the other: Sva Zd Ze Zck Ac Ih Ij Ad.
-/
import Derived.Test.YticglepkbihldaaGreatJocam
import Derived.Test.YticglepkbihldaaGreatJocah
import Derived.Test.YticglepkbihldaaGreatJocag
import Derived.Laws.ResultCell
import Derived.Laws.IdiomArrays
import Derived.Test.YticglepkbihldaaGreatJocac
import Derived.Test.YticglepkbihldaaGreatJocaj
import Derived.Laws.EntriesVeiled
import Derived.Test.YticglepkbihldaaGreatJocae
import Derived.Test.YticglepkbihldaaGreatJocak

/-
  Stage 11: At, Find: what is at a place, at a key.
-/
namespace Go.Proofs.YticglepkbihldaaGreat
open Go.RowKit

set_option maxRecDepth 100000

set_option maxHeartbeats 2000000 in
theorem at_any11 (s : Value) (L : List R11) (n : Int) (w : World) (h : SV11 w s L) : Calls Tryz.prog 46 #[s, .int .i64 n] w fun e w' => e = .returned (rowA (atR n L)) ∧ Turn (fun _ => False) w w' := by
  have HLE : Hid (∀ W, Turn (fun _ => False) w W → Calls Tryz.prog 19 #[s] W fun e w' => e = .returned (.int .i64 (L.length : Int)) ∧ w' = W) := fun W ht => len_same11 s L W (h.later ht)
  have hl := h.right.2.2
  obtain ⟨p, rfl⟩ := h.ptr
  by_cases h0 : n < 0
  · have HZ := Lib.hid (atR_low h0 L)
    clear h
    go_enter Tryz.func46, Tryz.ntmps46
    go_wp2
    refine bodyPost_ret (v := .tuple #[zv11, .bool false]) ?_ rfl ⟨by rw [HZ.out]; rfl, ((Turn.refl _ w).alloc _)⟩
    rw [results_cell_tmp rfl]
    go_simp
  · by_cases h1 : (L.length : Int) ≤ n
    · have HZ := Lib.hid (atR_high h1)
      clear h
      go_enter Tryz.func46, Tryz.ntmps46
      go_wp2_with fail
      refine (HLE.out _ ((Turn.refl _ w).alloc _)).mono ?_
      rintro e w1 ⟨rfl, rfl⟩
      go_wp2
      refine bodyPost_ret (v := .tuple #[zv11, .bool false]) ?_ rfl ⟨by rw [HZ.out]; rfl, ((Turn.refl _ w).alloc _)⟩
      rw [results_cell_tmp rfl]
      go_simp
    · obtain ⟨N, rfl⟩ := Int.eq_ofNat_of_zero_le (show 0 ≤ n by omega)
      have hlt : N < L.length := by omega
      obtain ⟨x, hx⟩ : ∃ x, L[N]? = some x := ⟨_, List.getElem?_eq_getElem hlt⟩
      have HZ : Hid (atR (N : Int) L = some x) := by unfold atR; rw [if_pos (by omega), Int.toNat_natCast]; exact hx
      rcases h.2 with ⟨-, rfl⟩ | ⟨b, sl, e0, hb, hr⟩
      · exact absurd hlt (Nat.not_lt_zero _)
      · injection e0 with e0
        subst e0
        obtain ⟨A, c, rfl⟩ := hr.shape
        obtain ⟨ad, rfl, hc⟩ := row_at11 hr hx
        have hb' := Lib.hid (hb.alloc (.cells (Value.cells zv11) 52))
        have c0 := (hb.alloc (.cells (Value.cells zv11) 52)).cell 0
        obtain ⟨d0, d1, d2, d3, d4, d5, d6, d7, d8⟩ := hc (w.alloc (.cells (Value.cells zv11) 52)) ((Turn.refl _ w).alloc _)
        clear hr hb hc hx h hb'
        simp only [Value.cells] at c0 d0 d1 d2 d3 d4 d5 d6 d7 d8
        go_enter Tryz.func46, Tryz.ntmps46
        go_wp2_with fail
        refine (HLE.out _ ((Turn.refl _ w).alloc _)).mono ?_
        rintro e w1 ⟨rfl, rfl⟩
        go_wp2
        refine bodyPost_ret (v := .tuple #[rv11 x, .bool true]) ?_ rfl ⟨by rw [HZ.out]; rfl, ((Turn.refl _ w).alloc _)⟩
        rw [results_cell_tmp rfl]
        go_simp

end Go.Proofs.YticglepkbihldaaGreat

/-
  Stage 9: the document's Check and All.
-/
namespace Go.Proofs.YticglepkbihldaaGreat
open Go.RowKit

set_option maxRecDepth 100000

theorem chk_dims {f : F9} {n : Int} (h : ¬ (1 ≤ n ∧ n ≤ 4)) : chkF f n = 1 := by
  unfold chkF okDims
  rw [if_neg (by simpa using h)]
theorem chk_range {f : F9} {n : Int} (hn : 1 ≤ n ∧ n ≤ 4) (h : ¬ (0 ≤ f.k.h ∧ f.k.h ≤ 16777216 ∧ f.v ≤ 1152921504606846976 ∧ -1152921504606846976 ≤ f.v)) : chkF f n = 2 := by
  unfold chkF okDims
  rw [if_pos (by simpa using hn), if_neg h]
theorem chk_text {f : F9} {n : Int} (hn : 1 ≤ n ∧ n ≤ 4) (h : 0 ≤ f.k.h ∧ f.k.h ≤ 16777216 ∧ f.v ≤ 1152921504606846976 ∧ -1152921504606846976 ≤ f.v) (ht : okTexts n f.k = false) : chkF f n = 4 := by
  unfold chkF okDims
  rw [if_pos (by simpa using hn), if_pos h, ht]
  rfl
theorem chk_ok {f : F9} {n : Int} (hn : 1 ≤ n ∧ n ≤ 4) (h : 0 ≤ f.k.h ∧ f.k.h ≤ 16777216 ∧ f.v ≤ 1152921504606846976 ∧ -1152921504606846976 ≤ f.v) (ht : okTexts n f.k = true) : chkF f n = 0 := by
  unfold chkF okDims
  rw [if_pos (by simpa using hn), if_pos h, ht]
  rfl

end Go.Proofs.YticglepkbihldaaGreat

/-
  Stage 9: the document's All; facts held against each other.
-/
namespace Go.Proofs.YticglepkbihldaaGreat
open Go.RowKit

set_option maxRecDepth 100000

/-- What All answers, as a value. -/
def allV (l : List F9) (n : Int) : Value := .tuple #[.int .i64 (allB l n).1, .int .i64 (allB l n).2]
theorem allV_bad {l : List F9} {n : Int} (h : ¬ (1 ≤ n ∧ n ≤ 4 ∧ 1 ≤ l.length ∧ l.length ≤ 50)) : allV l n = .tuple #[.int .i64 1, .int .i64 0] := by
  unfold allV allB
  rw [if_neg]
  intro ⟨h1, h2, h3⟩
  unfold okDims at h1
  simp only [Bool.and_eq_true, decide_eq_true_iff] at h1
  exact h ⟨h1.1, h1.2, h2, h3⟩
theorem allV_at {l : List F9} {n : Int} (h : 1 ≤ n ∧ n ≤ 4 ∧ 1 ≤ l.length ∧ l.length ≤ 50) {a b : Int} (e : badAt n l 0 = (a, b)) : allV l n = .tuple #[.int .i64 a, .int .i64 b] := by
  unfold allV allB
  rw [if_pos ⟨by unfold okDims; simp [h.1, h.2.1], h.2.2⟩, e]

end Go.Proofs.YticglepkbihldaaGreat

/-
  Stage 9: the program's Check and All, with the document's answers.
-/
namespace Go.Proofs.YticglepkbihldaaGreat
open Go.RowKit

set_option maxRecDepth 100000

theorem counted_any9 (n : Int) (w : World) : Calls Tryz.prog 76 #[.int .i64 n] w fun e w' => e = .returned (.bool (okDims n)) ∧ w' = w := by
  unfold okDims
  by_cases n1 : 1 ≤ n
  · by_cases n4 : n ≤ 4
    · rw [decide_eq_true n1, decide_eq_true n4]
      go_enter Tryz.func76, Tryz.ntmps76
      go_wp2
      go_ret
      exact ⟨rfl, rfl⟩
    · rw [decide_eq_true n1, decide_eq_false n4]
      go_enter Tryz.func76, Tryz.ntmps76
      go_wp2
      go_ret
      exact ⟨rfl, rfl⟩
  · rw [decide_eq_false n1]
    go_enter Tryz.func76, Tryz.ntmps76
    go_wp2
    go_ret
    exact ⟨rfl, rfl⟩

theorem okText_in {n : Int} {i : Nat} {t : List UInt8} (h : (i : Int) < n) : okText n i t = decide (t.length ≤ 16) := by simp [okText, h]
theorem okText_out {n : Int} {i : Nat} {t : List UInt8} (h : ¬ (i : Int) < n) : okText n i t = decide (t.length ≤ 0) := by
  cases t with
  | nil => simp [okText]
  | cons x t => simp [okText, h]

set_option maxHeartbeats 8000000 in
theorem fits_any9 (k : K9) (n : Int) (w : World) : Calls Tryz.prog 77 #[.agg #[sv9 k.a, sv9 k.b, sv9 k.c, sv9 k.d], .int .i64 n] w fun e w' => e = .returned (.bool (okTexts n k)) ∧ Turn (fun _ => False) w w' := by
  obtain ⟨w0, hw0⟩ : ∃ w0, w0 = w.alloc (.cells #[sv9 k.a, sv9 k.b, sv9 k.c, sv9 k.d] 46) := ⟨_, rfl⟩
  have HT0 : Hid (Turn (fun _ => False) w w0) := by rw [hw0]; exact (Turn.refl _ w).alloc _
  have HW := Lib.hid hw0
  have hix0 : ∀ i : Nat, i < 4 → ∀ W, Sem.run Tryz.prog (Instr.index 46 (.agg #[sv9 k.a, sv9 k.b, sv9 k.c, sv9 k.d]) (.int .i64 (i : Int))) W = .ok (sv9 (k.dim i)) W := fun i hi W => by
    match i, hi with
    | 0, _ => rfl
    | 1, _ => rfl
    | 2, _ => rfl
    | 3, _ => rfl
  have HIX := Lib.hid hix0
  clear hw0 hix0
  go_enter Tryz.func77, Tryz.ntmps77
  go_wp2_with fail
  rw [← HW.out]
  go_loopw [9] (fun x9 wr => wr = w0 ∧ ∃ i : Nat, x9 = .int .i64 (i : Int) ∧ i ≤ 4 ∧ ∀ j, j < i → okText n j (k.dim j) = true) (fun x9 _ => 4 - (intOf x9).toNat)
  case atStart => exact ⟨rfl, 0, rfl, Nat.zero_le _, fun k hk => absurd hk (Nat.not_lt_zero k)⟩
  case round =>
    obtain ⟨rfl, i, rfl, hi, he⟩ := hrel
    have HE := Lib.hid he
    clear he
    by_cases hlt : i < 4
    · have hix := HIX.out i hlt
      have hil : (i : Int) < 4 := by omega
      unfold sv9 at hix ⊢
      have HBAD : Hid (okText n i (k.dim i) = false → okTexts n k = false) := fun h => okTexts_not hlt h
      have HGOOD : Hid (okText n i (k.dim i) = true → ∀ j, j < i + 1 → okText n j (k.dim j) = true) := fun h j hj => by
        by_cases ek : j = i
        · rw [ek]; exact h
        · exact HE.out j (by omega)
      generalize hT : k.dim i = T at *
      by_cases hin : (i : Int) < n
      · by_cases hlen : T.length ≤ 16
        · have HK := Lib.hid (HGOOD.out ((okText_in hin).trans (decide_eq_true hlen)))
          have hl2 : ¬ ((16 : Int) < T.length) := by omega
          have hnn : ¬ (n ≤ (i : Int)) := by omega
          clear HBAD HGOOD
          go_wp2
          go_roundw
          case rel => exact ⟨trivial, i + 1, by go_num, hlt, HK.out⟩
          case measure => simp [intOf]; omega
        · have HK := Lib.hid (HBAD.out ((okText_in hin).trans (decide_eq_false hlen)))
          have hl2 : (16 : Int) < T.length := by omega
          have hnn : ¬ (n ≤ (i : Int)) := by omega
          clear HBAD HGOOD
          go_wp2
          go_ret
          rw [HK.out]
          exact ⟨rfl, HT0.out⟩
      · by_cases hlen : T.length ≤ 0
        · have HK := Lib.hid (HGOOD.out ((okText_out hin).trans (decide_eq_true hlen)))
          have hl2 : ¬ ((0 : Int) < T.length) := by omega
          have hnn : n ≤ (i : Int) := by omega
          clear HBAD HGOOD
          go_wp2
          go_roundw
          case rel => exact ⟨trivial, i + 1, by go_num, hlt, HK.out⟩
          case measure => simp [intOf]; omega
        · have HK := Lib.hid (HBAD.out ((okText_out hin).trans (decide_eq_false hlen)))
          have hl2 : (0 : Int) < T.length := by omega
          have hnn : n ≤ (i : Int) := by omega
          clear HBAD HGOOD
          go_wp2
          go_ret
          rw [HK.out]
          exact ⟨rfl, HT0.out⟩
    · obtain rfl : i = 4 := by omega
      have HK : Hid (okTexts n k = true) := okTexts_all HE.out
      go_wp2
      go_ret
      rw [HK.out]
      exact ⟨rfl, HT0.out⟩

set_option maxHeartbeats 8000000 in
theorem check_any9 (f : F9) (n : Int) (w : World) : Calls Tryz.prog 47 #[fv9 f, .int .i64 n] w fun e w' => e = .returned (.int .i64 (chkF f n)) ∧ Turn (fun _ => False) w w' := by
  unfold fv9
  obtain ⟨w0, hw0⟩ : ∃ w0, w0 = w.alloc (.cells #[.int .i64 f.k.h, sv9 f.k.a, sv9 f.k.b, sv9 f.k.c, sv9 f.k.d, .int .i64 f.v] 89) := ⟨_, rfl⟩
  have HT0 : Hid (Turn (fun _ => False) w w0) := by rw [hw0]; exact (Turn.refl _ w).alloc _
  have hb1 : Box w0 w.heap.size 89 #[.int .i64 f.k.h, sv9 f.k.a, sv9 f.k.b, sv9 f.k.c, sv9 f.k.d, .int .i64 f.v] := by rw [hw0]; exact Box.new w _ _
  have c0 := hb1.cell 0
  have c1 := hb1.cell 1
  have c2 := hb1.cell 2
  have c3 := hb1.cell 3
  have c4 := hb1.cell 4
  have c5 := hb1.cell 5
  have HW := Lib.hid hw0
  have HCT : Hid (∀ W, Calls Tryz.prog 76 #[.int .i64 n] W fun e w' => e = .returned (.bool (okDims n)) ∧ w' = W) := fun W => counted_any9 n W
  clear hb1 hw0
  by_cases hn : 1 ≤ n ∧ n ≤ 4
  · rw [show okDims n = true by unfold okDims; simp [hn]] at HCT
    by_cases hr : 0 ≤ f.k.h ∧ f.k.h ≤ 16777216 ∧ f.v ≤ 1152921504606846976 ∧ -1152921504606846976 ≤ f.v
    · have HN := Lib.hid hn
      have HR := Lib.hid hr
      obtain ⟨n1, n2⟩ := hn
      obtain ⟨r1, r2, r3, r4⟩ := hr
      have HK : Hid (chkF f n = if okTexts n f.k then 0 else 4) := by
        show _ = _
        cases ht : okTexts n f.k with
        | true => exact chk_ok HN.out HR.out ht
        | false => exact chk_text HN.out HR.out ht
      have HFT := Lib.hid (fits_any9 f.k n w0)
      cases hb : okTexts n f.k with
      | true =>
        rw [hb] at HK HFT
        clear hb
        go_enter Tryz.func47, Tryz.ntmps47
        go_wp2_with fail
        rw [← HW.out]
        refine (HCT.out _).mono ?_
        rintro e w1 ⟨rfl, rfl⟩
        go_wp2_with fail
        refine HFT.out.mono ?_
        rintro e w2 ⟨rfl, t2⟩
        have HT2 := Lib.hid (HT0.out.trans t2 (fun _ _ f => f))
        clear t2 c0 c1 c2 c3 c4 c5
        go_wp2
        go_ret
        rw [HK.out]
        exact ⟨rfl, HT2.out⟩
      | false =>
        rw [hb] at HK HFT
        clear hb
        go_enter Tryz.func47, Tryz.ntmps47
        go_wp2_with fail
        rw [← HW.out]
        refine (HCT.out _).mono ?_
        rintro e w1 ⟨rfl, rfl⟩
        go_wp2_with fail
        refine HFT.out.mono ?_
        rintro e w2 ⟨rfl, t2⟩
        have HT2 := Lib.hid (HT0.out.trans t2 (fun _ _ f => f))
        clear t2 c0 c1 c2 c3 c4 c5
        go_wp2
        go_ret
        rw [HK.out]
        exact ⟨rfl, HT2.out⟩
    · rw [chk_range hn hr]
      obtain ⟨n1, n2⟩ := hn
      by_cases r1 : f.k.h < 0
      · clear hr
        go_enter Tryz.func47, Tryz.ntmps47
        go_wp2_with fail
        rw [← HW.out]
        refine (HCT.out _).mono ?_
        rintro e w1 ⟨rfl, rfl⟩
        go_wp2
        go_ret
        exact ⟨rfl, HT0.out⟩
      · by_cases r2 : 16777216 < f.k.h
        · clear hr
          go_enter Tryz.func47, Tryz.ntmps47
          go_wp2_with fail
          rw [← HW.out]
          refine (HCT.out _).mono ?_
          rintro e w1 ⟨rfl, rfl⟩
          go_wp2
          go_ret
          exact ⟨rfl, HT0.out⟩
        · by_cases r3 : 1152921504606846976 < f.v
          · clear hr
            go_enter Tryz.func47, Tryz.ntmps47
            go_wp2_with fail
            rw [← HW.out]
            refine (HCT.out _).mono ?_
            rintro e w1 ⟨rfl, rfl⟩
            go_wp2
            go_ret
            exact ⟨rfl, HT0.out⟩
          · have r4 : f.v < -1152921504606846976 := by omega
            clear hr
            go_enter Tryz.func47, Tryz.ntmps47
            go_wp2_with fail
            rw [← HW.out]
            refine (HCT.out _).mono ?_
            rintro e w1 ⟨rfl, rfl⟩
            go_wp2
            go_ret
            exact ⟨rfl, HT0.out⟩
  · rw [show okDims n = false by unfold okDims; simpa using hn] at HCT
    rw [chk_dims hn]
    clear hn
    go_enter Tryz.func47, Tryz.ntmps47
    go_wp2_with fail
    rw [← HW.out]
    refine (HCT.out _).mono ?_
    rintro e w1 ⟨rfl, rfl⟩
    go_wp2
    go_ret
    exact ⟨rfl, HT0.out⟩

end Go.Proofs.YticglepkbihldaaGreat

/-
  Stage 12: which key fits; the iterator over a segment's rows, and what it feeds.
-/
namespace Go.Proofs.YticglepkbihldaaGreat
open Go.RowKit Go.Shelf
attribute [local go_sem] Oper.semAt_some wide_fn

set_option maxRecDepth 100000

theorem key_chk12 (k : K9) (n : Int) (w : World) : Calls Tryz.prog 24 #[kv9 k, .int .i64 n] w fun e w' => e = .returned (.int .i64 (chkF ⟨k, 0⟩ n)) ∧ Turn (fun _ => False) w w' := by
  have HC : Hid (∀ W, Calls Tryz.prog 47 #[fv9 ⟨k, 0⟩, .int .i64 n] W fun e w' => e = .returned (.int .i64 (chkF ⟨k, 0⟩ n)) ∧ Turn (fun _ => False) W w') := fun W => check_any9 ⟨k, 0⟩ n W
  go_enter Tryz.func24, Tryz.ntmps24
  go_wp2_with fail
  refine (HC.out _).mono ?_
  rintro e w1 ⟨rfl, t⟩
  have HT : Hid (Turn (fun _ => False) w w1) := ((Turn.refl _ w).alloc _).trans t (fun _ _ f => f)
  clear t HC
  go_wp2
  go_ret
  exact ⟨rfl, HT.out⟩
theorem dims_chk12 (n : Int) (w : World) : Calls Tryz.prog 22 #[.int .i64 n] w fun e w' => e = .returned (.int .i64 (dimsF n)) ∧ Turn (fun _ => False) w w' := by
  have HC : Hid (∀ W, Calls Tryz.prog 24 #[kv9 ⟨0, [], [], [], []⟩, .int .i64 n] W fun e w' => e = .returned (.int .i64 (chkF ⟨⟨0, [], [], [], []⟩, 0⟩ n)) ∧ Turn (fun _ => False) W w') := fun W => key_chk12 ⟨0, [], [], [], []⟩ n W
  have HE : Hid (chkF ⟨⟨0, [], [], [], []⟩, 0⟩ n = dimsF n) := by
    show _ = _
    unfold chkF dimsF
    by_cases h : okDims n = true
    · rw [if_pos h, if_pos h, if_pos (by simp)]
      simp [okTexts, okText]
    · rw [if_neg h, if_neg h]
  go_enter Tryz.func22, Tryz.ntmps22
  go_wp2_with fail
  refine (HC.out _).mono ?_
  rintro e w1 ⟨rfl, t⟩
  have HT := Lib.hid t
  clear t HC
  go_wp2
  go_ret
  exact ⟨by rw [HE.out]; rfl, HT.out⟩

/-- Blocks that a round over a segment's rows may turn: not the segment's own. -/
def FreeS12 (w : World) (s : Value) (L : List R11) (S : Nat → Prop) : Prop :=
  ∀ b sl, s = .pointer (some ⟨b, 0, none⟩) → Box w b 83 #[sl] → RdE ER w sl L → ¬ S b ∧ (0 < L.length → ∀ k, sl.ownBlock = some k → ¬ S k)
/-- A range over rows: what it gives. -/
def Rows12 (w : World) (s : Value) (L : List R11) (e : Ending) (w' : World) : Prop := ∃ gf lb, e = .returned (.func (.func gf) #[] lb) ∧ (∀ args W, (callFunc gf args).run Tryz.prog W = .ok (.enter gf args) W) ∧ Turn (fun _ => False) w w' ∧
  ∀ (n : Nat) (S : Nat → Prop), (∀ k cs, S k → w.heap.size ≤ k → ¬ Box w' k 25 cs) → FreeS12 w' s L S → Feeds3 n gf lb (fun r => #[rv11 r]) S (fun pre y _ => pre ++ [y] <+: L) (fun xs => xs = L) (fun pre => pre <+: L) w'

theorem yield_depth12 {m m' : Nat} {P : Program} {l : Nat} {args : Array Value} {W : World} {R : Ending → World → Prop} (h : YieldAt Fence.wide m P l args W R) : YieldAt Fence.wide m' P l args W R := by
  obtain ⟨fn, tmps, assign, body, hy, hR⟩ := h
  exact ⟨fn, tmps, assign, body, hy, hR.1, fun c cs _ => hR.2 c cs (room_wide _)⟩
theorem calls_depth12 {m m' : Nat} {P : Program} {f : FuncId} {args : Array Value} {W : World} {R : Ending → World → Prop} (h : CallsIn Fence.wide m P f args W R) : CallsIn Fence.wide m' P f args W R := callsIn_wide.2 (callsIn_wide.1 h)
theorem take_pre12 {L : List R11} {i : Nat} {x : R11} (h : L[i]? = some x) : L.take i ++ [x] = L.take (i + 1) ∧ L.take i ++ [x] <+: L := by
  obtain ⟨h0, e⟩ := List.getElem?_eq_some_iff.1 h
  have h1 : L.take i ++ [x] = L.take (i + 1) := by rw [List.take_succ_eq_append_getElem h0, e]
  exact ⟨h1, by rw [h1]; exact List.take_prefix _ _⟩
theorem at_row12 {L : List R11} {i : Nat} {x : R11} (h : L[i]? = some x) : rowA (atR (i : Int) L) = .tuple #[rv11 x, .bool true] := by
  unfold atR
  rw [if_pos (Int.natCast_nonneg i), Int.toNat_natCast, h]
  rfl
/-- A segment is kept where what turns is not its own. -/
theorem SV11.kept {w w' : World} {s : Value} {L : List R11} {S : Nat → Prop} (h : SV11 w s L) (hS : FreeS12 w s L S) (ht : Turn S w w') : SV11 w' s L := by
  refine ⟨h.1, h.2.imp id ?_⟩
  rintro ⟨b, sl, rfl, hb, hr⟩
  obtain ⟨h1, h2⟩ := hS b sl rfl hb hr
  refine ⟨b, sl, rfl, hb.turn ht h1, ?_⟩
  by_cases hp : 0 < L.length
  · exact hr.turn ht (h2 hp)
  · obtain rfl : L = [] := List.eq_nil_of_length_eq_zero (by omega)
    exact rd_empty hr
theorem FreeS12.turn {w w' : World} {s : Value} {L : List R11} {S : Nat → Prop} (h : FreeS12 w s L S) (hv : SV11 w s L) (ht : Turn S w w') : FreeS12 w' s L S := by
  rintro b sl rfl hb hr
  rcases hv.2 with ⟨e, _⟩ | ⟨b2, sl2, e, hb2, hr2⟩
  · cases e
  · cases e
    obtain ⟨h1, h2⟩ := h _ _ rfl hb2 hr2
    have hb3 := hb2.turn ht h1
    have e2 := hb.symm.trans hb3
    injection e2 with e2
    injection e2 with e2 _
    injection e2 with e2
    injection e2 with e2 _
    subst e2
    exact ⟨h1, h2⟩

set_option maxHeartbeats 4000000 in
theorem rows_feed12 (n q : Nat) (s : Value) (L : List R11) (w : World) (hq : Box w q 25 #[s]) (hs : SV11 w s L) (S : Nat → Prop) (h1 : ¬ S q) (h2 : FreeS12 w s L S) :
    Feeds3 n 45 #[.pointer (some ⟨q, 0, none⟩)] (fun r => #[rv11 r]) S (fun pre y _ => pre ++ [y] <+: L) (fun xs => xs = L) (fun pre => pre <+: L) w := fun l J Jx W hW hlW hJ hJx hY h0 => by
  have HQ := Lib.hid (hq.turn hW (fun f => f))
  have HS := Lib.hid (hs.later hW)
  have HF := Lib.hid (h2.turn hs (hW.mono fun _ _ f => f.elim))
  have HY := Lib.hid hY; have HJ := Lib.hid hJ
  have HSQ := Lib.hid h1
  have H0 := Lib.hid h0
  have hl := hs.right.2.2
  obtain ⟨p, rfl⟩ := hs.ptr
  have hc0 := HQ.out.cell 0
  clear hY hJ hJx hlW h0 hq hW h1 h2 hs
  refine calls_depth12 (m := 5) ?_
  refine callsIn_of_wp Tryz.func45 rfl trivial ?_ rfl
  simp only [Tryz.ntmps45, List.size_toArray, List.length_cons, List.length_nil, Nat.reduceAdd, Nat.reduceSub, Array.replicate_succ, Array.replicate_zero, List.push_toArray, List.append_toArray, List.nil_append, List.cons_append]
  have HL0 := Lib.hid (len_same11 _ L W HS.out)
  gi_wp2_with fail
  refine (callsIn_wide.2 HL0.out).mono ?_
  rintro e w0 ⟨rfl, rfl⟩
  clear HL0
  gi_wp2
  gi_loopw [8] (fun x wr => ∃ i : Nat, x = .int .i64 (i : Int) ∧ i ≤ L.length ∧ J (L.take i) wr ∧ Box wr q 25 #[.pointer p] ∧ SV11 wr (.pointer p) L ∧ FreeS12 wr (.pointer p) L S) (fun x _ => L.length - (intOf x).toNat)
  case atStart => exact ⟨0, rfl, Nat.zero_le _, H0.out, HQ.out, HS.out, HF.out⟩
  case round =>
    clear H0 HQ HS HF hc0
    obtain ⟨i, rfl, hi, hj, hqb, hsv, hfr⟩ := hrel
    have HJ0 := Lib.hid hj; have HQ := Lib.hid hqb; have HS := Lib.hid hsv; have HF := Lib.hid hfr
    clear hj hqb hsv hfr
    by_cases hlt : i < L.length
    · obtain ⟨x, hx⟩ : ∃ x, L[i]? = some x := ⟨_, List.getElem?_eq_getElem hlt⟩
      have hil : (i : Int) < L.length := by omega
      have hc0 := HQ.out.cell 0
      have hat := at_any11 (.pointer p) L (i : Int) wr HS.out
      rw [at_row12 hx] at hat
      have HA := Lib.hid hat
      have HPR := Lib.hid (take_pre12 hx)
      clear hx hat
      gi_wp2_with fail
      refine (callsIn_wide.2 HA.out).mono ?_
      rintro e w1 ⟨rfl, t1⟩
      have ht1 : Turn (fun _ => False) wr (w1.alloc (.cells (cells11 x) 52)) := t1.alloc _
      have HT1 := Lib.hid ht1
      obtain ⟨fn, tm, asg, bo, hy, hrr⟩ := yield_depth12 (m' := 5 - 1) (HY.out (L.take i) x (w1.alloc (.cells (cells11 x) 52)) (HJ.out _ _ _ HJ0.out ht1.none) HPR.out.2)
      have HRR := Lib.hid hrr
      clear ht1 hrr t1 HA hc0
      gi_wp2_with fail
      refine HRR.out.mono ?_
      intro e w2 hp
      rcases hp with ⟨rfl, hj2, hk2, -⟩ | ⟨rfl, hx2, -⟩
      · have HJ2 := Lib.hid hj2
        have HK2 := Lib.hid hk2
        clear hj2 hk2
        gi_wp2
        go_roundw
        case rel => exact ⟨i + 1, by go_num, hlt, by rw [← HPR.out.1]; exact HJ2.out, (HQ.out.turn HT1.out (fun f => f)).turn HK2.out HSQ.out, (HS.out.later HT1.out).kept (HF.out.turn HS.out HT1.out.none) HK2.out, (HF.out.turn HS.out HT1.out.none).turn (HS.out.later HT1.out) HK2.out⟩
        case measure => simp [intOf]; omega
      · have HX2 := Lib.hid hx2
        clear hx2
        gi_wp2
        refine bodyPost_ret (results_none rfl _ _ _) rfl ?_
        exact ⟨⟨_, rfl⟩, .inr ⟨L.take i ++ [x], HPR.out.2, HX2.out⟩⟩
    · obtain rfl : i = L.length := by omega
      have HJE : Hid (J L wr) := by have h := HJ0.out; rw [List.take_length] at h; exact h
      gi_wp2
      go_end0
      exact ⟨⟨_, rfl⟩, .inl ⟨L, rfl, HJE.out⟩⟩

theorem rows_any12 (s : Value) (L : List R11) (w : World) (h : SV11 w s L) : Calls Tryz.prog 23 #[s] w fun e w' => Rows12 w s L e w' := by
  have HS := Lib.hid h
  obtain ⟨p, rfl⟩ := h.ptr
  clear h
  go_enter Tryz.func23, Tryz.ntmps23
  go_wp2
  go_ret
  refine ⟨_, _, rfl, enters_of Tryz.func45 (by kernel_rfl) rfl, (Turn.refl _ w).alloc _, fun n S h1 h2 => ?_⟩
  exact rows_feed12 n w.heap.size _ L _ (Box.new w _ _) (HS.out.later ((Turn.refl _ w).alloc _)) S (fun e => h1 _ _ e (Nat.le_refl _) (Box.new w _ _)) h2

end Go.Proofs.YticglepkbihldaaGreat

/-
  A region that draws its order, walked by hand (drawn_region's words), in a round of a range over a function. No type is named here.
-/
namespace Go.Proofs.YticglepkbihldaaGreat
open Go.RowKit

/-- Nothing but going on is owed. -/
def goesOn (Q : Exit → Act → World → Prop) : Exit → Act → World → Prop
  | .normal, a, w => Q .normal a w
  | _, _, _ => False
theorem goes_on {Q : Exit → Act → World → Prop} {a : Act} {w : World} (h : Q .normal a w) : goesOn Q .normal a w := h

section
variable {P : Program} {l0 n : Nat} {ops : Array Oper} {md : Region.Mode} {Q : Exit → Act → World → Prop}
theorem op_in {o : Oper} {a : Act} {w : World} {K K' : Act → World → Prop} (hd : noDefer o.op = true) (hK : ∀ a w, K a w → K' a w) (h : o.wp P a w K (goesOn Q) ∨ (o.asks P a w ∧ LetsOut (goesOn Q))) :
    o.wpIn (Fence.wide.inRound l0) n P a w K' Q := by
  rcases h with h | ⟨_, a', w', h⟩
  · unfold Oper.wp at h
    unfold Oper.wpIn
    refine ⟨fun f _ => trivial, ?_⟩
    rw [Oper.semAt_eq _ _ _ (noDefer_ne hd)]
    generalize (execOp a.eval o).run P w = r at *
    rcases r with ⟨x, w'⟩ | ⟨x, w'⟩
    · cases x <;> simp only [Oper.upon] at h <;> simp only [Oper.uponIn]
      case value => exact hK _ _ h
      case skip => exact hK _ _ h
      case defer => exact hK _ _ h
      case enter f args =>
        refine ⟨fun h0 => (by cases h0), CallsIn.inRound l0 (callsIn_wide.2 (h.mono fun e w'' he => ?_))⟩
        cases e with
        | returned v => exact hK _ _ he
        | panicked c => exact he.elim
        | outgrown =>
          obtain ⟨a', w', h⟩ := he
          exact h.elim
      case row row args =>
        refine ⟨fun h0 => (by cases h0), fun c cs _ => ?_⟩
        obtain ⟨v, w'', hv, hs⟩ := h c cs
        exact ⟨v, w'', hK _ _ hv, stepsIn_wide.2 hs⟩
    · cases x <;> simp only [Oper.upon] at h
      exact h.elim
  · exact h.elim
theorem any_in (hnd : ∀ o ∈ ops.toList, noDefer o.op = true) : ∀ (fuel : Nat) (listed : Array Bool) (a : Act) (w : World), wpAny P md ops (goesOn Q) fuel listed a w → wpAnyIn (Fence.wide.inRound l0) n P md ops Q fuel listed a w
  | 0, _, _, _, h => ⟨h.1, h.2⟩
  | fuel + 1, listed, a, w, h => ⟨fun h0 => h.1 h0, fun i hi => by
    have h1 := h.2 i hi
    unfold wpOp at h1
    unfold wpOpIn
    cases ho : ops[i]? with
    | none =>
      simp only [ho] at h1
      exact any_in hnd fuel _ a w h1
    | some o =>
      simp only [ho] at h1
      have hm : noDefer o.op = true := hnd o (Array.mem_toList_iff.2 (Array.mem_of_getElem? ho))
      by_cases hw : Region.wanted o (yielded ops a.tmps)
      · simp only [hw, if_true] at h1 ⊢
        exact op_in hm (fun a' w' => any_in hnd fuel _ a' w') h1
      · simp only [hw] at h1 ⊢
        exact ⟨fun f _ => trivial, any_in hnd fuel _ _ _ h1⟩⟩
theorem drawn_region_in (S : World → Prop) (zs : List Nat) {id : Nat} {ts : Array Value} {ds : List Deferred} {w : World} (hnd : (ops.toList.all fun o => noDefer o.op) = true) (hm : P.follows .mixedOrders = true)
    (h : Drawn P ops (goesOn Q) S zs ops.size (Array.replicate ops.size false) ts ds w.drew) : (Code.region id ops true).wpIn (Fence.wide.inRound l0) n P Q { tmps := ts, defers := ds } w :=
  wpIn_region_any hm (any_in (fun o ho => by rw [List.all_eq_true] at hnd; exact hnd o ho) _ _ _ _ (wpAny_ofG _ _ _ _ (h Shutd.start)))
end

end Go.Proofs.YticglepkbihldaaGreat

/-
  A range over a function, as over4, its loop variable boxed: the activation of a round is a function of what has come and of its box, found by unification in the case 'assign'. No type is named.
-/
namespace Go.Proofs.YticglepkbihldaaGreat
open Go.RowKit

theorem over5 {α : Type} {n : Nat} {g : Operand} {ps : Array Tmp} {assign body : Code} {Q : Exit → Act → World → Prop} {a : Act} {w w0 : World} (h1 : 1 ≤ n)
    {gf : Nat} {lb : Array Value} (hg : a.eval g = .func (.func gf) #[] lb) (eg : ∀ args w, (callFunc gf args).run Tryz.prog w = .ok (.enter gf args) w)
    {encs : α → Array Value} {S : Nat → Prop} {Gv : List α → α → World → Prop} {All Part : List α → Prop} (hseq : Feeds3 (n - 1) gf lb encs S Gv All Part w0) (hb0 : Turn (fun _ => False) w0 w)
    (hS : S (w.heap.size + 1)) (hps : ∀ x, (encs x).size = ps.size) (A : α → Nat → Act)
    (I : List α → World → Prop) (Ix : Code → List α → World → Prop) (hI : Holds w.heap.size I) (hIx : ∀ c, Holds w.heap.size (Ix c)) (h0 : I [] w) (I2 : List α → α → Nat → World → Prop) (hI2 : ∀ pre x q A B, I2 pre x q A → Turn (odd w.heap.size A) A B → I2 pre x q B)
    (hassign : ∀ (l : Nat) (pre : List α) (x : α) (W : World) (K : Act → World → Prop), I pre W → Gv pre x W → (∀ q W', I2 pre x q W' → Turn (fun _ => False) W W' → K (A x q) W') →
      assign.wpIn (Fence.wide.inRound l) (n - 1 - 1) Tryz.prog (Exit.then K (fun _ _ _ => False)) { tmps := (ps.zip (encs x)).foldl (fun t (p, v) => t.setIfInBounds p v) a.tmps, defers := [] } W)
    (hbody : ∀ (l : Nat) (pre : List α) (x : α) (q : Nat) (W : World), I2 pre x q W → body.wpIn (Fence.wide.inRound l) (n - 1 - 1) Tryz.prog (postF w.heap.size S I Ix (pre ++ [x]) W) (A x q) W)
    (hdone : ∀ (D : Nat) (xs : List α) (W : World), w.heap.size ≤ D → All xs → I xs W → W.heap[D]? = some (.deferred (some [])) → Q .normal { a with defers := { target := .collected D, args := #[] } :: a.defers } W)
    (hstop : ∀ (D : Nat) (c : Code) (pre : List α) (W : World), w.heap.size ≤ D → Part pre → Ix c pre W → W.heap[D]? = some (.deferred (some [])) → c.wpIn Fence.wide n Tryz.prog Q { a with defers := { target := .collected D, args := #[] } :: a.defers } W) :
    (Code.rangeFunc g ps assign body).wpIn Fence.wide n Tryz.prog Q a w :=
  over4 h1 hg eg hseq hb0 hS hps I Ix hI hIx h0 (fun pre x a' W => ∃ q, a' = A x q ∧ I2 pre x q W) (fun pre x a' B C ⟨q, h, k⟩ ht => ⟨q, h, hI2 pre x q B C k ht⟩)
    (fun l pre x W K hi hgv hK => hassign l pre x W K hi hgv fun q W' h ht => hK _ _ ⟨q, rfl, h⟩ ht)
    (fun l pre x a' W ⟨q, h, k⟩ => by subst h; exact hbody l pre x q W k) hdone hstop

end Go.Proofs.YticglepkbihldaaGreat

/-
  Stage 12: Fits: the first row that does not fit.
-/
namespace Go.Proofs.YticglepkbihldaaGreat
open Go.RowKit Go.Shelf
attribute [local go_sem] Oper.semAt_some wide_fn

set_option maxRecDepth 100000

theorem row_cells12 {r : R11} : ∀ i, i < 4 → (cells11 r)[1 + i]? = some (sv9 (r.k.dim i)) := fun i hi => by
  match i, hi with
  | 0, _ => rfl
  | 1, _ => rfl
  | 2, _ => rfl
  | 3, _ => rfl
/-- What has been laid since is not the segment's. -/
theorem FreeS12.new {w w' : World} {s : Value} {L : List R11} {S : Nat → Prop} (h : SV11 w s L) (ht : Turn (fun _ => False) w w') (hS : ∀ k, S k → w.heap.size ≤ k) : FreeS12 w' s L S := by
  rintro b sl rfl hb hr
  rcases h.2 with ⟨e, _⟩ | ⟨b2, sl2, e, hb2, hr2⟩
  · cases e
  · cases e
    have hb3 := hb2.turn ht (fun f => f)
    have e2 := hb.symm.trans hb3
    injection e2 with e2
    injection e2 with e2 _
    injection e2 with e2
    injection e2 with e2 _
    subst e2
    refine ⟨fun e => by have := hS _ e; have := hb2.lt; omega, fun hpos k hk e => ?_⟩
    have h1 := hS _ e
    obtain ⟨x, hx⟩ : ∃ x, L[0]? = some x := ⟨_, List.getElem?_eq_getElem hpos⟩
    obtain ⟨A, c, rfl⟩ := hr2.shape
    obtain ⟨ad, rfl, hc⟩ := row_at11 hr2 hx
    obtain ⟨a0, -⟩ := hc w (Turn.refl _ _)
    have hkb : ad.block = k := by simpa [Value.ownBlock] using hk
    have hlt := World.block_lt_of_cell? w _ a0
    rw [Nat.zero_mul, eadd_block] at hlt
    omega

/-- In the range: as many rows as have come fit. -/
structure FitI12 (w2 : World) (d g : Nat) (n : Int) (pre : List R11) (V : World) : Prop where
  turn : Turn (fun _ => False) w2 V
  dims : Box V d 3 #[.int .i64 n]
  res : Box V g 27 #[.int .i64 0]
  all : ∀ r ∈ pre, chkF ⟨r.k, 0⟩ n = 0
theorem FitI12.odd {w2 A B : World} {d g D : Nat} {n : Int} {pre : List R11} (h : FitI12 w2 d g n pre A) (hD : w2.heap.size ≤ D) (ht : Turn (odd D A) A B) : FitI12 w2 d g n pre B :=
  ⟨h.turn.trans ht (fun k hk e => by have := e.1; omega), h.dims.odd ht, h.res.odd ht, h.all⟩
theorem FitI12.later {w2 A B : World} {d g : Nat} {n : Int} {pre : List R11} (h : FitI12 w2 d g n pre A) (ht : Turn (fun _ => False) A B) : FitI12 w2 d g n pre B :=
  ⟨h.turn.trans ht (fun _ _ f => f), h.dims.turn ht (fun f => f), h.res.turn ht (fun f => f), h.all⟩
/-- .. at the row that does not. -/
structure FitX12 (w2 : World) (g : Nat) (n : Int) (L : List R11) (V : World) : Prop where
  turn : Turn (fun k => k = g) w2 V
  res : Box V g 27 #[.int .i64 (fitR n L)]
theorem FitX12.odd {w2 A B : World} {g D : Nat} {n : Int} {L : List R11} (h : FitX12 w2 g n L A) (hD : w2.heap.size ≤ D) (ht : Turn (odd D A) A B) : FitX12 w2 g n L B :=
  ⟨h.turn.trans ht (fun k hk e => by have := e.1; omega), h.res.odd ht⟩

set_option maxHeartbeats 8000000 in
theorem fits_any12 (s : Value) (L : List R11) (n : Int) (w : World) (h : SV11 w s L) : Calls Tryz.prog 9 #[s, .int .i64 n] w fun e w' => e = .returned (.int .i64 (fitL L n)) ∧ Turn (fun _ => False) w w' := by
  have HS := Lib.hid h
  have HDC := Lib.hid (fun W => dims_chk12 n W)
  obtain ⟨p, rfl⟩ := h.ptr
  clear h
  obtain ⟨d, hd⟩ : ∃ d : Nat, d = w.heap.size := ⟨_, rfl⟩
  obtain ⟨w1, hw1⟩ : ∃ w1, w1 = (w.alloc (.cells #[.int .i64 n] 3)).alloc (.cells #[.int .i64 0] 27) := ⟨_, rfl⟩
  have HT1 : Hid (Turn (fun _ => False) w w1) := by rw [hw1]; exact ((Turn.refl _ w).alloc _).alloc _
  have HB1 : Hid (Box w1 d 3 #[.int .i64 n]) := by rw [hw1, hd]; exact (Box.new w _ _).alloc _
  have HG1 : Hid (Box w1 (d + 1) 27 #[.int .i64 0]) := by
    rw [hw1, hd]
    have h := Box.new (w.alloc (.cells #[.int .i64 n] 3)) 27 #[.int .i64 0]
    rw [World.size_alloc] at h
    exact h
  have c1 := HB1.out.cell 0
  have HW1 := Lib.hid hw1; have HDD := Lib.hid hd
  clear hw1 hd
  have HF0 : Hid (fitL L n = if okDims n then fitR n L else 1) := rfl
  refine (callsIn_wide (n := 5)).1 ?_
  refine callsIn_of_wp_marks Tryz.func9 rfl trivial ?_ rfl
  simp only [Tryz.ntmps9, List.size_toArray, List.length_cons, List.length_nil, Nat.reduceAdd, Nat.reduceSub, Array.replicate_succ, Array.replicate_zero, List.push_toArray, List.append_toArray, List.nil_append, List.cons_append]
  refine wpIn_wide.2 ?_
  go_wp2_with fail
  rw [← HW1.out, ← HDD.out]
  go_wp2_with fail
  refine (HDC.out w1).mono ?_
  rintro e w2 ⟨rfl, t2⟩
  have HT2 := Lib.hid t2
  have HB2 := Lib.hid (HB1.out.turn t2 (fun f => f)); have HG2 := Lib.hid (HG1.out.turn t2 (fun f => f))
  have c2 := HG2.out.cell 0
  have f2 := HG2.out.free 0
  clear t2 c1
  cases hok : okDims n with
  | false =>
    have HFL : Hid (fitL L n = 1) := by rw [hok] at HF0; exact HF0.out
    have hdf : dimsF n = 1 := by unfold dimsF; rw [hok]; rfl
    rw [hdf]
    clear hdf hok
    go_wp2
    have h11 := (HG2.out.set 0 (.int .i64 1)).cell 0
    refine ⟨.int .i64 1, ?_, ?_, ?_⟩
    · simp [results, Tryz.f9, go_sem, h11]
    · rw [HFL.out]
    · exact (HT1.out.trans HT2.out (fun _ _ f => f)).setCell (p := ⟨d + 1, 0, none⟩) (fun h => by have := HDD.out; exact absurd h (by simp; omega)) _
  | true =>
    have HFL : Hid (fitL L n = fitR n L) := by rw [hok] at HF0; exact HF0.out
    have hdf : dimsF n = 0 := by unfold dimsF; rw [hok]; rfl
    rw [hdf]
    clear hdf hok HF0 c2 f2
    go_wp2_with fail
    refine (rows_any12 (.pointer p) L w2 ((HS.out.later HT1.out).later HT2.out)).mono ?_
    rintro e w3 ⟨gf, lb, rfl, heg, t3, hfe⟩
    have HT3 := Lib.hid t3
    have HB3 := Lib.hid (HB2.out.turn t3 (fun f => f)); have HG3 := Lib.hid (HG2.out.turn t3 (fun f => f))
    have HFE := Lib.hid (hfe 4 (fun k => w3.heap.size ≤ k) (fun k cs e _ hb => by have := hb.lt; omega) (FreeS12.new ((HS.out.later HT1.out).later HT2.out) t3 (fun k e => Nat.le_trans t3.size e)))
    have H0 : Hid (FitI12 w3 d (d + 1) n [] w3) := ⟨Turn.refl _ _, HB3.out, HG3.out, fun r hr => by cases hr⟩
    have HGS : Hid (d + 1 < w3.heap.size) := HG3.out.lt
    clear hfe t3
    go_wp2_with fail
    refine (wpIn_wide (n := 5)).1 ?_
    refine' over5 (n := 5) (by omega) (gf := gf) (lb := lb) rfl heg HFE.out (Turn.refl _ _) (Nat.le_succ _) (fun _ => rfl) _
      (fun (pre : List R11) V => FitI12 w3 d (d + 1) n pre V) (fun c _ V => c = .ret ∧ FitX12 w3 (d + 1) n L V) ?hI ?hIx H0.out
      (fun pre y q V => FitI12 w3 d (d + 1) n pre V ∧ Box V q 52 (cells11 y) ∧ pre ++ [y] <+: L) ?hax ?assign ?body ?done ?stop
    case assign =>
      intro l0 pre x W K hi hgv hK
      have HK := Lib.hid hK
      have HB : Hid (FitI12 w3 d (d + 1) n pre (W.alloc (.cells (cells11 x) 52)) ∧ Box (W.alloc (.cells (cells11 x) 52)) W.heap.size 52 (cells11 x) ∧ pre ++ [x] <+: L) := ⟨hi.later ((Turn.refl _ W).alloc _), Box.new W _ _, hgv⟩
      have HT : Hid (Turn (fun _ => False) W (W.alloc (.cells (cells11 x) 52))) := (Turn.refl _ W).alloc _
      clear hK hi hgv
      gi_wp2
      generalize W.alloc (.cells (cells11 x) 52) = W2 at *
      generalize W.heap.size = q at *
      exact HK.out q _ HB.out HT.out
    case hI =>
      intro pre A B h ht
      exact h.odd (Nat.le_refl _) ht
    case hIx =>
      rintro c pre A B ⟨h1, h2⟩ ht
      exact ⟨h1, h2.odd (Nat.le_refl _) ht⟩
    case hax =>
      rintro pre y q A B ⟨h2, h3, h4⟩ ht
      exact ⟨h2.odd (Nat.le_refl _) ht, h3.odd ht, h4⟩
    case body =>
      rintro l0 pre y q V ⟨hi, hq, hgv⟩
      obtain ⟨T, hT⟩ := hgv
      have HTL := Lib.hid hT
      have cd := hi.dims.cell 0
      have cg := hi.res.cell 0
      have fg := hi.res.free 0
      have q0 := hq.cell 0; have q1 := hq.cell 1; have q2 := hq.cell 2; have q3 := hq.cell 3; have q4 := hq.cell 4
      have HI := Lib.hid hi
      have HKC := Lib.hid (fun W => key_chk12 y.k n W)
      clear hT hi hq
      simp only [cells11] at q0 q1 q2 q3 q4
      gi_wp2_with fail
      refine (CallsIn.inRound l0 (callsIn_wide.2 (HKC.out V))).mono ?_
      rintro e V2 ⟨rfl, tv⟩
      have HI2 := Lib.hid (HI.out.later tv)
      have HTV := Lib.hid tv
      have cg2 := HI2.out.res.cell 0
      have fg2 := HI2.out.res.free 0
      clear tv cd cg fg q0 q1 q2 q3 q4
      by_cases h0 : chkF ⟨y.k, 0⟩ n = 0
      · have H0 := Lib.hid h0
        rw [h0]
        clear h0
        gi_wp2
        refine ⟨Still.turned HTV.out, HTV.out.none, HI2.out.turn, HI2.out.dims, HI2.out.res, fun r hr => ?_⟩
        rcases List.mem_append.1 hr with hr | hr
        · exact HI2.out.all r hr
        · rw [List.mem_singleton.1 hr]; exact H0.out
      · have HFR : Hid (fitR n L = chkF ⟨y.k, 0⟩ n) := by
          show _ = _
          rw [← HTL.out, List.append_assoc]
          exact fitR_at HI2.out.all h0
        rw [← HFR.out] at h0 ⊢
        obtain ⟨x, hx⟩ : ∃ x, x = fitR n L := ⟨_, rfl⟩
        rw [← hx] at h0 ⊢
        have HX := Lib.hid hx
        clear hx
        have hx1 : (x == 0) = false := by rw [beq_eq_false_iff_ne]; exact h0
        have hx2 : (x != 0) = true := by rw [bne_iff_ne]; exact h0
        clear h0
        gi_wp2
        refine ⟨(Still.turned HTV.out).trans (Still.setCell _ _ _), rfl, Turn.setCell (S := fun k => k = d + 1) (p := ⟨d + 1, 0, none⟩) HI2.out.turn.none (fun _ => rfl) _, by rw [← HX.out]; exact HI2.out.res.set 0 _⟩
    case stop =>
      rintro D c0 pre V hD hP ⟨rfl, hx⟩ hK
      refine wpIn_ret ?_
      have u1 : Turn (fun k => k = D) V (V.putObj D (.deferred none)) := Turn.putObj _ D _ rfl
      have h11 := (hx.res.turn u1 (fun e => by have := HGS.out; omega)).cell 0
      refine ⟨by simp, .inl ⟨_, _, rfl, run_takeDeferred hK, ?_⟩⟩
      refine ⟨.int .i64 (fitR n L), ?_, ?_, ?_⟩
      · simp [results, Tryz.f9, go_sem, h11]
      · rw [HFL.out]
      · have t := ((HT1.out.trans HT2.out (fun _ _ f => f)).trans HT3.out (fun _ _ f => f))
        have := HDD.out; have := t.size
        exact (t.trans hx.turn (fun k hk e => by omega)).trans u1 (fun k hk e => by omega)
    case done =>
      rintro D xs V hD hA hi hK
      subst hA
      have cg := hi.res.cell 0
      have fg := hi.res.free 0
      have HI := Lib.hid hi; have HKD := Lib.hid hK; have HDV := Lib.hid hD
      have HZ : Hid (fitR n xs = 0) := fitR_all hi.all
      clear hi hK hD
      go_wp2
      have k1 := (KeepsOthers.setCell V ⟨d + 1, 0, none⟩ (.int .i64 0)).same D _ HKD.out rfl
      have b9 := HI.out.res.set 0 (.int .i64 0)
      have t := ((HT1.out.trans HT2.out (fun _ _ f => f)).trans HT3.out (fun _ _ f => f))
      have t9 : Turn (fun _ => False) w (V.setCell ⟨d + 1, 0, none⟩ (.int .i64 0)) := (t.trans HI.out.turn (fun _ _ f => f)).setCell (p := ⟨d + 1, 0, none⟩) (fun h => by have := HDD.out; exact absurd h (by simp; omega)) _
      generalize V.setCell ⟨d + 1, 0, none⟩ (.int .i64 0) = w9 at *
      have u1 : Turn (fun g => g = D) w9 (w9.putObj D (.deferred none)) := Turn.putObj _ D _ rfl
      have h11 := (b9.turn u1 (fun e => by have := HGS.out; have := HDV.out; omega)).cell 0
      refine ⟨by simp, .inl ⟨_, _, rfl, run_takeDeferred k1, ?_⟩⟩
      refine ⟨.int .i64 0, ?_, ?_, ?_⟩
      · simp [results, Tryz.f9, go_sem, h11]
      · rw [HFL.out, HZ.out]
      · have := HDV.out; have := t.size
        exact t9.trans u1 (fun k hk e => by omega)

end Go.Proofs.YticglepkbihldaaGreat
