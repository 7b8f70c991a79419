/-
  Texts laid one behind the other: Sva Zd Ze Zck Ib Ac Ih Ij.
-/
import Derived.Test.YticglepkbihldaaGreatJocak
import Derived.Test.YticglepkbihldaaGreatJocag
import Derived.Test.YticglepkbihldaaGreatJocac
import Derived.Laws.ResultCell
import Derived.Laws.IdiomArrays
import Derived.Test.YticglepkbihldaaGreatJocah
import Derived.Test.YticglepkbihldaaGreatJocaf
import Derived.Test.YticglepkbihldaaGreatJocai
import Derived.Laws.EntriesVeiled
import Derived.Test.YticglepkbihldaaGreatJocab

/-
  Stage 11: At, Find: what is at a place, at a key.
-/
namespace Go.Proofs.YticglepkbihldaaGreat
open Go.RowKit

set_option maxRecDepth 100000

set_option maxHeartbeats 2000000 in
theorem at_any11 (s : Value) (L : List R11) (n : Int) (w : World) (h : SV11 w s L) : Calls Tryz.prog 46 #[s, .int .i64 n] w fun e w' => e = .returned (rowA (atR n L)) ∧ Turn (fun _ => False) w w' := by
  have HLE : Hid (∀ W, Turn (fun _ => False) w W → Calls Tryz.prog 19 #[s] W fun e w' => e = .returned (.int .i64 (L.length : Int)) ∧ w' = W) := fun W ht => len_same11 s L W (h.later ht)
  have hl := h.right.2.2
  obtain ⟨p, rfl⟩ := h.ptr
  by_cases h0 : n < 0
  · have HZ := Lib.hid (atR_low h0 L)
    clear h
    go_enter Tryz.func46, Tryz.ntmps46
    go_wp2
    refine bodyPost_ret (v := .tuple #[zv11, .bool false]) ?_ rfl ⟨by rw [HZ.out]; rfl, ((Turn.refl _ w).alloc _)⟩
    rw [results_cell_tmp rfl]
    go_simp
  · by_cases h1 : (L.length : Int) ≤ n
    · have HZ := Lib.hid (atR_high h1)
      clear h
      go_enter Tryz.func46, Tryz.ntmps46
      go_wp2_with fail
      refine (HLE.out _ ((Turn.refl _ w).alloc _)).mono ?_
      rintro e w1 ⟨rfl, rfl⟩
      go_wp2
      refine bodyPost_ret (v := .tuple #[zv11, .bool false]) ?_ rfl ⟨by rw [HZ.out]; rfl, ((Turn.refl _ w).alloc _)⟩
      rw [results_cell_tmp rfl]
      go_simp
    · obtain ⟨N, rfl⟩ := Int.eq_ofNat_of_zero_le (show 0 ≤ n by omega)
      have hlt : N < L.length := by omega
      obtain ⟨x, hx⟩ : ∃ x, L[N]? = some x := ⟨_, List.getElem?_eq_getElem hlt⟩
      have HZ : Hid (atR (N : Int) L = some x) := by unfold atR; rw [if_pos (by omega), Int.toNat_natCast]; exact hx
      rcases h.2 with ⟨-, rfl⟩ | ⟨b, sl, e0, hb, hr⟩
      · exact absurd hlt (Nat.not_lt_zero _)
      · injection e0 with e0
        subst e0
        obtain ⟨A, c, rfl⟩ := hr.shape
        obtain ⟨ad, rfl, hc⟩ := row_at11 hr hx
        have hb' := Lib.hid (hb.alloc (.cells (Value.cells zv11) 52))
        have c0 := (hb.alloc (.cells (Value.cells zv11) 52)).cell 0
        obtain ⟨d0, d1, d2, d3, d4, d5, d6, d7, d8⟩ := hc (w.alloc (.cells (Value.cells zv11) 52)) ((Turn.refl _ w).alloc _)
        clear hr hb hc hx h hb'
        simp only [Value.cells] at c0 d0 d1 d2 d3 d4 d5 d6 d7 d8
        go_enter Tryz.func46, Tryz.ntmps46
        go_wp2_with fail
        refine (HLE.out _ ((Turn.refl _ w).alloc _)).mono ?_
        rintro e w1 ⟨rfl, rfl⟩
        go_wp2
        refine bodyPost_ret (v := .tuple #[rv11 x, .bool true]) ?_ rfl ⟨by rw [HZ.out]; rfl, ((Turn.refl _ w).alloc _)⟩
        rw [results_cell_tmp rfl]
        go_simp

end Go.Proofs.YticglepkbihldaaGreat

/-
  Stage 9: the document's Check and All.
-/
namespace Go.Proofs.YticglepkbihldaaGreat
open Go.RowKit

set_option maxRecDepth 100000

theorem chk_dims {f : F9} {n : Int} (h : ¬ (1 ≤ n ∧ n ≤ 4)) : chkF f n = 1 := by
  unfold chkF okDims
  rw [if_neg (by simpa using h)]
theorem chk_range {f : F9} {n : Int} (hn : 1 ≤ n ∧ n ≤ 4) (h : ¬ (0 ≤ f.k.h ∧ f.k.h ≤ 16777216 ∧ f.v ≤ 1152921504606846976 ∧ -1152921504606846976 ≤ f.v)) : chkF f n = 2 := by
  unfold chkF okDims
  rw [if_pos (by simpa using hn), if_neg h]
theorem chk_text {f : F9} {n : Int} (hn : 1 ≤ n ∧ n ≤ 4) (h : 0 ≤ f.k.h ∧ f.k.h ≤ 16777216 ∧ f.v ≤ 1152921504606846976 ∧ -1152921504606846976 ≤ f.v) (ht : okTexts n f.k = false) : chkF f n = 4 := by
  unfold chkF okDims
  rw [if_pos (by simpa using hn), if_pos h, ht]
  rfl
theorem chk_ok {f : F9} {n : Int} (hn : 1 ≤ n ∧ n ≤ 4) (h : 0 ≤ f.k.h ∧ f.k.h ≤ 16777216 ∧ f.v ≤ 1152921504606846976 ∧ -1152921504606846976 ≤ f.v) (ht : okTexts n f.k = true) : chkF f n = 0 := by
  unfold chkF okDims
  rw [if_pos (by simpa using hn), if_pos h, ht]
  rfl

end Go.Proofs.YticglepkbihldaaGreat

/-
  Stage 9: the document's All; facts held against each other.
-/
namespace Go.Proofs.YticglepkbihldaaGreat
open Go.RowKit

set_option maxRecDepth 100000

/-- What All answers, as a value. -/
def allV (l : List F9) (n : Int) : Value := .tuple #[.int .i64 (allB l n).1, .int .i64 (allB l n).2]
theorem allV_bad {l : List F9} {n : Int} (h : ¬ (1 ≤ n ∧ n ≤ 4 ∧ 1 ≤ l.length ∧ l.length ≤ 50)) : allV l n = .tuple #[.int .i64 1, .int .i64 0] := by
  unfold allV allB
  rw [if_neg]
  intro ⟨h1, h2, h3⟩
  unfold okDims at h1
  simp only [Bool.and_eq_true, decide_eq_true_iff] at h1
  exact h ⟨h1.1, h1.2, h2, h3⟩
theorem allV_at {l : List F9} {n : Int} (h : 1 ≤ n ∧ n ≤ 4 ∧ 1 ≤ l.length ∧ l.length ≤ 50) {a b : Int} (e : badAt n l 0 = (a, b)) : allV l n = .tuple #[.int .i64 a, .int .i64 b] := by
  unfold allV allB
  rw [if_pos ⟨by unfold okDims; simp [h.1, h.2.1], h.2.2⟩, e]

end Go.Proofs.YticglepkbihldaaGreat

/-
  Stage 9: the program's Check and All, with the document's answers.
-/
namespace Go.Proofs.YticglepkbihldaaGreat
open Go.RowKit

set_option maxRecDepth 100000

theorem counted_any9 (n : Int) (w : World) : Calls Tryz.prog 76 #[.int .i64 n] w fun e w' => e = .returned (.bool (okDims n)) ∧ w' = w := by
  unfold okDims
  by_cases n1 : 1 ≤ n
  · by_cases n4 : n ≤ 4
    · rw [decide_eq_true n1, decide_eq_true n4]
      go_enter Tryz.func76, Tryz.ntmps76
      go_wp2
      go_ret
      exact ⟨rfl, rfl⟩
    · rw [decide_eq_true n1, decide_eq_false n4]
      go_enter Tryz.func76, Tryz.ntmps76
      go_wp2
      go_ret
      exact ⟨rfl, rfl⟩
  · rw [decide_eq_false n1]
    go_enter Tryz.func76, Tryz.ntmps76
    go_wp2
    go_ret
    exact ⟨rfl, rfl⟩

theorem okText_in {n : Int} {i : Nat} {t : List UInt8} (h : (i : Int) < n) : okText n i t = decide (t.length ≤ 16) := by simp [okText, h]
theorem okText_out {n : Int} {i : Nat} {t : List UInt8} (h : ¬ (i : Int) < n) : okText n i t = decide (t.length ≤ 0) := by
  cases t with
  | nil => simp [okText]
  | cons x t => simp [okText, h]

set_option maxHeartbeats 8000000 in
theorem fits_any9 (k : K9) (n : Int) (w : World) : Calls Tryz.prog 77 #[.agg #[sv9 k.a, sv9 k.b, sv9 k.c, sv9 k.d], .int .i64 n] w fun e w' => e = .returned (.bool (okTexts n k)) ∧ Turn (fun _ => False) w w' := by
  obtain ⟨w0, hw0⟩ : ∃ w0, w0 = w.alloc (.cells #[sv9 k.a, sv9 k.b, sv9 k.c, sv9 k.d] 46) := ⟨_, rfl⟩
  have HT0 : Hid (Turn (fun _ => False) w w0) := by rw [hw0]; exact (Turn.refl _ w).alloc _
  have HW := Lib.hid hw0
  have hix0 : ∀ i : Nat, i < 4 → ∀ W, Sem.run Tryz.prog (Instr.index 46 (.agg #[sv9 k.a, sv9 k.b, sv9 k.c, sv9 k.d]) (.int .i64 (i : Int))) W = .ok (sv9 (k.dim i)) W := fun i hi W => by
    match i, hi with
    | 0, _ => rfl
    | 1, _ => rfl
    | 2, _ => rfl
    | 3, _ => rfl
  have HIX := Lib.hid hix0
  clear hw0 hix0
  go_enter Tryz.func77, Tryz.ntmps77
  go_wp2_with fail
  rw [← HW.out]
  go_loopw [9] (fun x9 wr => wr = w0 ∧ ∃ i : Nat, x9 = .int .i64 (i : Int) ∧ i ≤ 4 ∧ ∀ j, j < i → okText n j (k.dim j) = true) (fun x9 _ => 4 - (intOf x9).toNat)
  case atStart => exact ⟨rfl, 0, rfl, Nat.zero_le _, fun k hk => absurd hk (Nat.not_lt_zero k)⟩
  case round =>
    obtain ⟨rfl, i, rfl, hi, he⟩ := hrel
    have HE := Lib.hid he
    clear he
    by_cases hlt : i < 4
    · have hix := HIX.out i hlt
      have hil : (i : Int) < 4 := by omega
      unfold sv9 at hix ⊢
      have HBAD : Hid (okText n i (k.dim i) = false → okTexts n k = false) := fun h => okTexts_not hlt h
      have HGOOD : Hid (okText n i (k.dim i) = true → ∀ j, j < i + 1 → okText n j (k.dim j) = true) := fun h j hj => by
        by_cases ek : j = i
        · rw [ek]; exact h
        · exact HE.out j (by omega)
      generalize hT : k.dim i = T at *
      by_cases hin : (i : Int) < n
      · by_cases hlen : T.length ≤ 16
        · have HK := Lib.hid (HGOOD.out ((okText_in hin).trans (decide_eq_true hlen)))
          have hl2 : ¬ ((16 : Int) < T.length) := by omega
          have hnn : ¬ (n ≤ (i : Int)) := by omega
          clear HBAD HGOOD
          go_wp2
          go_roundw
          case rel => exact ⟨trivial, i + 1, by go_num, hlt, HK.out⟩
          case measure => simp [intOf]; omega
        · have HK := Lib.hid (HBAD.out ((okText_in hin).trans (decide_eq_false hlen)))
          have hl2 : (16 : Int) < T.length := by omega
          have hnn : ¬ (n ≤ (i : Int)) := by omega
          clear HBAD HGOOD
          go_wp2
          go_ret
          rw [HK.out]
          exact ⟨rfl, HT0.out⟩
      · by_cases hlen : T.length ≤ 0
        · have HK := Lib.hid (HGOOD.out ((okText_out hin).trans (decide_eq_true hlen)))
          have hl2 : ¬ ((0 : Int) < T.length) := by omega
          have hnn : n ≤ (i : Int) := by omega
          clear HBAD HGOOD
          go_wp2
          go_roundw
          case rel => exact ⟨trivial, i + 1, by go_num, hlt, HK.out⟩
          case measure => simp [intOf]; omega
        · have HK := Lib.hid (HBAD.out ((okText_out hin).trans (decide_eq_false hlen)))
          have hl2 : (0 : Int) < T.length := by omega
          have hnn : n ≤ (i : Int) := by omega
          clear HBAD HGOOD
          go_wp2
          go_ret
          rw [HK.out]
          exact ⟨rfl, HT0.out⟩
    · obtain rfl : i = 4 := by omega
      have HK : Hid (okTexts n k = true) := okTexts_all HE.out
      go_wp2
      go_ret
      rw [HK.out]
      exact ⟨rfl, HT0.out⟩

set_option maxHeartbeats 8000000 in
theorem check_any9 (f : F9) (n : Int) (w : World) : Calls Tryz.prog 47 #[fv9 f, .int .i64 n] w fun e w' => e = .returned (.int .i64 (chkF f n)) ∧ Turn (fun _ => False) w w' := by
  unfold fv9
  obtain ⟨w0, hw0⟩ : ∃ w0, w0 = w.alloc (.cells #[.int .i64 f.k.h, sv9 f.k.a, sv9 f.k.b, sv9 f.k.c, sv9 f.k.d, .int .i64 f.v] 89) := ⟨_, rfl⟩
  have HT0 : Hid (Turn (fun _ => False) w w0) := by rw [hw0]; exact (Turn.refl _ w).alloc _
  have hb1 : Box w0 w.heap.size 89 #[.int .i64 f.k.h, sv9 f.k.a, sv9 f.k.b, sv9 f.k.c, sv9 f.k.d, .int .i64 f.v] := by rw [hw0]; exact Box.new w _ _
  have c0 := hb1.cell 0
  have c1 := hb1.cell 1
  have c2 := hb1.cell 2
  have c3 := hb1.cell 3
  have c4 := hb1.cell 4
  have c5 := hb1.cell 5
  have HW := Lib.hid hw0
  have HCT : Hid (∀ W, Calls Tryz.prog 76 #[.int .i64 n] W fun e w' => e = .returned (.bool (okDims n)) ∧ w' = W) := fun W => counted_any9 n W
  clear hb1 hw0
  by_cases hn : 1 ≤ n ∧ n ≤ 4
  · rw [show okDims n = true by unfold okDims; simp [hn]] at HCT
    by_cases hr : 0 ≤ f.k.h ∧ f.k.h ≤ 16777216 ∧ f.v ≤ 1152921504606846976 ∧ -1152921504606846976 ≤ f.v
    · have HN := Lib.hid hn
      have HR := Lib.hid hr
      obtain ⟨n1, n2⟩ := hn
      obtain ⟨r1, r2, r3, r4⟩ := hr
      have HK : Hid (chkF f n = if okTexts n f.k then 0 else 4) := by
        show _ = _
        cases ht : okTexts n f.k with
        | true => exact chk_ok HN.out HR.out ht
        | false => exact chk_text HN.out HR.out ht
      have HFT := Lib.hid (fits_any9 f.k n w0)
      cases hb : okTexts n f.k with
      | true =>
        rw [hb] at HK HFT
        clear hb
        go_enter Tryz.func47, Tryz.ntmps47
        go_wp2_with fail
        rw [← HW.out]
        refine (HCT.out _).mono ?_
        rintro e w1 ⟨rfl, rfl⟩
        go_wp2_with fail
        refine HFT.out.mono ?_
        rintro e w2 ⟨rfl, t2⟩
        have HT2 := Lib.hid (HT0.out.trans t2 (fun _ _ f => f))
        clear t2 c0 c1 c2 c3 c4 c5
        go_wp2
        go_ret
        rw [HK.out]
        exact ⟨rfl, HT2.out⟩
      | false =>
        rw [hb] at HK HFT
        clear hb
        go_enter Tryz.func47, Tryz.ntmps47
        go_wp2_with fail
        rw [← HW.out]
        refine (HCT.out _).mono ?_
        rintro e w1 ⟨rfl, rfl⟩
        go_wp2_with fail
        refine HFT.out.mono ?_
        rintro e w2 ⟨rfl, t2⟩
        have HT2 := Lib.hid (HT0.out.trans t2 (fun _ _ f => f))
        clear t2 c0 c1 c2 c3 c4 c5
        go_wp2
        go_ret
        rw [HK.out]
        exact ⟨rfl, HT2.out⟩
    · rw [chk_range hn hr]
      obtain ⟨n1, n2⟩ := hn
      by_cases r1 : f.k.h < 0
      · clear hr
        go_enter Tryz.func47, Tryz.ntmps47
        go_wp2_with fail
        rw [← HW.out]
        refine (HCT.out _).mono ?_
        rintro e w1 ⟨rfl, rfl⟩
        go_wp2
        go_ret
        exact ⟨rfl, HT0.out⟩
      · by_cases r2 : 16777216 < f.k.h
        · clear hr
          go_enter Tryz.func47, Tryz.ntmps47
          go_wp2_with fail
          rw [← HW.out]
          refine (HCT.out _).mono ?_
          rintro e w1 ⟨rfl, rfl⟩
          go_wp2
          go_ret
          exact ⟨rfl, HT0.out⟩
        · by_cases r3 : 1152921504606846976 < f.v
          · clear hr
            go_enter Tryz.func47, Tryz.ntmps47
            go_wp2_with fail
            rw [← HW.out]
            refine (HCT.out _).mono ?_
            rintro e w1 ⟨rfl, rfl⟩
            go_wp2
            go_ret
            exact ⟨rfl, HT0.out⟩
          · have r4 : f.v < -1152921504606846976 := by omega
            clear hr
            go_enter Tryz.func47, Tryz.ntmps47
            go_wp2_with fail
            rw [← HW.out]
            refine (HCT.out _).mono ?_
            rintro e w1 ⟨rfl, rfl⟩
            go_wp2
            go_ret
            exact ⟨rfl, HT0.out⟩
  · rw [show okDims n = false by unfold okDims; simpa using hn] at HCT
    rw [chk_dims hn]
    clear hn
    go_enter Tryz.func47, Tryz.ntmps47
    go_wp2_with fail
    rw [← HW.out]
    refine (HCT.out _).mono ?_
    rintro e w1 ⟨rfl, rfl⟩
    go_wp2
    go_ret
    exact ⟨rfl, HT0.out⟩

end Go.Proofs.YticglepkbihldaaGreat

/-
  Rows of elements of one cell that a call owns: what they hold, what leaves them as they are, one element put behind them. Rows of numbers.
-/
namespace Go.Proofs.YticglepkbihldaaGreat
open Go.RowKit

/-- Slice value v, at the head of a row of its own, or nil: its elements, of one cell each, of type e, are xs. -/
def Row (e : TypeId) (w : World) (v : Value) (xs : List Value) : Prop := w.ownsRow 0 e 1 v xs.length xs

section
variable {e : TypeId} {w w' : World} {v : Value} {xs : List Value}
theorem Row.nil (e : TypeId) (w : World) : Row e w (.slice none 0 0) [] := World.ownsRow_nil w 0 _ 1
theorem Row.lt (h : Row e w v xs) {k : Nat} (hk : v.ownBlock = some k) : k < w.heap.size := (World.ownsRow.lt h k hk).2
theorem Row.turn {S : Nat → Prop} (h : Row e w v xs) (ht : Turn S w w') (hn : ∀ k, v.ownBlock = some k → ¬ S k) : Row e w' v xs := by
  refine ⟨h.1, ?_⟩
  rcases h.2 with h0 | ⟨g, cap, cur, rfl, hb, hg, rest⟩
  · exact .inl h0
  · exact .inr ⟨g, cap, cur, rfl, hb, (ht.block g (Array.getElem?_eq_some_iff.1 hg).1 (hn g rfl)).trans hg, rest⟩
theorem Row.later (h : Row e w v xs) (ht : Turn (fun _ => False) w w') : Row e w' v xs := h.turn ht (fun _ _ f => f)
theorem Row.grown {row : Option Nat} (h : Row e w v xs) (hg : w.grownBy w' row) (hn : v.ownBlock = none ∨ v.ownBlock ≠ row) : Row e w' v xs := World.ownsRow.kept h hg hn
theorem Row.form (h : Row e w v xs) : (v = .slice none 0 0 ∧ xs = []) ∨ ∃ g cap cur, v = .slice (some ⟨g, 0, none⟩) xs.length cap ∧ Box w g e cur ∧ xs.length ≤ cap ∧ cap ≤ maxLen ∧ cur.size = cap ∧ cur.toList.take xs.length = xs := by
  rcases h.2 with ⟨h0, h1⟩ | ⟨g, cap, cur, hv, _, hg, hn, hm, hs, ht⟩
  · exact .inl ⟨h0, List.eq_nil_of_length_eq_zero h1⟩
  · exact .inr ⟨g, cap, cur, hv, hg, hn, hm, by simpa using hs, by simpa using ht⟩
theorem Row.shape (h : Row e w v xs) : ∃ A c, v = .slice A xs.length c := by
  rcases h.form with ⟨rfl, rfl⟩ | ⟨g, cap, cur, rfl, _⟩
  · exact ⟨_, _, rfl⟩
  · exact ⟨_, _, rfl⟩
theorem Row.bounds {A : Option Addr} {n c : Nat} (h : Row e w (.slice A n c) xs) : n = xs.length ∧ xs.length ≤ c ∧ c ≤ maxLen := by
  rcases h.form with ⟨h1, rfl⟩ | ⟨g, cap, cur, h1, _, h2, h3, _⟩
  · injection h1 with h4 h5 h6
    subst h4 h5 h6
    exact ⟨rfl, by simp, by simp⟩
  · injection h1 with h4 h5 h6
    subst h4 h5 h6
    exact ⟨rfl, h2, h3⟩
/-- Rows of elements of two types are two rows. -/
theorem Row.apart {e' : TypeId} {v' : Value} {xs' : List Value} (h : Row e w v xs) (h' : Row e' w v' xs') (hne : e ≠ e') : v.ownBlock = none ∨ v.ownBlock ≠ v'.ownBlock := by
  rcases h.form with ⟨rfl, _⟩ | ⟨g, cap, cur, rfl, hb, _⟩
  · exact .inl rfl
  · rcases h'.form with ⟨rfl, _⟩ | ⟨g', cap', cur', rfl, hb', _⟩
    · exact .inr (by simp [Value.ownBlock])
    · refine .inr fun e1 => ?_
      obtain rfl : g = g' := by simpa [Value.ownBlock] using e1
      have e2 := hb.symm.trans hb'
      injection e2 with e2
      injection e2 with _ e3
      exact hne e3
theorem Row.not_box {g : Nat} {t : TypeId} {cs : Array Value} (h : Row e w v xs) (hb : Box w g t cs) (hne : e ≠ t) : v.ownBlock ≠ some g := by
  rcases h.form with ⟨rfl, _⟩ | ⟨g', cap, cur, rfl, hb', _⟩
  · simp [Value.ownBlock]
  · intro e1
    obtain rfl : g' = g := by simpa [Value.ownBlock] using e1
    have e2 := hb'.symm.trans hb
    injection e2 with e2
    injection e2 with _ e3
    exact hne e3
theorem Row.at {A : Option Addr} {n c : Nat} (h : Row e w (.slice A n c) xs) {j : Nat} {x : Value} (hj : xs[j]? = some x) : ∃ ad, A = some ad ∧ w.cell? (ad.add j) = some x := by
  rcases h.form with ⟨_, rfl⟩ | ⟨g, cap, cur, h1, hb, _⟩
  · cases hj
  · injection h1 with h4 h5 h6
    subst h4
    have := World.ownsRow.cells h (g := g) rfl j x (by simpa using hj)
    exact ⟨_, rfl, this⟩
end

/-- A row that a call has made since w. -/
def MadeRow (e : TypeId) (w w' : World) (v : Value) (xs : List Value) : Prop := Row e w' v xs ∧ ∀ k, v.ownBlock = some k → w.heap.size ≤ k

/-- append of one element onto a row of one's own, or nil. -/
theorem wpList_push {w : World} {ops : Array Oper} {rest : List Oper} {o : Oper} {a : Act} {Q : Exit → Act → World → Prop} (hgd : o.guard = none) (s x : Operand) (t e : TypeId) {b : Nat}
    (ht : Tryz.prog.underlying t = some (.slice e)) {z : Value} (hz : (Tryz.prog.info? e).map (fun i => (i.zero, i.size, i.bytes)) = some (some z, 1, b)) (hzs : z.cells.size = 1) (hb : b ≤ 1000)
    (ho : o.op = .call { callee := .builtin .append, args := #[s, x], argTypes := #[t, t] }) (v : Value) (xs : List Value) (hs : a.eval s = v) (hown : Row e w v xs)
    (g : Nat) (y : Value) (hx : a.eval x = .slice (some ⟨g, 0, none⟩) 1 1) (hy : w.cell? ⟨g, 0, none⟩ = some y) (hy1 : y.oneCell' = true) (hl : xs.length ≤ 1000000000)
    (h : ∀ A n c w', Row e w' (.slice A n c) (xs ++ [y]) → w.grownBy w' v.ownBlock → ((Value.slice A n c).ownBlock = v.ownBlock ∨ (Value.slice A n c).ownBlock = some w.heap.size) → wpList Tryz.prog ops Q rest (a.put o.dst (.slice A n c)) w') :
    wpList Tryz.prog ops Q (o :: rest) a w := by
  refine wpList_plain hgd fun K hK => ?_
  obtain ⟨i, hi, hz0, h1, h2⟩ := info_parts hz
  have hsrc : Src Tryz.prog i.size t (.slice (some ⟨g, 0, none⟩) 1 1) 1 [y] w := by
    rw [h1]
    refine Src.ofSlice (P := Tryz.prog) w (size := 1) ht ⟨g, 0, none⟩ 1 1 [y] rfl ?_ ?_
    · intro j u hj
      cases j with
      | zero =>
        obtain rfl : y = u := by simpa using hj
        simpa [Addr.add] using hy
      | succ j => simp at hj
    · intro u hu
      obtain rfl : u = y := by simpa using hu
      exact hy1
  unfold Row at hown
  rw [← h1] at hown
  obtain ⟨A, n, c, w', hr, g1, g2, g3⟩ := run_app (P := Tryz.prog) w t t o.type e i z ht hi hz0 (by rw [h1]; exact hzs) v xs.length xs hown _ 1 [y] hsrc
    (by simp only [maxLen]; omega) (by rw [h2]; have : (xs.length + 1) * b ≤ 1000000001 * 1000 := Nat.mul_le_mul (by omega) hb; omega)
  unfold Oper.wp execOp
  simp only [ho, resolve, invoke, builtin, Sem.run_bind, Sem.run_pure, Result.andThen_ok, List.map_toArray, List.map_cons, List.map_nil, hs, hx, hr]
  refine hK _ _ (h A n c w' ?_ g2 g3)
  unfold Row
  rw [List.length_append, ← h1]
  exact g1

theorem int_info : (Tryz.prog.info? 3).map (fun i => (i.zero, i.size, i.bytes)) = some (some (.int .i64 0), 1, 8) := by kernel_rfl
theorem bytes_info : (Tryz.prog.info? 35).map (fun i => (i.zero, i.size, i.bytes)) = some (some (.slice none 0 0), 1, 24) := by kernel_rfl

/-- A slice value that reads as the numbers L. -/
def Nums (w : World) (v : Value) (L : List Nat) : Prop :=
  ∃ A c, v = .slice A L.length c ∧ ∀ (j n : Nat), L[j]? = some n → ∃ ad, A = some ad ∧ w.cell? (ad.add j) = some (.int .i64 (n : Int))
def nv (n : Nat) : Value := .int .i64 (n : Int)
theorem Row.nums {w : World} {v : Value} {L : List Nat} (h : Row 3 w v (L.map nv)) : Nums w v L := by
  obtain ⟨A, c, rfl⟩ := h.shape
  refine ⟨A, c, by rw [List.length_map], fun j n hj => ?_⟩
  exact h.at (x := nv n) (by rw [List.getElem?_map, hj]; rfl)
theorem Nums.at {w : World} {A : Option Addr} {n c : Nat} {L : List Nat} (h : Nums w (.slice A n c) L) {k x : Nat} (hk : L[k]? = some x) : ∃ ad, A = some ad ∧ w.cell? (ad.add k) = some (.int .i64 (x : Int)) := by
  obtain ⟨A', c', hv, hx⟩ := h
  injection hv with h1 h2 h3
  subst h1
  exact hx k x hk
theorem Nums.shape {w : World} {v : Value} {L : List Nat} (h : Nums w v L) : ∃ A c, v = .slice A L.length c := by
  obtain ⟨A, c, e, _⟩ := h
  exact ⟨A, c, e⟩
theorem cell_odd {w w' : World} {D : Nat} {a : Addr} {x : Value} (hc : w.cell? a = some x) (ht : Turn (odd D w) w w') : w'.cell? a = some x := by
  rw [ht.cell (World.block_lt_of_cell? w _ hc) ?_]
  · exact hc
  · rintro ⟨_, o, ho, hf⟩
    obtain ⟨o', ho', hf'⟩ := cells_of_cell hc
    rw [ho] at ho'
    cases ho'
    rw [hf] at hf'
    cases hf'
theorem Nums.odd {w w' : World} {D : Nat} {v : Value} {L : List Nat} (h : Nums w v L) (ht : Turn (odd D w) w w') : Nums w' v L := by
  obtain ⟨A, c, e, hx⟩ := h
  refine ⟨A, c, e, fun j n hj => ?_⟩
  obtain ⟨ad, e1, hc⟩ := hx j n hj
  exact ⟨ad, e1, cell_odd hc ht⟩
theorem Nums.later {w w' : World} {v : Value} {L : List Nat} (h : Nums w v L) (ht : Turn (fun _ => False) w w') : Nums w' v L := h.odd (D := 0) ht.none

/-- What lies below what may turn. -/
theorem Nums.below {w w' : World} {D : Nat} {v : Value} {L : List Nat} (h : Nums w v L) (ht : Turn (fun k => D ≤ k) w w') (hD : w.heap.size ≤ D) : Nums w' v L := by
  obtain ⟨A, c, e, hx⟩ := h
  refine ⟨A, c, e, fun j n hj => ?_⟩
  obtain ⟨ad, e1, hc⟩ := hx j n hj
  have hlt := World.block_lt_of_cell? w _ hc
  exact ⟨ad, e1, by rw [ht.cell hlt (by omega)]; exact hc⟩
theorem Rd.below {w w' : World} {D : Nat} {v : Value} {l : List UInt8} (h : Rd w v l) (ht : Turn (fun k => D ≤ k) w w') (hD : w.heap.size ≤ D) : Rd w' v l := by
  obtain ⟨A, c, rfl, hk, hn, hc⟩ := h
  refine ⟨A, c, rfl, hk, hn, fun ad e j b hj => ?_⟩
  have h1 := hc ad e j b hj
  have hlt := World.block_lt_of_cell? w _ h1
  rw [ht.cell hlt (by omega)]
  exact h1

end Go.Proofs.YticglepkbihldaaGreat

/-
  Stage 12: which key fits; the iterator over a segment's rows, and what it feeds.
-/
namespace Go.Proofs.YticglepkbihldaaGreat
open Go.RowKit Go.Shelf
attribute [local go_sem] Oper.semAt_some wide_fn

set_option maxRecDepth 100000

theorem key_chk12 (k : K9) (n : Int) (w : World) : Calls Tryz.prog 24 #[kv9 k, .int .i64 n] w fun e w' => e = .returned (.int .i64 (chkF ⟨k, 0⟩ n)) ∧ Turn (fun _ => False) w w' := by
  have HC : Hid (∀ W, Calls Tryz.prog 47 #[fv9 ⟨k, 0⟩, .int .i64 n] W fun e w' => e = .returned (.int .i64 (chkF ⟨k, 0⟩ n)) ∧ Turn (fun _ => False) W w') := fun W => check_any9 ⟨k, 0⟩ n W
  go_enter Tryz.func24, Tryz.ntmps24
  go_wp2_with fail
  refine (HC.out _).mono ?_
  rintro e w1 ⟨rfl, t⟩
  have HT : Hid (Turn (fun _ => False) w w1) := ((Turn.refl _ w).alloc _).trans t (fun _ _ f => f)
  clear t HC
  go_wp2
  go_ret
  exact ⟨rfl, HT.out⟩
theorem dims_chk12 (n : Int) (w : World) : Calls Tryz.prog 22 #[.int .i64 n] w fun e w' => e = .returned (.int .i64 (dimsF n)) ∧ Turn (fun _ => False) w w' := by
  have HC : Hid (∀ W, Calls Tryz.prog 24 #[kv9 ⟨0, [], [], [], []⟩, .int .i64 n] W fun e w' => e = .returned (.int .i64 (chkF ⟨⟨0, [], [], [], []⟩, 0⟩ n)) ∧ Turn (fun _ => False) W w') := fun W => key_chk12 ⟨0, [], [], [], []⟩ n W
  have HE : Hid (chkF ⟨⟨0, [], [], [], []⟩, 0⟩ n = dimsF n) := by
    show _ = _
    unfold chkF dimsF
    by_cases h : okDims n = true
    · rw [if_pos h, if_pos h, if_pos (by simp)]
      simp [okTexts, okText]
    · rw [if_neg h, if_neg h]
  go_enter Tryz.func22, Tryz.ntmps22
  go_wp2_with fail
  refine (HC.out _).mono ?_
  rintro e w1 ⟨rfl, t⟩
  have HT := Lib.hid t
  clear t HC
  go_wp2
  go_ret
  exact ⟨by rw [HE.out]; rfl, HT.out⟩

/-- Blocks that a round over a segment's rows may turn: not the segment's own. -/
def FreeS12 (w : World) (s : Value) (L : List R11) (S : Nat → Prop) : Prop :=
  ∀ b sl, s = .pointer (some ⟨b, 0, none⟩) → Box w b 83 #[sl] → RdE ER w sl L → ¬ S b ∧ (0 < L.length → ∀ k, sl.ownBlock = some k → ¬ S k)
/-- A range over rows: what it gives. -/
def Rows12 (w : World) (s : Value) (L : List R11) (e : Ending) (w' : World) : Prop := ∃ gf lb, e = .returned (.func (.func gf) #[] lb) ∧ (∀ args W, (callFunc gf args).run Tryz.prog W = .ok (.enter gf args) W) ∧ Turn (fun _ => False) w w' ∧
  ∀ (n : Nat) (S : Nat → Prop), (∀ k cs, S k → w.heap.size ≤ k → ¬ Box w' k 25 cs) → FreeS12 w' s L S → Feeds3 n gf lb (fun r => #[rv11 r]) S (fun pre y _ => pre ++ [y] <+: L) (fun xs => xs = L) (fun pre => pre <+: L) w'

theorem yield_depth12 {m m' : Nat} {P : Program} {l : Nat} {args : Array Value} {W : World} {R : Ending → World → Prop} (h : YieldAt Fence.wide m P l args W R) : YieldAt Fence.wide m' P l args W R := by
  obtain ⟨fn, tmps, assign, body, hy, hR⟩ := h
  exact ⟨fn, tmps, assign, body, hy, hR.1, fun c cs _ => hR.2 c cs (room_wide _)⟩
theorem calls_depth12 {m m' : Nat} {P : Program} {f : FuncId} {args : Array Value} {W : World} {R : Ending → World → Prop} (h : CallsIn Fence.wide m P f args W R) : CallsIn Fence.wide m' P f args W R := callsIn_wide.2 (callsIn_wide.1 h)
theorem take_pre12 {L : List R11} {i : Nat} {x : R11} (h : L[i]? = some x) : L.take i ++ [x] = L.take (i + 1) ∧ L.take i ++ [x] <+: L := by
  obtain ⟨h0, e⟩ := List.getElem?_eq_some_iff.1 h
  have h1 : L.take i ++ [x] = L.take (i + 1) := by rw [List.take_succ_eq_append_getElem h0, e]
  exact ⟨h1, by rw [h1]; exact List.take_prefix _ _⟩
theorem at_row12 {L : List R11} {i : Nat} {x : R11} (h : L[i]? = some x) : rowA (atR (i : Int) L) = .tuple #[rv11 x, .bool true] := by
  unfold atR
  rw [if_pos (Int.natCast_nonneg i), Int.toNat_natCast, h]
  rfl
/-- A segment is kept where what turns is not its own. -/
theorem SV11.kept {w w' : World} {s : Value} {L : List R11} {S : Nat → Prop} (h : SV11 w s L) (hS : FreeS12 w s L S) (ht : Turn S w w') : SV11 w' s L := by
  refine ⟨h.1, h.2.imp id ?_⟩
  rintro ⟨b, sl, rfl, hb, hr⟩
  obtain ⟨h1, h2⟩ := hS b sl rfl hb hr
  refine ⟨b, sl, rfl, hb.turn ht h1, ?_⟩
  by_cases hp : 0 < L.length
  · exact hr.turn ht (h2 hp)
  · obtain rfl : L = [] := List.eq_nil_of_length_eq_zero (by omega)
    exact rd_empty hr
theorem FreeS12.turn {w w' : World} {s : Value} {L : List R11} {S : Nat → Prop} (h : FreeS12 w s L S) (hv : SV11 w s L) (ht : Turn S w w') : FreeS12 w' s L S := by
  rintro b sl rfl hb hr
  rcases hv.2 with ⟨e, _⟩ | ⟨b2, sl2, e, hb2, hr2⟩
  · cases e
  · cases e
    obtain ⟨h1, h2⟩ := h _ _ rfl hb2 hr2
    have hb3 := hb2.turn ht h1
    have e2 := hb.symm.trans hb3
    injection e2 with e2
    injection e2 with e2 _
    injection e2 with e2
    injection e2 with e2 _
    subst e2
    exact ⟨h1, h2⟩

set_option maxHeartbeats 4000000 in
theorem rows_feed12 (n q : Nat) (s : Value) (L : List R11) (w : World) (hq : Box w q 25 #[s]) (hs : SV11 w s L) (S : Nat → Prop) (h1 : ¬ S q) (h2 : FreeS12 w s L S) :
    Feeds3 n 45 #[.pointer (some ⟨q, 0, none⟩)] (fun r => #[rv11 r]) S (fun pre y _ => pre ++ [y] <+: L) (fun xs => xs = L) (fun pre => pre <+: L) w := fun l J Jx W hW hlW hJ hJx hY h0 => by
  have HQ := Lib.hid (hq.turn hW (fun f => f))
  have HS := Lib.hid (hs.later hW)
  have HF := Lib.hid (h2.turn hs (hW.mono fun _ _ f => f.elim))
  have HY := Lib.hid hY; have HJ := Lib.hid hJ
  have HSQ := Lib.hid h1
  have H0 := Lib.hid h0
  have hl := hs.right.2.2
  obtain ⟨p, rfl⟩ := hs.ptr
  have hc0 := HQ.out.cell 0
  clear hY hJ hJx hlW h0 hq hW h1 h2 hs
  refine calls_depth12 (m := 5) ?_
  refine callsIn_of_wp Tryz.func45 rfl trivial ?_ rfl
  simp only [Tryz.ntmps45, List.size_toArray, List.length_cons, List.length_nil, Nat.reduceAdd, Nat.reduceSub, Array.replicate_succ, Array.replicate_zero, List.push_toArray, List.append_toArray, List.nil_append, List.cons_append]
  have HL0 := Lib.hid (len_same11 _ L W HS.out)
  gi_wp2_with fail
  refine (callsIn_wide.2 HL0.out).mono ?_
  rintro e w0 ⟨rfl, rfl⟩
  clear HL0
  gi_wp2
  gi_loopw [8] (fun x wr => ∃ i : Nat, x = .int .i64 (i : Int) ∧ i ≤ L.length ∧ J (L.take i) wr ∧ Box wr q 25 #[.pointer p] ∧ SV11 wr (.pointer p) L ∧ FreeS12 wr (.pointer p) L S) (fun x _ => L.length - (intOf x).toNat)
  case atStart => exact ⟨0, rfl, Nat.zero_le _, H0.out, HQ.out, HS.out, HF.out⟩
  case round =>
    clear H0 HQ HS HF hc0
    obtain ⟨i, rfl, hi, hj, hqb, hsv, hfr⟩ := hrel
    have HJ0 := Lib.hid hj; have HQ := Lib.hid hqb; have HS := Lib.hid hsv; have HF := Lib.hid hfr
    clear hj hqb hsv hfr
    by_cases hlt : i < L.length
    · obtain ⟨x, hx⟩ : ∃ x, L[i]? = some x := ⟨_, List.getElem?_eq_getElem hlt⟩
      have hil : (i : Int) < L.length := by omega
      have hc0 := HQ.out.cell 0
      have hat := at_any11 (.pointer p) L (i : Int) wr HS.out
      rw [at_row12 hx] at hat
      have HA := Lib.hid hat
      have HPR := Lib.hid (take_pre12 hx)
      clear hx hat
      gi_wp2_with fail
      refine (callsIn_wide.2 HA.out).mono ?_
      rintro e w1 ⟨rfl, t1⟩
      have ht1 : Turn (fun _ => False) wr (w1.alloc (.cells (cells11 x) 52)) := t1.alloc _
      have HT1 := Lib.hid ht1
      obtain ⟨fn, tm, asg, bo, hy, hrr⟩ := yield_depth12 (m' := 5 - 1) (HY.out (L.take i) x (w1.alloc (.cells (cells11 x) 52)) (HJ.out _ _ _ HJ0.out ht1.none) HPR.out.2)
      have HRR := Lib.hid hrr
      clear ht1 hrr t1 HA hc0
      gi_wp2_with fail
      refine HRR.out.mono ?_
      intro e w2 hp
      rcases hp with ⟨rfl, hj2, hk2, -⟩ | ⟨rfl, hx2, -⟩
      · have HJ2 := Lib.hid hj2
        have HK2 := Lib.hid hk2
        clear hj2 hk2
        gi_wp2
        go_roundw
        case rel => exact ⟨i + 1, by go_num, hlt, by rw [← HPR.out.1]; exact HJ2.out, (HQ.out.turn HT1.out (fun f => f)).turn HK2.out HSQ.out, (HS.out.later HT1.out).kept (HF.out.turn HS.out HT1.out.none) HK2.out, (HF.out.turn HS.out HT1.out.none).turn (HS.out.later HT1.out) HK2.out⟩
        case measure => simp [intOf]; omega
      · have HX2 := Lib.hid hx2
        clear hx2
        gi_wp2
        refine bodyPost_ret (results_none rfl _ _ _) rfl ?_
        exact ⟨⟨_, rfl⟩, .inr ⟨L.take i ++ [x], HPR.out.2, HX2.out⟩⟩
    · obtain rfl : i = L.length := by omega
      have HJE : Hid (J L wr) := by have h := HJ0.out; rw [List.take_length] at h; exact h
      gi_wp2
      go_end0
      exact ⟨⟨_, rfl⟩, .inl ⟨L, rfl, HJE.out⟩⟩

theorem rows_any12 (s : Value) (L : List R11) (w : World) (h : SV11 w s L) : Calls Tryz.prog 23 #[s] w fun e w' => Rows12 w s L e w' := by
  have HS := Lib.hid h
  obtain ⟨p, rfl⟩ := h.ptr
  clear h
  go_enter Tryz.func23, Tryz.ntmps23
  go_wp2
  go_ret
  refine ⟨_, _, rfl, enters_of Tryz.func45 (by kernel_rfl) rfl, (Turn.refl _ w).alloc _, fun n S h1 h2 => ?_⟩
  exact rows_feed12 n w.heap.size _ L _ (Box.new w _ _) (HS.out.later ((Turn.refl _ w).alloc _)) S (fun e => h1 _ _ e (Nat.le_refl _) (Box.new w _ _)) h2

end Go.Proofs.YticglepkbihldaaGreat

/-
  A region that draws its order, walked by hand (drawn_region's words), in a round of a range over a function. No type is named here.
-/
namespace Go.Proofs.YticglepkbihldaaGreat
open Go.RowKit

/-- Nothing but going on is owed. -/
def goesOn (Q : Exit → Act → World → Prop) : Exit → Act → World → Prop
  | .normal, a, w => Q .normal a w
  | _, _, _ => False
theorem goes_on {Q : Exit → Act → World → Prop} {a : Act} {w : World} (h : Q .normal a w) : goesOn Q .normal a w := h

section
variable {P : Program} {l0 n : Nat} {ops : Array Oper} {md : Region.Mode} {Q : Exit → Act → World → Prop}
theorem op_in {o : Oper} {a : Act} {w : World} {K K' : Act → World → Prop} (hd : noDefer o.op = true) (hK : ∀ a w, K a w → K' a w) (h : o.wp P a w K (goesOn Q) ∨ (o.asks P a w ∧ LetsOut (goesOn Q))) :
    o.wpIn (Fence.wide.inRound l0) n P a w K' Q := by
  rcases h with h | ⟨_, a', w', h⟩
  · unfold Oper.wp at h
    unfold Oper.wpIn
    refine ⟨fun f _ => trivial, ?_⟩
    rw [Oper.semAt_eq _ _ _ (noDefer_ne hd)]
    generalize (execOp a.eval o).run P w = r at *
    rcases r with ⟨x, w'⟩ | ⟨x, w'⟩
    · cases x <;> simp only [Oper.upon] at h <;> simp only [Oper.uponIn]
      case value => exact hK _ _ h
      case skip => exact hK _ _ h
      case defer => exact hK _ _ h
      case enter f args =>
        refine ⟨fun h0 => (by cases h0), CallsIn.inRound l0 (callsIn_wide.2 (h.mono fun e w'' he => ?_))⟩
        cases e with
        | returned v => exact hK _ _ he
        | panicked c => exact he.elim
        | outgrown =>
          obtain ⟨a', w', h⟩ := he
          exact h.elim
      case row row args =>
        refine ⟨fun h0 => (by cases h0), fun c cs _ => ?_⟩
        obtain ⟨v, w'', hv, hs⟩ := h c cs
        exact ⟨v, w'', hK _ _ hv, stepsIn_wide.2 hs⟩
    · cases x <;> simp only [Oper.upon] at h
      exact h.elim
  · exact h.elim
theorem any_in (hnd : ∀ o ∈ ops.toList, noDefer o.op = true) : ∀ (fuel : Nat) (listed : Array Bool) (a : Act) (w : World), wpAny P md ops (goesOn Q) fuel listed a w → wpAnyIn (Fence.wide.inRound l0) n P md ops Q fuel listed a w
  | 0, _, _, _, h => ⟨h.1, h.2⟩
  | fuel + 1, listed, a, w, h => ⟨fun h0 => h.1 h0, fun i hi => by
    have h1 := h.2 i hi
    unfold wpOp at h1
    unfold wpOpIn
    cases ho : ops[i]? with
    | none =>
      simp only [ho] at h1
      exact any_in hnd fuel _ a w h1
    | some o =>
      simp only [ho] at h1
      have hm : noDefer o.op = true := hnd o (Array.mem_toList_iff.2 (Array.mem_of_getElem? ho))
      by_cases hw : Region.wanted o (yielded ops a.tmps)
      · simp only [hw, if_true] at h1 ⊢
        exact op_in hm (fun a' w' => any_in hnd fuel _ a' w') h1
      · simp only [hw] at h1 ⊢
        exact ⟨fun f _ => trivial, any_in hnd fuel _ _ _ h1⟩⟩
theorem drawn_region_in (S : World → Prop) (zs : List Nat) {id : Nat} {ts : Array Value} {ds : List Deferred} {w : World} (hnd : (ops.toList.all fun o => noDefer o.op) = true) (hm : P.follows .mixedOrders = true)
    (h : Drawn P ops (goesOn Q) S zs ops.size (Array.replicate ops.size false) ts ds w.drew) : (Code.region id ops true).wpIn (Fence.wide.inRound l0) n P Q { tmps := ts, defers := ds } w :=
  wpIn_region_any hm (any_in (fun o ho => by rw [List.all_eq_true] at hnd; exact hnd o ho) _ _ _ _ (wpAny_ofG _ _ _ _ (h Shutd.start)))
end

end Go.Proofs.YticglepkbihldaaGreat

/-
  A range over a function, as over4, its loop variable boxed: the activation of a round is a function of what has come and of its box, found by unification in the case 'assign'. No type is named.
-/
namespace Go.Proofs.YticglepkbihldaaGreat
open Go.RowKit

theorem over5 {α : Type} {n : Nat} {g : Operand} {ps : Array Tmp} {assign body : Code} {Q : Exit → Act → World → Prop} {a : Act} {w w0 : World} (h1 : 1 ≤ n)
    {gf : Nat} {lb : Array Value} (hg : a.eval g = .func (.func gf) #[] lb) (eg : ∀ args w, (callFunc gf args).run Tryz.prog w = .ok (.enter gf args) w)
    {encs : α → Array Value} {S : Nat → Prop} {Gv : List α → α → World → Prop} {All Part : List α → Prop} (hseq : Feeds3 (n - 1) gf lb encs S Gv All Part w0) (hb0 : Turn (fun _ => False) w0 w)
    (hS : S (w.heap.size + 1)) (hps : ∀ x, (encs x).size = ps.size) (A : α → Nat → Act)
    (I : List α → World → Prop) (Ix : Code → List α → World → Prop) (hI : Holds w.heap.size I) (hIx : ∀ c, Holds w.heap.size (Ix c)) (h0 : I [] w) (I2 : List α → α → Nat → World → Prop) (hI2 : ∀ pre x q A B, I2 pre x q A → Turn (odd w.heap.size A) A B → I2 pre x q B)
    (hassign : ∀ (l : Nat) (pre : List α) (x : α) (W : World) (K : Act → World → Prop), I pre W → Gv pre x W → (∀ q W', I2 pre x q W' → Turn (fun _ => False) W W' → K (A x q) W') →
      assign.wpIn (Fence.wide.inRound l) (n - 1 - 1) Tryz.prog (Exit.then K (fun _ _ _ => False)) { tmps := (ps.zip (encs x)).foldl (fun t (p, v) => t.setIfInBounds p v) a.tmps, defers := [] } W)
    (hbody : ∀ (l : Nat) (pre : List α) (x : α) (q : Nat) (W : World), I2 pre x q W → body.wpIn (Fence.wide.inRound l) (n - 1 - 1) Tryz.prog (postF w.heap.size S I Ix (pre ++ [x]) W) (A x q) W)
    (hdone : ∀ (D : Nat) (xs : List α) (W : World), w.heap.size ≤ D → All xs → I xs W → W.heap[D]? = some (.deferred (some [])) → Q .normal { a with defers := { target := .collected D, args := #[] } :: a.defers } W)
    (hstop : ∀ (D : Nat) (c : Code) (pre : List α) (W : World), w.heap.size ≤ D → Part pre → Ix c pre W → W.heap[D]? = some (.deferred (some [])) → c.wpIn Fence.wide n Tryz.prog Q { a with defers := { target := .collected D, args := #[] } :: a.defers } W) :
    (Code.rangeFunc g ps assign body).wpIn Fence.wide n Tryz.prog Q a w :=
  over4 h1 hg eg hseq hb0 hS hps I Ix hI hIx h0 (fun pre x a' W => ∃ q, a' = A x q ∧ I2 pre x q W) (fun pre x a' B C ⟨q, h, k⟩ ht => ⟨q, h, hI2 pre x q B C k ht⟩)
    (fun l pre x W K hi hgv hK => hassign l pre x W K hi hgv fun q W' h ht => hK _ _ ⟨q, rfl, h⟩ ht)
    (fun l pre x a' W ⟨q, h, k⟩ => by subst h; exact hbody l pre x q W k) hdone hstop

end Go.Proofs.YticglepkbihldaaGreat
