/-
  Texts laid one behind the other: Q1e Q1h.
-/
import Derived.Test.YtieffpngknglpaaJoacav
import Derived.Test.YtieffpngknglpaaJoacar

/-
  Stage 13: the document's Check, Matches, Group; which queries are light.
-/
namespace Go.Proofs.Ytieffpngknglpaa
open Go.RowKit

set_option maxRecDepth 100000

set_option maxHeartbeats 16000000 in
theorem ref_check13 (q : Q13) (n : Int) (w : World) : Calls Try.prog 7 #[qv13 q, .int .i64 n] w fun e w' => e = .returned (.int .i64 (chkQ q n)) ∧ Turn (fun _ => False) w w' := by
  unfold qv13
  obtain ⟨w0, hw0⟩ : ∃ w0, w0 = w.alloc (.cells (cells13 q) 25) := ⟨_, rfl⟩
  have HT0 : Hid (Turn (fun _ => False) w w0) := by rw [hw0]; exact (Turn.refl _ w).alloc _
  have hb0 : Box w0 w.heap.size 25 (cells13 q) := by rw [hw0]; exact Box.new w _ _
  have HB0 := Lib.hid hb0
  obtain ⟨c0, c1, -⟩ := box_query13 hb0
  have HW := Lib.hid hw0
  clear hw0 hb0
  by_cases hn : 1 ≤ n ∧ n ≤ 4
  · by_cases hr : 0 ≤ q.lo ∧ q.lo ≤ q.hi ∧ q.hi ≤ 16777217
    · have HN := Lib.hid hn
      have HR := Lib.hid hr
      obtain ⟨n1, n2⟩ := hn
      obtain ⟨r1, r2, r3⟩ := hr
      have HBAD : Hid (okQ n q = false → chkQ q n = 4) := fun h => chkQ_text HN.out HR.out h
      have HGOOD : Hid (okQ n q = true → chkQ q n = 0) := fun h => chkQ_ok HN.out HR.out h
      go_enter Try.func7, Try.ntmps7
      go_wp2_with fail
      rw [← HW.out]
      clear c0 c1
      go_loopw [5] (fun x5 wr => wr = w0 ∧ ∃ i : Nat, x5 = .int .i64 (i : Int) ∧ i ≤ 4 ∧ ∀ k, k < i → okD n k (q.g.nth k) (q.h.nth k) (q.f.nth k) = true) (fun x5 _ => 4 - (intOf x5).toNat)
      case atStart => exact ⟨rfl, 0, rfl, Nat.zero_le _, fun k hk => absurd hk (Nat.not_lt_zero k)⟩
      case round =>
        obtain ⟨rfl, i, rfl, hi, he⟩ := hrel
        have HE := Lib.hid he
        clear he
        by_cases hlt : i < 4
        · have e1 := (HB0.out.cell (2 + i)).trans (q_group13 q hlt)
          have e2 := (HB0.out.cell (6 + i)).trans (q_has13 q hlt)
          have e3 := (HB0.out.cell (10 + i)).trans (q_text13 q hlt)
          have hil : (i : Int) < 4 := by omega
          have HNOT : Hid (okD n i (q.g.nth i) (q.h.nth i) (q.f.nth i) = false → chkQ q n = 4) := fun h => HBAD.out (okQ_not hlt h)
          have HSTEP : Hid (okD n i (q.g.nth i) (q.h.nth i) (q.f.nth i) = true → ∀ k, k < i + 1 → okD n k (q.g.nth k) (q.h.nth k) (q.f.nth k) = true) := fun h k hk => by
            by_cases ek : k = i
            · rw [ek]; exact h
            · exact HE.out k (by omega)
          unfold sv9 at e3
          generalize q.g.nth i = G at e1 HNOT HSTEP
          generalize q.h.nth i = H at e2 HNOT HSTEP
          generalize q.f.nth i = T at e3 HNOT HSTEP
          clear HBAD HGOOD HE HN HR
          by_cases hin : (i : Int) < n
          · have hnn : ¬ (n ≤ (i : Int)) := by omega
            cases T with
            | nil =>
              cases H with
              | false =>
                cases G with
                | false =>
                  have HK := Lib.hid (HSTEP.out (by simp [okD, hnn]))
                  clear HSTEP HNOT
                  go_wp2_with fail
                  go_roundw
                  case rel => exact ⟨trivial, i + 1, by go_num, hlt, HK.out⟩
                  case measure => simp [intOf]; omega
                | true =>
                  have HK := Lib.hid (HSTEP.out (by simp [okD, hnn]))
                  clear HSTEP HNOT
                  go_wp2_with fail
                  go_roundw
                  case rel => exact ⟨trivial, i + 1, by go_num, hlt, HK.out⟩
                  case measure => simp [intOf]; omega
              | true =>
                cases G with
                | false =>
                  have HK := Lib.hid (HSTEP.out (by simp [okD, hnn]))
                  clear HSTEP HNOT
                  go_wp2_with fail
                  go_roundw
                  case rel => exact ⟨trivial, i + 1, by go_num, hlt, HK.out⟩
                  case measure => simp [intOf]; omega
                | true =>
                  have HK := Lib.hid (HSTEP.out (by simp [okD, hnn]))
                  clear HSTEP HNOT
                  go_wp2_with fail
                  go_roundw
                  case rel => exact ⟨trivial, i + 1, by go_num, hlt, HK.out⟩
                  case measure => simp [intOf]; omega
            | cons t T =>
              by_cases hlen : 16 < T.length + 1
              · have hli : (16 : Int) < (T.length : Int) + 1 := by omega
                cases H with
                | false =>
                  cases G with
                  | false =>
                    have HK := Lib.hid (HNOT.out (by simp [okD, hnn, hlen]))
                    clear HSTEP HNOT
                    go_wp2_with fail
                    go_ret
                    rw [HK.out]
                    exact ⟨rfl, HT0.out⟩
                  | true =>
                    have HK := Lib.hid (HNOT.out (by simp [okD, hnn, hlen]))
                    clear HSTEP HNOT
                    go_wp2_with fail
                    go_ret
                    rw [HK.out]
                    exact ⟨rfl, HT0.out⟩
                | true =>
                  cases G with
                  | false =>
                    have HK := Lib.hid (HNOT.out (by simp [okD, hnn, hlen]))
                    clear HSTEP HNOT
                    go_wp2_with fail
                    go_ret
                    rw [HK.out]
                    exact ⟨rfl, HT0.out⟩
                  | true =>
                    have HK := Lib.hid (HNOT.out (by simp [okD, hnn, hlen]))
                    clear HSTEP HNOT
                    go_wp2_with fail
                    go_ret
                    rw [HK.out]
                    exact ⟨rfl, HT0.out⟩
              · have hli : ¬ ((16 : Int) < (T.length : Int) + 1) := by omega
                cases H with
                | false =>
                  cases G with
                  | false =>
                    have HK := Lib.hid (HNOT.out (by simp [okD, hnn, hlen]))
                    clear HSTEP HNOT
                    go_wp2_with fail
                    go_ret
                    rw [HK.out]
                    exact ⟨rfl, HT0.out⟩
                  | true =>
                    have HK := Lib.hid (HNOT.out (by simp [okD, hnn, hlen]))
                    clear HSTEP HNOT
                    go_wp2_with fail
                    go_ret
                    rw [HK.out]
                    exact ⟨rfl, HT0.out⟩
                | true =>
                  cases G with
                  | false =>
                    have HK := Lib.hid (HSTEP.out (by simp [okD, hnn]; omega))
                    clear HSTEP HNOT
                    go_wp2_with fail
                    go_roundw
                    case rel => exact ⟨trivial, i + 1, by go_num, hlt, HK.out⟩
                    case measure => simp [intOf]; omega
                  | true =>
                    have HK := Lib.hid (HSTEP.out (by simp [okD, hnn]; omega))
                    clear HSTEP HNOT
                    go_wp2_with fail
                    go_roundw
                    case rel => exact ⟨trivial, i + 1, by go_num, hlt, HK.out⟩
                    case measure => simp [intOf]; omega
          · have hnn : n ≤ (i : Int) := by omega
            cases T with
            | nil =>
              cases H with
              | false =>
                cases G with
                | false =>
                  have HK := Lib.hid (HSTEP.out (by simp [okD, hnn]))
                  clear HSTEP HNOT
                  go_wp2_with fail
                  go_roundw
                  case rel => exact ⟨trivial, i + 1, by go_num, hlt, HK.out⟩
                  case measure => simp [intOf]; omega
                | true =>
                  have HK := Lib.hid (HNOT.out (by simp [okD, hnn]))
                  clear HSTEP HNOT
                  go_wp2_with fail
                  go_ret
                  rw [HK.out]
                  exact ⟨rfl, HT0.out⟩
              | true =>
                cases G with
                | false =>
                  have HK := Lib.hid (HNOT.out (by simp [okD, hnn]))
                  clear HSTEP HNOT
                  go_wp2_with fail
                  go_ret
                  rw [HK.out]
                  exact ⟨rfl, HT0.out⟩
                | true =>
                  have HK := Lib.hid (HNOT.out (by simp [okD, hnn]))
                  clear HSTEP HNOT
                  go_wp2_with fail
                  go_ret
                  rw [HK.out]
                  exact ⟨rfl, HT0.out⟩
            | cons t T =>
              by_cases hlen : 16 < T.length + 1
              · have hli : (16 : Int) < (T.length : Int) + 1 := by omega
                cases H with
                | false =>
                  cases G with
                  | false =>
                    have HK := Lib.hid (HNOT.out (by simp [okD, hnn, hlen]))
                    clear HSTEP HNOT
                    go_wp2_with fail
                    go_ret
                    rw [HK.out]
                    exact ⟨rfl, HT0.out⟩
                  | true =>
                    have HK := Lib.hid (HNOT.out (by simp [okD, hnn, hlen]))
                    clear HSTEP HNOT
                    go_wp2_with fail
                    go_ret
                    rw [HK.out]
                    exact ⟨rfl, HT0.out⟩
                | true =>
                  cases G with
                  | false =>
                    have HK := Lib.hid (HNOT.out (by simp [okD, hnn, hlen]))
                    clear HSTEP HNOT
                    go_wp2_with fail
                    go_ret
                    rw [HK.out]
                    exact ⟨rfl, HT0.out⟩
                  | true =>
                    have HK := Lib.hid (HNOT.out (by simp [okD, hnn, hlen]))
                    clear HSTEP HNOT
                    go_wp2_with fail
                    go_ret
                    rw [HK.out]
                    exact ⟨rfl, HT0.out⟩
              · have hli : ¬ ((16 : Int) < (T.length : Int) + 1) := by omega
                cases H with
                | false =>
                  cases G with
                  | false =>
                    have HK := Lib.hid (HNOT.out (by simp [okD, hnn, hlen]))
                    clear HSTEP HNOT
                    go_wp2_with fail
                    go_ret
                    rw [HK.out]
                    exact ⟨rfl, HT0.out⟩
                  | true =>
                    have HK := Lib.hid (HNOT.out (by simp [okD, hnn, hlen]))
                    clear HSTEP HNOT
                    go_wp2_with fail
                    go_ret
                    rw [HK.out]
                    exact ⟨rfl, HT0.out⟩
                | true =>
                  cases G with
                  | false =>
                    have HK := Lib.hid (HNOT.out (by simp [okD, hnn, hlen]))
                    clear HSTEP HNOT
                    go_wp2_with fail
                    go_ret
                    rw [HK.out]
                    exact ⟨rfl, HT0.out⟩
                  | true =>
                    have HK := Lib.hid (HNOT.out (by simp [okD, hnn, hlen]))
                    clear HSTEP HNOT
                    go_wp2_with fail
                    go_ret
                    rw [HK.out]
                    exact ⟨rfl, HT0.out⟩
        · obtain rfl : i = 4 := by omega
          have HK := Lib.hid (HGOOD.out (okQ_iff.2 HE.out))
          go_wp2
          go_ret
          rw [HK.out]
          exact ⟨rfl, HT0.out⟩
    · rw [chkQ_range hn hr]
      obtain ⟨n1, n2⟩ := hn
      by_cases r1 : q.lo < 0
      · clear hr
        go_enter Try.func7, Try.ntmps7
        go_wp2_with fail
        rw [← HW.out]
        go_ret
        exact ⟨rfl, HT0.out⟩
      · by_cases r2 : 16777217 < q.hi
        · clear hr
          go_enter Try.func7, Try.ntmps7
          go_wp2_with fail
          rw [← HW.out]
          go_ret
          exact ⟨rfl, HT0.out⟩
        · have r3 : q.hi < q.lo := by omega
          clear hr
          go_enter Try.func7, Try.ntmps7
          go_wp2_with fail
          rw [← HW.out]
          go_ret
          exact ⟨rfl, HT0.out⟩
  · rw [chkQ_dims hn]
    by_cases n1 : n < 1
    · clear hn
      go_enter Try.func7, Try.ntmps7
      go_wp2_with fail
      rw [← HW.out]
      go_ret
      exact ⟨rfl, HT0.out⟩
    · have n2 : 4 < n := by omega
      clear hn
      go_enter Try.func7, Try.ntmps7
      go_wp2_with fail
      rw [← HW.out]
      go_ret
      exact ⟨rfl, HT0.out⟩

end Go.Proofs.Ytieffpngknglpaa

/-
  Stage 13, plain: queries as bytes, and read; there and back.
-/
namespace Go.Proofs.Ytieffpngknglpaa
open Go.RowKit

/-- A flag read in a state, and the state behind it. -/
def sFlag (s : RS9) : Bool := if s.2 = 0 then (rdFlag s.1).1 else false
def sFlag' (s : RS9) : RS9 := if s.2 = 0 then (s.1.drop (rdFlag s.1).2.2, (rdFlag s.1).2.1) else s
theorem rdFlag_zero {l : List UInt8} (h : (rdFlag l).2.1 ≠ 0) : (rdFlag l).1 = false := by
  cases l with
  | nil => rfl
  | cons b t =>
    have e : rdFlag (b :: t) = if 1 < b.toNat then (false, 4, 1) else (b.toNat == 1, 0, 1) := rfl
    rw [e] at h ⊢
    by_cases hb : 1 < b.toNat
    · rw [if_pos hb]
    · rw [if_neg hb] at h
      exact absurd rfl h
theorem enc_flag (b : Bool) : enc b.toNat = [if b then 1 else 0] := by
  cases b
  · rw [show enc false.toNat = [low 0] from enc_small 0 (by omega)]; rfl
  · rw [show enc true.toNat = [low 1] from enc_small 1 (by omega)]; rfl
theorem flag_back (b : Bool) (r : List UInt8) : sFlag (enc b.toNat ++ r, 0) = b ∧ sFlag' (enc b.toNat ++ r, 0) = (r, 0) := by
  rw [enc_flag]
  cases b <;> exact ⟨rfl, rfl⟩
theorem flag_there {s : RS9} (h : (sFlag' s).2 = 0) : s.2 = 0 ∧ s.1 = enc (sFlag s).toNat ++ (sFlag' s).1 := by
  unfold sFlag sFlag' at *
  by_cases hs : s.2 = 0
  · rw [if_pos hs] at h
    rw [if_pos hs, if_pos hs]
    refine ⟨hs, ?_⟩
    obtain ⟨l, f⟩ := s
    dsimp only at *
    cases l with
    | nil => cases h
    | cons b t =>
      have e : rdFlag (b :: t) = if 1 < b.toNat then (false, 4, 1) else (b.toNat == 1, 0, 1) := rfl
      rw [e] at h ⊢
      by_cases hb : 1 < b.toNat
      · rw [if_pos hb] at h
        cases h
      · rw [if_neg hb, enc_flag]
        by_cases h1 : b.toNat = 1
        · have e : b = 1 := UInt8.toNat_inj.1 h1
          subst e
          rfl
        · have e : b = 0 := UInt8.toNat_inj.1 (show b.toNat = 0 by omega)
          subst e
          rfl
  · rw [if_neg hs] at h
    exact absurd h hs

/-- A dimension's bytes; those of the first ones; a query's. -/
def dimB13 (g h : Bool) (t : List UInt8) : List UInt8 := enc g.toNat ++ enc h.toNat ++ (if h then textB t else [])
def dimsB13 (q : Q13) : Nat → List UInt8
  | 0 => []
  | i + 1 => dimsB13 q i ++ dimB13 (q.g.nth i) (q.h.nth i) (q.f.nth i)
def encQ (q : Q13) (n : Nat) : List UInt8 := enc q.lo.toNat ++ enc q.hi.toNat ++ dimsB13 q n
theorem dimB_len13 {g h : Bool} {t : List UInt8} (ht : t.length ≤ 16) : (dimB13 g h t).length ≤ 50 := by
  have h1 := enc_len g.toNat
  have h2 := enc_len h.toNat
  have h3 := enc_len t.length
  unfold dimB13 textB
  cases h <;> simp only [List.length_append, if_true, Bool.false_eq_true, if_false, List.length_nil] <;> omega
theorem dimsB_len13 {q : Q13} (ht : ∀ i, i < 4 → (q.f.nth i).length ≤ 16) : ∀ n, n ≤ 4 → (dimsB13 q n).length ≤ 50 * n
  | 0, _ => Nat.zero_le _
  | n + 1, hn => by
    have ih := dimsB_len13 ht n (by omega)
    have h := dimB_len13 (g := q.g.nth n) (h := q.h.nth n) (ht n (by omega))
    unfold dimsB13
    rw [List.length_append]
    omega
theorem okD_text {n : Int} {i : Nat} {g h : Bool} {t : List UInt8} (hk : okD n i g h t = true) : t.length ≤ 16 := by
  unfold okD at hk
  by_cases h16 : 16 < t.length
  · rw [decide_eq_true h16] at hk
    simp at hk
  · omega
theorem okQ_text {n : Int} {q : Q13} (h : okQ n q = true) (i : Nat) (hi : i < 4) : (q.f.nth i).length ≤ 16 := okD_text (okQ_iff.1 h i hi)
theorem encQ_len {q : Q13} {n : Nat} (hn : n ≤ 4) (ht : ∀ i, i < 4 → (q.f.nth i).length ≤ 16) : (encQ q n).length ≤ 300 := by
  have h1 := enc_len q.lo.toNat
  have h2 := enc_len q.hi.toNat
  have h3 := dimsB_len13 ht n hn
  unfold encQ
  rw [List.length_append, List.length_append]
  omega

/-- What is read in one dimension, and in the first ones. -/
def dimR13 (q : Q13) (i : Nat) (s : RS9) : Q13 × RS9 :=
  if sFlag (sFlag' s) then ({ q with g := q.g.put i (sFlag s), h := q.h.put i true, f := q.f.put i (sText (sFlag' (sFlag' s))) }, sText' (sFlag' (sFlag' s)))
  else ({ q with g := q.g.put i (sFlag s), h := q.h.put i false }, sFlag' (sFlag' s))
def dimsR13 (s : RS9) : Nat → Q13 × RS9
  | 0 => (zeroQ, s)
  | i + 1 => dimR13 (dimsR13 s i).1 i (dimsR13 s i).2
def withH (q : Q13) (lo hi : Int) : Q13 := { q with lo := lo, hi := hi }
/-- What the bytes say. -/
def endQ (q : Q13) (n : Int) : Int × Q13 := if chkQ q n = 0 then (0, q) else (chkQ q n, zeroQ)
def readQ (m : List UInt8) (n : Int) : Int × Q13 :=
  if okDims n then
    if (dimsR13 (sNum' (sNum' (m, 0))) n.toNat).2.2 ≠ 0 then (((dimsR13 (sNum' (sNum' (m, 0))) n.toNat).2.2 : Int), zeroQ)
    else if 0 < (dimsR13 (sNum' (sNum' (m, 0))) n.toNat).2.1.length then (4, zeroQ)
    else if 4611686018427387904 < max (sNum (m, 0)) (sNum (sNum' (m, 0))) then (2, zeroQ)
    else endQ (withH (dimsR13 (sNum' (sNum' (m, 0))) n.toNat).1 (sNum (m, 0)) (sNum (sNum' (m, 0)))) n
  else (1, zeroQ)
theorem readQ_none {m : List UInt8} {n : Int} (h : (readQ m n).1 ≠ 0) : (readQ m n).2 = zeroQ := by
  unfold readQ at h ⊢
  split
  · split
    · rfl
    · split
      · rfl
      · split
        · rfl
        · rename_i h0 h1 h2 h3
          rw [if_pos h0, if_neg h1, if_neg h2, if_neg h3] at h
          unfold endQ at h ⊢
          split
          · rename_i h4
            rw [if_pos h4] at h
            exact absurd rfl h
          · rfl
  · rfl

/-- What has been read of a query, so far. -/
def headQ (q : Q13) : Nat → Q13
  | 0 => zeroQ
  | i + 1 => { headQ q i with g := (headQ q i).g.put i (q.g.nth i), h := (headQ q i).h.put i (q.h.nth i), f := (headQ q i).f.put i (q.f.nth i) }
theorem zero_nth : ∀ i : Nat, zeroQ.g.nth i = false ∧ zeroQ.h.nth i = false ∧ zeroQ.f.nth i = [] := fun i => ⟨V4.nth_fill i, V4.nth_fill i, V4.nth_fill i⟩
theorem headQ_nth (q : Q13) : ∀ n, n ≤ 4 → ∀ i, i < 4 → (headQ q n).g.nth i = (if i < n then q.g.nth i else false) ∧ (headQ q n).h.nth i = (if i < n then q.h.nth i else false) ∧ (headQ q n).f.nth i = (if i < n then q.f.nth i else [])
  | 0, _, i, _ => by simp [headQ, zero_nth]
  | n + 1, hn, i, hi => by
    obtain ⟨h1, h2, h3⟩ := headQ_nth q n (by omega) i hi
    simp only [headQ]
    rw [V4.nth_put (by omega) hi, V4.nth_put (by omega) hi, V4.nth_put (by omega) hi, h1, h2, h3]
    by_cases e : n = i
    · subst e; simp
    · have e2 : (i < n + 1) = (i < n) := by
        rw [eq_iff_iff]
        omega
      simp [e, e2]
theorem headQ_hours (q : Q13) : ∀ n, (headQ q n).lo = 0 ∧ (headQ q n).hi = 0
  | 0 => ⟨rfl, rfl⟩
  | n + 1 => headQ_hours q n
theorem headQ_all {q : Q13} {n : Nat} (hn : n ≤ 4) (ho : okQ (n : Int) q = true) : withH (headQ q n) q.lo q.hi = q := by
  have hp := okQ_iff.1 ho
  obtain ⟨lo, hi, g, h, f⟩ := q
  unfold withH
  have e1 : (headQ ⟨lo, hi, g, h, f⟩ n).g = g := V4.same fun i hi' => by
    rw [(headQ_nth _ n hn i hi').1]
    have := (okD_parts.1 (hp i hi')).1
    by_cases c : i < n
    · rw [if_pos c]
    · rw [if_neg c]; simp only [c, decide_false, Bool.false_eq_true, if_false] at this; exact this.symm
  have e2 : (headQ ⟨lo, hi, g, h, f⟩ n).h = h := V4.same fun i hi' => by
    rw [(headQ_nth _ n hn i hi').2.1]
    have := (okD_parts.1 (hp i hi')).2.1
    by_cases c : i < n
    · rw [if_pos c]
    · rw [if_neg c]; simp only [c, decide_false, Bool.false_eq_true, if_false] at this; exact this.symm
  have e3 : (headQ ⟨lo, hi, g, h, f⟩ n).f = f := V4.same fun i hi' => by
    rw [(headQ_nth _ n hn i hi').2.2]
    have h2 := (okD_parts.1 (hp i hi')).2.1
    have h3 := (okD_parts.1 (hp i hi')).2.2.1
    by_cases c : i < n
    · rw [if_pos c]
    · rw [if_neg c]
      simp only [c, decide_false, Bool.false_eq_true, if_false] at h2
      rw [h2] at h3
      simp only [Bool.false_eq_true, if_false] at h3
      exact h3.symm
  rw [e1, e2, e3]
theorem V4.put_same {A : Type} {v : V4 A} {x : A} {i : Nat} (hi : i < 4) (h : v.nth i = x) : v.put i x = v := V4.same fun j hj => by
  rw [V4.nth_put hi hj]
  split
  · rename_i e; subst e; exact h.symm
  · rfl
theorem dims_back13 {q : Q13} (ht : ∀ i, i < 4 → (q.f.nth i).length ≤ 16) (hz : ∀ i, i < 4 → q.h.nth i = false → q.f.nth i = []) : ∀ n (r : List UInt8), n ≤ 4 → dimsR13 (dimsB13 q n ++ r, 0) n = (headQ q n, (r, 0))
  | 0, r, _ => rfl
  | n + 1, r, hn => by
    have e : dimsB13 q (n + 1) ++ r = dimsB13 q n ++ (enc (q.g.nth n).toNat ++ (enc (q.h.nth n).toNat ++ ((if q.h.nth n then textB (q.f.nth n) else []) ++ r))) := by
      simp only [dimsB13, dimB13, List.append_assoc]
    unfold dimsR13
    rw [e, dims_back13 ht hz n _ (by omega)]
    unfold dimR13
    rw [(flag_back _ _).2, (flag_back _ _).1, (flag_back _ _).1, (flag_back _ _).2]
    cases hh : q.h.nth n with
    | true =>
      rw [if_pos rfl, if_pos rfl, (text_back (ht n (by omega)) r).1, (text_back (ht n (by omega)) r).2]
      simp only [headQ, hh]
    | false =>
      rw [if_neg (by simp), if_neg (by simp)]
      simp only [headQ, hh, hz n (by omega) hh, List.nil_append]
      rw [V4.put_same (v := (headQ q n).f) (by omega) (by rw [(headQ_nth q n (by omega) n (by omega)).2.2, if_neg (by omega)])]
theorem readQ_back {q : Q13} {n : Int} (h : chkQ q n = 0) : readQ (encQ q n.toNat) n = (0, q) := by
  obtain ⟨hn, hr, ho⟩ := chkQ_good h
  obtain ⟨N, rfl⟩ := Int.eq_ofNat_of_zero_le (show 0 ≤ n by omega)
  rw [Int.toNat_natCast]
  have hN : N ≤ 4 := by omega
  obtain ⟨A, hA⟩ := Int.eq_ofNat_of_zero_le hr.1
  obtain ⟨B, hB⟩ := Int.eq_ofNat_of_zero_le (show 0 ≤ q.hi by omega)
  have hAl : A ≤ 16777217 := by omega
  have hBl : B ≤ 16777217 := by omega
  have e : encQ q N = enc A ++ (enc B ++ (dimsB13 q N ++ [])) := by
    unfold encQ
    rw [hA, hB, Int.toNat_natCast, Int.toNat_natCast, List.append_nil, List.append_assoc]
  have hz : ∀ i, i < 4 → q.h.nth i = false → q.f.nth i = [] := fun i hi hh => by
    have := (okD_parts.1 (okQ_iff.1 ho i hi)).2.2.1
    rw [hh] at this
    simpa using this
  have b1 := num_back (n := A) (by show _ < _; omega) (enc B ++ (dimsB13 q N ++ []))
  have b2 := num_back (n := B) (by show _ < _; omega) (dimsB13 q N ++ [])
  have b3 := dims_back13 (okQ_text ho) hz N [] hN
  unfold readQ
  rw [okDims_nat hn, if_pos rfl, Int.toNat_natCast, e, b1.1, b1.2, b2.1, b2.2, b3]
  simp only [ne_eq, not_true_eq_false, if_false, List.length_nil, Nat.lt_irrefl]
  rw [if_neg (by omega)]
  have e2 : withH (headQ q N) (A : Int) (B : Int) = q := by
    have := headQ_all hN ho
    rwa [hA, hB] at this
  rw [e2]
  unfold endQ
  rw [if_pos h]

theorem V4.nth_putEq {A : Type} {v : V4 A} {x : A} {i : Nat} (hi : i < 4) : (v.put i x).nth i = x := by rw [V4.nth_put hi hi, if_pos rfl]
theorem dimsB_same13 {q p : Q13} : ∀ n, (∀ i, i < n → q.g.nth i = p.g.nth i ∧ q.h.nth i = p.h.nth i ∧ (q.h.nth i = true → q.f.nth i = p.f.nth i)) → dimsB13 q n = dimsB13 p n
  | 0, _ => rfl
  | n + 1, h => by
    obtain ⟨h1, h2, h3⟩ := h n (by omega)
    unfold dimsB13
    rw [dimsB_same13 n (fun i hi => h i (by omega)), h1]
    congr 1
    unfold dimB13
    rw [h2] at h3 ⊢
    cases hh : p.h.nth n with
    | true => rw [h3 hh]
    | false => rfl
theorem dims_there13 (s : RS9) : ∀ n, n ≤ 4 → (dimsR13 s n).2.2 = 0 → s.2 = 0 ∧ s.1 = dimsB13 (dimsR13 s n).1 n ++ (dimsR13 s n).2.1
  | 0, _, h => ⟨h, rfl⟩
  | n + 1, hn, h => by
    have ih := dims_there13 s n (by omega)
    have e : dimsR13 s (n + 1) = dimR13 (dimsR13 s n).1 n (dimsR13 s n).2 := rfl
    rw [e] at h ⊢
    obtain ⟨q, hq⟩ : ∃ q, q = (dimsR13 s n).1 := ⟨_, rfl⟩
    obtain ⟨t, ht⟩ : ∃ t, t = (dimsR13 s n).2 := ⟨_, rfl⟩
    rw [← hq, ← ht] at ih h ⊢
    clear hq ht e
    unfold dimR13 at h ⊢
    have hput : ∀ {A : Type} (v : V4 A) (x : A) (i : Nat), i < n → (v.put n x).nth i = v.nth i := fun v x i hi => by
      rw [V4.nth_put (by omega) (by omega), if_neg (by omega)]
    cases hh : sFlag (sFlag' t) with
    | true =>
      rw [hh, if_pos rfl] at h
      rw [if_pos rfl]
      obtain ⟨t1, t2, -⟩ := text_there h
      obtain ⟨f1, f2⟩ := flag_there t1
      obtain ⟨f3, f4⟩ := flag_there f1
      obtain ⟨i1, i2⟩ := ih f3
      refine ⟨i1, ?_⟩
      dsimp only
      rw [i2, dimsB13, V4.nth_putEq (by omega), V4.nth_putEq (by omega), V4.nth_putEq (by omega)]
      conv => rhs; rw [dimsB_same13 (p := q) n (fun i hi => ⟨hput _ _ i hi, hput _ _ i hi, fun _ => hput _ _ i hi⟩)]
      rw [hh] at f2
      unfold dimB13
      rw [if_pos rfl]
      conv => lhs; rw [f4, f2, t2]
      simp only [List.append_assoc]
    | false =>
      rw [hh, if_neg (by simp)] at h
      rw [if_neg (by simp)]
      obtain ⟨f1, f2⟩ := flag_there h
      obtain ⟨f3, f4⟩ := flag_there f1
      obtain ⟨i1, i2⟩ := ih f3
      refine ⟨i1, ?_⟩
      dsimp only
      rw [i2, dimsB13, V4.nth_putEq (by omega), V4.nth_putEq (by omega)]
      conv => rhs; rw [dimsB_same13 (q := { q with g := q.g.put n (sFlag t), h := q.h.put n false }) (p := q) n (fun i hi => ⟨hput _ _ i hi, hput _ _ i hi, fun _ => rfl⟩)]
      rw [hh] at f2
      unfold dimB13
      rw [if_neg (by simp)]
      conv => lhs; rw [f4, f2]
      simp only [List.append_assoc, List.nil_append]
theorem readQ_there {m : List UInt8} {n : Int} {q : Q13} (h : readQ m n = (0, q)) : encQ q n.toNat = m ∧ chkQ q n = 0 := by
  unfold readQ at h
  by_cases h0 : okDims n = true
  · rw [if_pos h0] at h
    by_cases h1 : (dimsR13 (sNum' (sNum' (m, 0))) n.toNat).2.2 = 0
    · rw [if_neg (by simp [h1])] at h
      by_cases h2 : 0 < (dimsR13 (sNum' (sNum' (m, 0))) n.toNat).2.1.length
      · rw [if_pos h2] at h; cases h
      · rw [if_neg h2] at h
        by_cases h3 : 4611686018427387904 < max (sNum (m, 0)) (sNum (sNum' (m, 0)))
        · rw [if_pos h3] at h; cases h
        · rw [if_neg h3] at h
          unfold endQ at h
          by_cases h4 : chkQ (withH (dimsR13 (sNum' (sNum' (m, 0))) n.toNat).1 (sNum (m, 0)) (sNum (sNum' (m, 0)))) n = 0
          · rw [if_pos h4] at h
            cases h
            refine ⟨?_, h4⟩
            obtain ⟨g1, g2⟩ := dims_there13 _ n.toNat (by unfold okDims at h0; simp only [Bool.and_eq_true, decide_eq_true_iff] at h0; omega) h1
            obtain ⟨k1, k2⟩ := num_there g1
            obtain ⟨j1, j2⟩ := num_there k1
            have hnil : (dimsR13 (sNum' (sNum' (m, 0))) n.toNat).2.1 = [] := List.eq_nil_of_length_eq_zero (by omega)
            rw [hnil, List.append_nil] at g2
            have e : dimsB13 (withH (dimsR13 (sNum' (sNum' (m, 0))) n.toNat).1 (sNum (m, 0)) (sNum (sNum' (m, 0)))) n.toNat = dimsB13 (dimsR13 (sNum' (sNum' (m, 0))) n.toNat).1 n.toNat := dimsB_same13 _ (fun i _ => ⟨rfl, rfl, fun _ => rfl⟩)
            unfold encQ
            rw [e, ← g2]
            show enc (((sNum (m, 0) : Nat) : Int)).toNat ++ enc (((sNum (sNum' (m, 0)) : Nat) : Int)).toNat ++ _ = m
            rw [Int.toNat_natCast, Int.toNat_natCast, List.append_assoc, ← k2]
            exact j2.symm
          · rw [if_neg h4] at h
            injection h with h5 h6
            exact absurd h5 h4
    · rw [if_pos h1] at h
      injection h with h5 h6
      omega
  · rw [if_neg h0] at h
    cases h

end Go.Proofs.Ytieffpngknglpaa
