/-
  Texts laid one behind the other: Q1n Q1j.
-/
import Derived.Test.YtieffpngknglpaaJoacax
import Derived.Test.YtieffpngknglpaaJoacba
import Derived.Test.YtieffpngknglpaaJoacaz

/-
  Stage 13: the document's Read.
-/
namespace Go.Proofs.Ytieffpngknglpaa
open Go.RowKit

set_option maxRecDepth 100000

/-- In the document's Read: the result's box, the reader; and the query's. -/
structure Xr13 (w : World) (p B r : Nat) (s : RS9) (W : World) : Prop where
  z : Rz13 w r W
  xs : XS W p B s
  lp : w.heap.size ≤ p
  rp : r ≠ p
structure Xk13 (w : World) (p B r k : Nat) (q : Q13) (s : RS9) (W : World) : Prop where
  x : Xr13 w p B r s W
  q : Box W k 25 (cells13 q)
  nk : w.heap.size ≤ k
  rk : r ≠ k
  pk : p ≠ k
  Bk : B ≠ k
section
variable {w W W2 : World} {p B r k : Nat} {q : Q13} {s s2 : RS9}
theorem Xr13.read (h : Xr13 w p B r s W) (hx : XS W2 p B s2) (ht : Turn (fun g => g = p) W W2) : Xr13 w p B r s2 W2 :=
  ⟨⟨h.z.res.turn ht h.rp, h.z.turn.trans ht (fun g hg e => by have := h.lp; omega), h.z.nr⟩, hx, h.lp, h.rp⟩
theorem Xr13.later (h : Xr13 w p B r s W) (ht : Turn (fun _ => False) W W2) : Xr13 w p B r s W2 :=
  ⟨⟨h.z.res.turn ht (fun f => f), h.z.turn.trans ht (fun _ _ f => f), h.z.nr⟩, h.xs.later ht, h.lp, h.rp⟩
theorem Xk13.read (h : Xk13 w p B r k q s W) (hx : XS W2 p B s2) (ht : Turn (fun g => g = p) W W2) : Xk13 w p B r k q s2 W2 :=
  ⟨h.x.read hx ht, h.q.turn ht (fun e => h.pk e.symm), h.nk, h.rk, h.pk, h.Bk⟩
theorem Xk13.set (h : Xk13 w p B r k q s W) (i : Nat) (u : Value) {q2 : Q13} (hc : (cells13 q).setIfInBounds i u = cells13 q2) : Xk13 w p B r k q2 s (W.setCell ⟨k, i, none⟩ u) := by
  have ht : Turn (fun g => g = k) W (W.setCell ⟨k, i, none⟩ u) := Turn.setCell (S := fun g => g = k) (p := ⟨k, i, none⟩) (Turn.refl _ W) (fun _ => rfl) u
  refine ⟨⟨⟨h.x.z.res.turn ht h.rk, h.x.z.turn.trans ht (fun g hg e => by have := h.nk; omega), h.x.z.nr⟩, h.x.xs.turn ht h.pk h.Bk, h.x.lp, h.x.rp⟩, ?_, h.nk, h.rk, h.pk, h.Bk⟩
  rw [← hc]
  exact h.q.set i u
theorem Xk13.later (h : Xk13 w p B r k q s W) (ht : Turn (fun _ => False) W W2) : Xk13 w p B r k q s W2 := ⟨h.x.later ht, h.q.turn ht (fun f => f), h.nk, h.rk, h.pk, h.Bk⟩
end

theorem one_cells13 (q : Q13) : (cells13 q).all (·.oneCell') = true := by
  refine all_oneCell_toArray (fun u hu => ?_)
  simp only [List.mem_cons, List.not_mem_nil, or_false] at hu
  rcases hu with rfl | rfl | rfl | rfl | rfl | rfl | rfl | rfl | rfl | rfl | rfl | rfl | rfl | rfl <;> rfl
theorem xs_new13 {w W : World} {A : Option Addr} {n c : Nat} {l : List UInt8} (h : Rd W (.slice A n c) l) (hB : ∀ g, (Value.slice A n c).ownBlock = some g → g < w.heap.size) (hs : w.heap.size < W.heap.size) :
    ∃ B, B ≤ w.heap.size ∧ XS (W.alloc (.cells #[.slice A n c, .int .i64 0] 64)) W.heap.size B (l, 0) := by
  obtain ⟨e1, h2, h3⟩ := h.fits
  subst e1
  have hle : ((Value.slice A l.length c).ownBlock).getD 0 ≤ w.heap.size := by
    cases hA : (Value.slice A l.length c).ownBlock with
    | none => exact Nat.zero_le _
    | some g => exact Nat.le_of_lt (hB g hA)
  exact ⟨_, hle, A, c, Box.new W _ _, h.later ((Turn.refl _ W).alloc _), ⟨fun g hg => by rw [hg]; rfl, by omega⟩, h2, h3⟩

set_option maxHeartbeats 16000000 in
theorem ref_read13 (v : Value) (m : List UInt8) (n : Int) (w : World) (hv : Rd w v m) (hB0 : ∀ g, v.ownBlock = some g → g < w.heap.size) : Calls Try.prog 16 #[v, .int .i64 n] w fun e w' => Readed13 w m n e w' := by
  obtain ⟨A, c, rfl⟩ := hv.shape
  obtain ⟨w1, hw1⟩ : ∃ w1, w1 = w.alloc (.cells zcells13 25) := ⟨_, rfl⟩
  have ht1 : Turn (fun _ => False) w w1 := by rw [hw1]; exact (Turn.refl _ w).alloc _
  have hb1 : Box w1 w.heap.size 25 (cells13 zeroQ) := by rw [hw1]; exact Box.new w _ zcells13
  have hs1 : w1.heap.size = w.heap.size + 1 := by rw [hw1, World.size_alloc]
  have hz1 : Rz13 w w.heap.size w1 := ⟨hb1, ht1, Nat.le_refl _⟩
  by_cases hn : 1 ≤ n ∧ n ≤ 4
  · obtain ⟨N, rfl⟩ := Int.eq_ofNat_of_zero_le (show 0 ≤ n by omega)
    obtain ⟨n1, n4⟩ := hn
    have hN4 : N ≤ 4 := by omega
    have HSPEC : Hid (readQ m (N : Int) = if (dimsR13 (sNum' (sNum' (m, 0))) N).2.2 ≠ 0 then (((dimsR13 (sNum' (sNum' (m, 0))) N).2.2 : Int), zeroQ)
        else if 0 < (dimsR13 (sNum' (sNum' (m, 0))) N).2.1.length then (4, zeroQ)
        else if 4611686018427387904 < max (sNum (m, 0)) (sNum (sNum' (m, 0))) then (2, zeroQ)
        else endQ (withH (dimsR13 (sNum' (sNum' (m, 0))) N).1 (sNum (m, 0)) (sNum (sNum' (m, 0)))) (N : Int)) := by
      show _ = _
      unfold readQ
      rw [okDims_nat ⟨n1, n4⟩, if_pos rfl, Int.toNat_natCast]
    obtain ⟨B, hBl, hx⟩ := xs_new13 (w := w) (W := w1) (hv.later ht1) hB0 (by omega)
    obtain ⟨w2, hw2⟩ : ∃ w2, w2 = w1.alloc (.cells #[.slice A m.length c, .int .i64 0] 64) := ⟨_, rfl⟩
    have hm2 : Xr13 w (w.heap.size + 1) B w.heap.size (m, 0) w2 := by
      have ht2 : Turn (fun _ => False) w1 w2 := by rw [hw2]; exact (Turn.refl _ w1).alloc _
      rw [← hw2, hs1] at hx
      exact ⟨⟨hb1.turn ht2 (fun f => f), ht1.trans ht2 (fun _ _ f => f), Nat.le_refl _⟩, hx, by omega, by omega⟩
    have hs2 : w2.heap.size = w.heap.size + 1 + 1 := by rw [hw2, World.size_alloc, hs1]
    have HM2 := Lib.hid hm2
    have HW2 : Hid (w2 = (w.alloc (.cells zcells13 25)).alloc (.cells #[.slice A m.length c, .int .i64 0] 64)) := by rw [← hw1]; exact hw2
    have HS2 := Lib.hid hs2
    have HBL := Lib.hid hBl
    clear hm2 hw2 hs2 hx hBl hw1 ht1 hb1 hs1 hz1 hB0 hv
    go_enter Try.func16, Try.ntmps16
    go_wp2_with fail
    rw [← HW2.out]
    obtain ⟨r, hr⟩ : ∃ r, r = w.heap.size := ⟨_, rfl⟩
    obtain ⟨p, hp⟩ : ∃ p, p = w.heap.size + 1 := ⟨_, rfl⟩
    have HP : Hid (B < p ∧ p < w2.heap.size ∧ r < w2.heap.size ∧ w.heap.size ≤ r) := ⟨by have := HBL.out; omega, by have := HS2.out; omega, by have := HS2.out; omega, by omega⟩
    rw [← hp, ← hr]
    rw [← hp, ← hr] at HM2
    clear HW2 HS2 HBL hp hr
    refine (xs_num HM2.out.xs).mono ?_
    rintro e w4 ⟨rfl, h4, t4⟩
    have HM4 := Lib.hid (HM2.out.read h4 t4)
    have HP4 : Hid (B < p ∧ p < w4.heap.size ∧ r < w4.heap.size) := ⟨HP.out.1, by have := HP.out.2.1; have := t4.size; omega, by have := HP.out.2.2.1; have := t4.size; omega⟩
    clear h4 t4 HM2 HP
    obtain ⟨lo, hlo⟩ : ∃ lo, lo = sNum (m, 0) := ⟨_, rfl⟩
    obtain ⟨s1, hs1⟩ : ∃ s1, s1 = sNum' (m, 0) := ⟨_, rfl⟩
    rw [← hlo, ← hs1] at HSPEC
    rw [← hs1] at HM4
    rw [← hlo]
    clear hlo hs1
    go_wp2_with fail
    refine (xs_num HM4.out.xs).mono ?_
    rintro e w5 ⟨rfl, h5, t5⟩
    have HM5 := Lib.hid (HM4.out.read h5 t5)
    have HP5 : Hid (B < p ∧ p < w5.heap.size ∧ r < w5.heap.size) := ⟨HP4.out.1, by have := HP4.out.2.1; have := t5.size; omega, by have := HP4.out.2.2; have := t5.size; omega⟩
    clear h5 t5 HM4 HP4
    obtain ⟨hi, hhi⟩ : ∃ hi, hi = sNum s1 := ⟨_, rfl⟩
    obtain ⟨s2, hs2⟩ : ∃ s2, s2 = sNum' s1 := ⟨_, rfl⟩
    rw [← hhi, ← hs2] at HSPEC
    rw [← hs2] at HM5
    rw [← hhi]
    clear hhi hs2
    go_wp2_with fail
    obtain ⟨k, hk⟩ : ∃ k, k = w5.heap.size := ⟨_, rfl⟩
    obtain ⟨w6, hw6⟩ : ∃ w6, w6 = w5.alloc (.cells zcells13 25) := ⟨_, rfl⟩
    have hx6 : Xk13 w p B r k zeroQ s2 w6 := by
      rw [hw6, hk]
      have := HP5.out
      exact ⟨HM5.out.later ((Turn.refl _ w5).alloc _), Box.new w5 _ zcells13, HM5.out.z.turn.size, by omega, by omega, by omega⟩
    have HX6 := Lib.hid hx6
    rw [← hw6, ← hk]
    clear hx6 hw6 hk HM5 HP5
    go_loopw [10] (fun x10 wk => ∃ i : Nat, x10 = .int .i64 (i : Int) ∧ i ≤ N ∧ Xk13 w p B r k (dimsR13 s2 i).1 (dimsR13 s2 i).2 wk) (fun x10 _ => N - (intOf x10).toNat)
    case atStart => exact ⟨0, rfl, Nat.zero_le _, HX6.out⟩
    case round =>
      clear HX6
      obtain ⟨i, rfl, hii, hm⟩ := hrel
      have HM := Lib.hid hm
      clear hm
      by_cases hlt : i < N
      · have h4 : i < 4 := by omega
        have hil : (i : Int) < N := by omega
        have hi4 : (i : Int) < 4 := by omega
        have HST : Hid (dimsR13 s2 (i + 1) = dimR13 (dimsR13 s2 i).1 i (dimsR13 s2 i).2) := rfl
        obtain ⟨q, hq⟩ : ∃ q, q = (dimsR13 s2 i).1 := ⟨_, rfl⟩
        obtain ⟨t, ht⟩ : ∃ t, t = (dimsR13 s2 i).2 := ⟨_, rfl⟩
        rw [← hq, ← ht] at HM HST
        clear hq ht HSPEC
        go_wp2_with fail
        refine (xs_flag HM.out.x.xs).mono ?_
        rintro e w5 ⟨rfl, h5, t5⟩
        have hm5 := HM.out.read h5 t5
        have e1 := (hm5.q.cell (2 + i)).trans (q_group13 q h4)
        have f1 := hm5.q.free (2 + i)
        have HM6 := Lib.hid (hm5.set (2 + i) (.bool (sFlag t)) (put_group13 q (sFlag t) h4))
        clear h5 t5 hm5 HM
        generalize q.g.nth i = Y at *
        go_wp2_with fail
        obtain ⟨w6, hw6⟩ : ∃ w6, w6 = w5.setCell ⟨k, 2 + i, none⟩ (.bool (sFlag t)) := ⟨_, rfl⟩
        rw [← hw6]
        rw [← hw6] at HM6
        clear hw6 e1 f1
        refine (xs_flag HM6.out.x.xs).mono ?_
        rintro e w7 ⟨rfl, h7, t7⟩
        have hm7 := HM6.out.read h7 t7
        have e2 := (hm7.q.cell (6 + i)).trans (q_has13 _ h4)
        have f2 := hm7.q.free (6 + i)
        have HM8 := Lib.hid (hm7.set (6 + i) (.bool (sFlag (sFlag' t))) (put_has13 _ (sFlag (sFlag' t)) h4))
        clear h7 t7 hm7 HM6
        dsimp only at e2 HM8
        generalize q.h.nth i = Z at *
        unfold dimR13 at HST
        cases hH : sFlag (sFlag' t) with
        | false =>
          rw [hH] at HM8 HST
          rw [if_neg (by simp)] at HST
          have HM9 : Hid (Xk13 w p B r k (dimsR13 s2 (i + 1)).1 (dimsR13 s2 (i + 1)).2 (w7.setCell ⟨k, 6 + i, none⟩ (.bool false))) := by rw [HST.out]; exact HM8.out
          clear HM8 HST hH
          go_wp2_with fail
          go_roundw
          case rel => exact ⟨i + 1, by go_num, hlt, HM9.out⟩
          case measure => simp [intOf]; omega
        | true =>
          rw [hH] at HM8 HST
          rw [if_pos rfl] at HST
          clear hH
          go_wp2_with fail
          obtain ⟨w8, hw8⟩ : ∃ w8, w8 = w7.setCell ⟨k, 6 + i, none⟩ (.bool true) := ⟨_, rfl⟩
          rw [← hw8]
          rw [← hw8] at HM8
          clear hw8 e2 f2
          refine (xs_text HM8.out.x.xs).mono ?_
          rintro e w9 ⟨rfl, h9, t9⟩
          have hm9 := HM8.out.read h9 t9
          have e3 := (hm9.q.cell (10 + i)).trans (q_text13 _ h4)
          have f3 := hm9.q.free (10 + i)
          have HMA := Lib.hid (hm9.set (10 + i) (sv9 (sText (sFlag' (sFlag' t)))) (put_text13 _ (sText (sFlag' (sFlag' t))) h4))
          clear h9 t9 hm9 HM8
          dsimp only at e3 HMA
          unfold sv9 at e3
          generalize q.f.nth i = X at *
          have HMB : Hid (Xk13 w p B r k (dimsR13 s2 (i + 1)).1 (dimsR13 s2 (i + 1)).2 (w9.setCell ⟨k, 10 + i, none⟩ (sv9 (sText (sFlag' (sFlag' t)))))) := by rw [HST.out]; exact HMA.out
          clear HMA HST
          go_wp2_with fail
          go_roundw
          case rel => exact ⟨i + 1, by go_num, hlt, HMB.out⟩
          case measure => simp [intOf]; omega
      · obtain rfl : i = N := by omega
        obtain ⟨q, hq⟩ : ∃ q, q = (dimsR13 s2 i).1 := ⟨_, rfl⟩
        obtain ⟨s, hs⟩ : ∃ s, s = (dimsR13 s2 i).2 := ⟨_, rfl⟩
        rw [← hq, ← hs] at HM HSPEC
        clear hq hs
        obtain ⟨sl, sf⟩ := s
        dsimp only at *
        have e6 : wr.cell? ⟨p, 1, none⟩ = some (.int .i64 (sf : Int)) := HM.out.x.xs.fault
        obtain ⟨AL, cL, e7⟩ := HM.out.x.xs.left
        dsimp only at e7
        by_cases hf : sf = 0
        · subst hf
          rw [if_neg (by simp)] at HSPEC
          by_cases hlen : 0 < sl.length
          · rw [if_pos hlen] at HSPEC
            have hli : (0 : Int) < sl.length := by omega
            have HZ8 := Lib.hid HM.out.x.z
            clear hlen HM
            have d0 : wr.cell? ⟨r, 0, none⟩ = some (.int .i64 0) := HZ8.out.res.cell 0
            have d1 : wr.cell? ⟨r, 1, none⟩ = some (.int .i64 0) := HZ8.out.res.cell 1
            have d2 : wr.cell? ⟨r, 2, none⟩ = some (.bool false) := HZ8.out.res.cell 2
            have d3 : wr.cell? ⟨r, 3, none⟩ = some (.bool false) := HZ8.out.res.cell 3
            have d4 : wr.cell? ⟨r, 4, none⟩ = some (.bool false) := HZ8.out.res.cell 4
            have d5 : wr.cell? ⟨r, 5, none⟩ = some (.bool false) := HZ8.out.res.cell 5
            have d6 : wr.cell? ⟨r, 6, none⟩ = some (.bool false) := HZ8.out.res.cell 6
            have d7 : wr.cell? ⟨r, 7, none⟩ = some (.bool false) := HZ8.out.res.cell 7
            have d8 : wr.cell? ⟨r, 8, none⟩ = some (.bool false) := HZ8.out.res.cell 8
            have d9 : wr.cell? ⟨r, 9, none⟩ = some (.bool false) := HZ8.out.res.cell 9
            have d10 : wr.cell? ⟨r, 10, none⟩ = some (.string ⟨#[]⟩) := HZ8.out.res.cell 10
            have d11 : wr.cell? ⟨r, 11, none⟩ = some (.string ⟨#[]⟩) := HZ8.out.res.cell 11
            have d12 : wr.cell? ⟨r, 12, none⟩ = some (.string ⟨#[]⟩) := HZ8.out.res.cell 12
            have d13 : wr.cell? ⟨r, 13, none⟩ = some (.string ⟨#[]⟩) := HZ8.out.res.cell 13
            have z0 : wr.frozen? ⟨r, 0, none⟩ = false := HZ8.out.res.free 0
            have z1 : wr.frozen? ⟨r, 1, none⟩ = false := HZ8.out.res.free 1
            have z2 : wr.frozen? ⟨r, 2, none⟩ = false := HZ8.out.res.free 2
            have z3 : wr.frozen? ⟨r, 3, none⟩ = false := HZ8.out.res.free 3
            have z4 : wr.frozen? ⟨r, 4, none⟩ = false := HZ8.out.res.free 4
            have z5 : wr.frozen? ⟨r, 5, none⟩ = false := HZ8.out.res.free 5
            have z6 : wr.frozen? ⟨r, 6, none⟩ = false := HZ8.out.res.free 6
            have z7 : wr.frozen? ⟨r, 7, none⟩ = false := HZ8.out.res.free 7
            have z8 : wr.frozen? ⟨r, 8, none⟩ = false := HZ8.out.res.free 8
            have z9 : wr.frozen? ⟨r, 9, none⟩ = false := HZ8.out.res.free 9
            have z10 : wr.frozen? ⟨r, 10, none⟩ = false := HZ8.out.res.free 10
            have z11 : wr.frozen? ⟨r, 11, none⟩ = false := HZ8.out.res.free 11
            have z12 : wr.frozen? ⟨r, 12, none⟩ = false := HZ8.out.res.free 12
            have z13 : wr.frozen? ⟨r, 13, none⟩ = false := HZ8.out.res.free 13
            have HOUT := Lib.hid (HZ8.out.out zeroQ)
            clear HZ8
            go_wp2
            refine bodyPost_ret (v := .tuple #[.agg zcells13, .int .i64 4]) ?_ rfl ⟨by rw [HSPEC.out]; rfl, HOUT.out⟩
            rw [results_cell_tmp rfl]
            go_simp
          · rw [if_neg hlen] at HSPEC
            have hl0 : sl.length = 0 := by omega
            rw [hl0] at e7
            clear hlen hl0
            by_cases hbig : 4611686018427387904 < max lo hi
            · rw [if_pos hbig] at HSPEC
              have HZ8 := Lib.hid HM.out.x.z
              clear HM
              by_cases hb1 : 4611686018427387904 < lo
              · have hbi : (4611686018427387904 : Int) < (lo : Int) := by omega
                clear hbig hb1
                have d0 : wr.cell? ⟨r, 0, none⟩ = some (.int .i64 0) := HZ8.out.res.cell 0
                have d1 : wr.cell? ⟨r, 1, none⟩ = some (.int .i64 0) := HZ8.out.res.cell 1
                have d2 : wr.cell? ⟨r, 2, none⟩ = some (.bool false) := HZ8.out.res.cell 2
                have d3 : wr.cell? ⟨r, 3, none⟩ = some (.bool false) := HZ8.out.res.cell 3
                have d4 : wr.cell? ⟨r, 4, none⟩ = some (.bool false) := HZ8.out.res.cell 4
                have d5 : wr.cell? ⟨r, 5, none⟩ = some (.bool false) := HZ8.out.res.cell 5
                have d6 : wr.cell? ⟨r, 6, none⟩ = some (.bool false) := HZ8.out.res.cell 6
                have d7 : wr.cell? ⟨r, 7, none⟩ = some (.bool false) := HZ8.out.res.cell 7
                have d8 : wr.cell? ⟨r, 8, none⟩ = some (.bool false) := HZ8.out.res.cell 8
                have d9 : wr.cell? ⟨r, 9, none⟩ = some (.bool false) := HZ8.out.res.cell 9
                have d10 : wr.cell? ⟨r, 10, none⟩ = some (.string ⟨#[]⟩) := HZ8.out.res.cell 10
                have d11 : wr.cell? ⟨r, 11, none⟩ = some (.string ⟨#[]⟩) := HZ8.out.res.cell 11
                have d12 : wr.cell? ⟨r, 12, none⟩ = some (.string ⟨#[]⟩) := HZ8.out.res.cell 12
                have d13 : wr.cell? ⟨r, 13, none⟩ = some (.string ⟨#[]⟩) := HZ8.out.res.cell 13
                have z0 : wr.frozen? ⟨r, 0, none⟩ = false := HZ8.out.res.free 0
                have z1 : wr.frozen? ⟨r, 1, none⟩ = false := HZ8.out.res.free 1
                have z2 : wr.frozen? ⟨r, 2, none⟩ = false := HZ8.out.res.free 2
                have z3 : wr.frozen? ⟨r, 3, none⟩ = false := HZ8.out.res.free 3
                have z4 : wr.frozen? ⟨r, 4, none⟩ = false := HZ8.out.res.free 4
                have z5 : wr.frozen? ⟨r, 5, none⟩ = false := HZ8.out.res.free 5
                have z6 : wr.frozen? ⟨r, 6, none⟩ = false := HZ8.out.res.free 6
                have z7 : wr.frozen? ⟨r, 7, none⟩ = false := HZ8.out.res.free 7
                have z8 : wr.frozen? ⟨r, 8, none⟩ = false := HZ8.out.res.free 8
                have z9 : wr.frozen? ⟨r, 9, none⟩ = false := HZ8.out.res.free 9
                have z10 : wr.frozen? ⟨r, 10, none⟩ = false := HZ8.out.res.free 10
                have z11 : wr.frozen? ⟨r, 11, none⟩ = false := HZ8.out.res.free 11
                have z12 : wr.frozen? ⟨r, 12, none⟩ = false := HZ8.out.res.free 12
                have z13 : wr.frozen? ⟨r, 13, none⟩ = false := HZ8.out.res.free 13
                have HOUT := Lib.hid (HZ8.out.out zeroQ)
                clear HZ8
                go_wp2
                refine bodyPost_ret (v := .tuple #[.agg zcells13, .int .i64 2]) ?_ rfl ⟨by rw [HSPEC.out]; rfl, HOUT.out⟩
                rw [results_cell_tmp rfl]
                go_simp
              · have hbi : ¬ ((4611686018427387904 : Int) < (lo : Int)) := by omega
                have hbi2 : (4611686018427387904 : Int) < (hi : Int) := by omega
                clear hbig hb1
                have d0 : wr.cell? ⟨r, 0, none⟩ = some (.int .i64 0) := HZ8.out.res.cell 0
                have d1 : wr.cell? ⟨r, 1, none⟩ = some (.int .i64 0) := HZ8.out.res.cell 1
                have d2 : wr.cell? ⟨r, 2, none⟩ = some (.bool false) := HZ8.out.res.cell 2
                have d3 : wr.cell? ⟨r, 3, none⟩ = some (.bool false) := HZ8.out.res.cell 3
                have d4 : wr.cell? ⟨r, 4, none⟩ = some (.bool false) := HZ8.out.res.cell 4
                have d5 : wr.cell? ⟨r, 5, none⟩ = some (.bool false) := HZ8.out.res.cell 5
                have d6 : wr.cell? ⟨r, 6, none⟩ = some (.bool false) := HZ8.out.res.cell 6
                have d7 : wr.cell? ⟨r, 7, none⟩ = some (.bool false) := HZ8.out.res.cell 7
                have d8 : wr.cell? ⟨r, 8, none⟩ = some (.bool false) := HZ8.out.res.cell 8
                have d9 : wr.cell? ⟨r, 9, none⟩ = some (.bool false) := HZ8.out.res.cell 9
                have d10 : wr.cell? ⟨r, 10, none⟩ = some (.string ⟨#[]⟩) := HZ8.out.res.cell 10
                have d11 : wr.cell? ⟨r, 11, none⟩ = some (.string ⟨#[]⟩) := HZ8.out.res.cell 11
                have d12 : wr.cell? ⟨r, 12, none⟩ = some (.string ⟨#[]⟩) := HZ8.out.res.cell 12
                have d13 : wr.cell? ⟨r, 13, none⟩ = some (.string ⟨#[]⟩) := HZ8.out.res.cell 13
                have z0 : wr.frozen? ⟨r, 0, none⟩ = false := HZ8.out.res.free 0
                have z1 : wr.frozen? ⟨r, 1, none⟩ = false := HZ8.out.res.free 1
                have z2 : wr.frozen? ⟨r, 2, none⟩ = false := HZ8.out.res.free 2
                have z3 : wr.frozen? ⟨r, 3, none⟩ = false := HZ8.out.res.free 3
                have z4 : wr.frozen? ⟨r, 4, none⟩ = false := HZ8.out.res.free 4
                have z5 : wr.frozen? ⟨r, 5, none⟩ = false := HZ8.out.res.free 5
                have z6 : wr.frozen? ⟨r, 6, none⟩ = false := HZ8.out.res.free 6
                have z7 : wr.frozen? ⟨r, 7, none⟩ = false := HZ8.out.res.free 7
                have z8 : wr.frozen? ⟨r, 8, none⟩ = false := HZ8.out.res.free 8
                have z9 : wr.frozen? ⟨r, 9, none⟩ = false := HZ8.out.res.free 9
                have z10 : wr.frozen? ⟨r, 10, none⟩ = false := HZ8.out.res.free 10
                have z11 : wr.frozen? ⟨r, 11, none⟩ = false := HZ8.out.res.free 11
                have z12 : wr.frozen? ⟨r, 12, none⟩ = false := HZ8.out.res.free 12
                have z13 : wr.frozen? ⟨r, 13, none⟩ = false := HZ8.out.res.free 13
                have HOUT := Lib.hid (HZ8.out.out zeroQ)
                clear HZ8
                go_wp2
                refine bodyPost_ret (v := .tuple #[.agg zcells13, .int .i64 2]) ?_ rfl ⟨by rw [HSPEC.out]; rfl, HOUT.out⟩
                rw [results_cell_tmp rfl]
                go_simp
            · rw [if_neg hbig] at HSPEC
              have hbi : ¬ ((4611686018427387904 : Int) < (lo : Int)) := by omega
              have hbi2 : ¬ ((4611686018427387904 : Int) < (hi : Int)) := by omega
              have hw1 : IntKind.i64.wrap (lo : Int) = (lo : Int) := IntWalk.i64_in _ (by omega)
              have hw2 : IntKind.i64.wrap (hi : Int) = (hi : Int) := IntWalk.i64_in _ (by omega)
              obtain ⟨b0, b1, b2, b3, b4, b5, b6, b7, b8, b9, b10, b11, b12, b13⟩ := box_query13 HM.out.q
              have f0 : wr.frozen? ⟨k, 0, none⟩ = false := HM.out.q.free 0
              have f1 : wr.frozen? ⟨k, 1, none⟩ = false := HM.out.q.free 1
              have HK9 := Lib.hid ((HM.out.set 0 (.int .i64 (lo : Int)) (q2 := { q with lo := (lo : Int) }) rfl).set 1 (.int .i64 (hi : Int)) (q2 := withH q (lo : Int) (hi : Int)) rfl)
              clear hbig HM
              obtain ⟨q2, hq2⟩ : ∃ q2, q2 = withH q (lo : Int) (hi : Int) := ⟨_, rfl⟩
              have HCK : Hid (∀ W, Calls Try.prog 7 #[.agg #[.int .i64 (lo : Int), .int .i64 (hi : Int), .bool q.g.a, .bool q.g.b, .bool q.g.c, .bool q.g.d, .bool q.h.a, .bool q.h.b, .bool q.h.c, .bool q.h.d, sv9 q.f.a, sv9 q.f.b, sv9 q.f.c, sv9 q.f.d], .int .i64 (i : Int)] W fun e w' => e = .returned (.int .i64 (chkQ q2 (i : Int))) ∧ Turn (fun _ => False) W w') := fun W => by
                rw [hq2]
                exact ref_check13 (withH q (lo : Int) (hi : Int)) (i : Int) W
              rw [← hq2] at HSPEC HK9
              clear hq2
              go_wp2_with fail
              refine (HCK.out _).mono ?_
              rintro e wA ⟨rfl, tA⟩
              have HKA := Lib.hid (HK9.out.later tA)
              clear tA HK9 HCK b0 b1 b2 b3 b4 b5 b6 b7 b8 b9 b10 b11 b12 b13 f0 f1 hw1 hw2 hbi hbi2 e6 e7
              by_cases hc : chkQ q2 (i : Int) = 0
              · have HE : Hid (readQ m (i : Int) = (0, q2)) := HSPEC.out.trans (if_pos hc)
                rw [hc]
                have HZA := Lib.hid HKA.out.x.z
                obtain ⟨b0, b1, b2, b3, b4, b5, b6, b7, b8, b9, b10, b11, b12, b13⟩ := box_query13 HKA.out.q
                clear hc HSPEC HKA
                have d0 : wA.cell? ⟨r, 0, none⟩ = some (.int .i64 0) := HZA.out.res.cell 0
                have d1 : wA.cell? ⟨r, 1, none⟩ = some (.int .i64 0) := HZA.out.res.cell 1
                have d2 : wA.cell? ⟨r, 2, none⟩ = some (.bool false) := HZA.out.res.cell 2
                have d3 : wA.cell? ⟨r, 3, none⟩ = some (.bool false) := HZA.out.res.cell 3
                have d4 : wA.cell? ⟨r, 4, none⟩ = some (.bool false) := HZA.out.res.cell 4
                have d5 : wA.cell? ⟨r, 5, none⟩ = some (.bool false) := HZA.out.res.cell 5
                have d6 : wA.cell? ⟨r, 6, none⟩ = some (.bool false) := HZA.out.res.cell 6
                have d7 : wA.cell? ⟨r, 7, none⟩ = some (.bool false) := HZA.out.res.cell 7
                have d8 : wA.cell? ⟨r, 8, none⟩ = some (.bool false) := HZA.out.res.cell 8
                have d9 : wA.cell? ⟨r, 9, none⟩ = some (.bool false) := HZA.out.res.cell 9
                have d10 : wA.cell? ⟨r, 10, none⟩ = some (.string ⟨#[]⟩) := HZA.out.res.cell 10
                have d11 : wA.cell? ⟨r, 11, none⟩ = some (.string ⟨#[]⟩) := HZA.out.res.cell 11
                have d12 : wA.cell? ⟨r, 12, none⟩ = some (.string ⟨#[]⟩) := HZA.out.res.cell 12
                have d13 : wA.cell? ⟨r, 13, none⟩ = some (.string ⟨#[]⟩) := HZA.out.res.cell 13
                have z0 : wA.frozen? ⟨r, 0, none⟩ = false := HZA.out.res.free 0
                have z1 : wA.frozen? ⟨r, 1, none⟩ = false := HZA.out.res.free 1
                have z2 : wA.frozen? ⟨r, 2, none⟩ = false := HZA.out.res.free 2
                have z3 : wA.frozen? ⟨r, 3, none⟩ = false := HZA.out.res.free 3
                have z4 : wA.frozen? ⟨r, 4, none⟩ = false := HZA.out.res.free 4
                have z5 : wA.frozen? ⟨r, 5, none⟩ = false := HZA.out.res.free 5
                have z6 : wA.frozen? ⟨r, 6, none⟩ = false := HZA.out.res.free 6
                have z7 : wA.frozen? ⟨r, 7, none⟩ = false := HZA.out.res.free 7
                have z8 : wA.frozen? ⟨r, 8, none⟩ = false := HZA.out.res.free 8
                have z9 : wA.frozen? ⟨r, 9, none⟩ = false := HZA.out.res.free 9
                have z10 : wA.frozen? ⟨r, 10, none⟩ = false := HZA.out.res.free 10
                have z11 : wA.frozen? ⟨r, 11, none⟩ = false := HZA.out.res.free 11
                have z12 : wA.frozen? ⟨r, 12, none⟩ = false := HZA.out.res.free 12
                have z13 : wA.frozen? ⟨r, 13, none⟩ = false := HZA.out.res.free 13
                have HOUT := Lib.hid (HZA.out.out q2)
                clear HZA
                go_wp2
                refine bodyPost_ret (v := .tuple #[.agg (cells13 q2), .int .i64 0]) ?_ rfl ⟨by rw [HE.out], HOUT.out⟩
                rw [results_cell_tmp rfl]
                go_simp
              · have HE : Hid (readQ m (i : Int) = (chkQ q2 (i : Int), zeroQ)) := HSPEC.out.trans (if_neg hc)
                have hne : ((chkQ q2 (i : Int)) != 0) = true := by simp [bne, hc]
                have HZA := Lib.hid HKA.out.x.z
                clear hc HSPEC HKA
                generalize chkQ q2 (i : Int) = cf at *
                have d0 : wA.cell? ⟨r, 0, none⟩ = some (.int .i64 0) := HZA.out.res.cell 0
                have d1 : wA.cell? ⟨r, 1, none⟩ = some (.int .i64 0) := HZA.out.res.cell 1
                have d2 : wA.cell? ⟨r, 2, none⟩ = some (.bool false) := HZA.out.res.cell 2
                have d3 : wA.cell? ⟨r, 3, none⟩ = some (.bool false) := HZA.out.res.cell 3
                have d4 : wA.cell? ⟨r, 4, none⟩ = some (.bool false) := HZA.out.res.cell 4
                have d5 : wA.cell? ⟨r, 5, none⟩ = some (.bool false) := HZA.out.res.cell 5
                have d6 : wA.cell? ⟨r, 6, none⟩ = some (.bool false) := HZA.out.res.cell 6
                have d7 : wA.cell? ⟨r, 7, none⟩ = some (.bool false) := HZA.out.res.cell 7
                have d8 : wA.cell? ⟨r, 8, none⟩ = some (.bool false) := HZA.out.res.cell 8
                have d9 : wA.cell? ⟨r, 9, none⟩ = some (.bool false) := HZA.out.res.cell 9
                have d10 : wA.cell? ⟨r, 10, none⟩ = some (.string ⟨#[]⟩) := HZA.out.res.cell 10
                have d11 : wA.cell? ⟨r, 11, none⟩ = some (.string ⟨#[]⟩) := HZA.out.res.cell 11
                have d12 : wA.cell? ⟨r, 12, none⟩ = some (.string ⟨#[]⟩) := HZA.out.res.cell 12
                have d13 : wA.cell? ⟨r, 13, none⟩ = some (.string ⟨#[]⟩) := HZA.out.res.cell 13
                have z0 : wA.frozen? ⟨r, 0, none⟩ = false := HZA.out.res.free 0
                have z1 : wA.frozen? ⟨r, 1, none⟩ = false := HZA.out.res.free 1
                have z2 : wA.frozen? ⟨r, 2, none⟩ = false := HZA.out.res.free 2
                have z3 : wA.frozen? ⟨r, 3, none⟩ = false := HZA.out.res.free 3
                have z4 : wA.frozen? ⟨r, 4, none⟩ = false := HZA.out.res.free 4
                have z5 : wA.frozen? ⟨r, 5, none⟩ = false := HZA.out.res.free 5
                have z6 : wA.frozen? ⟨r, 6, none⟩ = false := HZA.out.res.free 6
                have z7 : wA.frozen? ⟨r, 7, none⟩ = false := HZA.out.res.free 7
                have z8 : wA.frozen? ⟨r, 8, none⟩ = false := HZA.out.res.free 8
                have z9 : wA.frozen? ⟨r, 9, none⟩ = false := HZA.out.res.free 9
                have z10 : wA.frozen? ⟨r, 10, none⟩ = false := HZA.out.res.free 10
                have z11 : wA.frozen? ⟨r, 11, none⟩ = false := HZA.out.res.free 11
                have z12 : wA.frozen? ⟨r, 12, none⟩ = false := HZA.out.res.free 12
                have z13 : wA.frozen? ⟨r, 13, none⟩ = false := HZA.out.res.free 13
                have HOUT := Lib.hid (HZA.out.out zeroQ)
                clear HZA
                go_wp2
                refine bodyPost_ret (v := .tuple #[.agg zcells13, .int .i64 cf]) ?_ rfl ⟨by rw [HE.out]; rfl, HOUT.out⟩
                rw [results_cell_tmp rfl]
                go_simp
        · rw [if_pos hf] at HSPEC
          have hne : ((sf : Int) == 0) = false := by rw [beq_eq_false_iff_ne]; omega
          have HZ := Lib.hid (Rz13.mk (HM.out.x.z.res.turn (Turn.refl (fun _ => False) wr).drew (fun f => f)) HM.out.x.z.turn.drew HM.out.x.z.nr)
          have HSI : Hid ((Try.prog.info? 25).map (·.size) = some 14) := by show _ = _; kernel_rfl
          have HON := Lib.hid (one_cells13 zeroQ)
          have hrp : r ≠ p := HM.out.x.rp
          clear hf HM e7
          go_wp2_with fail
          have hS0 : (World.drew wr).cell? ⟨p, 1, none⟩ = some (.int .i64 (sf : Int)) ∧ True := ⟨e6, trivial⟩
          refine drawn_region (fun W => W.cell? ⟨p, 1, none⟩ = some (.int .i64 (sf : Int)) ∧ True) [] (by kernel_rfl) ?_
          generalize World.drew wr = wd at *
          refine drawn_take 0 55 (.agg zcells13) rfl rfl (by kernel_rfl) (by kernel_rfl) (by kernel_rfl) (by kernel_rfl) (fun _ _ _ h => h) (by rfl) (by assumption) (by intro w hSw; obtain ⟨b0, -⟩ := hSw; go_simp) ?_
          try simp only [List.setIfInBounds_toArray, List.set_cons_zero, List.set_cons_succ]
          refine drawn_take 1 56 (.pointer (some ⟨p, 0, none⟩)) rfl rfl (by kernel_rfl) (by kernel_rfl) (by kernel_rfl) (by kernel_rfl) (fun _ _ _ h => h) (by rfl) (by assumption) (by intro w hSw; obtain ⟨b0, -⟩ := hSw; go_simp) ?_
          try simp only [List.setIfInBounds_toArray, List.set_cons_zero, List.set_cons_succ]
          refine drawn_take 2 57 (.pointer (some ⟨p, 0, none⟩)) rfl rfl (by kernel_rfl) (by kernel_rfl) (by kernel_rfl) (by kernel_rfl) (fun _ _ _ h => h) (by rfl) (by assumption) (by intro w hSw; obtain ⟨b0, -⟩ := hSw; go_simp) ?_
          try simp only [List.setIfInBounds_toArray, List.set_cons_zero, List.set_cons_succ]
          refine drawn_take 3 58 (.pointer (some ⟨p, 1, none⟩)) rfl rfl (by kernel_rfl) (by kernel_rfl) (by kernel_rfl) (by kernel_rfl) (fun _ _ _ h => h) (by rfl) (by assumption) (by intro w hSw; obtain ⟨b0, -⟩ := hSw; go_simp) ?_
          try simp only [List.setIfInBounds_toArray, List.set_cons_zero, List.set_cons_succ]
          refine drawn_take 4 59 (.int .i64 (sf : Int)) rfl rfl (by kernel_rfl) (by kernel_rfl) (by kernel_rfl) (by kernel_rfl) (fun _ _ _ h => h) (by rfl) (by assumption) (by intro w hSw; obtain ⟨b0, -⟩ := hSw; go_simp) ?_
          try simp only [List.setIfInBounds_toArray, List.set_cons_zero, List.set_cons_succ]
          obtain ⟨w9, hw9⟩ : ∃ w9, w9 = wd.setCells r 0 (cells13 zeroQ).toList := ⟨_, rfl⟩
          have HT9 : Hid (Turn (fun _ => False) w w9) := by rw [hw9]; exact HZ.out.out zeroQ
          have HB9 : Hid (Box w9 r 25 (cells13 zeroQ)) := by rw [hw9]; exact HZ.out.res.all _ rfl
          have hS9 : w9.cell? ⟨p, 1, none⟩ = some (.int .i64 (sf : Int)) ∧ True := by
            have ht : Turn (fun g => g = r) wd w9 := by rw [hw9]; exact turn_setCells (S := fun g => g = r) rfl _ _ _
            have hlt : p < wd.heap.size := by
              rcases Nat.lt_or_ge p wd.heap.size with h | h
              · exact h
              · have e := hS0.1
                unfold World.cell? at e
                rw [Array.getElem?_eq_none h] at e
                cases e
            exact ⟨(ht.cell (p := ⟨p, 1, none⟩) hlt (fun e => hrp e.symm)).trans hS0.1, trivial⟩
          have HTH : Hid (wd.there r 0 14) := HZ.out.res.there (Nat.le_refl 14)
          have HW9 := Lib.hid hw9
          clear hw9 HZ
          refine drawn_any [5] (by kernel_rfl) (by simp) ?_
          refine drawn_cons rfl (fun K2 hK => ?_) drawn_nil
          refine put_box r 0 (cells13 zeroQ) HTH.out rfl rfl HSI.out HON.out ?_
          rw [← HW9.out]
          refine hK.out _ _ _ hS9 ?_
          clear hK K2 hS0
          try simp only [List.setIfInBounds_toArray, List.set_cons_zero, List.set_cons_succ]
          refine drawn_last1 6 5 (.int .i64 (sf : Int)) rfl rfl (by kernel_rfl) (by kernel_rfl) (by rfl) (by intro w; go_simp) hS9 ?_
          try simp only [List.setIfInBounds_toArray, List.set_cons_zero, List.set_cons_succ]
          go_wp2
          refine bodyPost_ret (v := .tuple #[.agg zcells13, .int .i64 (sf : Int)]) ?_ rfl ⟨by rw [HSPEC.out]; rfl, HT9.out⟩
          rw [results_cell_tmp rfl]
          obtain ⟨b0, b1, b2, b3, b4, b5, b6, b7, b8, b9, b10, b11, b12, b13⟩ := box_query13 HB9.out
          go_simp
          try exact ⟨rfl, rfl, rfl, rfl, rfl, rfl, rfl, rfl, rfl, rfl, rfl, rfl, rfl, rfl⟩
  · have HE : Hid (readQ m n = (1, zeroQ)) := by
      show _ = _
      unfold readQ
      rw [okDims_no hn, if_neg (by simp)]
    clear hw1 ht1 hb1 hs1 hz1 hB0 hv
    by_cases n1 : n < 1
    · clear hn
      go_enter Try.func16, Try.ntmps16
      go_wp2_with fail
      refine bodyPost_ret (v := .tuple #[.agg zcells13, .int .i64 1]) ?_ rfl ⟨by rw [HE.out]; rfl, (Turn.refl _ w).alloc _⟩
      rw [results_cell_tmp rfl]
      go_simp
    · have n2 : 4 < n := by omega
      clear hn
      go_enter Try.func16, Try.ntmps16
      go_wp2_with fail
      refine bodyPost_ret (v := .tuple #[.agg zcells13, .int .i64 1]) ?_ rfl ⟨by rw [HE.out]; rfl, (Turn.refl _ w).alloc _⟩
      rw [results_cell_tmp rfl]
      go_simp

end Go.Proofs.Ytieffpngknglpaa

/-
  Stage 13: the document's Encode.
-/
namespace Go.Proofs.Ytieffpngknglpaa
open Go.RowKit

set_option maxRecDepth 100000

/-- append onto bytes of one's own, in a region that draws. -/
theorem put_bytes13 {w : World} {ops : Array Oper} {d : Option Nat} {ty : TypeId} {pos : String} {af : Array Edge} {s x : Operand} {a : Act} {K : Act → World → Prop} {Q : Exit → Act → World → Prop} {F : Prop} (l : List UInt8) (hown : By w (a.eval s) l)
    (m : List UInt8) (hy : By w (a.eval x) m) (hl : l.length + m.length ≤ 1000000000)
    (h : ∀ A n c w', By w' (.slice A n c) (l ++ m) → w.grownBy w' (a.eval s).ownBlock → ((Value.slice A n c).ownBlock = (a.eval s).ownBlock ∨ (Value.slice A n c).ownBlock = some w.heap.size) → K (a.put d (.slice A n c)) w') :
    if Region.wanted { dst := d, op := .call { callee := .builtin .append, args := #[s, x], argTypes := #[34, 34] }, type := ty, pos := pos, after := af, guard := none } (yielded ops a.tmps) = true then Oper.wp Try.prog { dst := d, op := .call { callee := .builtin .append, args := #[s, x], argTypes := #[34, 34] }, type := ty, pos := pos, after := af, guard := none } a w K Q else F := by
  rw [if_pos (by rfl)]
  obtain ⟨i, hi, hz, h1, h2⟩ := info_parts u8_info
  have hown2 := hown
  have hy2 := hy.yields
  unfold By at hown2
  unfold Yields at hy2
  rw [← h1] at hown2 hy2
  obtain ⟨A, n, c, w', hr, g1, g2, g3⟩ := run_app (P := Try.prog) w 34 34 ty 5 i _ Try.underlying34 hi hz (by rw [h1]; rfl) (a.eval s) l.length _ hown2 (a.eval x) m.length _ hy2
    (by simp only [maxLen]; omega) (by rw [h2]; omega)
  unfold Oper.wp execOp
  simp only [resolve, invoke, builtin, Sem.run_bind, Sem.run_pure, Result.andThen_ok, List.map_toArray, List.map_cons, List.map_nil, hr]
  refine h A n c w' ?_ g2 g3
  unfold By
  rw [List.length_append, List.map_append, ← h1]
  exact g1

/-- In the document's Encode: its bytes, and the query. -/
structure Er13 (w : World) (b : Nat) (q : Q13) (v : Value) (acc : List UInt8) (W : World) : Prop where
  made : Made w W v acc
  q : Box W b 25 (cells13 q)
theorem Er13.app {w W W2 W3 : World} {b : Nat} {q : Q13} {A A3 : Option Addr} {n c n3 c3 : Nat} {acc m : List UInt8} (h : Er13 w b q (.slice A n c) acc W) (ht : Turn (fun _ => False) W W2) (hb : By W3 (.slice A3 n3 c3) (acc ++ m))
    (hg : W2.grownBy W3 (Value.slice A n c).ownBlock) (ha : (Value.slice A3 n3 c3).ownBlock = (Value.slice A n c).ownBlock ∨ (Value.slice A3 n3 c3).ownBlock = some W2.heap.size) : Er13 w b q (.slice A3 n3 c3) (acc ++ m) W3 :=
  ⟨made_more9 h.made ht hb hg ha, (h.q.turn ht (fun f => f)).grown hg (fun e => h.made.1.ne_box h.q (by decide) e.symm)⟩

set_option maxHeartbeats 16000000 in
theorem ref_encode13 (q : Q13) (n : Int) (w : World) : Calls Try.prog 14 #[qv13 q, .int .i64 n] w fun e w' => Encd13 w q n e w' := by
  unfold qv13
  obtain ⟨w0, hw0⟩ : ∃ w0, w0 = w.alloc (.cells (cells13 q) 25) := ⟨_, rfl⟩
  have HT0 : Hid (Turn (fun _ => False) w w0) := by rw [hw0]; exact (Turn.refl _ w).alloc _
  have hb0 : Box w0 w.heap.size 25 (cells13 q) := by rw [hw0]; exact Box.new w _ _
  have HB0 := Lib.hid hb0
  obtain ⟨c0, c1, c2, c3, c4, c5, c6, c7, c8, c9, c10, c11, c12, c13⟩ := box_query13 hb0
  rw [hw0] at c0 c1 c2 c3 c4 c5 c6 c7 c8 c9 c10 c11 c12 c13
  have HW := Lib.hid hw0
  have HCK : Hid (∀ W, Calls Try.prog 7 #[.agg (cells13 q), .int .i64 n] W fun e w' => e = .returned (.int .i64 (chkQ q n)) ∧ Turn (fun _ => False) W w') := fun W => ref_check13 q n W
  clear hw0 hb0
  by_cases h0 : chkQ q n = 0
  · obtain ⟨hn, hr, ho⟩ := chkQ_good h0
    obtain ⟨N, rfl⟩ := Int.eq_ofNat_of_zero_le (show 0 ≤ n by omega)
    have HEND : Hid (∀ v w', Made w w' v (encQ q N) → Encd13 w q (N : Int) (.returned (.tuple #[v, .int .i64 0])) w') := fun v w' hm => ⟨v, by rw [h0], by rw [if_pos h0, Int.toNat_natCast]; exact hm⟩
    rw [h0] at HCK
    have hN4 : N ≤ 4 := by omega
    obtain ⟨A, hA⟩ := Int.eq_ofNat_of_zero_le hr.1
    obtain ⟨B, hB⟩ := Int.eq_ofNat_of_zero_le (show 0 ≤ q.hi by omega)
    have hAl : A ≤ 16777217 := by omega
    have hBl : B ≤ 16777217 := by omega
    have hA64 : Hid (A < 18446744073709551616) := by show _ < _; omega
    have hB64 : Hid (B < 18446744073709551616) := by show _ < _; omega
    have hwA : IntKind.u64.wrap q.lo = (A : Int) := by rw [hA, IntKind.wrap_u64]; omega
    have hwB : IntKind.u64.wrap q.hi = (B : Int) := by rw [hB, IntKind.wrap_u64]; omega
    have HHEAD : Hid (enc A ++ enc B = encQ q 0) := by
      show _ = _
      unfold encQ dimsB13
      rw [hA, hB, Int.toNat_natCast, Int.toNat_natCast, List.append_nil]
    have HLEN := Lib.hid (fun i (hi : i ≤ 4) => encQ_len (q := q) hi (okQ_text ho))
    have HTL := Lib.hid (okQ_text ho)
    clear h0 hn hr ho hA hB
    go_enter Try.func14, Try.ntmps14
    go_wp2_with fail
    rw [← HW.out]
    refine (HCK.out _).mono ?_
    rintro e w1 ⟨rfl, t1⟩
    have HT1 := Lib.hid (HT0.out.trans t1 (fun _ _ f => f))
    have HB1 := Lib.hid (HB0.out.turn t1 (fun f => f))
    clear t1 c0 c1 c2 c3 c4 c5 c6 c7 c8 c9 c10 c11 c12 c13
    go_wp2_with fail
    obtain ⟨b, hbb⟩ : ∃ b, b = w.heap.size := ⟨_, rfl⟩
    rw [← hbb]
    rw [← hbb] at HB1
    have HTD := Lib.hid HT1.out.drew
    have HBD : Hid (Box (World.drew w1) b 25 (cells13 q)) := HB1.out.turn (Turn.refl (fun _ => False) w1).drew (fun f => f)
    clear hbb HB1 HT1 HCK HT0 HB0 HW
    refine drawn_region (fun W => CQ13 W b q ∧ True) [] (by kernel_rfl) ?_
    generalize World.drew w1 = wd at *
    have hS0 : CQ13 wd b q ∧ True := ⟨cq_box13 HBD.out, trivial⟩
    refine drawn_take 0 15 (.pointer (some ⟨b, 0, none⟩)) rfl rfl (by kernel_rfl) (by kernel_rfl) (by kernel_rfl) (by kernel_rfl) (fun _ _ _ h => h) (by rfl) (by assumption) (by intro w hSw; obtain ⟨⟨b0, b1, b2, b3, b4, b5, b6, b7, b8, b9, b10, b11, b12, b13⟩, -⟩ := hSw; go_simp) ?_
    try simp only [List.setIfInBounds_toArray, List.set_cons_zero, List.set_cons_succ]
    refine drawn_take 1 16 (.int .i64 q.lo) rfl rfl (by kernel_rfl) (by kernel_rfl) (by kernel_rfl) (by kernel_rfl) (fun _ _ _ h => h) (by rfl) (by assumption) (by intro w hSw; obtain ⟨⟨b0, b1, b2, b3, b4, b5, b6, b7, b8, b9, b10, b11, b12, b13⟩, -⟩ := hSw; go_simp) ?_
    try simp only [List.setIfInBounds_toArray, List.set_cons_zero, List.set_cons_succ]
    refine drawn_take 2 17 (.int .u64 (A : Int)) rfl rfl (by kernel_rfl) (by kernel_rfl) (by kernel_rfl) (by kernel_rfl) (fun _ _ _ h => h) (by rfl) (by assumption) (by intro w hSw; obtain ⟨⟨b0, b1, b2, b3, b4, b5, b6, b7, b8, b9, b10, b11, b12, b13⟩, -⟩ := hSw; go_simp) ?_
    try simp only [List.setIfInBounds_toArray, List.set_cons_zero, List.set_cons_succ]
    refine drawn_take 4 19 (.pointer (some ⟨b, 1, none⟩)) rfl rfl (by kernel_rfl) (by kernel_rfl) (by kernel_rfl) (by kernel_rfl) (fun _ _ _ h => h) (by rfl) (by assumption) (by intro w hSw; obtain ⟨⟨b0, b1, b2, b3, b4, b5, b6, b7, b8, b9, b10, b11, b12, b13⟩, -⟩ := hSw; go_simp) ?_
    try simp only [List.setIfInBounds_toArray, List.set_cons_zero, List.set_cons_succ]
    refine drawn_take 5 20 (.int .i64 q.hi) rfl rfl (by kernel_rfl) (by kernel_rfl) (by kernel_rfl) (by kernel_rfl) (fun _ _ _ h => h) (by rfl) (by assumption) (by intro w hSw; obtain ⟨⟨b0, b1, b2, b3, b4, b5, b6, b7, b8, b9, b10, b11, b12, b13⟩, -⟩ := hSw; go_simp) ?_
    try simp only [List.setIfInBounds_toArray, List.set_cons_zero, List.set_cons_succ]
    refine drawn_take 6 21 (.int .u64 (B : Int)) rfl rfl (by kernel_rfl) (by kernel_rfl) (by kernel_rfl) (by kernel_rfl) (fun _ _ _ h => h) (by rfl) (by assumption) (by intro w hSw; obtain ⟨⟨b0, b1, b2, b3, b4, b5, b6, b7, b8, b9, b10, b11, b12, b13⟩, -⟩ := hSw; go_simp) ?_
    try simp only [List.setIfInBounds_toArray, List.set_cons_zero, List.set_cons_succ]
    refine drawn_any [3] (by kernel_rfl) (by simp) ?_
    refine drawn_cons rfl (fun K2 hK => ?_) drawn_nil
    go_simp
    refine (ref_num A wd hA64).mono ?_
    rintro e w3 ⟨v3, rfl, hm3⟩
    have HM3 : Hid (Made w w3 v3 (enc A)) := made_behind9 HTD.out hm3
    have HB3 := Lib.hid (HBD.out.turn hm3.2.1 (fun f => f))
    have hS3 : CQ13 w3 b q ∧ True := ⟨cq_box13 HB3.out, trivial⟩
    refine hK.out _ _ _ hS3 ?_
    clear hK K2 HTD HBD hS0 hm3
    try simp only [List.setIfInBounds_toArray, List.set_cons_zero, List.set_cons_succ]
    refine drawn_any [7] (by kernel_rfl) (by simp) ?_
    refine drawn_cons rfl (fun K2 hK => ?_) drawn_nil
    go_simp
    refine (ref_num B w3 hB64).mono ?_
    rintro e w4 ⟨v4, rfl, hm4⟩
    have HB4 := Lib.hid (HB3.out.turn hm4.2.1 (fun f => f))
    have HY4 := Lib.hid hm4.1
    have HT4 := Lib.hid hm4.2.1
    have hS4 : CQ13 w4 b q ∧ True := ⟨cq_box13 HB4.out, trivial⟩
    refine hK.out _ _ _ hS4 ?_
    clear hK K2 HB4 hS3 hm4
    try simp only [List.setIfInBounds_toArray, List.set_cons_zero, List.set_cons_succ]
    obtain ⟨A3, n3, hv3⟩ := HM3.out.1.shape
    subst hv3
    refine drawn_any [8] (by kernel_rfl) (by simp) ?_
    refine drawn_cons rfl (fun K2 hK => ?_) drawn_nil
    have hlA := enc_len A
    have hlB := enc_len B
    refine put_bytes13 (enc A) (HM3.out.1.turn HT4.out (fun _ _ f => f)) (enc B) HY4.out (by omega) ?_
    intro A5 n5 c5 w5 hb5 hg5 ha5
    have her : Er13 w b q (.slice A5 n5 c5) (enc A ++ enc B) w5 := Er13.app ⟨HM3.out, HB3.out⟩ HT4.out hb5 hg5 ha5
    rw [HHEAD.out] at her
    have HER := Lib.hid her
    have hS5 : CQ13 w5 b q ∧ True := ⟨cq_box13 HER.out.q, trivial⟩
    refine hK.out _ _ _ hS5 ?_
    clear hK K2 HB3 HM3 HT4 HY4 hS4 hb5 hg5 ha5 her hlA hlB
    try simp only [List.setIfInBounds_toArray, List.set_cons_zero, List.set_cons_succ]
    refine drawn_last1 9 7 (.slice A5 n5 c5) rfl rfl (by kernel_rfl) (by kernel_rfl) (by rfl) (by intro w; go_simp) hS5 ?_
    try simp only [List.setIfInBounds_toArray, List.set_cons_zero, List.set_cons_succ]
    clear hS5
    go_wp2_with fail
    go_loopw [7, 8] (fun x7 x8 wr => ∃ i : Nat, x8 = .int .i64 (i : Int) ∧ i ≤ N ∧ Er13 w b q x7 (encQ q i) wr) (fun _ x8 _ => N - (intOf x8).toNat)
    case atStart => exact ⟨0, rfl, Nat.zero_le _, HER.out⟩
    case round =>
      clear HER
      obtain ⟨i, rfl, hi, hm⟩ := hrel
      have HM := Lib.hid hm
      obtain ⟨A8, c8, hv8⟩ := hm.made.1.shape
      subst hv8
      have hlen := HLEN.out i (by omega)
      clear hm
      by_cases hlt : i < N
      · have h4 : i < 4 := by omega
        have hil : (i : Int) < N := by omega
        have hi4 : (i : Int) < 4 := by omega
        have HCL : Hid (∀ W, Box W b 25 (cells13 q) → W.cell? ⟨b, 2 + i, none⟩ = some (.bool (q.g.nth i)) ∧ W.cell? ⟨b, 6 + i, none⟩ = some (.bool (q.h.nth i)) ∧ W.cell? ⟨b, 10 + i, none⟩ = some (sv9 (q.f.nth i))) :=
          fun W h => ⟨(h.cell (2 + i)).trans (q_group13 q h4), (h.cell (6 + i)).trans (q_has13 q h4), (h.cell (10 + i)).trans (q_text13 q h4)⟩
        have HST : Hid (encQ q (i + 1) = encQ q i ++ (enc (q.g.nth i).toNat ++ enc (q.h.nth i).toNat ++ (if q.h.nth i then textB (q.f.nth i) else []))) := by
          show _ = _
          unfold encQ
          rw [dimsB13, ← List.append_assoc]
          rfl
        have htl := HTL.out i h4
        generalize q.g.nth i = G at *
        generalize q.h.nth i = H at *
        generalize q.f.nth i = T at *
        have e1 := (HCL.out _ HM.out.q).1
        generalize hac : encQ q i = ac at *
        clear hac
        have hlG := enc_len G.toNat
        have hlH := enc_len H.toNat
        go_wp2_with fail
        refine (ref_bool G wr).mono ?_
        rintro e w3 ⟨v3, rfl, hm3⟩
        have HY := Lib.hid hm3
        have HM3 : Hid (By w3 (.slice A8 ac.length c8) ac) := HM.out.made.1.turn hm3.2.1 (fun _ _ f => f)
        clear hm3 e1
        go_wp2_with (at_builtin; go_must (refine wpList_app _ rfl _ _ _ rfl _ ac rfl HM3.out _ rfl (enc G.toNat) HY.out.1.yields (by omega) ?_))
        intro A4 n4 c4 w4 hb hg ha
        have hm4 := HM.out.app HY.out.2.1 hb hg ha
        obtain ⟨A4', c4', hv4⟩ := hm4.made.1.shape
        injection hv4 with k1 k2 k3
        subst k1 k2 k3
        have HM4 := Lib.hid hm4
        have e2 := (HCL.out _ hm4.q).2.1
        clear hb hg ha hm4 HM3 HY HM
        have hl4 : (ac ++ enc G.toNat).length ≤ 350 := by rw [List.length_append]; omega
        generalize hac4 : ac ++ enc G.toNat = ac4 at *
        go_wp2_with fail
        refine (ref_bool H w4).mono ?_
        rintro e w5 ⟨v5, rfl, hm5⟩
        have HY := Lib.hid hm5
        have HM5 : Hid (By w5 (.slice A4 ac4.length c4) ac4) := HM4.out.made.1.turn hm5.2.1 (fun _ _ f => f)
        clear hm5 e2
        go_wp2_with (at_builtin; go_must (refine wpList_app _ rfl _ _ _ rfl _ ac4 rfl HM5.out _ rfl (enc H.toNat) HY.out.1.yields (by omega) ?_))
        intro A6 n6 c6 w6 hb hg ha
        have hm6 := HM4.out.app HY.out.2.1 hb hg ha
        obtain ⟨A6', c6', hv6⟩ := hm6.made.1.shape
        injection hv6 with k1 k2 k3
        subst k1 k2 k3
        have HM6 := Lib.hid hm6
        obtain ⟨-, b6, b7⟩ := HCL.out _ hm6.q
        unfold sv9 at b7
        clear hb hg ha hm6 HM5 HY HM4 HCL
        have hl6 : (ac4 ++ enc H.toNat).length ≤ 400 := by rw [List.length_append]; omega
        have HACC : Hid (ac4 ++ enc H.toNat = ac ++ (enc G.toNat ++ enc H.toNat)) := by
          show _ = _
          rw [← hac4, List.append_assoc]
        cases H with
        | false =>
          have HM7 : Hid (Er13 w b q (.slice A6 (ac4 ++ enc false.toNat).length c6) (encQ q (i + 1)) w6) := by
            have h := HM6.out
            rw [HST.out, if_neg (by simp), List.append_nil, ← HACC.out]
            exact h
          clear HM6 HST HACC hac4
          go_wp2_with fail
          go_roundw
          case rel => exact ⟨i + 1, by go_num, hlt, HM7.out⟩
          case measure => simp [intOf]; omega
        | true =>
          rw [if_pos rfl, ← List.append_assoc, ← HACC.out] at HST
          clear HACC hac4
          generalize ac4 ++ enc true.toNat = acc at *
          go_wp2_with fail
          refine (ref_text ⟨T.toArray⟩ w6 (by show T.toArray.size ≤ _; simp; omega)).mono ?_
          rintro e w7 ⟨v7, rfl, hm7⟩
          have hm7' : Made w6 w7 v7 (textB T) := hm7
          have HY := Lib.hid hm7'
          have HM7 : Hid (By w7 (.slice A6 acc.length c6) acc) := HM6.out.made.1.turn hm7.2.1 (fun _ _ f => f)
          have hel : (textB T).length ≤ 100 := by
            unfold textB
            have := enc_len T.length
            rw [List.length_append]
            omega
          clear hm7 hm7' b6 b7
          go_wp2_with (at_builtin; go_must (refine wpList_app _ rfl _ _ _ rfl _ acc rfl HM7.out _ rfl (textB T) HY.out.1.yields (by omega) ?_))
          intro A8 n8 c8 w8 hb hg ha
          have hm8 := HM6.out.app HY.out.2.1 hb hg ha
          have HM8 : Hid (Er13 w b q (.slice A8 n8 c8) (encQ q (i + 1)) w8) := by rw [HST.out]; exact hm8
          clear hb hg ha hm8 HM7 HY HM6 HST
          go_wp2
          go_roundw
          case rel => exact ⟨i + 1, by go_num, hlt, HM8.out⟩
          case measure => simp [intOf]; omega
      · obtain rfl : i = N := by omega
        have HE := Lib.hid (HEND.out _ _ HM.out.made)
        go_wp2
        go_ret2
        exact HE.out
  · have HEND : Hid (∀ w', Turn (fun _ => False) w w' → Encd13 w q n (.returned (.tuple #[.slice none 0 0, .int .i64 (chkQ q n)])) w') := fun w' ht => ⟨_, rfl, by rw [if_neg h0]; exact ⟨By.nil w', ht, fun k hk => by simp [Value.ownBlock] at hk⟩⟩
    have hne : ((chkQ q n) != 0) = true := by simp [bne, h0]
    clear h0
    generalize chkQ q n = a at *
    go_enter Try.func14, Try.ntmps14
    go_wp2_with fail
    rw [← HW.out]
    refine (HCK.out _).mono ?_
    rintro e w1 ⟨rfl, t1⟩
    have HT1 := Lib.hid (HT0.out.trans t1 (fun _ _ f => f))
    clear t1 c0 c1 c2 c3 c4 c5 c6 c7 c8 c9 c10 c11 c12 c13
    go_wp2
    go_ret2
    exact HEND.out _ HT1.out

end Go.Proofs.Ytieffpngknglpaa
