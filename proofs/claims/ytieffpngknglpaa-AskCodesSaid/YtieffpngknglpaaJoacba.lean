/-
  Texts laid one behind the other: Q1k Q1l.
-/
import Derived.Test.YtieffpngknglpaaJoacaz
import Derived.Lib.MinMax

/-
  Stage 13: the program's readDims.
-/
namespace Go.Proofs.Ytieffpngknglpaa
open Go.RowKit

set_option maxRecDepth 100000

/-- In readDims: what is read, its result's box, the reader. -/
structure Iq13 (w wr : World) (p b r : Nat) (q : Q13) (s : RS9) (W : World) : Prop where
  box : Box W b 25 (cells13 q)
  res : Box W r 25 (cells13 zeroQ)
  pr : PR w p W s
  turn : Turn (fun g => g = p) wr W
  nb : wr.heap.size ≤ b
  nr : wr.heap.size ≤ r
  ne : r ≠ b
  lo : w.heap.size ≤ wr.heap.size
section
variable {w wr W W2 : World} {p b r : Nat} {q : Q13} {s s2 : RS9}
theorem Iq13.read (h : Iq13 w wr p b r q s W) (hx : PR w p W2 s2) (ht : Turn (fun g => g = p) W W2) : Iq13 w wr p b r q s2 W2 :=
  ⟨h.box.turn ht (h.pr.off h.box (by decide)), h.res.turn ht (h.pr.off h.res (by decide)), hx, h.turn.trans ht (fun _ _ e => e), h.nb, h.nr, h.ne, h.lo⟩
theorem Iq13.set (h : Iq13 w wr p b r q s W) (i : Nat) (u : Value) {q2 : Q13} (hc : (cells13 q).setIfInBounds i u = cells13 q2) : Iq13 w wr p b r q2 s (W.setCell ⟨b, i, none⟩ u) := by
  have ht : Turn (fun g => g = b) W (W.setCell ⟨b, i, none⟩ u) := Turn.setCell (S := fun g => g = b) (p := ⟨b, i, none⟩) (Turn.refl _ W) (fun _ => rfl) u
  refine ⟨?_, h.res.turn ht h.ne, h.pr.keep ht (fun g e => by rw [e]; have := h.nb; have := h.lo; omega) (fun g e => ⟨25, cells13 q, by decide, by decide, e ▸ h.box⟩), h.turn.trans ht (fun k hk e => by have := h.nb; omega), h.nb, h.nr, h.ne, h.lo⟩
  rw [← hc]
  exact h.box.set i u
/-- The result laid into its cell. -/
theorem Iq13.out (h : Iq13 w wr p b r q s W) (u : Q13) : PR w p (W.setCells r 0 (cells13 u).toList) s ∧ Turn (fun g => g = p) wr (W.setCells r 0 (cells13 u).toList) ∧ Box (W.setCells r 0 (cells13 u).toList) r 25 (cells13 u) := by
  have ht := turn_setCells (S := fun g => g = r) rfl (cells13 u).toList 0 W
  exact ⟨h.pr.keep ht (fun g e => by rw [e]; have := h.nr; have := h.lo; omega) (fun g e => ⟨25, cells13 zeroQ, by decide, by decide, e ▸ h.res⟩), h.turn.trans ht (fun k hk e => by have := h.nr; omega), h.res.all _ rfl⟩
end
abbrev zcells13 : Array Value := #[.int .i64 0, .int .i64 0, .bool false, .bool false, .bool false, .bool false, .bool false, .bool false, .bool false, .bool false, .string ⟨#[]⟩, .string ⟨#[]⟩, .string ⟨#[]⟩, .string ⟨#[]⟩]
/-- Behind readDims. -/
def QRead13 (w : World) (p : Nat) (wr : World) (N : Nat) (s : RS9) (e : Ending) (w' : World) : Prop := e = .returned (qv13 (dimsR13 s N).1) ∧ PR w p w' (dimsR13 s N).2 ∧ Turn (fun g => g = p) wr w'

set_option maxHeartbeats 16000000 in
theorem readDims_any13 {w wa : World} {p : Nat} {s : RS9} (N : Nat) (hN : N ≤ 4) (h : PR w p wa s) : Calls Try.prog 31 #[.pointer (some ⟨p, 0, none⟩), .int .i64 (N : Int)] wa fun e w' => QRead13 w p wa N s e w' := by
  obtain ⟨w1, hw1⟩ : ∃ w1, w1 = (wa.alloc (.cells zcells13 25)).alloc (.cells zcells13 25) := ⟨_, rfl⟩
  have hin : Iq13 w wa p (wa.heap.size + 1) wa.heap.size zeroQ s w1 := by
    have t1 := ((Turn.refl (fun _ => False) wa).alloc (.cells zcells13 25)).alloc (.cells zcells13 25)
    rw [← hw1] at t1
    refine ⟨?_, ?_, h.later t1, t1.mono (fun _ _ f => f.elim), Nat.le_succ _, Nat.le_refl _, Nat.ne_of_lt (Nat.lt_succ_self _), h.turn.size⟩
    · have hb := Box.new (wa.alloc (.cells zcells13 25)) 25 zcells13
      rw [World.size_alloc] at hb
      rw [hw1]
      exact hb
    · rw [hw1]
      exact (Box.new wa 25 zcells13).alloc _
  obtain ⟨b, hb⟩ : ∃ b, b = wa.heap.size + 1 := ⟨_, rfl⟩
  obtain ⟨r, hr⟩ : ∃ r, r = wa.heap.size := ⟨_, rfl⟩
  rw [← hb, ← hr] at hin
  have HIN := Lib.hid hin
  have HW := Lib.hid hw1
  have HB := Lib.hid hb
  have HR := Lib.hid hr
  clear hin hw1 hb hr h
  go_enter Try.func31, Try.ntmps31
  go_wp2_with fail
  rw [← HW.out, ← HB.out, ← HR.out]
  clear HW HB HR
  go_loopw [11] (fun x11 wk => ∃ i : Nat, x11 = .int .i64 (i : Int) ∧ i ≤ N ∧ Iq13 w wa p b r (dimsR13 s i).1 (dimsR13 s i).2 wk) (fun x11 _ => N - (intOf x11).toNat)
  case atStart => exact ⟨0, rfl, Nat.zero_le _, HIN.out⟩
  case round =>
    clear HIN
    obtain ⟨i, rfl, hi, hm⟩ := hrel
    have HM := Lib.hid hm
    clear hm
    by_cases hlt : i < N
    · have h4 : i < 4 := by omega
      have hil : (i : Int) < N := by omega
      have hi4 : (i : Int) < 4 := by omega
      have HST : Hid (dimsR13 s (i + 1) = dimR13 (dimsR13 s i).1 i (dimsR13 s i).2) := rfl
      obtain ⟨q, hq⟩ : ∃ q, q = (dimsR13 s i).1 := ⟨_, rfl⟩
      obtain ⟨t, ht⟩ : ∃ t, t = (dimsR13 s i).2 := ⟨_, rfl⟩
      rw [← hq, ← ht] at HM HST
      clear hq ht
      go_wp2_with fail
      refine (ps_flag HM.out.pr).mono ?_
      rintro e w5 ⟨rfl, h5, t5⟩
      have hm5 := HM.out.read h5 t5
      have HM5 := Lib.hid hm5
      have e1 := (hm5.box.cell (2 + i)).trans (q_group13 q h4)
      have f1 := hm5.box.free (2 + i)
      have hm6 := hm5.set (2 + i) (.bool (sFlag t)) (put_group13 q (sFlag t) h4)
      have HM6 := Lib.hid hm6
      clear h5 t5 hm5 hm6 HM HM5
      generalize q.g.nth i = Y at *
      go_wp2_with fail
      obtain ⟨w6, hw6⟩ : ∃ w6, w6 = w5.setCell ⟨b, 2 + i, none⟩ (.bool (sFlag t)) := ⟨_, rfl⟩
      rw [← hw6]
      rw [← hw6] at HM6
      clear hw6 e1 f1
      refine (ps_flag HM6.out.pr).mono ?_
      rintro e w7 ⟨rfl, h7, t7⟩
      have hm7 := HM6.out.read h7 t7
      have e2 := (hm7.box.cell (6 + i)).trans (q_has13 _ h4)
      have f2 := hm7.box.free (6 + i)
      have HM8 := Lib.hid (hm7.set (6 + i) (.bool (sFlag (sFlag' t))) (put_has13 _ (sFlag (sFlag' t)) h4))
      clear h7 t7 hm7 HM6
      dsimp only at e2 HM8
      generalize q.h.nth i = Z at *
      unfold dimR13 at HST
      cases hH : sFlag (sFlag' t) with
      | false =>
        rw [hH] at HM8 HST
        rw [if_neg (by simp)] at HST
        have HM9 : Hid (Iq13 w wa p b r (dimsR13 s (i + 1)).1 (dimsR13 s (i + 1)).2 (w7.setCell ⟨b, 6 + i, none⟩ (.bool false))) := by rw [HST.out]; exact HM8.out
        clear HM8 HST hH
        go_wp2_with fail
        go_roundw
        case rel => exact ⟨i + 1, by go_num, hlt, HM9.out⟩
        case measure => simp [intOf]; omega
      | true =>
        rw [hH] at HM8 HST
        rw [if_pos rfl] at HST
        clear hH
        go_wp2_with fail
        obtain ⟨w8, hw8⟩ : ∃ w8, w8 = w7.setCell ⟨b, 6 + i, none⟩ (.bool true) := ⟨_, rfl⟩
        rw [← hw8]
        rw [← hw8] at HM8
        clear hw8 e2 f2
        refine (ps_text HM8.out.pr).mono ?_
        rintro e w9 ⟨rfl, h9, t9⟩
        have hm9 := HM8.out.read h9 t9
        have e3 := (hm9.box.cell (10 + i)).trans (q_text13 _ h4)
        have f3 := hm9.box.free (10 + i)
        have HMA := Lib.hid (hm9.set (10 + i) (sv9 (sText (sFlag' (sFlag' t)))) (put_text13 _ (sText (sFlag' (sFlag' t))) h4))
        clear h9 t9 hm9 HM8
        dsimp only at e3 HMA
        unfold sv9 at e3
        generalize q.f.nth i = X at *
        have HMB : Hid (Iq13 w wa p b r (dimsR13 s (i + 1)).1 (dimsR13 s (i + 1)).2 (w9.setCell ⟨b, 10 + i, none⟩ (sv9 (sText (sFlag' (sFlag' t)))))) := by rw [HST.out]; exact HMA.out
        clear HMA HST
        go_wp2_with fail
        go_roundw
        case rel => exact ⟨i + 1, by go_num, hlt, HMB.out⟩
        case measure => simp [intOf]; omega
    · obtain rfl : i = N := by omega
      obtain ⟨q, hq⟩ : ∃ q, q = (dimsR13 s i).1 := ⟨_, rfl⟩
      have HQ := Lib.hid hq
      rw [← hq] at HM
      clear hq
      have HOUT := Lib.hid (HM.out.out q)
      obtain ⟨b0, b1, b2, b3, b4, b5, b6, b7, b8, b9, b10, b11, b12, b13⟩ := box_query13 HM.out.box
      have d0 : wr.cell? ⟨r, 0, none⟩ = some (.int .i64 0) := HM.out.res.cell 0
      have d1 : wr.cell? ⟨r, 1, none⟩ = some (.int .i64 0) := HM.out.res.cell 1
      have d2 : wr.cell? ⟨r, 2, none⟩ = some (.bool false) := HM.out.res.cell 2
      have d3 : wr.cell? ⟨r, 3, none⟩ = some (.bool false) := HM.out.res.cell 3
      have d4 : wr.cell? ⟨r, 4, none⟩ = some (.bool false) := HM.out.res.cell 4
      have d5 : wr.cell? ⟨r, 5, none⟩ = some (.bool false) := HM.out.res.cell 5
      have d6 : wr.cell? ⟨r, 6, none⟩ = some (.bool false) := HM.out.res.cell 6
      have d7 : wr.cell? ⟨r, 7, none⟩ = some (.bool false) := HM.out.res.cell 7
      have d8 : wr.cell? ⟨r, 8, none⟩ = some (.bool false) := HM.out.res.cell 8
      have d9 : wr.cell? ⟨r, 9, none⟩ = some (.bool false) := HM.out.res.cell 9
      have d10 : wr.cell? ⟨r, 10, none⟩ = some (.string ⟨#[]⟩) := HM.out.res.cell 10
      have d11 : wr.cell? ⟨r, 11, none⟩ = some (.string ⟨#[]⟩) := HM.out.res.cell 11
      have d12 : wr.cell? ⟨r, 12, none⟩ = some (.string ⟨#[]⟩) := HM.out.res.cell 12
      have d13 : wr.cell? ⟨r, 13, none⟩ = some (.string ⟨#[]⟩) := HM.out.res.cell 13
      have z0 : wr.frozen? ⟨r, 0, none⟩ = false := HM.out.res.free 0
      have z1 : wr.frozen? ⟨r, 1, none⟩ = false := HM.out.res.free 1
      have z2 : wr.frozen? ⟨r, 2, none⟩ = false := HM.out.res.free 2
      have z3 : wr.frozen? ⟨r, 3, none⟩ = false := HM.out.res.free 3
      have z4 : wr.frozen? ⟨r, 4, none⟩ = false := HM.out.res.free 4
      have z5 : wr.frozen? ⟨r, 5, none⟩ = false := HM.out.res.free 5
      have z6 : wr.frozen? ⟨r, 6, none⟩ = false := HM.out.res.free 6
      have z7 : wr.frozen? ⟨r, 7, none⟩ = false := HM.out.res.free 7
      have z8 : wr.frozen? ⟨r, 8, none⟩ = false := HM.out.res.free 8
      have z9 : wr.frozen? ⟨r, 9, none⟩ = false := HM.out.res.free 9
      have z10 : wr.frozen? ⟨r, 10, none⟩ = false := HM.out.res.free 10
      have z11 : wr.frozen? ⟨r, 11, none⟩ = false := HM.out.res.free 11
      have z12 : wr.frozen? ⟨r, 12, none⟩ = false := HM.out.res.free 12
      have z13 : wr.frozen? ⟨r, 13, none⟩ = false := HM.out.res.free 13
      clear HM
      go_wp2
      refine bodyPost_ret (v := .agg (cells13 q)) ?_ rfl ⟨by rw [HQ.out], HOUT.out.1, HOUT.out.2.1⟩
      rw [results_one13 rfl]
      go_simp

end Go.Proofs.Ytieffpngknglpaa

/-
  Stage 13: the program's Read.
-/
namespace Go.Proofs.Ytieffpngknglpaa
open Go.RowKit

set_option maxRecDepth 100000

/-- Behind Read: the query, or what is wrong. -/
def Readed13 (w : World) (m : List UInt8) (n : Int) (e : Ending) (w' : World) : Prop := e = .returned (.tuple #[qv13 (readQ m n).2, .int .i64 (readQ m n).1]) ∧ Turn (fun _ => False) w w'
/-- In Read: the result's box, the reader. -/
structure Rr13 (w : World) (p r : Nat) (s : RS9) (W : World) : Prop where
  res : Box W r 25 (cells13 zeroQ)
  pr : PR w p W s
  nr : w.heap.size ≤ r
section
variable {w W W2 : World} {p r : Nat} {s s2 : RS9}
theorem Rr13.read (h : Rr13 w p r s W) (hx : PR w p W2 s2) (ht : Turn (fun g => g = p) W W2) : Rr13 w p r s2 W2 := ⟨h.res.turn ht (h.pr.off h.res (by decide)), hx, h.nr⟩
theorem Rr13.later (h : Rr13 w p r s W) (ht : Turn (fun _ => False) W W2) : Rr13 w p r s W2 := ⟨h.res.turn ht (fun f => f), h.pr.later ht, h.nr⟩
theorem Rr13.out (h : Rr13 w p r s W) (u : Q13) : Turn (fun _ => False) w (W.setCells r 0 (cells13 u).toList) :=
  h.pr.turn.trans (turn_setCells (S := fun g => g = r) rfl _ 0 W) (fun g hg e => by have := h.nr; omega)
end
theorem PR.base {w w2 W : World} {p : Nat} {s : RS9} (h : PR w2 p W s) (ht : Turn (fun _ => False) w w2) : PR w p W s := by
  obtain ⟨h0, ⟨v, l, k, h1, h2, h3⟩, h4⟩ := h
  exact ⟨Nat.le_trans ht.size h0, ⟨v, l, k, h1, h2, fun g hg => Nat.le_trans ht.size (h3 g hg)⟩, ht.trans h4 (fun _ _ f => f)⟩
/-- The same without a reader. -/
structure Rz13 (w : World) (r : Nat) (W : World) : Prop where
  res : Box W r 25 (cells13 zeroQ)
  turn : Turn (fun _ => False) w W
  nr : w.heap.size ≤ r
theorem Rz13.out {w W : World} {r : Nat} (h : Rz13 w r W) (u : Q13) : Turn (fun _ => False) w (W.setCells r 0 (cells13 u).toList) :=
  h.turn.trans (turn_setCells (S := fun g => g = r) rfl _ 0 W) (fun g hg e => by have := h.nr; omega)
theorem Rr13.z {w W : World} {p r : Nat} {s : RS9} (h : Rr13 w p r s W) : Rz13 w r W := ⟨h.res, h.pr.turn, h.nr⟩
/-- Behind readDims: the query too, in its box. -/
structure Rk13 (w : World) (r k : Nat) (q : Q13) (W : World) : Prop where
  z : Rz13 w r W
  q : Box W k 25 (cells13 q)
  nk : w.heap.size ≤ k
  ne : r ≠ k
theorem Rk13.later {w W W2 : World} {r k : Nat} {q : Q13} (h : Rk13 w r k q W) (ht : Turn (fun _ => False) W W2) : Rk13 w r k q W2 :=
  ⟨⟨h.z.res.turn ht (fun f => f), h.z.turn.trans ht (fun _ _ f => f), h.z.nr⟩, h.q.turn ht (fun f => f), h.nk, h.ne⟩
theorem Rk13.set {w W : World} {r k : Nat} {q q2 : Q13} (h : Rk13 w r k q W) (i : Nat) (u : Value) (hc : (cells13 q).setIfInBounds i u = cells13 q2) : Rk13 w r k q2 (W.setCell ⟨k, i, none⟩ u) := by
  have ht : Turn (fun g => g = k) W (W.setCell ⟨k, i, none⟩ u) := Turn.setCell (S := fun g => g = k) (p := ⟨k, i, none⟩) (Turn.refl _ W) (fun _ => rfl) u
  refine ⟨⟨h.z.res.turn ht h.ne, h.z.turn.trans ht (fun g hg e => by have := h.nk; omega), h.z.nr⟩, ?_, h.nk, h.ne⟩
  rw [← hc]
  exact h.q.set i u

set_option maxHeartbeats 16000000 in
theorem read_any13 (v : Value) (m : List UInt8) (n : Int) (w : World) (hv : Rd w v m) (hl : m.length ≤ 1000000) : Calls Try.prog 15 #[v, .int .i64 n] w fun e w' => Readed13 w m n e w' := by
  have HV := Lib.hid hv
  obtain ⟨A, c, rfl⟩ := hv.shape
  obtain ⟨w1, hw1⟩ : ∃ w1, w1 = w.alloc (.cells zcells13 25) := ⟨_, rfl⟩
  have ht1 : Turn (fun _ => False) w w1 := by rw [hw1]; exact (Turn.refl _ w).alloc _
  have hb1 : Box w1 w.heap.size 25 (cells13 zeroQ) := by rw [hw1]; exact Box.new w _ zcells13
  have hz1 : Rz13 w w.heap.size w1 := ⟨hb1, ht1, Nat.le_refl _⟩
  have HZ1 := Lib.hid hz1
  have HW := Lib.hid hw1
  have HCD := Lib.hid (check_dims13 n w1)
  clear hv hw1 ht1 hb1 hz1
  obtain ⟨r, hr⟩ : ∃ r, r = w.heap.size := ⟨_, rfl⟩
  have HR := Lib.hid hr
  rw [← hr] at HZ1
  clear hr
  by_cases hn : 1 ≤ n ∧ n ≤ 4
  · obtain ⟨N, rfl⟩ := Int.eq_ofNat_of_zero_le (show 0 ≤ n by omega)
    rw [okDims_nat hn, if_pos rfl] at HCD
    have hN4 : N ≤ 4 := by omega
    have HSPEC : Hid (readQ m (N : Int) = if (dimsR13 (sNum' (sNum' (m, 0))) N).2.2 ≠ 0 then (((dimsR13 (sNum' (sNum' (m, 0))) N).2.2 : Int), zeroQ)
        else if 0 < (dimsR13 (sNum' (sNum' (m, 0))) N).2.1.length then (4, zeroQ)
        else if 4611686018427387904 < max (sNum (m, 0)) (sNum (sNum' (m, 0))) then (2, zeroQ)
        else endQ (withH (dimsR13 (sNum' (sNum' (m, 0))) N).1 (sNum (m, 0)) (sNum (sNum' (m, 0)))) (N : Int)) := by
      show _ = _
      unfold readQ
      rw [okDims_nat hn, if_pos rfl, Int.toNat_natCast]
    clear hn
    go_enter Try.func15, Try.ntmps15
    go_wp2_with fail
    rw [← HW.out, ← HR.out]
    refine HCD.out.mono ?_
    rintro e w2 ⟨rfl, t2⟩
    have HZ2 : Hid (Rz13 w r w2) := ⟨HZ1.out.res.turn t2 (fun f => f), HZ1.out.turn.trans t2 (fun _ _ f => f), HZ1.out.nr⟩
    clear t2 HCD HZ1 HW HR
    go_wp2_with fail
    refine (pr_new (w := w2) (.slice A m.length c) m (Turn.refl _ w2) (HV.out.later HZ2.out.turn) hl).mono ?_
    rintro e w3 ⟨p, rfl, h3, -⟩
    have HM3 : Hid (Rr13 w p r (m, 0) w3) := ⟨HZ2.out.res.turn h3.turn (fun f => f), h3.base HZ2.out.turn, HZ2.out.nr⟩
    clear h3 HZ2 HV
    go_wp2_with fail
    refine (ps_num HM3.out.pr).mono ?_
    rintro e w4 ⟨rfl, h4, t4⟩
    have HM4 := Lib.hid (HM3.out.read h4 t4)
    clear h4 t4 HM3
    obtain ⟨lo, hlo⟩ : ∃ lo, lo = sNum (m, 0) := ⟨_, rfl⟩
    obtain ⟨s1, hs1⟩ : ∃ s1, s1 = sNum' (m, 0) := ⟨_, rfl⟩
    rw [← hlo, ← hs1] at HSPEC
    rw [← hs1] at HM4
    rw [← hlo]
    clear hlo hs1
    go_wp2_with fail
    refine (ps_num HM4.out.pr).mono ?_
    rintro e w5 ⟨rfl, h5, t5⟩
    have HM5 := Lib.hid (HM4.out.read h5 t5)
    clear h5 t5 HM4
    obtain ⟨hi, hhi⟩ : ∃ hi, hi = sNum s1 := ⟨_, rfl⟩
    obtain ⟨s2, hs2⟩ : ∃ s2, s2 = sNum' s1 := ⟨_, rfl⟩
    rw [← hhi, ← hs2] at HSPEC
    rw [← hs2] at HM5
    rw [← hhi]
    clear hhi hs2
    go_wp2_with fail
    refine (readDims_any13 N hN4 HM5.out.pr).mono ?_
    rintro e w6 ⟨rfl, h6, t6⟩
    have HM6 := Lib.hid (HM5.out.read h6 t6)
    clear h6 t6 HM5
    obtain ⟨q, hq⟩ : ∃ q, q = (dimsR13 s2 N).1 := ⟨_, rfl⟩
    obtain ⟨s, hs⟩ : ∃ s, s = (dimsR13 s2 N).2 := ⟨_, rfl⟩
    rw [← hq, ← hs] at HSPEC
    rw [← hs] at HM6
    rw [← hq]
    clear hq hs
    go_wp2_with fail
    obtain ⟨k, hk⟩ : ∃ k, k = w6.heap.size := ⟨_, rfl⟩
    obtain ⟨w7, hw7⟩ : ∃ w7, w7 = w6.alloc (.cells (cells13 q) 25) := ⟨_, rfl⟩
    have hm7 : Rr13 w p r s w7 := by rw [hw7]; exact HM6.out.later ((Turn.refl _ w6).alloc _)
    have hk7 : Box w7 k 25 (cells13 q) := by rw [hw7, hk]; exact Box.new w6 _ _
    have hrk : r ≠ k := by have := HM6.out.res.lt; omega
    have hnk : w.heap.size ≤ k := by rw [hk]; exact HM6.out.pr.turn.size
    have HM7 := Lib.hid hm7
    have HK7 : Hid (Rk13 w r k q w7) := ⟨hm7.z, hk7, hnk, hrk⟩
    unfold cells13 sv9 at hw7
    rw [← hw7, ← hk]
    clear hm7 hk7 hrk hnk hw7 hk HM6
    refine (pr_fault HM7.out.pr).mono ?_
    rintro e w8 ⟨rfl, rfl⟩
    obtain ⟨sl, sf⟩ := s
    dsimp only at *
    by_cases hf : sf = 0
    · subst hf
      rw [if_neg (by simp)] at HSPEC
      go_wp2_with fail
      refine (pr_left HM7.out.pr rfl).mono ?_
      rintro e w8 ⟨rfl, nn, hw8⟩
      have ht8 : Turn (fun _ => False) w7 w8 := by rw [hw8]; exact (Turn.refl _ w7).drewN nn
      have HK8 := Lib.hid (HK7.out.later ht8)
      clear hw8 ht8 HM7 HK7
      dsimp only
      by_cases hlen : 0 < sl.length
      · rw [if_pos hlen] at HSPEC
        have hli : (0 : Int) < sl.length := by omega
        have HZ8 := Lib.hid HK8.out.z
        clear hlen HK8
        have d0 : w8.cell? ⟨r, 0, none⟩ = some (.int .i64 0) := HZ8.out.res.cell 0
        have d1 : w8.cell? ⟨r, 1, none⟩ = some (.int .i64 0) := HZ8.out.res.cell 1
        have d2 : w8.cell? ⟨r, 2, none⟩ = some (.bool false) := HZ8.out.res.cell 2
        have d3 : w8.cell? ⟨r, 3, none⟩ = some (.bool false) := HZ8.out.res.cell 3
        have d4 : w8.cell? ⟨r, 4, none⟩ = some (.bool false) := HZ8.out.res.cell 4
        have d5 : w8.cell? ⟨r, 5, none⟩ = some (.bool false) := HZ8.out.res.cell 5
        have d6 : w8.cell? ⟨r, 6, none⟩ = some (.bool false) := HZ8.out.res.cell 6
        have d7 : w8.cell? ⟨r, 7, none⟩ = some (.bool false) := HZ8.out.res.cell 7
        have d8 : w8.cell? ⟨r, 8, none⟩ = some (.bool false) := HZ8.out.res.cell 8
        have d9 : w8.cell? ⟨r, 9, none⟩ = some (.bool false) := HZ8.out.res.cell 9
        have d10 : w8.cell? ⟨r, 10, none⟩ = some (.string ⟨#[]⟩) := HZ8.out.res.cell 10
        have d11 : w8.cell? ⟨r, 11, none⟩ = some (.string ⟨#[]⟩) := HZ8.out.res.cell 11
        have d12 : w8.cell? ⟨r, 12, none⟩ = some (.string ⟨#[]⟩) := HZ8.out.res.cell 12
        have d13 : w8.cell? ⟨r, 13, none⟩ = some (.string ⟨#[]⟩) := HZ8.out.res.cell 13
        have z0 : w8.frozen? ⟨r, 0, none⟩ = false := HZ8.out.res.free 0
        have z1 : w8.frozen? ⟨r, 1, none⟩ = false := HZ8.out.res.free 1
        have z2 : w8.frozen? ⟨r, 2, none⟩ = false := HZ8.out.res.free 2
        have z3 : w8.frozen? ⟨r, 3, none⟩ = false := HZ8.out.res.free 3
        have z4 : w8.frozen? ⟨r, 4, none⟩ = false := HZ8.out.res.free 4
        have z5 : w8.frozen? ⟨r, 5, none⟩ = false := HZ8.out.res.free 5
        have z6 : w8.frozen? ⟨r, 6, none⟩ = false := HZ8.out.res.free 6
        have z7 : w8.frozen? ⟨r, 7, none⟩ = false := HZ8.out.res.free 7
        have z8 : w8.frozen? ⟨r, 8, none⟩ = false := HZ8.out.res.free 8
        have z9 : w8.frozen? ⟨r, 9, none⟩ = false := HZ8.out.res.free 9
        have z10 : w8.frozen? ⟨r, 10, none⟩ = false := HZ8.out.res.free 10
        have z11 : w8.frozen? ⟨r, 11, none⟩ = false := HZ8.out.res.free 11
        have z12 : w8.frozen? ⟨r, 12, none⟩ = false := HZ8.out.res.free 12
        have z13 : w8.frozen? ⟨r, 13, none⟩ = false := HZ8.out.res.free 13
        have HOUT := Lib.hid (HZ8.out.out zeroQ)
        clear HZ8
        go_wp2
        refine bodyPost_ret (v := .tuple #[.agg zcells13, .int .i64 4]) ?_ rfl ⟨by rw [HSPEC.out]; rfl, HOUT.out⟩
        rw [results_cell_tmp rfl]
        go_simp
      · rw [if_neg hlen] at HSPEC
        have hli : ¬ ((0 : Int) < sl.length) := by omega
        clear hlen
        by_cases hbig : 4611686018427387904 < max lo hi
        · rw [if_pos hbig] at HSPEC
          have hbi : (4611686018427387904 : Int) < max (lo : Int) (hi : Int) := by omega
          have HZ8 := Lib.hid HK8.out.z
          clear hbig HK8
          have d0 : w8.cell? ⟨r, 0, none⟩ = some (.int .i64 0) := HZ8.out.res.cell 0
          have d1 : w8.cell? ⟨r, 1, none⟩ = some (.int .i64 0) := HZ8.out.res.cell 1
          have d2 : w8.cell? ⟨r, 2, none⟩ = some (.bool false) := HZ8.out.res.cell 2
          have d3 : w8.cell? ⟨r, 3, none⟩ = some (.bool false) := HZ8.out.res.cell 3
          have d4 : w8.cell? ⟨r, 4, none⟩ = some (.bool false) := HZ8.out.res.cell 4
          have d5 : w8.cell? ⟨r, 5, none⟩ = some (.bool false) := HZ8.out.res.cell 5
          have d6 : w8.cell? ⟨r, 6, none⟩ = some (.bool false) := HZ8.out.res.cell 6
          have d7 : w8.cell? ⟨r, 7, none⟩ = some (.bool false) := HZ8.out.res.cell 7
          have d8 : w8.cell? ⟨r, 8, none⟩ = some (.bool false) := HZ8.out.res.cell 8
          have d9 : w8.cell? ⟨r, 9, none⟩ = some (.bool false) := HZ8.out.res.cell 9
          have d10 : w8.cell? ⟨r, 10, none⟩ = some (.string ⟨#[]⟩) := HZ8.out.res.cell 10
          have d11 : w8.cell? ⟨r, 11, none⟩ = some (.string ⟨#[]⟩) := HZ8.out.res.cell 11
          have d12 : w8.cell? ⟨r, 12, none⟩ = some (.string ⟨#[]⟩) := HZ8.out.res.cell 12
          have d13 : w8.cell? ⟨r, 13, none⟩ = some (.string ⟨#[]⟩) := HZ8.out.res.cell 13
          have z0 : w8.frozen? ⟨r, 0, none⟩ = false := HZ8.out.res.free 0
          have z1 : w8.frozen? ⟨r, 1, none⟩ = false := HZ8.out.res.free 1
          have z2 : w8.frozen? ⟨r, 2, none⟩ = false := HZ8.out.res.free 2
          have z3 : w8.frozen? ⟨r, 3, none⟩ = false := HZ8.out.res.free 3
          have z4 : w8.frozen? ⟨r, 4, none⟩ = false := HZ8.out.res.free 4
          have z5 : w8.frozen? ⟨r, 5, none⟩ = false := HZ8.out.res.free 5
          have z6 : w8.frozen? ⟨r, 6, none⟩ = false := HZ8.out.res.free 6
          have z7 : w8.frozen? ⟨r, 7, none⟩ = false := HZ8.out.res.free 7
          have z8 : w8.frozen? ⟨r, 8, none⟩ = false := HZ8.out.res.free 8
          have z9 : w8.frozen? ⟨r, 9, none⟩ = false := HZ8.out.res.free 9
          have z10 : w8.frozen? ⟨r, 10, none⟩ = false := HZ8.out.res.free 10
          have z11 : w8.frozen? ⟨r, 11, none⟩ = false := HZ8.out.res.free 11
          have z12 : w8.frozen? ⟨r, 12, none⟩ = false := HZ8.out.res.free 12
          have z13 : w8.frozen? ⟨r, 13, none⟩ = false := HZ8.out.res.free 13
          have HOUT := Lib.hid (HZ8.out.out zeroQ)
          clear HZ8
          go_wp2
          refine bodyPost_ret (v := .tuple #[.agg zcells13, .int .i64 2]) ?_ rfl ⟨by rw [HSPEC.out]; rfl, HOUT.out⟩
          rw [results_cell_tmp rfl]
          go_simp
        · rw [if_neg hbig] at HSPEC
          have hbi : ¬ ((4611686018427387904 : Int) < max (lo : Int) (hi : Int)) := by omega
          have hw1 : IntKind.i64.wrap (lo : Int) = (lo : Int) := IntWalk.i64_in _ (by omega)
          have hw2 : IntKind.i64.wrap (hi : Int) = (hi : Int) := IntWalk.i64_in _ (by omega)
          obtain ⟨b0, b1, b2, b3, b4, b5, b6, b7, b8, b9, b10, b11, b12, b13⟩ := box_query13 HK8.out.q
          have f0 : w8.frozen? ⟨k, 0, none⟩ = false := HK8.out.q.free 0
          have f1 : w8.frozen? ⟨k, 1, none⟩ = false := HK8.out.q.free 1
          have HK9 := Lib.hid ((HK8.out.set 0 (.int .i64 (lo : Int)) (q2 := { q with lo := (lo : Int) }) rfl).set 1 (.int .i64 (hi : Int)) (q2 := withH q (lo : Int) (hi : Int)) rfl)
          clear hbig HK8
          obtain ⟨q2, hq2⟩ : ∃ q2, q2 = withH q (lo : Int) (hi : Int) := ⟨_, rfl⟩
          have HCK : Hid (∀ W, Calls Try.prog 20 #[.agg #[.int .i64 (lo : Int), .int .i64 (hi : Int), .bool q.g.a, .bool q.g.b, .bool q.g.c, .bool q.g.d, .bool q.h.a, .bool q.h.b, .bool q.h.c, .bool q.h.d, sv9 q.f.a, sv9 q.f.b, sv9 q.f.c, sv9 q.f.d], .int .i64 (N : Int)] W fun e w' => e = .returned (.int .i64 (chkQ q2 (N : Int))) ∧ Turn (fun _ => False) W w') := fun W => by
            rw [hq2]
            exact check_any13 (withH q (lo : Int) (hi : Int)) (N : Int) W
          rw [← hq2] at HSPEC HK9
          clear hq2
          go_wp2_with fail
          refine (HCK.out _).mono ?_
          rintro e wA ⟨rfl, tA⟩
          have HKA := Lib.hid (HK9.out.later tA)
          clear tA HK9 HCK b0 b1 b2 b3 b4 b5 b6 b7 b8 b9 b10 b11 b12 b13 f0 f1 hw1 hw2 hbi hli
          by_cases hc : chkQ q2 (N : Int) = 0
          · have HE : Hid (readQ m (N : Int) = (0, q2)) := HSPEC.out.trans (if_pos hc)
            rw [hc]
            have HZA := Lib.hid HKA.out.z
            obtain ⟨b0, b1, b2, b3, b4, b5, b6, b7, b8, b9, b10, b11, b12, b13⟩ := box_query13 HKA.out.q
            clear hc HSPEC HKA
            have d0 : wA.cell? ⟨r, 0, none⟩ = some (.int .i64 0) := HZA.out.res.cell 0
            have d1 : wA.cell? ⟨r, 1, none⟩ = some (.int .i64 0) := HZA.out.res.cell 1
            have d2 : wA.cell? ⟨r, 2, none⟩ = some (.bool false) := HZA.out.res.cell 2
            have d3 : wA.cell? ⟨r, 3, none⟩ = some (.bool false) := HZA.out.res.cell 3
            have d4 : wA.cell? ⟨r, 4, none⟩ = some (.bool false) := HZA.out.res.cell 4
            have d5 : wA.cell? ⟨r, 5, none⟩ = some (.bool false) := HZA.out.res.cell 5
            have d6 : wA.cell? ⟨r, 6, none⟩ = some (.bool false) := HZA.out.res.cell 6
            have d7 : wA.cell? ⟨r, 7, none⟩ = some (.bool false) := HZA.out.res.cell 7
            have d8 : wA.cell? ⟨r, 8, none⟩ = some (.bool false) := HZA.out.res.cell 8
            have d9 : wA.cell? ⟨r, 9, none⟩ = some (.bool false) := HZA.out.res.cell 9
            have d10 : wA.cell? ⟨r, 10, none⟩ = some (.string ⟨#[]⟩) := HZA.out.res.cell 10
            have d11 : wA.cell? ⟨r, 11, none⟩ = some (.string ⟨#[]⟩) := HZA.out.res.cell 11
            have d12 : wA.cell? ⟨r, 12, none⟩ = some (.string ⟨#[]⟩) := HZA.out.res.cell 12
            have d13 : wA.cell? ⟨r, 13, none⟩ = some (.string ⟨#[]⟩) := HZA.out.res.cell 13
            have z0 : wA.frozen? ⟨r, 0, none⟩ = false := HZA.out.res.free 0
            have z1 : wA.frozen? ⟨r, 1, none⟩ = false := HZA.out.res.free 1
            have z2 : wA.frozen? ⟨r, 2, none⟩ = false := HZA.out.res.free 2
            have z3 : wA.frozen? ⟨r, 3, none⟩ = false := HZA.out.res.free 3
            have z4 : wA.frozen? ⟨r, 4, none⟩ = false := HZA.out.res.free 4
            have z5 : wA.frozen? ⟨r, 5, none⟩ = false := HZA.out.res.free 5
            have z6 : wA.frozen? ⟨r, 6, none⟩ = false := HZA.out.res.free 6
            have z7 : wA.frozen? ⟨r, 7, none⟩ = false := HZA.out.res.free 7
            have z8 : wA.frozen? ⟨r, 8, none⟩ = false := HZA.out.res.free 8
            have z9 : wA.frozen? ⟨r, 9, none⟩ = false := HZA.out.res.free 9
            have z10 : wA.frozen? ⟨r, 10, none⟩ = false := HZA.out.res.free 10
            have z11 : wA.frozen? ⟨r, 11, none⟩ = false := HZA.out.res.free 11
            have z12 : wA.frozen? ⟨r, 12, none⟩ = false := HZA.out.res.free 12
            have z13 : wA.frozen? ⟨r, 13, none⟩ = false := HZA.out.res.free 13
            have HOUT := Lib.hid (HZA.out.out q2)
            clear HZA
            go_wp2
            refine bodyPost_ret (v := .tuple #[.agg (cells13 q2), .int .i64 0]) ?_ rfl ⟨by rw [HE.out], HOUT.out⟩
            rw [results_cell_tmp rfl]
            go_simp
          · have HE : Hid (readQ m (N : Int) = (chkQ q2 (N : Int), zeroQ)) := HSPEC.out.trans (if_neg hc)
            have hne : ((chkQ q2 (N : Int)) != 0) = true := by simp [bne, hc]
            have HZA := Lib.hid HKA.out.z
            clear hc HSPEC HKA
            generalize chkQ q2 (N : Int) = cf at *
            have d0 : wA.cell? ⟨r, 0, none⟩ = some (.int .i64 0) := HZA.out.res.cell 0
            have d1 : wA.cell? ⟨r, 1, none⟩ = some (.int .i64 0) := HZA.out.res.cell 1
            have d2 : wA.cell? ⟨r, 2, none⟩ = some (.bool false) := HZA.out.res.cell 2
            have d3 : wA.cell? ⟨r, 3, none⟩ = some (.bool false) := HZA.out.res.cell 3
            have d4 : wA.cell? ⟨r, 4, none⟩ = some (.bool false) := HZA.out.res.cell 4
            have d5 : wA.cell? ⟨r, 5, none⟩ = some (.bool false) := HZA.out.res.cell 5
            have d6 : wA.cell? ⟨r, 6, none⟩ = some (.bool false) := HZA.out.res.cell 6
            have d7 : wA.cell? ⟨r, 7, none⟩ = some (.bool false) := HZA.out.res.cell 7
            have d8 : wA.cell? ⟨r, 8, none⟩ = some (.bool false) := HZA.out.res.cell 8
            have d9 : wA.cell? ⟨r, 9, none⟩ = some (.bool false) := HZA.out.res.cell 9
            have d10 : wA.cell? ⟨r, 10, none⟩ = some (.string ⟨#[]⟩) := HZA.out.res.cell 10
            have d11 : wA.cell? ⟨r, 11, none⟩ = some (.string ⟨#[]⟩) := HZA.out.res.cell 11
            have d12 : wA.cell? ⟨r, 12, none⟩ = some (.string ⟨#[]⟩) := HZA.out.res.cell 12
            have d13 : wA.cell? ⟨r, 13, none⟩ = some (.string ⟨#[]⟩) := HZA.out.res.cell 13
            have z0 : wA.frozen? ⟨r, 0, none⟩ = false := HZA.out.res.free 0
            have z1 : wA.frozen? ⟨r, 1, none⟩ = false := HZA.out.res.free 1
            have z2 : wA.frozen? ⟨r, 2, none⟩ = false := HZA.out.res.free 2
            have z3 : wA.frozen? ⟨r, 3, none⟩ = false := HZA.out.res.free 3
            have z4 : wA.frozen? ⟨r, 4, none⟩ = false := HZA.out.res.free 4
            have z5 : wA.frozen? ⟨r, 5, none⟩ = false := HZA.out.res.free 5
            have z6 : wA.frozen? ⟨r, 6, none⟩ = false := HZA.out.res.free 6
            have z7 : wA.frozen? ⟨r, 7, none⟩ = false := HZA.out.res.free 7
            have z8 : wA.frozen? ⟨r, 8, none⟩ = false := HZA.out.res.free 8
            have z9 : wA.frozen? ⟨r, 9, none⟩ = false := HZA.out.res.free 9
            have z10 : wA.frozen? ⟨r, 10, none⟩ = false := HZA.out.res.free 10
            have z11 : wA.frozen? ⟨r, 11, none⟩ = false := HZA.out.res.free 11
            have z12 : wA.frozen? ⟨r, 12, none⟩ = false := HZA.out.res.free 12
            have z13 : wA.frozen? ⟨r, 13, none⟩ = false := HZA.out.res.free 13
            have HOUT := Lib.hid (HZA.out.out zeroQ)
            clear HZA
            go_wp2
            refine bodyPost_ret (v := .tuple #[.agg zcells13, .int .i64 cf]) ?_ rfl ⟨by rw [HE.out]; rfl, HOUT.out⟩
            rw [results_cell_tmp rfl]
            go_simp
    · rw [if_pos hf] at HSPEC
      have hne : ((sf : Int) != 0) = true := by simp [bne, hf]
      have HZ7 := Lib.hid HM7.out.z
      clear hf HM7 HK7
      have d0 : w7.cell? ⟨r, 0, none⟩ = some (.int .i64 0) := HZ7.out.res.cell 0
      have d1 : w7.cell? ⟨r, 1, none⟩ = some (.int .i64 0) := HZ7.out.res.cell 1
      have d2 : w7.cell? ⟨r, 2, none⟩ = some (.bool false) := HZ7.out.res.cell 2
      have d3 : w7.cell? ⟨r, 3, none⟩ = some (.bool false) := HZ7.out.res.cell 3
      have d4 : w7.cell? ⟨r, 4, none⟩ = some (.bool false) := HZ7.out.res.cell 4
      have d5 : w7.cell? ⟨r, 5, none⟩ = some (.bool false) := HZ7.out.res.cell 5
      have d6 : w7.cell? ⟨r, 6, none⟩ = some (.bool false) := HZ7.out.res.cell 6
      have d7 : w7.cell? ⟨r, 7, none⟩ = some (.bool false) := HZ7.out.res.cell 7
      have d8 : w7.cell? ⟨r, 8, none⟩ = some (.bool false) := HZ7.out.res.cell 8
      have d9 : w7.cell? ⟨r, 9, none⟩ = some (.bool false) := HZ7.out.res.cell 9
      have d10 : w7.cell? ⟨r, 10, none⟩ = some (.string ⟨#[]⟩) := HZ7.out.res.cell 10
      have d11 : w7.cell? ⟨r, 11, none⟩ = some (.string ⟨#[]⟩) := HZ7.out.res.cell 11
      have d12 : w7.cell? ⟨r, 12, none⟩ = some (.string ⟨#[]⟩) := HZ7.out.res.cell 12
      have d13 : w7.cell? ⟨r, 13, none⟩ = some (.string ⟨#[]⟩) := HZ7.out.res.cell 13
      have z0 : w7.frozen? ⟨r, 0, none⟩ = false := HZ7.out.res.free 0
      have z1 : w7.frozen? ⟨r, 1, none⟩ = false := HZ7.out.res.free 1
      have z2 : w7.frozen? ⟨r, 2, none⟩ = false := HZ7.out.res.free 2
      have z3 : w7.frozen? ⟨r, 3, none⟩ = false := HZ7.out.res.free 3
      have z4 : w7.frozen? ⟨r, 4, none⟩ = false := HZ7.out.res.free 4
      have z5 : w7.frozen? ⟨r, 5, none⟩ = false := HZ7.out.res.free 5
      have z6 : w7.frozen? ⟨r, 6, none⟩ = false := HZ7.out.res.free 6
      have z7 : w7.frozen? ⟨r, 7, none⟩ = false := HZ7.out.res.free 7
      have z8 : w7.frozen? ⟨r, 8, none⟩ = false := HZ7.out.res.free 8
      have z9 : w7.frozen? ⟨r, 9, none⟩ = false := HZ7.out.res.free 9
      have z10 : w7.frozen? ⟨r, 10, none⟩ = false := HZ7.out.res.free 10
      have z11 : w7.frozen? ⟨r, 11, none⟩ = false := HZ7.out.res.free 11
      have z12 : w7.frozen? ⟨r, 12, none⟩ = false := HZ7.out.res.free 12
      have z13 : w7.frozen? ⟨r, 13, none⟩ = false := HZ7.out.res.free 13
      have HOUT := Lib.hid (HZ7.out.out zeroQ)
      clear HZ7
      go_wp2
      refine bodyPost_ret (v := .tuple #[.agg zcells13, .int .i64 (sf : Int)]) ?_ rfl ⟨by rw [HSPEC.out]; rfl, HOUT.out⟩
      rw [results_cell_tmp rfl]
      go_simp
  · rw [okDims_no hn, if_neg (by simp)] at HCD
    have HE : Hid (readQ m n = (1, zeroQ)) := by
      show _ = _
      unfold readQ
      rw [okDims_no hn, if_neg (by simp)]
    clear hn
    go_enter Try.func15, Try.ntmps15
    go_wp2_with fail
    rw [← HW.out, ← HR.out]
    refine HCD.out.mono ?_
    rintro e w2 ⟨rfl, t2⟩
    have HZ2 : Hid (Rz13 w r w2) := ⟨HZ1.out.res.turn t2 (fun f => f), HZ1.out.turn.trans t2 (fun _ _ f => f), HZ1.out.nr⟩
    clear t2 HCD HZ1 HW HR
    have d0 : w2.cell? ⟨r, 0, none⟩ = some (.int .i64 0) := HZ2.out.res.cell 0
    have d1 : w2.cell? ⟨r, 1, none⟩ = some (.int .i64 0) := HZ2.out.res.cell 1
    have d2 : w2.cell? ⟨r, 2, none⟩ = some (.bool false) := HZ2.out.res.cell 2
    have d3 : w2.cell? ⟨r, 3, none⟩ = some (.bool false) := HZ2.out.res.cell 3
    have d4 : w2.cell? ⟨r, 4, none⟩ = some (.bool false) := HZ2.out.res.cell 4
    have d5 : w2.cell? ⟨r, 5, none⟩ = some (.bool false) := HZ2.out.res.cell 5
    have d6 : w2.cell? ⟨r, 6, none⟩ = some (.bool false) := HZ2.out.res.cell 6
    have d7 : w2.cell? ⟨r, 7, none⟩ = some (.bool false) := HZ2.out.res.cell 7
    have d8 : w2.cell? ⟨r, 8, none⟩ = some (.bool false) := HZ2.out.res.cell 8
    have d9 : w2.cell? ⟨r, 9, none⟩ = some (.bool false) := HZ2.out.res.cell 9
    have d10 : w2.cell? ⟨r, 10, none⟩ = some (.string ⟨#[]⟩) := HZ2.out.res.cell 10
    have d11 : w2.cell? ⟨r, 11, none⟩ = some (.string ⟨#[]⟩) := HZ2.out.res.cell 11
    have d12 : w2.cell? ⟨r, 12, none⟩ = some (.string ⟨#[]⟩) := HZ2.out.res.cell 12
    have d13 : w2.cell? ⟨r, 13, none⟩ = some (.string ⟨#[]⟩) := HZ2.out.res.cell 13
    have z0 : w2.frozen? ⟨r, 0, none⟩ = false := HZ2.out.res.free 0
    have z1 : w2.frozen? ⟨r, 1, none⟩ = false := HZ2.out.res.free 1
    have z2 : w2.frozen? ⟨r, 2, none⟩ = false := HZ2.out.res.free 2
    have z3 : w2.frozen? ⟨r, 3, none⟩ = false := HZ2.out.res.free 3
    have z4 : w2.frozen? ⟨r, 4, none⟩ = false := HZ2.out.res.free 4
    have z5 : w2.frozen? ⟨r, 5, none⟩ = false := HZ2.out.res.free 5
    have z6 : w2.frozen? ⟨r, 6, none⟩ = false := HZ2.out.res.free 6
    have z7 : w2.frozen? ⟨r, 7, none⟩ = false := HZ2.out.res.free 7
    have z8 : w2.frozen? ⟨r, 8, none⟩ = false := HZ2.out.res.free 8
    have z9 : w2.frozen? ⟨r, 9, none⟩ = false := HZ2.out.res.free 9
    have z10 : w2.frozen? ⟨r, 10, none⟩ = false := HZ2.out.res.free 10
    have z11 : w2.frozen? ⟨r, 11, none⟩ = false := HZ2.out.res.free 11
    have z12 : w2.frozen? ⟨r, 12, none⟩ = false := HZ2.out.res.free 12
    have z13 : w2.frozen? ⟨r, 13, none⟩ = false := HZ2.out.res.free 13
    have HOUT := Lib.hid (HZ2.out.out zeroQ)
    clear HZ2
    go_wp2
    refine bodyPost_ret (v := .tuple #[.agg zcells13, .int .i64 1]) ?_ rfl ⟨by rw [HE.out]; rfl, HOUT.out⟩
    rw [results_cell_tmp rfl]
    go_simp

end Go.Proofs.Ytieffpngknglpaa
