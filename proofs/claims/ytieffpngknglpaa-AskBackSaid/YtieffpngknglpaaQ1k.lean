
/-
  Stage 13: the program's readDims.
-/
import Derived.Test.YtieffpngknglpaaQ1i
namespace Go.Proofs.Ytieffpngknglpaa
open Go.RowKit

set_option maxRecDepth 100000

/-- In readDims: what is read, its result's box, the reader. -/
structure Iq13 (w wr : World) (p b r : Nat) (q : Q13) (s : RS9) (W : World) : Prop where
  box : Box W b 25 (cells13 q)
  res : Box W r 25 (cells13 zeroQ)
  pr : PR w p W s
  turn : Turn (fun g => g = p) wr W
  nb : wr.heap.size ≤ b
  nr : wr.heap.size ≤ r
  ne : r ≠ b
  lo : w.heap.size ≤ wr.heap.size
section
variable {w wr W W2 : World} {p b r : Nat} {q : Q13} {s s2 : RS9}
theorem Iq13.read (h : Iq13 w wr p b r q s W) (hx : PR w p W2 s2) (ht : Turn (fun g => g = p) W W2) : Iq13 w wr p b r q s2 W2 :=
  ⟨h.box.turn ht (h.pr.off h.box (by decide)), h.res.turn ht (h.pr.off h.res (by decide)), hx, h.turn.trans ht (fun _ _ e => e), h.nb, h.nr, h.ne, h.lo⟩
theorem Iq13.set (h : Iq13 w wr p b r q s W) (i : Nat) (u : Value) {q2 : Q13} (hc : (cells13 q).setIfInBounds i u = cells13 q2) : Iq13 w wr p b r q2 s (W.setCell ⟨b, i, none⟩ u) := by
  have ht : Turn (fun g => g = b) W (W.setCell ⟨b, i, none⟩ u) := Turn.setCell (S := fun g => g = b) (p := ⟨b, i, none⟩) (Turn.refl _ W) (fun _ => rfl) u
  refine ⟨?_, h.res.turn ht h.ne, h.pr.keep ht (fun g e => by rw [e]; have := h.nb; have := h.lo; omega) (fun g e => ⟨25, cells13 q, by decide, by decide, e ▸ h.box⟩), h.turn.trans ht (fun k hk e => by have := h.nb; omega), h.nb, h.nr, h.ne, h.lo⟩
  rw [← hc]
  exact h.box.set i u
/-- The result laid into its cell. -/
theorem Iq13.out (h : Iq13 w wr p b r q s W) (u : Q13) : PR w p (W.setCells r 0 (cells13 u).toList) s ∧ Turn (fun g => g = p) wr (W.setCells r 0 (cells13 u).toList) ∧ Box (W.setCells r 0 (cells13 u).toList) r 25 (cells13 u) := by
  have ht := turn_setCells (S := fun g => g = r) rfl (cells13 u).toList 0 W
  exact ⟨h.pr.keep ht (fun g e => by rw [e]; have := h.nr; have := h.lo; omega) (fun g e => ⟨25, cells13 zeroQ, by decide, by decide, e ▸ h.res⟩), h.turn.trans ht (fun k hk e => by have := h.nr; omega), h.res.all _ rfl⟩
end
abbrev zcells13 : Array Value := #[.int .i64 0, .int .i64 0, .bool false, .bool false, .bool false, .bool false, .bool false, .bool false, .bool false, .bool false, .string ⟨#[]⟩, .string ⟨#[]⟩, .string ⟨#[]⟩, .string ⟨#[]⟩]
/-- Behind readDims. -/
def QRead13 (w : World) (p : Nat) (wr : World) (N : Nat) (s : RS9) (e : Ending) (w' : World) : Prop := e = .returned (qv13 (dimsR13 s N).1) ∧ PR w p w' (dimsR13 s N).2 ∧ Turn (fun g => g = p) wr w'

set_option maxHeartbeats 16000000 in
theorem readDims_any13 {w wa : World} {p : Nat} {s : RS9} (N : Nat) (hN : N ≤ 4) (h : PR w p wa s) : Calls Try.prog 31 #[.pointer (some ⟨p, 0, none⟩), .int .i64 (N : Int)] wa fun e w' => QRead13 w p wa N s e w' := by
  obtain ⟨w1, hw1⟩ : ∃ w1, w1 = (wa.alloc (.cells zcells13 25)).alloc (.cells zcells13 25) := ⟨_, rfl⟩
  have hin : Iq13 w wa p (wa.heap.size + 1) wa.heap.size zeroQ s w1 := by
    have t1 := ((Turn.refl (fun _ => False) wa).alloc (.cells zcells13 25)).alloc (.cells zcells13 25)
    rw [← hw1] at t1
    refine ⟨?_, ?_, h.later t1, t1.mono (fun _ _ f => f.elim), Nat.le_succ _, Nat.le_refl _, Nat.ne_of_lt (Nat.lt_succ_self _), h.turn.size⟩
    · have hb := Box.new (wa.alloc (.cells zcells13 25)) 25 zcells13
      rw [World.size_alloc] at hb
      rw [hw1]
      exact hb
    · rw [hw1]
      exact (Box.new wa 25 zcells13).alloc _
  obtain ⟨b, hb⟩ : ∃ b, b = wa.heap.size + 1 := ⟨_, rfl⟩
  obtain ⟨r, hr⟩ : ∃ r, r = wa.heap.size := ⟨_, rfl⟩
  rw [← hb, ← hr] at hin
  have HIN := Lib.hid hin
  have HW := Lib.hid hw1
  have HB := Lib.hid hb
  have HR := Lib.hid hr
  clear hin hw1 hb hr h
  go_enter Try.func31, Try.ntmps31
  go_wp2_with fail
  rw [← HW.out, ← HB.out, ← HR.out]
  clear HW HB HR
  go_loopw [11] (fun x11 wk => ∃ i : Nat, x11 = .int .i64 (i : Int) ∧ i ≤ N ∧ Iq13 w wa p b r (dimsR13 s i).1 (dimsR13 s i).2 wk) (fun x11 _ => N - (intOf x11).toNat)
  case atStart => exact ⟨0, rfl, Nat.zero_le _, HIN.out⟩
  case round =>
    clear HIN
    obtain ⟨i, rfl, hi, hm⟩ := hrel
    have HM := Lib.hid hm
    clear hm
    by_cases hlt : i < N
    · have h4 : i < 4 := by omega
      have hil : (i : Int) < N := by omega
      have hi4 : (i : Int) < 4 := by omega
      have HST : Hid (dimsR13 s (i + 1) = dimR13 (dimsR13 s i).1 i (dimsR13 s i).2) := rfl
      obtain ⟨q, hq⟩ : ∃ q, q = (dimsR13 s i).1 := ⟨_, rfl⟩
      obtain ⟨t, ht⟩ : ∃ t, t = (dimsR13 s i).2 := ⟨_, rfl⟩
      rw [← hq, ← ht] at HM HST
      clear hq ht
      go_wp2_with fail
      refine (ps_flag HM.out.pr).mono ?_
      rintro e w5 ⟨rfl, h5, t5⟩
      have hm5 := HM.out.read h5 t5
      have HM5 := Lib.hid hm5
      have e1 := (hm5.box.cell (2 + i)).trans (q_group13 q h4)
      have f1 := hm5.box.free (2 + i)
      have hm6 := hm5.set (2 + i) (.bool (sFlag t)) (put_group13 q (sFlag t) h4)
      have HM6 := Lib.hid hm6
      clear h5 t5 hm5 hm6 HM HM5
      generalize q.g.nth i = Y at *
      go_wp2_with fail
      obtain ⟨w6, hw6⟩ : ∃ w6, w6 = w5.setCell ⟨b, 2 + i, none⟩ (.bool (sFlag t)) := ⟨_, rfl⟩
      rw [← hw6]
      rw [← hw6] at HM6
      clear hw6 e1 f1
      refine (ps_flag HM6.out.pr).mono ?_
      rintro e w7 ⟨rfl, h7, t7⟩
      have hm7 := HM6.out.read h7 t7
      have e2 := (hm7.box.cell (6 + i)).trans (q_has13 _ h4)
      have f2 := hm7.box.free (6 + i)
      have HM8 := Lib.hid (hm7.set (6 + i) (.bool (sFlag (sFlag' t))) (put_has13 _ (sFlag (sFlag' t)) h4))
      clear h7 t7 hm7 HM6
      dsimp only at e2 HM8
      generalize q.h.nth i = Z at *
      unfold dimR13 at HST
      cases hH : sFlag (sFlag' t) with
      | false =>
        rw [hH] at HM8 HST
        rw [if_neg (by simp)] at HST
        have HM9 : Hid (Iq13 w wa p b r (dimsR13 s (i + 1)).1 (dimsR13 s (i + 1)).2 (w7.setCell ⟨b, 6 + i, none⟩ (.bool false))) := by rw [HST.out]; exact HM8.out
        clear HM8 HST hH
        go_wp2_with fail
        go_roundw
        case rel => exact ⟨i + 1, by go_num, hlt, HM9.out⟩
        case measure => simp [intOf]; omega
      | true =>
        rw [hH] at HM8 HST
        rw [if_pos rfl] at HST
        clear hH
        go_wp2_with fail
        obtain ⟨w8, hw8⟩ : ∃ w8, w8 = w7.setCell ⟨b, 6 + i, none⟩ (.bool true) := ⟨_, rfl⟩
        rw [← hw8]
        rw [← hw8] at HM8
        clear hw8 e2 f2
        refine (ps_text HM8.out.pr).mono ?_
        rintro e w9 ⟨rfl, h9, t9⟩
        have hm9 := HM8.out.read h9 t9
        have e3 := (hm9.box.cell (10 + i)).trans (q_text13 _ h4)
        have f3 := hm9.box.free (10 + i)
        have HMA := Lib.hid (hm9.set (10 + i) (sv9 (sText (sFlag' (sFlag' t)))) (put_text13 _ (sText (sFlag' (sFlag' t))) h4))
        clear h9 t9 hm9 HM8
        dsimp only at e3 HMA
        unfold sv9 at e3
        generalize q.f.nth i = X at *
        have HMB : Hid (Iq13 w wa p b r (dimsR13 s (i + 1)).1 (dimsR13 s (i + 1)).2 (w9.setCell ⟨b, 10 + i, none⟩ (sv9 (sText (sFlag' (sFlag' t)))))) := by rw [HST.out]; exact HMA.out
        clear HMA HST
        go_wp2_with fail
        go_roundw
        case rel => exact ⟨i + 1, by go_num, hlt, HMB.out⟩
        case measure => simp [intOf]; omega
    · obtain rfl : i = N := by omega
      obtain ⟨q, hq⟩ : ∃ q, q = (dimsR13 s i).1 := ⟨_, rfl⟩
      have HQ := Lib.hid hq
      rw [← hq] at HM
      clear hq
      have HOUT := Lib.hid (HM.out.out q)
      obtain ⟨b0, b1, b2, b3, b4, b5, b6, b7, b8, b9, b10, b11, b12, b13⟩ := box_query13 HM.out.box
      have d0 : wr.cell? ⟨r, 0, none⟩ = some (.int .i64 0) := HM.out.res.cell 0
      have d1 : wr.cell? ⟨r, 1, none⟩ = some (.int .i64 0) := HM.out.res.cell 1
      have d2 : wr.cell? ⟨r, 2, none⟩ = some (.bool false) := HM.out.res.cell 2
      have d3 : wr.cell? ⟨r, 3, none⟩ = some (.bool false) := HM.out.res.cell 3
      have d4 : wr.cell? ⟨r, 4, none⟩ = some (.bool false) := HM.out.res.cell 4
      have d5 : wr.cell? ⟨r, 5, none⟩ = some (.bool false) := HM.out.res.cell 5
      have d6 : wr.cell? ⟨r, 6, none⟩ = some (.bool false) := HM.out.res.cell 6
      have d7 : wr.cell? ⟨r, 7, none⟩ = some (.bool false) := HM.out.res.cell 7
      have d8 : wr.cell? ⟨r, 8, none⟩ = some (.bool false) := HM.out.res.cell 8
      have d9 : wr.cell? ⟨r, 9, none⟩ = some (.bool false) := HM.out.res.cell 9
      have d10 : wr.cell? ⟨r, 10, none⟩ = some (.string ⟨#[]⟩) := HM.out.res.cell 10
      have d11 : wr.cell? ⟨r, 11, none⟩ = some (.string ⟨#[]⟩) := HM.out.res.cell 11
      have d12 : wr.cell? ⟨r, 12, none⟩ = some (.string ⟨#[]⟩) := HM.out.res.cell 12
      have d13 : wr.cell? ⟨r, 13, none⟩ = some (.string ⟨#[]⟩) := HM.out.res.cell 13
      have z0 : wr.frozen? ⟨r, 0, none⟩ = false := HM.out.res.free 0
      have z1 : wr.frozen? ⟨r, 1, none⟩ = false := HM.out.res.free 1
      have z2 : wr.frozen? ⟨r, 2, none⟩ = false := HM.out.res.free 2
      have z3 : wr.frozen? ⟨r, 3, none⟩ = false := HM.out.res.free 3
      have z4 : wr.frozen? ⟨r, 4, none⟩ = false := HM.out.res.free 4
      have z5 : wr.frozen? ⟨r, 5, none⟩ = false := HM.out.res.free 5
      have z6 : wr.frozen? ⟨r, 6, none⟩ = false := HM.out.res.free 6
      have z7 : wr.frozen? ⟨r, 7, none⟩ = false := HM.out.res.free 7
      have z8 : wr.frozen? ⟨r, 8, none⟩ = false := HM.out.res.free 8
      have z9 : wr.frozen? ⟨r, 9, none⟩ = false := HM.out.res.free 9
      have z10 : wr.frozen? ⟨r, 10, none⟩ = false := HM.out.res.free 10
      have z11 : wr.frozen? ⟨r, 11, none⟩ = false := HM.out.res.free 11
      have z12 : wr.frozen? ⟨r, 12, none⟩ = false := HM.out.res.free 12
      have z13 : wr.frozen? ⟨r, 13, none⟩ = false := HM.out.res.free 13
      clear HM
      go_wp2
      refine bodyPost_ret (v := .agg (cells13 q)) ?_ rfl ⟨by rw [HQ.out], HOUT.out.1, HOUT.out.2.1⟩
      rw [results_one13 rfl]
      go_simp

end Go.Proofs.Ytieffpngknglpaa
