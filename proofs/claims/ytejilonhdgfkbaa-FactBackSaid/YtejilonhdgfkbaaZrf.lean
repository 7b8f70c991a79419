
/-
  Stage 9: the program's readFact.
-/
import Derived.Test.YtejilonhdgfkbaaZm
import Derived.Test.YtejilonhdgfkbaaZck
import Derived.Test.YtejilonhdgfkbaaEx
import Derived.Test.YtejilonhdgfkbaaEs
import Derived.Laws.ResultCell
namespace Go.Proofs.Ytejilonhdgfkbaa
open Go.RowKit Go.ChangeShapes Go.WideShapes Go.Deep

set_option maxRecDepth 100000

section
variable {w wr : World} {p : Nat} {s : RS9}
theorem ps_num (h : PR w p wr s) : Calls Try.prog 93 #[.pointer (some ⟨p, 0, none⟩)] wr fun e w' => e = .returned (.int .u64 (sNum s : Int)) ∧ PR w p w' (sNum' s) ∧ Turn (fun g => g = p) wr w' := pr_num h
theorem ps_int (h : PR w p wr s) : Calls Try.prog 95 #[.pointer (some ⟨p, 0, none⟩)] wr fun e w' => e = .returned (.int .i64 (sInt s)) ∧ PR w p w' (sNum' s) ∧ Turn (fun g => g = p) wr w' := pr_int h
theorem ps_text (h : PR w p wr s) : Calls Try.prog 94 #[.pointer (some ⟨p, 0, none⟩), .int .i64 16] wr fun e w' => e = .returned (.string ⟨(sText s).toArray⟩) ∧ PR w p w' (sText' s) ∧ Turn (fun g => g = p) wr w' := pr_text 16 (by omega) h
theorem ps_count (h : PR w p wr s) : Calls Try.prog 65 #[.pointer (some ⟨p, 0, none⟩), .int .i64 50] wr fun e w' => e = .returned (.int .i64 (sCount s : Int)) ∧ PR w p w' (sCount' s) ∧ Turn (fun g => g = p) wr w' := pr_count 50 (by omega) h
end

/-- A fact as the program reads it, what is wrong, and the state behind it. -/
def zeroK : K9 := ⟨0, [], [], [], []⟩
def zeroF : F9 := ⟨zeroK, 0⟩
def factR (N : Nat) (s : RS9) : F9 × Nat × RS9 := if 16777216 < sNum s then (zeroF, 2, sNum' s) else ((oneF N (sNum s) (sNum' s)).1, (oneF N (sNum s) (sNum' s)).2.2, (oneF N (sNum s) (sNum' s)).2)

section
variable {w wr W W2 : World} {p b r : Nat} {x8 : Value} {out : List F9} {k : K9} {v : Int} {s s2 : RS9}
theorem PR.off (h : PR w p W s) {t : TypeId} {cs : Array Value} (hb : Box W b t cs) (hn : t ≠ 96) : b ≠ p := fun e => by
  obtain ⟨cs2, h2⟩ := h.box
  subst e
  have e2 := h2.symm.trans hb
  injection e2 with e2
  injection e2 with _ e3
  exact hn e3.symm
theorem PR.row (h : PR w p W s) (hn : NewE EF 33 w W x8 out) : ∀ k, x8.ownBlock = some k → k ≠ p := fun k hk e => by
  obtain ⟨cs2, h2⟩ := h.box
  exact hn.own.not_box h2 (by decide) (e ▸ hk)
end
structure InQ (w wr : World) (p b r : Nat) (k : K9) (v : Int) (s : RS9) (W : World) : Prop where
  box : Box W b 33 (cells9 k v)
  res : Box W r 33 (cells9 zeroK 0)
  pr : PR w p W s
  turn : Turn (fun g => g = p) wr W
  nb : wr.heap.size ≤ b
  nr : wr.heap.size ≤ r
  ne : r ≠ b
  lo : w.heap.size ≤ wr.heap.size
section
variable {w wr W W2 : World} {p b r : Nat} {k : K9} {v : Int} {s s2 : RS9}
theorem InQ.read (h : InQ w wr p b r k v s W) (hx : PR w p W2 s2) (ht : Turn (fun g => g = p) W W2) : InQ w wr p b r k v s2 W2 :=
  ⟨h.box.turn ht (h.pr.off h.box (by decide)), h.res.turn ht (h.pr.off h.res (by decide)), hx, h.turn.trans ht (fun _ _ e => e), h.nb, h.nr, h.ne, h.lo⟩
theorem InQ.set (h : InQ w wr p b r k v s W) (i : Nat) (u : Value) {k2 : K9} {v2 : Int} (hc : (cells9 k v).setIfInBounds i u = cells9 k2 v2) : InQ w wr p b r k2 v2 s (W.setCell ⟨b, i, none⟩ u) := by
  have ht : Turn (fun g => g = b) W (W.setCell ⟨b, i, none⟩ u) := Turn.setCell (S := fun g => g = b) (p := ⟨b, i, none⟩) (Turn.refl _ W) (fun _ => rfl) u
  refine ⟨?_, h.res.turn ht h.ne, h.pr.keep ht (fun g e => by rw [e]; have := h.nb; have := h.lo; omega) (fun g e => ⟨33, cells9 k v, by decide, by decide, e ▸ h.box⟩), h.turn.trans ht (fun k hk e => by have := h.nb; omega), h.nb, h.nr, h.ne, h.lo⟩
  rw [← hc]
  exact h.box.set i u
/-- The result laid into its cell. -/
theorem InQ.out (h : InQ w wr p b r k v s W) (k2 : K9) (v2 : Int) : PR w p (W.setCells r 0 (cells9 k2 v2).toList) s ∧ Turn (fun g => g = p) wr (W.setCells r 0 (cells9 k2 v2).toList) ∧ Box (W.setCells r 0 (cells9 k2 v2).toList) r 33 (cells9 k2 v2) := by
  have ht := turn_setCells (S := fun g => g = r) rfl (cells9 k2 v2).toList 0 W
  exact ⟨h.pr.keep ht (fun g e => by rw [e]; have := h.nr; have := h.lo; omega) (fun g e => ⟨33, cells9 zeroK 0, by decide, by decide, e ▸ h.res⟩), h.turn.trans ht (fun k hk e => by have := h.nr; omega), h.res.all _ rfl⟩
end

/-- Behind readFact. -/
def FactRead (w : World) (p : Nat) (wr : World) (N : Nat) (s : RS9) (e : Ending) (w' : World) : Prop := e = .returned (.tuple #[fv9 (factR N s).1, .int .i64 ((factR N s).2.1 : Int)]) ∧ PR w p w' (factR N s).2.2 ∧ Turn (fun g => g = p) wr w'

set_option maxHeartbeats 8000000 in
theorem readFact_any9 {w wa : World} {p : Nat} {s : RS9} (N : Nat) (hN : N ≤ 4) (h : PR w p wa s) : Calls Try.prog 66 #[.pointer (some ⟨p, 0, none⟩), .int .i64 (N : Int)] wa fun e w' => FactRead w p wa N s e w' := by
  obtain ⟨w1, hw1⟩ : ∃ w1, w1 = (wa.alloc (.cells #[.int .i64 0, .string ⟨#[]⟩, .string ⟨#[]⟩, .string ⟨#[]⟩, .string ⟨#[]⟩, .int .i64 0] 33)).alloc (.cells #[.int .i64 0, .string ⟨#[]⟩, .string ⟨#[]⟩, .string ⟨#[]⟩, .string ⟨#[]⟩, .int .i64 0] 33) := ⟨_, rfl⟩
  have hin : InQ w wa p (wa.heap.size + 1) wa.heap.size zeroK 0 s w1 := by
    have t1 := ((Turn.refl (fun _ => False) wa).alloc (.cells #[.int .i64 0, .string ⟨#[]⟩, .string ⟨#[]⟩, .string ⟨#[]⟩, .string ⟨#[]⟩, .int .i64 0] 33)).alloc (.cells #[.int .i64 0, .string ⟨#[]⟩, .string ⟨#[]⟩, .string ⟨#[]⟩, .string ⟨#[]⟩, .int .i64 0] 33)
    rw [← hw1] at t1
    refine ⟨?_, ?_, h.later t1, t1.mono (fun _ _ f => f.elim), Nat.le_succ _, Nat.le_refl _, Nat.ne_of_lt (Nat.lt_succ_self _), h.turn.size⟩
    · have hb := Box.new (wa.alloc (.cells #[.int .i64 0, .string ⟨#[]⟩, .string ⟨#[]⟩, .string ⟨#[]⟩, .string ⟨#[]⟩, .int .i64 0] 33)) 33 #[.int .i64 0, .string ⟨#[]⟩, .string ⟨#[]⟩, .string ⟨#[]⟩, .string ⟨#[]⟩, .int .i64 0]
      rw [World.size_alloc] at hb
      rw [hw1]
      exact hb
    · rw [hw1]
      exact (Box.new wa 33 #[.int .i64 0, .string ⟨#[]⟩, .string ⟨#[]⟩, .string ⟨#[]⟩, .string ⟨#[]⟩, .int .i64 0]).alloc _
  obtain ⟨b, hb⟩ : ∃ b, b = wa.heap.size + 1 := ⟨_, rfl⟩
  obtain ⟨r, hr⟩ : ∃ r, r = wa.heap.size := ⟨_, rfl⟩
  rw [← hb, ← hr] at hin
  have HIN := Lib.hid hin
  have HSI : Hid ((Try.prog.info? 33).map (·.size) = some 6) := by show _ = _; kernel_rfl
  have HW := Lib.hid hw1
  have HB := Lib.hid hb
  have HR := Lib.hid hr
  clear hin hw1 hb hr h
  go_enter Try.func66, Try.ntmps66
  go_wp2_with fail
  rw [← HW.out, ← HB.out, ← HR.out]
  refine (ps_num HIN.out.pr).mono ?_
  rintro e w2 ⟨rfl, h2, t2⟩
  have H2 := Lib.hid (HIN.out.read h2 t2)
  clear h2 t2 HIN HW HB HR
  by_cases hbig : 16777216 < sNum s
  · have hbi : (16777216 : Int) < (sNum s : Nat) := by omega
    have HE : Hid (factR N s = (zeroF, 2, sNum' s)) := if_pos hbig
    have HOUT := Lib.hid (H2.out.out zeroK 0)
    have c0 : w2.cell? ⟨b, 0, none⟩ = some (.int .i64 0) := H2.out.box.cell 0
    have c1 : w2.cell? ⟨b, 1, none⟩ = some (.string ⟨#[]⟩) := H2.out.box.cell 1
    have c2 : w2.cell? ⟨b, 2, none⟩ = some (.string ⟨#[]⟩) := H2.out.box.cell 2
    have c3 : w2.cell? ⟨b, 3, none⟩ = some (.string ⟨#[]⟩) := H2.out.box.cell 3
    have c4 : w2.cell? ⟨b, 4, none⟩ = some (.string ⟨#[]⟩) := H2.out.box.cell 4
    have c5 : w2.cell? ⟨b, 5, none⟩ = some (.int .i64 0) := H2.out.box.cell 5
    have d0 : w2.cell? ⟨r, 0, none⟩ = some (.int .i64 0) := H2.out.res.cell 0
    have z0 : w2.frozen? ⟨r, 0, none⟩ = false := H2.out.res.free 0
    have d1 : w2.cell? ⟨r, 1, none⟩ = some (.string ⟨#[]⟩) := H2.out.res.cell 1
    have z1 : w2.frozen? ⟨r, 1, none⟩ = false := H2.out.res.free 1
    have d2 : w2.cell? ⟨r, 2, none⟩ = some (.string ⟨#[]⟩) := H2.out.res.cell 2
    have z2 : w2.frozen? ⟨r, 2, none⟩ = false := H2.out.res.free 2
    have d3 : w2.cell? ⟨r, 3, none⟩ = some (.string ⟨#[]⟩) := H2.out.res.cell 3
    have z3 : w2.frozen? ⟨r, 3, none⟩ = false := H2.out.res.free 3
    have d4 : w2.cell? ⟨r, 4, none⟩ = some (.string ⟨#[]⟩) := H2.out.res.cell 4
    have z4 : w2.frozen? ⟨r, 4, none⟩ = false := H2.out.res.free 4
    have d5 : w2.cell? ⟨r, 5, none⟩ = some (.int .i64 0) := H2.out.res.cell 5
    have z5 : w2.frozen? ⟨r, 5, none⟩ = false := H2.out.res.free 5
    clear hbig
    have hrb : r ≠ b := H2.out.ne
    go_wp2
    refine bodyPost_ret (v := .tuple #[.agg #[.int .i64 0, .string ⟨#[]⟩, .string ⟨#[]⟩, .string ⟨#[]⟩, .string ⟨#[]⟩, .int .i64 0], .int .i64 2]) ?_ rfl ⟨by rw [HE.out]; rfl, by rw [HE.out]; exact HOUT.out.1, HOUT.out.2.1⟩
    rw [results_cell_tmp rfl]
    go_simp
  · have hbig' : ((sNum s : Nat) : Int) ≤ 16777216 := by omega
    have hwr : IntKind.i64.wrap ((sNum s : Nat) : Int) = ((sNum s : Nat) : Int) := IntWalk.i64_in _ (by omega)
    have HE : Hid (factR N s = (⟨(textsK ⟨(sNum s : Int), [], [], [], []⟩ (sNum' s) N).1, sInt (textsK ⟨(sNum s : Int), [], [], [], []⟩ (sNum' s) N).2⟩, (sNum' (textsK ⟨(sNum s : Int), [], [], [], []⟩ (sNum' s) N).2).2, sNum' (textsK ⟨(sNum s : Int), [], [], [], []⟩ (sNum' s) N).2)) := if_neg hbig
    have H3 := Lib.hid (H2.out.set 0 (.int .i64 (sNum s : Int)) (k2 := ⟨(sNum s : Int), [], [], [], []⟩) (v2 := 0) rfl)
    have c0 : w2.cell? ⟨b, 0, none⟩ = some (.int .i64 0) := H2.out.box.cell 0
    have z0 : w2.frozen? ⟨b, 0, none⟩ = false := H2.out.box.free 0
    clear hbig
    go_wp2_with fail
    obtain ⟨w3, hw3⟩ : ∃ w3, w3 = w2.setCell ⟨b, 0, none⟩ (.int .i64 (sNum s : Int)) := ⟨_, rfl⟩
    rw [← hw3]
    rw [← hw3] at H3
    clear H2 c0 z0 hw3 hbig' hwr
    go_loopw [19] (fun x19 wk => ∃ k : Nat, x19 = .int .i64 (k : Int) ∧ k ≤ N ∧ InQ w wa p b r (textsK ⟨(sNum s : Int), [], [], [], []⟩ (sNum' s) k).1 0 (textsK ⟨(sNum s : Int), [], [], [], []⟩ (sNum' s) k).2 wk) (fun x19 _ => N - (intOf x19).toNat)
    case atStart => exact ⟨0, rfl, Nat.zero_le _, H3.out⟩
    case round =>
      clear H3
      obtain ⟨k, rfl, hk, hm⟩ := hrel
      have HM := Lib.hid hm
      clear hm
      by_cases hkN : k < N
      · clear HE HSI
        have hki : (k : Int) < N := Int.ofNat_lt.mpr hkN
        have hk4 : (k : Int) < 4 := by omega
        have HST : Hid (textsK ⟨(sNum s : Int), [], [], [], []⟩ (sNum' s) (k + 1) = ((textsK ⟨(sNum s : Int), [], [], [], []⟩ (sNum' s) k).1.put k (sText (textsK ⟨(sNum s : Int), [], [], [], []⟩ (sNum' s) k).2), sText' (textsK ⟨(sNum s : Int), [], [], [], []⟩ (sNum' s) k).2)) := rfl
        obtain ⟨kk, hkk⟩ : ∃ kk, kk = textsK ⟨(sNum s : Int), [], [], [], []⟩ (sNum' s) k := ⟨_, rfl⟩
        rw [← hkk] at HM HST
        clear hkk
        go_wp2_with fail
        refine (ps_text HM.out.pr).mono ?_
        rintro e w5 ⟨rfl, h5, t5⟩
        have hm5 := HM.out.read h5 t5
        have HM5 := Lib.hid hm5
        have e1 := dim_cell (o := 1) (k := kk.1) hm5.box (fact_cells (f := ⟨kk.1, 0⟩)) k (by omega)
        have f1 := hm5.box.free (1 + k)
        unfold sv9 at e1
        clear h5 t5 hm5
        have hm6 := HM5.out.set (1 + k) (sv9 (sText kk.2)) (put_cells9 kk.1 0 (by omega) (sText kk.2))
        have HM6 := Lib.hid hm6
        clear hm6
        generalize sText kk.2 = T at *
        go_wp2_with fail
        go_roundw
        case rel => exact ⟨k + 1, by go_num, hkN, by rw [HST.out]; exact HM6.out⟩
        case measure => simp [intOf]; omega
      · obtain rfl : k = N := by omega
        generalize textsK ⟨(sNum s : Int), [], [], [], []⟩ (sNum' s) k = kk at *
        go_wp2_with fail
        refine (ps_int HM.out.pr).mono ?_
        rintro e w5 ⟨rfl, h5, t5⟩
        have hm5 := HM.out.read h5 t5
        have f1 : w5.frozen? ⟨b, 5, none⟩ = false := hm5.box.free 5
        have e1 : w5.cell? ⟨b, 5, none⟩ = some (.int .i64 0) := hm5.box.cell 5
        have HM5 := Lib.hid hm5
        clear h5 t5 hm5
        generalize sInt kk.2 = V at *
        have HM6 := Lib.hid (HM5.out.set 5 (.int .i64 V) (k2 := kk.1) (v2 := V) rfl)
        go_wp2_with fail
        obtain ⟨w6, hw6⟩ : ∃ w6, w6 = w5.setCell ⟨b, 5, none⟩ (.int .i64 V) := ⟨_, rfl⟩
        rw [← hw6]
        rw [← hw6] at HM6
        clear HM5 HM e1 f1 hw6
        obtain ⟨K, sk⟩ := kk
        dsimp only at *
        generalize hs2 : sNum' sk = s2 at *
        clear hs2
        refine drawn_region (fun W => Box W b 33 (cells9 K V)) [] (by kernel_rfl) ?_
        have HM7 : Hid (InQ w wa p b r K V s2 (World.drew w6)) := ⟨HM6.out.box.turn (Turn.refl (fun _ => False) w6).drew (fun f => f), HM6.out.res.turn (Turn.refl (fun _ => False) w6).drew (fun f => f), HM6.out.pr.later (Turn.refl _ w6).drew, HM6.out.turn.drew, HM6.out.nb, HM6.out.nr, HM6.out.ne, HM6.out.lo⟩
        generalize World.drew w6 = wd at *
        clear HM6
        have hS0 := HM7.out.box
        refine drawn_take 0 32 (.agg (cells9 K V)) rfl rfl (by kernel_rfl) (by kernel_rfl) (by kernel_rfl) (by kernel_rfl) (fun _ _ _ h => h) (by rfl) (by assumption) (by intro w hSw; have b0 : w.cell? ⟨b, 0, none⟩ = some (.int .i64 K.h) := hSw.cell 0; have b1 : w.cell? ⟨b, 1, none⟩ = some (sv9 K.a) := hSw.cell 1; have b2 : w.cell? ⟨b, 2, none⟩ = some (sv9 K.b) := hSw.cell 2; have b3 : w.cell? ⟨b, 3, none⟩ = some (sv9 K.c) := hSw.cell 3; have b4 : w.cell? ⟨b, 4, none⟩ = some (sv9 K.d) := hSw.cell 4; have b5 : w.cell? ⟨b, 5, none⟩ = some (.int .i64 V) := hSw.cell 5; clear hSw; go_simp) ?_
        try simp only [List.setIfInBounds_toArray, List.set_cons_zero, List.set_cons_succ]
        refine drawn_move 1 33 (.pointer (some ⟨p, 0, none⟩)) rfl rfl (by kernel_rfl) (by kernel_rfl) (by kernel_rfl) (by kernel_rfl) (fun _ _ _ h => h) (by rfl) (fun _ => by assumption) (by intro w; go_simp) ?_
        try simp only [List.setIfInBounds_toArray, List.set_cons_zero, List.set_cons_succ]
        obtain ⟨w9, hw9⟩ : ∃ w9, w9 = wd.setCells r 0 (cells9 K V).toList := ⟨_, rfl⟩
        have HOUT : Hid (True ∧ PR w p w9 s2 ∧ Turn (fun g => g = p) wa w9 ∧ Box w9 r 33 (cells9 K V) ∧ Box w9 b 33 (cells9 K V)) := by
          obtain ⟨g1, g2, g3⟩ := HM7.out.out K V
          rw [hw9]
          exact ⟨trivial, g1, g2, g3, HM7.out.box.turn (turn_setCells (S := fun g => g = r) rfl _ _ _) (fun e => HM7.out.ne e.symm)⟩
        have HTH : Hid (wd.there r 0 6) := HM7.out.res.there (Nat.le_refl 6)
        have HON : Hid ((cells9 K V).all (·.oneCell') = true) := all_oneCell_toArray (EF.one ⟨K, V⟩)
        have HW9 := Lib.hid hw9
        clear hw9
        refine drawn_any [2] (by kernel_rfl) (by simp) ?_
        refine drawn_cons rfl (fun K2 hK => ?_) drawn_nil
        go_simp
        refine (pr_fault HM7.out.pr).mono ?_
        rintro e w7 ⟨rfl, rfl⟩
        refine hK.out _ _ _ hS0 ?_
        clear hK K2 hS0
        try simp only [List.setIfInBounds_toArray, List.set_cons_zero, List.set_cons_succ]
        refine drawn_any [3] (by kernel_rfl) (by simp) ?_
        refine drawn_cons rfl (fun K2 hK => ?_) drawn_nil
        refine put_box r 0 (cells9 K V) HTH.out rfl rfl HSI.out HON.out ?_
        rw [← HW9.out]
        refine hK.out _ _ _ HOUT.out.2.2.2.2 ?_
        clear hK K2
        try simp only [List.setIfInBounds_toArray, List.set_cons_zero, List.set_cons_succ]
        refine drawn_last1 4 5 (.int .i64 (s2.2 : Int)) rfl rfl (by kernel_rfl) (by kernel_rfl) (by rfl) (by intro w; go_simp) HOUT.out.2.2.2.2 ?_
        try simp only [List.setIfInBounds_toArray, List.set_cons_zero, List.set_cons_succ]
        go_wp2
        obtain ⟨-, g1, g2, g3, -⟩ := HOUT.out
        refine bodyPost_ret (v := .tuple #[.agg (cells9 K V), .int .i64 (s2.2 : Int)]) ?_ rfl ⟨by rw [HE.out], by rw [HE.out]; exact g1, g2⟩
        rw [results_cell_tmp rfl]
        have b0 : w9.cell? ⟨r, 0, none⟩ = some (.int .i64 K.h) := g3.cell 0
        have b1 : w9.cell? ⟨r, 1, none⟩ = some (sv9 K.a) := g3.cell 1
        have b2 : w9.cell? ⟨r, 2, none⟩ = some (sv9 K.b) := g3.cell 2
        have b3 : w9.cell? ⟨r, 3, none⟩ = some (sv9 K.c) := g3.cell 3
        have b4 : w9.cell? ⟨r, 4, none⟩ = some (sv9 K.d) := g3.cell 4
        have b5 : w9.cell? ⟨r, 5, none⟩ = some (.int .i64 V) := g3.cell 5
        clear g1 g2 g3
        go_simp

end Go.Proofs.Ytejilonhdgfkbaa
