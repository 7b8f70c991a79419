/-
  Texts laid one behind the other: Ey Q1d.
-/
import Derived.Test.YtieffpngknglpaaJoacad
import Derived.Test.YtieffpngknglpaaJoacau
import Derived.Test.YtieffpngknglpaaJoacat

/-
  A guarded operation that is not wanted, in a region that draws. No type is named here.
-/
namespace Go.Proofs.Ytieffpngknglpaa
open Go.RowKit

/-- The walk stands still here. -/
def Halt11 (p : Prop) : Prop := p
theorem halt11 {p : Prop} (h : Halt11 p) : p := h

section
variable {P : Program} {ops : Array Oper} {Q : Exit → Act → World → Prop} {S : World → Prop} {zs : List Nat}
theorem drawn_skip (i d : Nat) {oi : Oper} {fuel : Nat} {listed : Array Bool} {ts : Array Value} {ds : List Deferred} {w : World} (hi0 : nthL ops.toList i = some oi) (hd : oi.dst = some d)
    (hs : Region.noSelect ops = true) (hf : Region.free .any ops listed i = true) (hr : (Region.ready .any ops listed).contains i = true) (hz : (!zs.contains i) = true)
    (hQ : ∀ c (a : Act) w, Q (.panic c) (a.put oi.dst undef) w → Q (.panic c) a w) (hw : Region.wanted oi (yielded ops ts) = false) (hS : freshB zs listed = true → S w)
    (h : Drawn P ops Q S zs fuel (listed.setIfInBounds i true) (ts.setIfInBounds d undef) ds w) : Drawn P ops Q S zs (fuel + 1) listed ts ds w := fun hc => by
  have hi := nth_at hi0
  have hm : i ∈ Region.ready .any ops listed := by simpa using hr
  refine wpAnyG_first hi (Region.noSelect_spec hs) hQ (by simpa using hz) (fun _ => True) (fun _ _ _ _ _ => trivial) fuel listed _ w hc (Region.free_spec hi hf) hm (.inr ⟨hw, rfl⟩) hS ?_
  have h2 := h (hc.step hm)
  rw [hd]
  exact h2
end

section
variable {P : Program} {T : Type} {E : El T} {tS e : TypeId} {ops : Array Oper} {rest : List Oper} {Q : Exit → Act → World → Prop} {op : Oper} {a : Act} {w : World} {A : Option Addr} {n c i : Nat} {L : List T}
/-- A slice's tail, in a region that draws nothing. -/
theorem wpList_cut (ht : P.underlying tS = some (.slice e)) (hz : (P.info? e).map (·.size) = some E.sz) (hgd : op.guard = none) (xo ko : Operand) (ho : op.op = .slice tS xo (some ko) none none) (hrd : RdE E w (.slice A n c) L) (hx : a.eval xo = .slice A n c) (hk : a.eval ko = .int .i64 (i : Int)) (hi : i ≤ n)
    (h : ∀ B, RdE E w (.slice B (n - i) (c - i)) (L.drop i) → (∀ g, (Value.slice B (n - i) (c - i)).ownBlock = some g → (Value.slice A n c).ownBlock = some g) → wpList P ops Q rest (a.put op.dst (.slice B (n - i) (c - i))) w) : wpList P ops Q (op :: rest) a w :=
  wpList_plain hgd fun K hK => by
    unfold Oper.wp
    rw [exec_tail (E := E) ho hx hk ht hz hi w]
    refine hK _ _ (h _ (rd_tailV hrd hi) (fun g hg => ?_))
    by_cases e : c = i
    · rw [if_pos e] at hg
      cases A with
      | none => simp [Value.ownBlock] at hg
      | some ad => simpa [Value.ownBlock] using hg
    · rw [if_neg e] at hg
      cases A with
      | none => simp [Value.ownBlock] at hg
      | some ad => simpa [Value.ownBlock, eadd_block] using hg
/-- No elements: whatever the world. -/
theorem rd_empty {w' : World} {v : Value} (h : RdE E w v []) : RdE E w' v [] := by
  obtain ⟨A, c, e, h1, h2, _⟩ := h
  exact ⟨A, c, e, h1, h2, fun _ _ i u hi => by simp [El.flat] at hi⟩
/-- A slice's front, in a region that draws nothing. -/
theorem wpList_front (ht : P.underlying tS = some (.slice e)) (hz : (P.info? e).map (·.size) = some E.sz) (hgd : op.guard = none) (xo ko : Operand) (ho : op.op = .slice tS xo none (some ko) none) (hrd : RdE E w (.slice A n c) L) (hx : a.eval xo = .slice A n c) (hk : a.eval ko = .int .i64 (i : Int)) (hi : i ≤ n)
    (h : RdE E w (.slice A i c) (L.take i) → wpList P ops Q rest (a.put op.dst (.slice A i c)) w) : wpList P ops Q (op :: rest) a w :=
  wpList_plain hgd fun K hK => by
    unfold Oper.wp
    rw [exec_front (E := E) ho hx hk ht hz (Nat.le_trans hi (by have := hrd.fits; omega)) w]
    exact hK _ _ (h (hrd.front i hi))
end

end Go.Proofs.Ytieffpngknglpaa

/-
  Stage 13: the program's Check.
-/
namespace Go.Proofs.Ytieffpngknglpaa
open Go.RowKit

set_option maxRecDepth 100000

/-- A query's cells; four flags' cells. -/
def CQ13 (W : World) (g : Nat) (q : Q13) : Prop := W.cell? ⟨g, 0, none⟩ = some (.int .i64 q.lo) ∧ W.cell? ⟨g, 1, none⟩ = some (.int .i64 q.hi) ∧
    W.cell? ⟨g, 2, none⟩ = some (.bool q.g.a) ∧ W.cell? ⟨g, 3, none⟩ = some (.bool q.g.b) ∧ W.cell? ⟨g, 4, none⟩ = some (.bool q.g.c) ∧ W.cell? ⟨g, 5, none⟩ = some (.bool q.g.d) ∧
    W.cell? ⟨g, 6, none⟩ = some (.bool q.h.a) ∧ W.cell? ⟨g, 7, none⟩ = some (.bool q.h.b) ∧ W.cell? ⟨g, 8, none⟩ = some (.bool q.h.c) ∧ W.cell? ⟨g, 9, none⟩ = some (.bool q.h.d) ∧
    W.cell? ⟨g, 10, none⟩ = some (sv9 q.f.a) ∧ W.cell? ⟨g, 11, none⟩ = some (sv9 q.f.b) ∧ W.cell? ⟨g, 12, none⟩ = some (sv9 q.f.c) ∧ W.cell? ⟨g, 13, none⟩ = some (sv9 q.f.d)
theorem cq_box13 {W : World} {g : Nat} {q : Q13} (h : Box W g 25 (cells13 q)) : CQ13 W g q := box_query13 h
def CB13 (W : World) (g : Nat) (v : V4 Bool) : Prop := W.cell? ⟨g, 0, none⟩ = some (.bool v.a) ∧ W.cell? ⟨g, 1, none⟩ = some (.bool v.b) ∧ W.cell? ⟨g, 2, none⟩ = some (.bool v.c) ∧ W.cell? ⟨g, 3, none⟩ = some (.bool v.d)
theorem cb_box13 {W : World} {g : Nat} {v : V4 Bool} (h : Box W g 22 (bs13 v)) : CB13 W g v := ⟨h.cell 0, h.cell 1, h.cell 2, h.cell 3⟩
def CK13 (W : World) (g : Nat) (k : K9) : Prop := W.cell? ⟨g, 0, none⟩ = some (.int .i64 k.h) ∧ W.cell? ⟨g, 1, none⟩ = some (sv9 k.a) ∧ W.cell? ⟨g, 2, none⟩ = some (sv9 k.b) ∧ W.cell? ⟨g, 3, none⟩ = some (sv9 k.c) ∧ W.cell? ⟨g, 4, none⟩ = some (sv9 k.d)
theorem ck_box13 {W : World} {g : Nat} {k : K9} (h : Box W g 27 #[.int .i64 k.h, sv9 k.a, sv9 k.b, sv9 k.c, sv9 k.d]) : CK13 W g k := box_key13 h

set_option maxHeartbeats 8000000 in
theorem check_texts13 (t : V4 (List UInt8)) (n : Int) (w : World) : Calls Try.prog 39 #[.agg (ts13 t), .int .i64 n] w fun e w' => e = .returned (.int .i64 (chkF ⟨kOf t, 0⟩ n)) ∧ Turn (fun _ => False) w w' := by
  have HC : Hid (∀ W, Calls Try.prog 47 #[.agg #[.int .i64 0, sv9 t.a, sv9 t.b, sv9 t.c, sv9 t.d, .int .i64 0], .int .i64 n] W fun e w' => e = .returned (.int .i64 (chkF ⟨kOf t, 0⟩ n)) ∧ Turn (fun _ => False) W w') := fun W => check_any9 ⟨kOf t, 0⟩ n W
  have HT0 := Lib.hid ((Turn.refl (fun _ => False) w).alloc (.cells (ts13 t) 23))
  generalize chkF ⟨kOf t, 0⟩ n = r at *
  go_enter Try.func39, Try.ntmps39
  go_wp2_with fail
  refine (HC.out _).mono ?_
  rintro e w1 ⟨rfl, t1⟩
  have HT1 := Lib.hid (HT0.out.trans t1 (fun _ _ f => f))
  clear t1
  go_wp2
  go_ret
  exact ⟨rfl, HT1.out⟩

theorem chk_empty13 (n : Int) : chkF ⟨kOf (V4.fill []), 0⟩ n = if okDims n then 0 else 1 := by
  unfold chkF
  cases h : okDims n with
  | false => rfl
  | true =>
    rw [if_pos rfl, if_pos rfl, if_pos (by decide)]
    have e : okTexts n (kOf (V4.fill [])) = true := okTexts_iff.2 fun i hi => by
      rw [kOf_dim, V4.nth_fill]
      simp [okText]
    rw [e]
    rfl

set_option maxHeartbeats 8000000 in
theorem check_dims13 (n : Int) (w : World) : Calls Try.prog 28 #[.int .i64 n] w fun e w' => e = .returned (.int .i64 (if okDims n then 0 else 1)) ∧ Turn (fun _ => False) w w' := by
  have HC := Lib.hid (check_texts13 (V4.fill []) n w)
  rw [chk_empty13] at HC
  generalize (if okDims n then 0 else 1 : Int) = r at *
  go_enter Try.func28, Try.ntmps28
  go_wp2_with fail
  refine HC.out.mono ?_
  rintro e w1 ⟨rfl, t1⟩
  have HT1 := Lib.hid t1
  clear t1
  go_wp2
  go_ret
  exact ⟨rfl, HT1.out⟩

/-- Behind Check's first lines: its query, its flags. -/
structure At13 (w : World) (b m : Nat) (q : Q13) (v : V4 Bool) (W : World) : Prop where
  q : Box W b 25 (cells13 q)
  m : Box W m 22 (bs13 v)
  turn : Turn (fun _ => False) w W
theorem At13.later {w W W2 : World} {b m : Nat} {q : Q13} {v : V4 Bool} (h : At13 w b m q v W) (ht : Turn (fun _ => False) W W2) : At13 w b m q v W2 :=
  ⟨h.q.turn ht (fun f => f), h.m.turn ht (fun f => f), h.turn.trans ht (fun _ _ f => f)⟩
theorem At13.s {w W : World} {b m : Nat} {q : Q13} {v : V4 Bool} (h : At13 w b m q v W) : CQ13 W b q ∧ CB13 W m v := ⟨cq_box13 h.q, cb_box13 h.m⟩

set_option maxHeartbeats 16000000 in
theorem check_any13 (q : Q13) (n : Int) (w : World) : Calls Try.prog 20 #[qv13 q, .int .i64 n] w fun e w' => e = .returned (.int .i64 (chkQ q n)) ∧ Turn (fun _ => False) w w' := by
  unfold qv13
  obtain ⟨w0, hw0⟩ : ∃ w0, w0 = w.alloc (.cells (cells13 q) 25) := ⟨_, rfl⟩
  have HT0 : Hid (Turn (fun _ => False) w w0) := by rw [hw0]; exact (Turn.refl _ w).alloc _
  have HB0 : Hid (Box w0 w.heap.size 25 (cells13 q)) := by rw [hw0]; exact Box.new w _ _
  have HW := Lib.hid hw0
  have HCD := Lib.hid (check_dims13 n w0)
  clear hw0
  by_cases hn : 1 ≤ n ∧ n ≤ 4
  · rw [okDims_nat hn, if_pos rfl] at HCD
    by_cases hr : 0 ≤ q.lo ∧ q.lo ≤ q.hi ∧ q.hi ≤ 16777217
    · obtain ⟨N, rfl⟩ := Int.eq_ofNat_of_zero_le (show 0 ≤ n by omega)
      have hN4 : N ≤ 4 := by omega
      have HP := Lib.hid (okQ_parts hN4 (q := q))
      have HCK : Hid (chkQ q (N : Int) = if okQ (N : Int) q then 0 else 4) := by
        show _ = _
        cases ho : okQ (N : Int) q with
        | true => exact chkQ_ok hn hr ho
        | false => exact chkQ_text hn hr ho
      have HTX : Hid (∀ W, Calls Try.prog 39 #[.agg (ts13 q.f), .int .i64 (N : Int)] W fun e w' => e = .returned (.int .i64 (if okTexts (N : Int) (kOf q.f) then 0 else 4)) ∧ Turn (fun _ => False) W w') := fun W => by
        have h := check_texts13 q.f (N : Int) W
        have e : chkF ⟨kOf q.f, 0⟩ (N : Int) = if okTexts (N : Int) (kOf q.f) then 0 else 4 := by
          unfold chkF
          rw [okDims_nat hn, if_pos rfl, if_pos (show _ from by show (0 : Int) ≤ 0 ∧ (0 : Int) ≤ 16777216 ∧ (0 : Int) ≤ 1152921504606846976 ∧ (-1152921504606846976 : Int) ≤ 0; omega)]
        rw [e] at h
        exact h
      obtain ⟨r1, r2, r3⟩ := hr
      clear hn
      go_enter Try.func20, Try.ntmps20
      go_wp2_with fail
      rw [← HW.out]
      refine HCD.out.mono ?_
      rintro e w1 ⟨rfl, t1⟩
      have hb1 := HB0.out.turn t1 (fun f => f)
      have HT1 := Lib.hid (HT0.out.trans t1 (fun _ _ f => f))
      have HB1 := Lib.hid hb1
      obtain ⟨c0, c1, -⟩ := box_query13 hb1
      clear hb1 t1 HCD
      go_wp2_with fail
      refine (first_any13 N hN4 _).mono ?_
      rintro e w2 ⟨rfl, t2⟩
      have HT2 := Lib.hid (HT1.out.trans t2 (fun _ _ f => f))
      have HB2 := Lib.hid (HB1.out.turn t2 (fun f => f))
      clear t2 c0 c1 HB1 HT1
      go_wp2_with fail
      obtain ⟨b, hbb⟩ : ∃ b, b = w.heap.size := ⟨_, rfl⟩
      obtain ⟨m, hmm⟩ : ∃ m, m = w2.heap.size := ⟨_, rfl⟩
      rw [← hbb, ← hmm]
      obtain ⟨w3, hw3⟩ : ∃ w3, w3 = w2.alloc (.cells (bs13 (firstN N)) 22) := ⟨_, rfl⟩
      have hat : At13 w b m q (firstN N) w3 := by
        rw [hw3, hbb, hmm]
        exact ⟨HB2.out.alloc _, Box.new w2 _ _, HT2.out.alloc _⟩
      have HAT := Lib.hid (hat.later (Turn.refl (fun _ => False) w3).drew)
      unfold bs13 at hw3
      rw [← hw3]
      clear hw3 hbb hmm HB2 HT2 hat HB0 HW HT0
      refine drawn_region (fun W => CQ13 W b q ∧ CB13 W m (firstN N)) [] (by kernel_rfl) ?_
      generalize World.drew w3 = wd at *
      have HE := Lib.hid (okQ_parts hN4 (q := q))
      have hS0 : CQ13 wd b q ∧ CB13 wd m (firstN N) := HAT.out.s
      refine drawn_take 0 29 (.pointer (some ⟨b, 2, none⟩)) rfl rfl (by kernel_rfl) (by kernel_rfl) (by kernel_rfl) (by kernel_rfl) (fun _ _ _ h => h) (by rfl) (by assumption) (by intro w hSw; obtain ⟨⟨b0, b1, b2, b3, b4, b5, b6, b7, b8, b9, b10, b11, b12, b13⟩, ⟨m0, m1, m2, m3⟩⟩ := hSw; go_simp) ?_
      try simp only [List.setIfInBounds_toArray, List.set_cons_zero, List.set_cons_succ]
      refine drawn_take 1 30 (.agg (bs13 q.g)) rfl rfl (by kernel_rfl) (by kernel_rfl) (by kernel_rfl) (by kernel_rfl) (fun _ _ _ h => h) (by rfl) (by assumption) (by intro w hSw; obtain ⟨⟨b0, b1, b2, b3, b4, b5, b6, b7, b8, b9, b10, b11, b12, b13⟩, ⟨m0, m1, m2, m3⟩⟩ := hSw; go_simp) ?_
      try simp only [List.setIfInBounds_toArray, List.set_cons_zero, List.set_cons_succ]
      refine drawn_take 2 31 (.pointer (some ⟨b, 2, none⟩)) rfl rfl (by kernel_rfl) (by kernel_rfl) (by kernel_rfl) (by kernel_rfl) (fun _ _ _ h => h) (by rfl) (by assumption) (by intro w hSw; obtain ⟨⟨b0, b1, b2, b3, b4, b5, b6, b7, b8, b9, b10, b11, b12, b13⟩, ⟨m0, m1, m2, m3⟩⟩ := hSw; go_simp) ?_
      try simp only [List.setIfInBounds_toArray, List.set_cons_zero, List.set_cons_succ]
      refine drawn_take 3 32 (.agg (bs13 q.g)) rfl rfl (by kernel_rfl) (by kernel_rfl) (by kernel_rfl) (by kernel_rfl) (fun _ _ _ h => h) (by rfl) (by assumption) (by intro w hSw; obtain ⟨⟨b0, b1, b2, b3, b4, b5, b6, b7, b8, b9, b10, b11, b12, b13⟩, ⟨m0, m1, m2, m3⟩⟩ := hSw; go_simp) ?_
      try simp only [List.setIfInBounds_toArray, List.set_cons_zero, List.set_cons_succ]
      refine drawn_take 4 33 (.agg (bs13 (firstN N))) rfl rfl (by kernel_rfl) (by kernel_rfl) (by kernel_rfl) (by kernel_rfl) (fun _ _ _ h => h) (by rfl) (by assumption) (by intro w hSw; obtain ⟨⟨b0, b1, b2, b3, b4, b5, b6, b7, b8, b9, b10, b11, b12, b13⟩, ⟨m0, m1, m2, m3⟩⟩ := hSw; go_simp) ?_
      try simp only [List.setIfInBounds_toArray, List.set_cons_zero, List.set_cons_succ]
      refine drawn_any [5] (by kernel_rfl) (by simp) ?_
      refine drawn_cons rfl (fun K2 hK => ?_) drawn_nil
      go_simp
      refine (only_flag13 q.g (firstN N) wd).mono ?_
      rintro e w4 ⟨rfl, t4⟩
      have HAT4 := Lib.hid (HAT.out.later t4)
      have hS4 : CQ13 w4 b q ∧ CB13 w4 m (firstN N) := HAT4.out.s
      refine hK.out _ _ _ hS4 ?_
      clear hK K2 HAT hS0 t4
      try simp only [List.setIfInBounds_toArray, List.set_cons_zero, List.set_cons_succ]
      have g1 := fun op X Y => guard_bools13 op X Y q.g (onlyP false q.g (firstN N))
      have g2 := fun op X Y => guard_bools13 op X Y q.h (onlyP false q.h (firstN N))
      have g3 := fun op X Y => guard_four13 op X Y q.f (onlyP [] q.f q.h)
      have ne1 := run_neq_bools13 q.g (onlyP false q.g (firstN N))
      have ne2 := run_neq_bools13 q.h (onlyP false q.h (firstN N))
      have ne3 := run_neq_four13 q.f (onlyP [] q.f q.h)
      by_cases hA : q.g = onlyP false q.g (firstN N)
      · rw [decide_eq_true hA, Bool.not_true] at ne1
        rw [decide_eq_true hA, Bool.true_and] at HE
        have hA2 := Lib.hid hA
        clear hA
        generalize onlyP false q.g (firstN N) = oA at *
        refine drawn_take 6 35 (.bool false) rfl rfl (by kernel_rfl) (by kernel_rfl) (by kernel_rfl) (by kernel_rfl) (fun _ _ _ h => h) (by rfl) (by assumption) (by intro w hSw; obtain ⟨⟨b0, b1, b2, b3, b4, b5, b6, b7, b8, b9, b10, b11, b12, b13⟩, ⟨m0, m1, m2, m3⟩⟩ := hSw; go_simp) ?_
        try simp only [List.setIfInBounds_toArray, List.set_cons_zero, List.set_cons_succ]
        refine drawn_take 7 36 (.bool false) rfl rfl (by kernel_rfl) (by kernel_rfl) (by kernel_rfl) (by kernel_rfl) (fun _ _ _ h => h) (by rfl) (by assumption) (by intro w hSw; obtain ⟨⟨b0, b1, b2, b3, b4, b5, b6, b7, b8, b9, b10, b11, b12, b13⟩, ⟨m0, m1, m2, m3⟩⟩ := hSw; go_simp) ?_
        try simp only [List.setIfInBounds_toArray, List.set_cons_zero, List.set_cons_succ]
        refine drawn_take 8 37 (.pointer (some ⟨b, 6, none⟩)) rfl rfl (by kernel_rfl) (by kernel_rfl) (by kernel_rfl) (by kernel_rfl) (fun _ _ _ h => h) (by rfl) (by assumption) (by intro w hSw; obtain ⟨⟨b0, b1, b2, b3, b4, b5, b6, b7, b8, b9, b10, b11, b12, b13⟩, ⟨m0, m1, m2, m3⟩⟩ := hSw; go_simp) ?_
        try simp only [List.setIfInBounds_toArray, List.set_cons_zero, List.set_cons_succ]
        refine drawn_take 9 38 (.agg (bs13 q.h)) rfl rfl (by kernel_rfl) (by kernel_rfl) (by kernel_rfl) (by kernel_rfl) (fun _ _ _ h => h) (by rfl) (by assumption) (by intro w hSw; obtain ⟨⟨b0, b1, b2, b3, b4, b5, b6, b7, b8, b9, b10, b11, b12, b13⟩, ⟨m0, m1, m2, m3⟩⟩ := hSw; go_simp) ?_
        try simp only [List.setIfInBounds_toArray, List.set_cons_zero, List.set_cons_succ]
        refine drawn_take 10 39 (.pointer (some ⟨b, 6, none⟩)) rfl rfl (by kernel_rfl) (by kernel_rfl) (by kernel_rfl) (by kernel_rfl) (fun _ _ _ h => h) (by rfl) (by assumption) (by intro w hSw; obtain ⟨⟨b0, b1, b2, b3, b4, b5, b6, b7, b8, b9, b10, b11, b12, b13⟩, ⟨m0, m1, m2, m3⟩⟩ := hSw; go_simp) ?_
        try simp only [List.setIfInBounds_toArray, List.set_cons_zero, List.set_cons_succ]
        refine drawn_take 11 40 (.agg (bs13 q.h)) rfl rfl (by kernel_rfl) (by kernel_rfl) (by kernel_rfl) (by kernel_rfl) (fun _ _ _ h => h) (by rfl) (by assumption) (by intro w hSw; obtain ⟨⟨b0, b1, b2, b3, b4, b5, b6, b7, b8, b9, b10, b11, b12, b13⟩, ⟨m0, m1, m2, m3⟩⟩ := hSw; go_simp) ?_
        try simp only [List.setIfInBounds_toArray, List.set_cons_zero, List.set_cons_succ]
        refine drawn_take 12 41 (.agg (bs13 (firstN N))) rfl rfl (by kernel_rfl) (by kernel_rfl) (by kernel_rfl) (by kernel_rfl) (fun _ _ _ h => h) (by rfl) (by assumption) (by intro w hSw; obtain ⟨⟨b0, b1, b2, b3, b4, b5, b6, b7, b8, b9, b10, b11, b12, b13⟩, ⟨m0, m1, m2, m3⟩⟩ := hSw; go_simp) ?_
        try simp only [List.setIfInBounds_toArray, List.set_cons_zero, List.set_cons_succ]
        refine drawn_any [13] (by kernel_rfl) (by simp) ?_
        refine drawn_cons rfl (fun K2 hK => ?_) drawn_nil
        go_simp
        refine (only_flag13 q.h (firstN N) w4).mono ?_
        rintro e w5 ⟨rfl, t5⟩
        have HAT5 := Lib.hid (HAT4.out.later t5)
        have hS5 : CQ13 w5 b q ∧ CB13 w5 m (firstN N) := HAT5.out.s
        refine hK.out _ _ _ hS5 ?_
        clear hK K2 HAT4 hS4 t5
        try simp only [List.setIfInBounds_toArray, List.set_cons_zero, List.set_cons_succ]
        by_cases hB : q.h = onlyP false q.h (firstN N)
        · rw [decide_eq_true hB, Bool.not_true] at ne2
          rw [decide_eq_true hB, Bool.true_and] at HE
          have hB2 := Lib.hid hB
          clear hB
          refine drawn_take 14 43 (.bool false) rfl rfl (by kernel_rfl) (by kernel_rfl) (by kernel_rfl) (by kernel_rfl) (fun _ _ _ h => h) (by rfl) (by assumption) (by intro w hSw; obtain ⟨⟨b0, b1, b2, b3, b4, b5, b6, b7, b8, b9, b10, b11, b12, b13⟩, ⟨m0, m1, m2, m3⟩⟩ := hSw; go_simp) ?_
          try simp only [List.setIfInBounds_toArray, List.set_cons_zero, List.set_cons_succ]
          refine drawn_take 15 44 (.bool false) rfl rfl (by kernel_rfl) (by kernel_rfl) (by kernel_rfl) (by kernel_rfl) (fun _ _ _ h => h) (by rfl) (by assumption) (by intro w hSw; obtain ⟨⟨b0, b1, b2, b3, b4, b5, b6, b7, b8, b9, b10, b11, b12, b13⟩, ⟨m0, m1, m2, m3⟩⟩ := hSw; go_simp) ?_
          try simp only [List.setIfInBounds_toArray, List.set_cons_zero, List.set_cons_succ]
          refine drawn_take 16 45 (.bool false) rfl rfl (by kernel_rfl) (by kernel_rfl) (by kernel_rfl) (by kernel_rfl) (fun _ _ _ h => h) (by rfl) (by assumption) (by intro w hSw; obtain ⟨⟨b0, b1, b2, b3, b4, b5, b6, b7, b8, b9, b10, b11, b12, b13⟩, ⟨m0, m1, m2, m3⟩⟩ := hSw; go_simp) ?_
          try simp only [List.setIfInBounds_toArray, List.set_cons_zero, List.set_cons_succ]
          refine drawn_take 17 46 (.pointer (some ⟨b, 10, none⟩)) rfl rfl (by kernel_rfl) (by kernel_rfl) (by kernel_rfl) (by kernel_rfl) (fun _ _ _ h => h) (by rfl) (by assumption) (by intro w hSw; obtain ⟨⟨b0, b1, b2, b3, b4, b5, b6, b7, b8, b9, b10, b11, b12, b13⟩, ⟨m0, m1, m2, m3⟩⟩ := hSw; go_simp) ?_
          try simp only [List.setIfInBounds_toArray, List.set_cons_zero, List.set_cons_succ]
          refine drawn_take 18 47 (.agg (ts13 q.f)) rfl rfl (by kernel_rfl) (by kernel_rfl) (by kernel_rfl) (by kernel_rfl) (fun _ _ _ h => h) (by rfl) (by assumption) (by intro w hSw; obtain ⟨⟨b0, b1, b2, b3, b4, b5, b6, b7, b8, b9, b10, b11, b12, b13⟩, ⟨m0, m1, m2, m3⟩⟩ := hSw; go_simp) ?_
          try simp only [List.setIfInBounds_toArray, List.set_cons_zero, List.set_cons_succ]
          refine drawn_take 19 48 (.pointer (some ⟨b, 10, none⟩)) rfl rfl (by kernel_rfl) (by kernel_rfl) (by kernel_rfl) (by kernel_rfl) (fun _ _ _ h => h) (by rfl) (by assumption) (by intro w hSw; obtain ⟨⟨b0, b1, b2, b3, b4, b5, b6, b7, b8, b9, b10, b11, b12, b13⟩, ⟨m0, m1, m2, m3⟩⟩ := hSw; go_simp) ?_
          try simp only [List.setIfInBounds_toArray, List.set_cons_zero, List.set_cons_succ]
          refine drawn_take 20 49 (.agg (ts13 q.f)) rfl rfl (by kernel_rfl) (by kernel_rfl) (by kernel_rfl) (by kernel_rfl) (fun _ _ _ h => h) (by rfl) (by assumption) (by intro w hSw; obtain ⟨⟨b0, b1, b2, b3, b4, b5, b6, b7, b8, b9, b10, b11, b12, b13⟩, ⟨m0, m1, m2, m3⟩⟩ := hSw; go_simp) ?_
          try simp only [List.setIfInBounds_toArray, List.set_cons_zero, List.set_cons_succ]
          refine drawn_take 21 50 (.pointer (some ⟨b, 6, none⟩)) rfl rfl (by kernel_rfl) (by kernel_rfl) (by kernel_rfl) (by kernel_rfl) (fun _ _ _ h => h) (by rfl) (by assumption) (by intro w hSw; obtain ⟨⟨b0, b1, b2, b3, b4, b5, b6, b7, b8, b9, b10, b11, b12, b13⟩, ⟨m0, m1, m2, m3⟩⟩ := hSw; go_simp) ?_
          try simp only [List.setIfInBounds_toArray, List.set_cons_zero, List.set_cons_succ]
          refine drawn_take 22 51 (.agg (bs13 q.h)) rfl rfl (by kernel_rfl) (by kernel_rfl) (by kernel_rfl) (by kernel_rfl) (fun _ _ _ h => h) (by rfl) (by assumption) (by intro w hSw; obtain ⟨⟨b0, b1, b2, b3, b4, b5, b6, b7, b8, b9, b10, b11, b12, b13⟩, ⟨m0, m1, m2, m3⟩⟩ := hSw; go_simp) ?_
          try simp only [List.setIfInBounds_toArray, List.set_cons_zero, List.set_cons_succ]
          refine drawn_any [23] (by kernel_rfl) (by simp) ?_
          refine drawn_cons rfl (fun K2 hK => ?_) drawn_nil
          go_simp
          refine (only_text13 q.f q.h w5).mono ?_
          rintro e w6 ⟨rfl, t6⟩
          have HAT6 := Lib.hid (HAT5.out.later t6)
          have hS6 : CQ13 w6 b q ∧ CB13 w6 m (firstN N) := HAT6.out.s
          refine hK.out _ _ _ hS6 ?_
          clear hK K2 HAT5 hS5 t6
          try simp only [List.setIfInBounds_toArray, List.set_cons_zero, List.set_cons_succ]
          by_cases hC : q.f = onlyP [] q.f q.h
          · rw [decide_eq_true hC, Bool.not_true] at ne3
            rw [decide_eq_true hC, Bool.true_and] at HE
            have hC2 := Lib.hid hC
            clear hC
            refine drawn_take 24 53 (.bool false) rfl rfl (by kernel_rfl) (by kernel_rfl) (by kernel_rfl) (by kernel_rfl) (fun _ _ _ h => h) (by rfl) (by assumption) (by intro w hSw; obtain ⟨⟨b0, b1, b2, b3, b4, b5, b6, b7, b8, b9, b10, b11, b12, b13⟩, ⟨m0, m1, m2, m3⟩⟩ := hSw; go_simp) ?_
            try simp only [List.setIfInBounds_toArray, List.set_cons_zero, List.set_cons_succ]
            refine drawn_last1 25 54 (.bool false) rfl rfl (by kernel_rfl) (by kernel_rfl) (by rfl) (by intro w; go_simp) hS6 ?_
            try simp only [List.setIfInBounds_toArray, List.set_cons_zero, List.set_cons_succ]
            obtain ⟨⟨b0, b1, b2, b3, b4, b5, b6, b7, b8, b9, b10, b11, b12, b13⟩, -⟩ := hS6
            have HTX6 := HTX.out w6
            rw [← HE.out] at HTX6
            have HFIN := HCK
            clear HTX HCK ne1 ne2 ne3 g1 g2 g3 HP HE
            generalize (if okQ (N : Int) q = true then 0 else 4 : Int) = rr at *
            go_wp2_with fail
            refine HTX6.mono ?_
            rintro e w7 ⟨rfl, t7⟩
            have HT7 := Lib.hid (HAT6.out.turn.trans t7 (fun _ _ f => f))
            clear t7
            go_wp2
            go_ret
            rw [HFIN.out]
            exact ⟨rfl, HT7.out⟩
          · rw [decide_eq_false hC, Bool.not_false] at ne3
            rw [decide_eq_false hC, Bool.false_and] at HE
            have HFIN : Hid (chkQ q (N : Int) = 4) := by show _ = _; rw [HCK.out, HE.out, if_neg (by simp)]
            clear hC
            refine drawn_take 24 53 (.bool true) rfl rfl (by kernel_rfl) (by kernel_rfl) (by kernel_rfl) (by kernel_rfl) (fun _ _ _ h => h) (by rfl) (by assumption) (by intro w hSw; obtain ⟨⟨b0, b1, b2, b3, b4, b5, b6, b7, b8, b9, b10, b11, b12, b13⟩, ⟨m0, m1, m2, m3⟩⟩ := hSw; go_simp) ?_
            try simp only [List.setIfInBounds_toArray, List.set_cons_zero, List.set_cons_succ]
            refine drawn_last1 25 54 (.bool true) rfl rfl (by kernel_rfl) (by kernel_rfl) (by rfl) (by intro w; go_simp) (by assumption) ?_
            try simp only [List.setIfInBounds_toArray, List.set_cons_zero, List.set_cons_succ]
            clear HTX HCK ne1 ne2 ne3 g1 g2 g3 HP HE
            go_wp2
            go_ret
            rw [HFIN.out]
            exact ⟨rfl, HAT6.out.turn⟩
        · rw [decide_eq_false hB, Bool.not_false] at ne2
          rw [decide_eq_false hB, Bool.false_and, Bool.false_and] at HE
          have HFIN : Hid (chkQ q (N : Int) = 4) := by show _ = _; rw [HCK.out, HE.out, if_neg (by simp)]
          clear hB
          refine drawn_take 14 43 (.bool true) rfl rfl (by kernel_rfl) (by kernel_rfl) (by kernel_rfl) (by kernel_rfl) (fun _ _ _ h => h) (by rfl) (by assumption) (by intro w hSw; obtain ⟨⟨b0, b1, b2, b3, b4, b5, b6, b7, b8, b9, b10, b11, b12, b13⟩, ⟨m0, m1, m2, m3⟩⟩ := hSw; go_simp) ?_
          try simp only [List.setIfInBounds_toArray, List.set_cons_zero, List.set_cons_succ]
          refine drawn_take 15 44 (.bool true) rfl rfl (by kernel_rfl) (by kernel_rfl) (by kernel_rfl) (by kernel_rfl) (fun _ _ _ h => h) (by rfl) (by assumption) (by intro w hSw; obtain ⟨⟨b0, b1, b2, b3, b4, b5, b6, b7, b8, b9, b10, b11, b12, b13⟩, ⟨m0, m1, m2, m3⟩⟩ := hSw; go_simp) ?_
          try simp only [List.setIfInBounds_toArray, List.set_cons_zero, List.set_cons_succ]
          refine drawn_take 16 45 (.bool true) rfl rfl (by kernel_rfl) (by kernel_rfl) (by kernel_rfl) (by kernel_rfl) (fun _ _ _ h => h) (by rfl) (by assumption) (by intro w hSw; obtain ⟨⟨b0, b1, b2, b3, b4, b5, b6, b7, b8, b9, b10, b11, b12, b13⟩, ⟨m0, m1, m2, m3⟩⟩ := hSw; go_simp) ?_
          try simp only [List.setIfInBounds_toArray, List.set_cons_zero, List.set_cons_succ]
          refine drawn_skip 17 46 rfl rfl (by kernel_rfl) (by kernel_rfl) (by kernel_rfl) (by kernel_rfl) (fun _ _ _ h => h) (by rfl) (fun _ => by assumption) ?_
          try simp only [List.setIfInBounds_toArray, List.set_cons_zero, List.set_cons_succ]
          refine drawn_skip 18 47 rfl rfl (by kernel_rfl) (by kernel_rfl) (by kernel_rfl) (by kernel_rfl) (fun _ _ _ h => h) (by rfl) (fun _ => by assumption) ?_
          try simp only [List.setIfInBounds_toArray, List.set_cons_zero, List.set_cons_succ]
          refine drawn_skip 19 48 rfl rfl (by kernel_rfl) (by kernel_rfl) (by kernel_rfl) (by kernel_rfl) (fun _ _ _ h => h) (by rfl) (fun _ => by assumption) ?_
          try simp only [List.setIfInBounds_toArray, List.set_cons_zero, List.set_cons_succ]
          refine drawn_skip 20 49 rfl rfl (by kernel_rfl) (by kernel_rfl) (by kernel_rfl) (by kernel_rfl) (fun _ _ _ h => h) (by rfl) (fun _ => by assumption) ?_
          try simp only [List.setIfInBounds_toArray, List.set_cons_zero, List.set_cons_succ]
          refine drawn_skip 21 50 rfl rfl (by kernel_rfl) (by kernel_rfl) (by kernel_rfl) (by kernel_rfl) (fun _ _ _ h => h) (by rfl) (fun _ => by assumption) ?_
          try simp only [List.setIfInBounds_toArray, List.set_cons_zero, List.set_cons_succ]
          refine drawn_skip 22 51 rfl rfl (by kernel_rfl) (by kernel_rfl) (by kernel_rfl) (by kernel_rfl) (fun _ _ _ h => h) (by rfl) (fun _ => by assumption) ?_
          try simp only [List.setIfInBounds_toArray, List.set_cons_zero, List.set_cons_succ]
          refine drawn_skip 23 52 rfl rfl (by kernel_rfl) (by kernel_rfl) (by kernel_rfl) (by kernel_rfl) (fun _ _ _ h => h) (by rfl) (fun _ => by assumption) ?_
          try simp only [List.setIfInBounds_toArray, List.set_cons_zero, List.set_cons_succ]
          refine drawn_skip 24 53 rfl rfl (by kernel_rfl) (by kernel_rfl) (by kernel_rfl) (by kernel_rfl) (fun _ _ _ h => h) (by rfl) (fun _ => by assumption) ?_
          try simp only [List.setIfInBounds_toArray, List.set_cons_zero, List.set_cons_succ]
          refine drawn_last1 25 54 (.bool true) rfl rfl (by kernel_rfl) (by kernel_rfl) (by rfl) (by intro w; go_simp) (by assumption) ?_
          try simp only [List.setIfInBounds_toArray, List.set_cons_zero, List.set_cons_succ]
          clear HTX HCK ne1 ne2 ne3 g1 g2 g3 HP HE
          go_wp2
          go_ret
          rw [HFIN.out]
          exact ⟨rfl, HAT5.out.turn⟩
      · rw [decide_eq_false hA, Bool.not_false] at ne1
        rw [decide_eq_false hA, Bool.false_and, Bool.false_and, Bool.false_and] at HE
        have HFIN : Hid (chkQ q (N : Int) = 4) := by show _ = _; rw [HCK.out, HE.out, if_neg (by simp)]
        clear hA
        refine drawn_take 6 35 (.bool true) rfl rfl (by kernel_rfl) (by kernel_rfl) (by kernel_rfl) (by kernel_rfl) (fun _ _ _ h => h) (by rfl) (by assumption) (by intro w hSw; obtain ⟨⟨b0, b1, b2, b3, b4, b5, b6, b7, b8, b9, b10, b11, b12, b13⟩, ⟨m0, m1, m2, m3⟩⟩ := hSw; go_simp) ?_
        try simp only [List.setIfInBounds_toArray, List.set_cons_zero, List.set_cons_succ]
        refine drawn_take 7 36 (.bool true) rfl rfl (by kernel_rfl) (by kernel_rfl) (by kernel_rfl) (by kernel_rfl) (fun _ _ _ h => h) (by rfl) (by assumption) (by intro w hSw; obtain ⟨⟨b0, b1, b2, b3, b4, b5, b6, b7, b8, b9, b10, b11, b12, b13⟩, ⟨m0, m1, m2, m3⟩⟩ := hSw; go_simp) ?_
        try simp only [List.setIfInBounds_toArray, List.set_cons_zero, List.set_cons_succ]
        refine drawn_skip 8 37 rfl rfl (by kernel_rfl) (by kernel_rfl) (by kernel_rfl) (by kernel_rfl) (fun _ _ _ h => h) (by rfl) (fun _ => by assumption) ?_
        try simp only [List.setIfInBounds_toArray, List.set_cons_zero, List.set_cons_succ]
        refine drawn_skip 9 38 rfl rfl (by kernel_rfl) (by kernel_rfl) (by kernel_rfl) (by kernel_rfl) (fun _ _ _ h => h) (by rfl) (fun _ => by assumption) ?_
        try simp only [List.setIfInBounds_toArray, List.set_cons_zero, List.set_cons_succ]
        refine drawn_skip 10 39 rfl rfl (by kernel_rfl) (by kernel_rfl) (by kernel_rfl) (by kernel_rfl) (fun _ _ _ h => h) (by rfl) (fun _ => by assumption) ?_
        try simp only [List.setIfInBounds_toArray, List.set_cons_zero, List.set_cons_succ]
        refine drawn_skip 11 40 rfl rfl (by kernel_rfl) (by kernel_rfl) (by kernel_rfl) (by kernel_rfl) (fun _ _ _ h => h) (by rfl) (fun _ => by assumption) ?_
        try simp only [List.setIfInBounds_toArray, List.set_cons_zero, List.set_cons_succ]
        refine drawn_skip 12 41 rfl rfl (by kernel_rfl) (by kernel_rfl) (by kernel_rfl) (by kernel_rfl) (fun _ _ _ h => h) (by rfl) (fun _ => by assumption) ?_
        try simp only [List.setIfInBounds_toArray, List.set_cons_zero, List.set_cons_succ]
        refine drawn_skip 13 42 rfl rfl (by kernel_rfl) (by kernel_rfl) (by kernel_rfl) (by kernel_rfl) (fun _ _ _ h => h) (by rfl) (fun _ => by assumption) ?_
        try simp only [List.setIfInBounds_toArray, List.set_cons_zero, List.set_cons_succ]
        refine drawn_skip 14 43 rfl rfl (by kernel_rfl) (by kernel_rfl) (by kernel_rfl) (by kernel_rfl) (fun _ _ _ h => h) (by rfl) (fun _ => by assumption) ?_
        try simp only [List.setIfInBounds_toArray, List.set_cons_zero, List.set_cons_succ]
        refine drawn_take 15 44 (.bool true) rfl rfl (by kernel_rfl) (by kernel_rfl) (by kernel_rfl) (by kernel_rfl) (fun _ _ _ h => h) (by rfl) (by assumption) (by intro w hSw; obtain ⟨⟨b0, b1, b2, b3, b4, b5, b6, b7, b8, b9, b10, b11, b12, b13⟩, ⟨m0, m1, m2, m3⟩⟩ := hSw; go_simp) ?_
        try simp only [List.setIfInBounds_toArray, List.set_cons_zero, List.set_cons_succ]
        refine drawn_take 16 45 (.bool true) rfl rfl (by kernel_rfl) (by kernel_rfl) (by kernel_rfl) (by kernel_rfl) (fun _ _ _ h => h) (by rfl) (by assumption) (by intro w hSw; obtain ⟨⟨b0, b1, b2, b3, b4, b5, b6, b7, b8, b9, b10, b11, b12, b13⟩, ⟨m0, m1, m2, m3⟩⟩ := hSw; go_simp) ?_
        try simp only [List.setIfInBounds_toArray, List.set_cons_zero, List.set_cons_succ]
        refine drawn_skip 17 46 rfl rfl (by kernel_rfl) (by kernel_rfl) (by kernel_rfl) (by kernel_rfl) (fun _ _ _ h => h) (by rfl) (fun _ => by assumption) ?_
        try simp only [List.setIfInBounds_toArray, List.set_cons_zero, List.set_cons_succ]
        refine drawn_skip 18 47 rfl rfl (by kernel_rfl) (by kernel_rfl) (by kernel_rfl) (by kernel_rfl) (fun _ _ _ h => h) (by rfl) (fun _ => by assumption) ?_
        try simp only [List.setIfInBounds_toArray, List.set_cons_zero, List.set_cons_succ]
        refine drawn_skip 19 48 rfl rfl (by kernel_rfl) (by kernel_rfl) (by kernel_rfl) (by kernel_rfl) (fun _ _ _ h => h) (by rfl) (fun _ => by assumption) ?_
        try simp only [List.setIfInBounds_toArray, List.set_cons_zero, List.set_cons_succ]
        refine drawn_skip 20 49 rfl rfl (by kernel_rfl) (by kernel_rfl) (by kernel_rfl) (by kernel_rfl) (fun _ _ _ h => h) (by rfl) (fun _ => by assumption) ?_
        try simp only [List.setIfInBounds_toArray, List.set_cons_zero, List.set_cons_succ]
        refine drawn_skip 21 50 rfl rfl (by kernel_rfl) (by kernel_rfl) (by kernel_rfl) (by kernel_rfl) (fun _ _ _ h => h) (by rfl) (fun _ => by assumption) ?_
        try simp only [List.setIfInBounds_toArray, List.set_cons_zero, List.set_cons_succ]
        refine drawn_skip 22 51 rfl rfl (by kernel_rfl) (by kernel_rfl) (by kernel_rfl) (by kernel_rfl) (fun _ _ _ h => h) (by rfl) (fun _ => by assumption) ?_
        try simp only [List.setIfInBounds_toArray, List.set_cons_zero, List.set_cons_succ]
        refine drawn_skip 23 52 rfl rfl (by kernel_rfl) (by kernel_rfl) (by kernel_rfl) (by kernel_rfl) (fun _ _ _ h => h) (by rfl) (fun _ => by assumption) ?_
        try simp only [List.setIfInBounds_toArray, List.set_cons_zero, List.set_cons_succ]
        refine drawn_skip 24 53 rfl rfl (by kernel_rfl) (by kernel_rfl) (by kernel_rfl) (by kernel_rfl) (fun _ _ _ h => h) (by rfl) (fun _ => by assumption) ?_
        try simp only [List.setIfInBounds_toArray, List.set_cons_zero, List.set_cons_succ]
        refine drawn_last1 25 54 (.bool true) rfl rfl (by kernel_rfl) (by kernel_rfl) (by rfl) (by intro w; go_simp) (by assumption) ?_
        try simp only [List.setIfInBounds_toArray, List.set_cons_zero, List.set_cons_succ]
        clear HTX HCK ne1 ne2 ne3 g1 g2 g3 HP HE
        go_wp2
        go_ret
        rw [HFIN.out]
        exact ⟨rfl, HAT4.out.turn⟩
    · rw [chkQ_range hn hr]
      by_cases r1 : q.lo < 0
      · clear hr hn
        go_enter Try.func20, Try.ntmps20
        go_wp2_with fail
        rw [← HW.out]
        refine HCD.out.mono ?_
        rintro e w1 ⟨rfl, t1⟩
        have hb1 := HB0.out.turn t1 (fun f => f)
        have HT1 := Lib.hid (HT0.out.trans t1 (fun _ _ f => f))
        have HB1 := Lib.hid hb1
        obtain ⟨c0, c1, -⟩ := box_query13 hb1
        clear hb1 t1 HCD
        go_wp2
        go_ret
        exact ⟨rfl, HT1.out⟩
      · by_cases r2 : q.hi < q.lo
        · clear hr hn
          go_enter Try.func20, Try.ntmps20
          go_wp2_with fail
          rw [← HW.out]
          refine HCD.out.mono ?_
          rintro e w1 ⟨rfl, t1⟩
          have hb1 := HB0.out.turn t1 (fun f => f)
          have HT1 := Lib.hid (HT0.out.trans t1 (fun _ _ f => f))
          have HB1 := Lib.hid hb1
          obtain ⟨c0, c1, -⟩ := box_query13 hb1
          clear hb1 t1 HCD
          go_wp2
          go_ret
          exact ⟨rfl, HT1.out⟩
        · have r3 : 16777217 < q.hi := by omega
          clear hr hn
          go_enter Try.func20, Try.ntmps20
          go_wp2_with fail
          rw [← HW.out]
          refine HCD.out.mono ?_
          rintro e w1 ⟨rfl, t1⟩
          have hb1 := HB0.out.turn t1 (fun f => f)
          have HT1 := Lib.hid (HT0.out.trans t1 (fun _ _ f => f))
          have HB1 := Lib.hid hb1
          obtain ⟨c0, c1, -⟩ := box_query13 hb1
          clear hb1 t1 HCD
          go_wp2
          go_ret
          exact ⟨rfl, HT1.out⟩
  · rw [okDims_no hn, if_neg (by simp)] at HCD
    rw [chkQ_dims hn]
    clear hn
    go_enter Try.func20, Try.ntmps20
    go_wp2_with fail
    rw [← HW.out]
    refine HCD.out.mono ?_
    rintro e w1 ⟨rfl, t1⟩
    have hb1 := HB0.out.turn t1 (fun f => f)
    have HT1 := Lib.hid (HT0.out.trans t1 (fun _ _ f => f))
    have HB1 := Lib.hid hb1
    obtain ⟨c0, c1, -⟩ := box_query13 hb1
    clear hb1 t1 HCD
    go_wp2
    go_ret
    exact ⟨rfl, HT1.out⟩

end Go.Proofs.Ytieffpngknglpaa
