
/-
  'AskBack': a query that is right is read as it was, what is read has just those bytes, and what is cut matches nothing below, and else what it did. No condition.
-/
import Derived.Test.YtieffpngknglpaaQ1g
import Derived.Test.YtieffpngknglpaaQ1l
import Derived.Test.YtieffpngknglpaaQ1o
import Derived.Test.YtieffpngknglpaaBs
import Derived.ProofKit
import Derived.OpenShut
namespace Go.Proofs.Ytieffpngknglpaa.askBack
open Go.ChangeShapes Go.WideShapes Go.ChangeAt Go.RowKit
set_option linter.unusedVariables false

theorem own : ownKnob Try.prog.godebug = none := by kernel_rfl
theorem laidOut : laidOutB Try.prog = true := by kernel_rfl

/-- In the law: a query, a key, and a query read. -/
structure Bk13 (w : World) (b m P : Nat) (q : Q13) (k : K9) (W : World) : Prop where
  qk : Qk13 w b m q k W
  p : Box W P 25 (cells13 q)
theorem Bk13.later {w W W2 : World} {b m P : Nat} {q : Q13} {k : K9} (h : Bk13 w b m P q k W) (ht : Turn (fun _ => False) W W2) : Bk13 w b m P q k W2 := ⟨h.qk.later ht, h.p.turn ht (fun f => f)⟩
theorem Bk13.s {w W : World} {b m P : Nat} {q : Q13} {k : K9} (h : Bk13 w b m P q k W) : CQ13 W b q ∧ CK13 W m k ∧ CQ13 W P q := ⟨h.qk.s.1, h.qk.s.2, cq_box13 h.p⟩

set_option maxRecDepth 100000 in
set_option maxHeartbeats 16000000 in
theorem dead1 (q : Q13) (u : Value) (m : List UInt8) (n : Int) (_wn : (Lit.int .i64 n).wf = true) (x : Int) (_wx : (Lit.int .i64 x).wf = true) (k : K9) (w : World) (hu : Rd w u m) (hL : light13 q = false) :
    Calls Try.prog 5 #[qv13 q, u, .int .i64 n, .int .i64 x, kv9 k] w fun e w' => e = .returned (.bool true) ∧ Below w.heap.size w w' := by
  unfold qv13 kv9
  obtain ⟨A, c, rfl⟩ := hu.shape
  obtain ⟨w0, hw0⟩ : ∃ w0, w0 = (w.alloc (.cells (cells13 q) 25)).alloc (.cells #[.int .i64 k.h, sv9 k.a, sv9 k.b, sv9 k.c, sv9 k.d] 27) := ⟨_, rfl⟩
  have h0 := Qk13.new w q k
  rw [← hw0] at h0
  have HU := Lib.hid hu
  have HW := Lib.hid hw0
  have HAT0 := Lib.hid h0
  have HAL : Hid (∀ W, Calls Try.prog 8 #[] W fun e w' => e = .returned (.bool true) ∧ Turn (fun _ => False) W w') := fun W => alive_any13 W
  have HLI : Hid (∀ W, Calls Try.prog 6 #[.agg (cells13 q)] W fun e w' => e = .returned (.bool (light13 q)) ∧ Turn (fun _ => False) W w') := fun W => light_any13 q W
  obtain ⟨⟨c0, c1, c2, c3, c4, c5, c6, c7, c8, c9, c10, c11, c12, c13⟩, -⟩ := h0.s
  rw [hw0] at c0 c1 c2 c3 c4 c5 c6 c7 c8 c9 c10 c11 c12 c13
  clear hw0 h0 hu _wn _wx
  rw [hL] at HLI
  clear hL
  go_enter Try.func5, Try.ntmps5
  go_wp2_with fail
  rw [← HW.out]
  refine (HLI.out _).mono ?_
  rintro e w1 ⟨rfl, t1⟩
  have HAT1 := Lib.hid (HAT0.out.later t1)
  clear t1 c0 c1 c2 c3 c4 c5 c6 c7 c8 c9 c10 c11 c12 c13 HAT0
  go_wp2_with fail
  refine (HAL.out _).mono ?_
  rintro e wB ⟨rfl, tB⟩
  have HTB := Lib.hid (HAT1.out.turn.trans tB (fun _ _ f => f))
  clear tB
  go_wp2
  go_ret
  exact ⟨rfl, HTB.out.below (Nat.le_refl _) (fun _ f => f.elim)⟩

set_option maxRecDepth 100000 in
set_option maxHeartbeats 16000000 in
theorem dead2 (q : Q13) (u : Value) (m : List UInt8) (n : Int) (_wn : (Lit.int .i64 n).wf = true) (x : Int) (_wx : (Lit.int .i64 x).wf = true) (k : K9) (w : World) (hu : Rd w u m) (hL : light13 q = true) (hm : ¬ m.length ≤ 200) :
    Calls Try.prog 5 #[qv13 q, u, .int .i64 n, .int .i64 x, kv9 k] w fun e w' => e = .returned (.bool true) ∧ Below w.heap.size w w' := by
  unfold qv13 kv9
  obtain ⟨A, c, rfl⟩ := hu.shape
  obtain ⟨w0, hw0⟩ : ∃ w0, w0 = (w.alloc (.cells (cells13 q) 25)).alloc (.cells #[.int .i64 k.h, sv9 k.a, sv9 k.b, sv9 k.c, sv9 k.d] 27) := ⟨_, rfl⟩
  have h0 := Qk13.new w q k
  rw [← hw0] at h0
  have HU := Lib.hid hu
  have HW := Lib.hid hw0
  have HAT0 := Lib.hid h0
  have HAL : Hid (∀ W, Calls Try.prog 8 #[] W fun e w' => e = .returned (.bool true) ∧ Turn (fun _ => False) W w') := fun W => alive_any13 W
  have HLI : Hid (∀ W, Calls Try.prog 6 #[.agg (cells13 q)] W fun e w' => e = .returned (.bool (light13 q)) ∧ Turn (fun _ => False) W w') := fun W => light_any13 q W
  obtain ⟨⟨c0, c1, c2, c3, c4, c5, c6, c7, c8, c9, c10, c11, c12, c13⟩, -⟩ := h0.s
  rw [hw0] at c0 c1 c2 c3 c4 c5 c6 c7 c8 c9 c10 c11 c12 c13
  clear hw0 h0 hu _wn _wx
  rw [hL] at HLI
  clear hL
  have hmk : (200 : Int) < (m.length : Int) := by omega
  clear hm
  go_enter Try.func5, Try.ntmps5
  go_wp2_with fail
  rw [← HW.out]
  refine (HLI.out _).mono ?_
  rintro e w1 ⟨rfl, t1⟩
  have HAT1 := Lib.hid (HAT0.out.later t1)
  clear t1 c0 c1 c2 c3 c4 c5 c6 c7 c8 c9 c10 c11 c12 c13 HAT0
  go_wp2_with fail
  refine (HAL.out _).mono ?_
  rintro e wB ⟨rfl, tB⟩
  have HTB := Lib.hid (HAT1.out.turn.trans tB (fun _ _ f => f))
  clear tB
  go_wp2
  go_ret
  exact ⟨rfl, HTB.out.below (Nat.le_refl _) (fun _ f => f.elim)⟩

set_option maxRecDepth 100000 in
set_option maxHeartbeats 16000000 in
theorem good_t_ok (q : Q13) (u : Value) (m : List UInt8) (n : Int) (_wn : (Lit.int .i64 n).wf = true) (x : Int) (_wx : (Lit.int .i64 x).wf = true) (k : K9) (w : World) (hu : Rd w u m) (hL : light13 q = true) (hm : m.length ≤ 200) (hfa : chkQ q n = 0) (hM : matchB q k = true) (hfb : (readQ m n).1 = 0) :
    Calls Try.prog 5 #[qv13 q, u, .int .i64 n, .int .i64 x, kv9 k] w fun e w' => e = .returned (.bool true) ∧ Below w.heap.size w w' := by
  unfold qv13 kv9
  obtain ⟨A, c, rfl⟩ := hu.shape
  obtain ⟨w0, hw0⟩ : ∃ w0, w0 = (w.alloc (.cells (cells13 q) 25)).alloc (.cells #[.int .i64 k.h, sv9 k.a, sv9 k.b, sv9 k.c, sv9 k.d] 27) := ⟨_, rfl⟩
  have h0 := Qk13.new w q k
  rw [← hw0] at h0
  have HU := Lib.hid hu
  have HW := Lib.hid hw0
  have HAT0 := Lib.hid h0
  have HAL : Hid (∀ W, Calls Try.prog 8 #[] W fun e w' => e = .returned (.bool true) ∧ Turn (fun _ => False) W w') := fun W => alive_any13 W
  have HLI : Hid (∀ W, Calls Try.prog 6 #[.agg (cells13 q)] W fun e w' => e = .returned (.bool (light13 q)) ∧ Turn (fun _ => False) W w') := fun W => light_any13 q W
  obtain ⟨⟨c0, c1, c2, c3, c4, c5, c6, c7, c8, c9, c10, c11, c12, c13⟩, -⟩ := h0.s
  rw [hw0] at c0 c1 c2 c3 c4 c5 c6 c7 c8 c9 c10 c11 c12 c13
  clear hw0 h0 hu _wn _wx
  rw [hL] at HLI
  clear hL
  have hmk : ¬ (200 : Int) < (m.length : Int) := by omega
  have hm1 : m.length ≤ 1000000 := by omega
  clear hm
  obtain ⟨hn, hr, ho⟩ := chkQ_good hfa
  have hlen : (encQ q n.toNat).length ≤ 300 := encQ_len (by omega) (okQ_text ho)
  have hbk := readQ_back hfa
  have HEN : Hid (∀ W, Calls Try.prog 13 #[.agg (cells13 q), .int .i64 n] W fun e w' => ∃ v, e = .returned (.tuple #[v, .int .i64 0]) ∧ Rd w' v (encQ q n.toNat) ∧ Turn (fun _ => False) W w') := fun W => by
    refine (encode_any13 q n W).mono fun e w' h => ?_
    obtain ⟨v, g1, g2, g3, -⟩ := h.rd
    rw [hfa, if_pos rfl] at g2
    rw [hfa] at g1
    exact ⟨v, g1, g2, g3⟩
  have HRE : Hid (∀ V W, Rd W V (encQ q n.toNat) → Calls Try.prog 15 #[V, .int .i64 n] W fun e w' => e = .returned (.tuple #[.agg (cells13 q), .int .i64 0]) ∧ Turn (fun _ => False) W w') := fun V W hV => by
    have h := read_any13 V _ n W hV (by omega)
    unfold Readed13 at h
    rw [hbk] at h
    exact h
  clear hfa hn hr ho hlen hbk
  go_enter Try.func5, Try.ntmps5
  go_wp2_with fail
  rw [← HW.out]
  refine (HLI.out _).mono ?_
  rintro e w1 ⟨rfl, t1⟩
  have HAT1 := Lib.hid (HAT0.out.later t1)
  clear t1 c0 c1 c2 c3 c4 c5 c6 c7 c8 c9 c10 c11 c12 c13 HAT0
  obtain ⟨⟨b0, b1, b2, b3, b4, b5, b6, b7, b8, b9, b10, b11, b12, b13⟩, -⟩ := HAT1.out.s
  go_wp2_with fail
  refine (HEN.out w1).mono ?_
  rintro e w2 ⟨v2, rfl, r2, t2⟩
  have HAT2 := Lib.hid (HAT1.out.later t2)
  have HR2 := Lib.hid r2
  clear r2 t2 b0 b1 b2 b3 b4 b5 b6 b7 b8 b9 b10 b11 b12 b13 HAT1 HEN
  go_wp2_with fail
  refine (HRE.out v2 w2 HR2.out).mono ?_
  rintro e w3 ⟨rfl, t3⟩
  have HAT3 := Lib.hid (HAT2.out.later t3)
  clear t3 HAT2 HR2 HRE
  go_wp2_with fail
  obtain ⟨wp, hwp⟩ : ∃ wp, wp = w3.alloc (.cells (cells13 q) 25) := ⟨_, rfl⟩
  obtain ⟨P, hP⟩ : ∃ P, P = w3.heap.size := ⟨_, rfl⟩
  obtain ⟨b, hbb⟩ : ∃ b, b = w.heap.size := ⟨_, rfl⟩
  obtain ⟨mm, hmm⟩ : ∃ mm, mm = w.heap.size + 1 := ⟨_, rfl⟩
  have hbk : Bk13 w b mm P q k wp := by
    rw [hwp, hP, hbb, hmm]
    exact ⟨HAT3.out.later ((Turn.refl _ w3).alloc _), Box.new w3 _ _⟩
  have HAT := Lib.hid (hbk.later (Turn.refl (fun _ => False) wp).drew)
  unfold cells13 sv9 at hwp
  rw [← hwp, ← hmm, ← hbb, ← hP]
  clear hwp hmm hbb hP hbk HAT3
  refine drawn_region (fun W => CQ13 W b q ∧ CK13 W mm k ∧ CQ13 W P q) [] (by kernel_rfl) ?_
  generalize World.drew wp = wd at *
  have hS0 : CQ13 wd b q ∧ CK13 wd mm k ∧ CQ13 wd P q := HAT.out.s
  refine drawn_take 0 42 (.int .i64 0) rfl rfl (by kernel_rfl) (by kernel_rfl) (by kernel_rfl) (by kernel_rfl) (fun _ _ _ h => h) (by rfl) (by assumption) (by intro w hSw; obtain ⟨⟨b0, b1, b2, b3, b4, b5, b6, b7, b8, b9, b10, b11, b12, b13⟩, ⟨m0, m1, m2, m3, m4⟩, ⟨p0, p1, p2, p3, p4, p5, p6, p7, p8, p9, p10, p11, p12, p13⟩⟩ := hSw; go_simp) ?_
  try simp only [List.setIfInBounds_toArray, List.set_cons_zero, List.set_cons_succ]
  refine drawn_take 1 43 (.bool false) rfl rfl (by kernel_rfl) (by kernel_rfl) (by kernel_rfl) (by kernel_rfl) (fun _ _ _ h => h) (by rfl) (by assumption) (by intro w hSw; obtain ⟨⟨b0, b1, b2, b3, b4, b5, b6, b7, b8, b9, b10, b11, b12, b13⟩, ⟨m0, m1, m2, m3, m4⟩, ⟨p0, p1, p2, p3, p4, p5, p6, p7, p8, p9, p10, p11, p12, p13⟩⟩ := hSw; go_simp) ?_
  try simp only [List.setIfInBounds_toArray, List.set_cons_zero, List.set_cons_succ]
  refine drawn_take 2 44 (.bool false) rfl rfl (by kernel_rfl) (by kernel_rfl) (by kernel_rfl) (by kernel_rfl) (fun _ _ _ h => h) (by rfl) (by assumption) (by intro w hSw; obtain ⟨⟨b0, b1, b2, b3, b4, b5, b6, b7, b8, b9, b10, b11, b12, b13⟩, ⟨m0, m1, m2, m3, m4⟩, ⟨p0, p1, p2, p3, p4, p5, p6, p7, p8, p9, p10, p11, p12, p13⟩⟩ := hSw; go_simp) ?_
  try simp only [List.setIfInBounds_toArray, List.set_cons_zero, List.set_cons_succ]
  refine drawn_take 3 45 (.agg (cells13 q)) rfl rfl (by kernel_rfl) (by kernel_rfl) (by kernel_rfl) (by kernel_rfl) (fun _ _ _ h => h) (by rfl) (by assumption) (by intro w hSw; obtain ⟨⟨b0, b1, b2, b3, b4, b5, b6, b7, b8, b9, b10, b11, b12, b13⟩, ⟨m0, m1, m2, m3, m4⟩, ⟨p0, p1, p2, p3, p4, p5, p6, p7, p8, p9, p10, p11, p12, p13⟩⟩ := hSw; go_simp) ?_
  try simp only [List.setIfInBounds_toArray, List.set_cons_zero, List.set_cons_succ]
  refine drawn_take 4 46 (.agg (cells13 q)) rfl rfl (by kernel_rfl) (by kernel_rfl) (by kernel_rfl) (by kernel_rfl) (fun _ _ _ h => h) (by rfl) (by assumption) (by intro w hSw; obtain ⟨⟨b0, b1, b2, b3, b4, b5, b6, b7, b8, b9, b10, b11, b12, b13⟩, ⟨m0, m1, m2, m3, m4⟩, ⟨p0, p1, p2, p3, p4, p5, p6, p7, p8, p9, p10, p11, p12, p13⟩⟩ := hSw; go_simp) ?_
  try simp only [List.setIfInBounds_toArray, List.set_cons_zero, List.set_cons_succ]
  have hne := run_neq_query13 q q
  have hgd := fun op X Y => guard_query13 op X Y q q
  rw [decide_eq_true rfl, Bool.not_true] at hne
  unfold qv13 at hne hgd
  refine drawn_take 5 47 (.bool false) rfl rfl (by kernel_rfl) (by kernel_rfl) (by kernel_rfl) (by kernel_rfl) (fun _ _ _ h => h) (by rfl) (by assumption) (by intro w hSw; clear hSw; go_simp) ?_
  try simp only [List.setIfInBounds_toArray, List.set_cons_zero, List.set_cons_succ]
  clear hne hgd
  refine drawn_take 6 48 (.bool false) rfl rfl (by kernel_rfl) (by kernel_rfl) (by kernel_rfl) (by kernel_rfl) (fun _ _ _ h => h) (by rfl) (by assumption) (by intro w hSw; obtain ⟨⟨b0, b1, b2, b3, b4, b5, b6, b7, b8, b9, b10, b11, b12, b13⟩, ⟨m0, m1, m2, m3, m4⟩, ⟨p0, p1, p2, p3, p4, p5, p6, p7, p8, p9, p10, p11, p12, p13⟩⟩ := hSw; go_simp) ?_
  try simp only [List.setIfInBounds_toArray, List.set_cons_zero, List.set_cons_succ]
  refine drawn_take 7 49 (.bool false) rfl rfl (by kernel_rfl) (by kernel_rfl) (by kernel_rfl) (by kernel_rfl) (fun _ _ _ h => h) (by rfl) (by assumption) (by intro w hSw; obtain ⟨⟨b0, b1, b2, b3, b4, b5, b6, b7, b8, b9, b10, b11, b12, b13⟩, ⟨m0, m1, m2, m3, m4⟩, ⟨p0, p1, p2, p3, p4, p5, p6, p7, p8, p9, p10, p11, p12, p13⟩⟩ := hSw; go_simp) ?_
  try simp only [List.setIfInBounds_toArray, List.set_cons_zero, List.set_cons_succ]
  refine drawn_take 8 50 (.agg (cells13 q)) rfl rfl (by kernel_rfl) (by kernel_rfl) (by kernel_rfl) (by kernel_rfl) (fun _ _ _ h => h) (by rfl) (by assumption) (by intro w hSw; obtain ⟨⟨b0, b1, b2, b3, b4, b5, b6, b7, b8, b9, b10, b11, b12, b13⟩, ⟨m0, m1, m2, m3, m4⟩, ⟨p0, p1, p2, p3, p4, p5, p6, p7, p8, p9, p10, p11, p12, p13⟩⟩ := hSw; go_simp) ?_
  try simp only [List.setIfInBounds_toArray, List.set_cons_zero, List.set_cons_succ]
  refine drawn_take 9 51 (.int .i64 x) rfl rfl (by kernel_rfl) (by kernel_rfl) (by kernel_rfl) (by kernel_rfl) (fun _ _ _ h => h) (by rfl) (by assumption) (by intro w hSw; obtain ⟨⟨b0, b1, b2, b3, b4, b5, b6, b7, b8, b9, b10, b11, b12, b13⟩, ⟨m0, m1, m2, m3, m4⟩, ⟨p0, p1, p2, p3, p4, p5, p6, p7, p8, p9, p10, p11, p12, p13⟩⟩ := hSw; go_simp) ?_
  try simp only [List.setIfInBounds_toArray, List.set_cons_zero, List.set_cons_succ]
  refine drawn_take 11 53 (.agg #[.int .i64 k.h, sv9 k.a, sv9 k.b, sv9 k.c, sv9 k.d]) rfl rfl (by kernel_rfl) (by kernel_rfl) (by kernel_rfl) (by kernel_rfl) (fun _ _ _ h => h) (by rfl) (by assumption) (by intro w hSw; obtain ⟨⟨b0, b1, b2, b3, b4, b5, b6, b7, b8, b9, b10, b11, b12, b13⟩, ⟨m0, m1, m2, m3, m4⟩, ⟨p0, p1, p2, p3, p4, p5, p6, p7, p8, p9, p10, p11, p12, p13⟩⟩ := hSw; go_simp) ?_
  try simp only [List.setIfInBounds_toArray, List.set_cons_zero, List.set_cons_succ]
  refine drawn_take 13 55 (.agg (cells13 q)) rfl rfl (by kernel_rfl) (by kernel_rfl) (by kernel_rfl) (by kernel_rfl) (fun _ _ _ h => h) (by rfl) (by assumption) (by intro w hSw; obtain ⟨⟨b0, b1, b2, b3, b4, b5, b6, b7, b8, b9, b10, b11, b12, b13⟩, ⟨m0, m1, m2, m3, m4⟩, ⟨p0, p1, p2, p3, p4, p5, p6, p7, p8, p9, p10, p11, p12, p13⟩⟩ := hSw; go_simp) ?_
  try simp only [List.setIfInBounds_toArray, List.set_cons_zero, List.set_cons_succ]
  refine drawn_take 14 56 (.agg #[.int .i64 k.h, sv9 k.a, sv9 k.b, sv9 k.c, sv9 k.d]) rfl rfl (by kernel_rfl) (by kernel_rfl) (by kernel_rfl) (by kernel_rfl) (fun _ _ _ h => h) (by rfl) (by assumption) (by intro w hSw; obtain ⟨⟨b0, b1, b2, b3, b4, b5, b6, b7, b8, b9, b10, b11, b12, b13⟩, ⟨m0, m1, m2, m3, m4⟩, ⟨p0, p1, p2, p3, p4, p5, p6, p7, p8, p9, p10, p11, p12, p13⟩⟩ := hSw; go_simp) ?_
  try simp only [List.setIfInBounds_toArray, List.set_cons_zero, List.set_cons_succ]
  refine drawn_any [10] (by kernel_rfl) (by simp) ?_
  refine drawn_cons rfl (fun K2 hK => ?_) drawn_nil
  go_simp
  refine (cut_any13 q x wd).mono ?_
  rintro e w4 ⟨rfl, t4⟩
  have HAT4 := Lib.hid (HAT.out.later t4)
  have hS4 : CQ13 w4 b q ∧ CK13 w4 mm k ∧ CQ13 w4 P q := HAT4.out.s
  refine hK.out _ _ _ hS4 ?_
  clear hK K2 HAT hS0 t4
  try simp only [List.setIfInBounds_toArray, List.set_cons_zero, List.set_cons_succ]
  refine drawn_any [12] (by kernel_rfl) (by simp) ?_
  refine drawn_cons rfl (fun K2 hK => ?_) drawn_nil
  go_simp
  refine (matches_any13 (cutQ q x) k w4).mono ?_
  rw [match_cut]
  rintro e w5 ⟨rfl, t5⟩
  have HAT5 := Lib.hid (HAT4.out.later t5)
  have hS5 : CQ13 w5 b q ∧ CK13 w5 mm k ∧ CQ13 w5 P q := HAT5.out.s
  refine hK.out _ _ _ hS5 ?_
  clear hK K2 HAT4 hS4 t5
  try simp only [List.setIfInBounds_toArray, List.set_cons_zero, List.set_cons_succ]
  refine drawn_any [15] (by kernel_rfl) (by simp) ?_
  refine drawn_cons rfl (fun K2 hK => ?_) drawn_nil
  go_simp
  refine (matches_any13 q k w5).mono ?_
  rintro e w6 ⟨rfl, t6⟩
  have HAT6 := Lib.hid (HAT5.out.later t6)
  have hS6 : CQ13 w6 b q ∧ CK13 w6 mm k ∧ CQ13 w6 P q := HAT6.out.s
  refine hK.out _ _ _ hS6 ?_
  clear hK K2 HAT5 hS5 t6
  try simp only [List.setIfInBounds_toArray, List.set_cons_zero, List.set_cons_succ]
  obtain ⟨y, hy⟩ : ∃ y, y = decide (x ≤ k.h) := ⟨_, rfl⟩
  try rw [← hy]
  try rw [hM]
  clear hM
  refine drawn_take 16 58 (.bool true) rfl rfl (by kernel_rfl) (by kernel_rfl) (by kernel_rfl) (by kernel_rfl) (fun _ _ _ h => h) (by rfl) (by assumption) (by intro w hSw; obtain ⟨⟨b0, b1, b2, b3, b4, b5, b6, b7, b8, b9, b10, b11, b12, b13⟩, ⟨m0, m1, m2, m3, m4⟩, ⟨p0, p1, p2, p3, p4, p5, p6, p7, p8, p9, p10, p11, p12, p13⟩⟩ := hSw; go_simp) ?_
  try simp only [List.setIfInBounds_toArray, List.set_cons_zero, List.set_cons_succ]
  refine drawn_take 17 59 (.pointer (some ⟨mm, 0, none⟩)) rfl rfl (by kernel_rfl) (by kernel_rfl) (by kernel_rfl) (by kernel_rfl) (fun _ _ _ h => h) (by rfl) (by assumption) (by intro w hSw; obtain ⟨⟨b0, b1, b2, b3, b4, b5, b6, b7, b8, b9, b10, b11, b12, b13⟩, ⟨m0, m1, m2, m3, m4⟩, ⟨p0, p1, p2, p3, p4, p5, p6, p7, p8, p9, p10, p11, p12, p13⟩⟩ := hSw; go_simp) ?_
  try simp only [List.setIfInBounds_toArray, List.set_cons_zero, List.set_cons_succ]
  refine drawn_take 18 60 (.int .i64 k.h) rfl rfl (by kernel_rfl) (by kernel_rfl) (by kernel_rfl) (by kernel_rfl) (fun _ _ _ h => h) (by rfl) (by assumption) (by intro w hSw; obtain ⟨⟨b0, b1, b2, b3, b4, b5, b6, b7, b8, b9, b10, b11, b12, b13⟩, ⟨m0, m1, m2, m3, m4⟩, ⟨p0, p1, p2, p3, p4, p5, p6, p7, p8, p9, p10, p11, p12, p13⟩⟩ := hSw; go_simp) ?_
  try simp only [List.setIfInBounds_toArray, List.set_cons_zero, List.set_cons_succ]
  refine drawn_take 19 61 (.int .i64 x) rfl rfl (by kernel_rfl) (by kernel_rfl) (by kernel_rfl) (by kernel_rfl) (fun _ _ _ h => h) (by rfl) (by assumption) (by intro w hSw; obtain ⟨⟨b0, b1, b2, b3, b4, b5, b6, b7, b8, b9, b10, b11, b12, b13⟩, ⟨m0, m1, m2, m3, m4⟩, ⟨p0, p1, p2, p3, p4, p5, p6, p7, p8, p9, p10, p11, p12, p13⟩⟩ := hSw; go_simp) ?_
  try simp only [List.setIfInBounds_toArray, List.set_cons_zero, List.set_cons_succ]
  refine drawn_take 20 62 (.bool y) rfl rfl (by kernel_rfl) (by kernel_rfl) (by kernel_rfl) (by kernel_rfl) (fun _ _ _ h => h) (by rfl) (by assumption) (by intro w hSw; clear hSw; rw [hy]; go_simp) ?_
  try simp only [List.setIfInBounds_toArray, List.set_cons_zero, List.set_cons_succ]
  clear hy
  refine drawn_take 21 63 (.bool y) rfl rfl (by kernel_rfl) (by kernel_rfl) (by kernel_rfl) (by kernel_rfl) (fun _ _ _ h => h) (by rfl) (by assumption) (by intro w hSw; obtain ⟨⟨b0, b1, b2, b3, b4, b5, b6, b7, b8, b9, b10, b11, b12, b13⟩, ⟨m0, m1, m2, m3, m4⟩, ⟨p0, p1, p2, p3, p4, p5, p6, p7, p8, p9, p10, p11, p12, p13⟩⟩ := hSw; go_simp) ?_
  try simp only [List.setIfInBounds_toArray, List.set_cons_zero, List.set_cons_succ]
  refine drawn_take 22 64 (.bool false) rfl rfl (by kernel_rfl) (by kernel_rfl) (by kernel_rfl) (by kernel_rfl) (fun _ _ _ h => h) (by rfl) (by assumption) (by intro w hSw; clear hSw; cases y <;> go_simp) ?_
  try simp only [List.setIfInBounds_toArray, List.set_cons_zero, List.set_cons_succ]
  refine drawn_last1 23 65 (.bool false) rfl rfl (by kernel_rfl) (by kernel_rfl) (by rfl) (by intro w; go_simp) hS6 ?_
  try simp only [List.setIfInBounds_toArray, List.set_cons_zero, List.set_cons_succ]
  clear hS6
  go_wp2_with fail
  have HTX := Lib.hid HAT6.out.qk.turn
  obtain ⟨WX, hWX⟩ : ∃ WX, WX = w6 := ⟨_, rfl⟩
  subst hWX
  have hrd := read_any13 _ m n WX (HU.out.later HTX.out) hm1
  unfold Readed13 at hrd
  obtain ⟨q2, hq2⟩ : ∃ q2, q2 = (readQ m n).2 := ⟨_, rfl⟩
  have hr2 : readQ m n = (0, q2) := by rw [hq2, ← hfb]
  obtain ⟨e1, e2⟩ := readQ_there hr2
  rw [hr2] at hrd
  have hen2 : ∀ W, Calls Try.prog 13 #[.agg (cells13 q2), .int .i64 n] W fun e w' => ∃ v, e = .returned (.tuple #[v, .int .i64 0]) ∧ Rd w' v m ∧ Turn (fun _ => False) W w' := fun W => by
    refine (encode_any13 q2 n W).mono fun e w' h => ?_
    obtain ⟨v, g1, g2, g3, -⟩ := h.rd
    rw [e2, if_pos rfl, e1] at g2
    rw [e2] at g1
    exact ⟨v, g1, g2, g3⟩
  have HEN2 := Lib.hid hen2
  clear hen2 e1 e2 hr2 hq2 hfb
  go_wp2_with fail
  refine hrd.mono ?_
  rintro e wr ⟨rfl, tr⟩
  clear hrd
  have htx := HTX.out.trans tr (fun _ _ f => f)
  clear tr
  obtain ⟨wp, hwp⟩ : ∃ wp, wp = wr.alloc (.cells (cells13 q2) 25) := ⟨_, rfl⟩
  have htp : Turn (fun _ => False) w wp := by rw [hwp]; exact htx.alloc _
  have hbp : Box wp wr.heap.size 25 (cells13 q2) := by rw [hwp]; exact Box.new wr _ _
  obtain ⟨b0, b1, b2, b3, b4, b5, b6, b7, b8, b9, b10, b11, b12, b13⟩ := box_query13 hbp
  have HTP := Lib.hid htp
  have HWP := hwp
  unfold cells13 sv9 at HWP
  rw [hwp] at b0 b1 b2 b3 b4 b5 b6 b7 b8 b9 b10 b11 b12 b13
  have HWH := Lib.hid HWP
  clear htx htp hbp hwp HWP
  dsimp only
  go_wp2_with fail
  rw [← HWH.out]
  refine (HEN2.out wp).mono ?_
  rintro e wv ⟨v, rfl, rv, tv⟩
  have HTV := Lib.hid (HTP.out.trans tv (fun _ _ f => f))
  have HRV := Lib.hid rv
  clear rv tv b0 b1 b2 b3 b4 b5 b6 b7 b8 b9 b10 b11 b12 b13
  go_wp2_with fail
  refine (same_any _ _ _ _ wv HRV.out (HU.out.later HTV.out)).mono ?_
  rintro e w8 ⟨rfl, rfl⟩
  rw [beq_self_eq_true]
  go_wp2_with fail
  refine (HAL.out wv).mono ?_
  rintro e wB ⟨rfl, tB⟩
  have HTB := Lib.hid (HTV.out.trans tB (fun _ _ f => f))
  clear tB
  go_wp2
  go_ret
  exact ⟨rfl, HTB.out.below (Nat.le_refl _) (fun _ f => f.elim)⟩

set_option maxRecDepth 100000 in
set_option maxHeartbeats 16000000 in
theorem good_f_ok (q : Q13) (u : Value) (m : List UInt8) (n : Int) (_wn : (Lit.int .i64 n).wf = true) (x : Int) (_wx : (Lit.int .i64 x).wf = true) (k : K9) (w : World) (hu : Rd w u m) (hL : light13 q = true) (hm : m.length ≤ 200) (hfa : chkQ q n = 0) (hM : matchB q k = false) (hfb : (readQ m n).1 = 0) :
    Calls Try.prog 5 #[qv13 q, u, .int .i64 n, .int .i64 x, kv9 k] w fun e w' => e = .returned (.bool true) ∧ Below w.heap.size w w' := by
  unfold qv13 kv9
  obtain ⟨A, c, rfl⟩ := hu.shape
  obtain ⟨w0, hw0⟩ : ∃ w0, w0 = (w.alloc (.cells (cells13 q) 25)).alloc (.cells #[.int .i64 k.h, sv9 k.a, sv9 k.b, sv9 k.c, sv9 k.d] 27) := ⟨_, rfl⟩
  have h0 := Qk13.new w q k
  rw [← hw0] at h0
  have HU := Lib.hid hu
  have HW := Lib.hid hw0
  have HAT0 := Lib.hid h0
  have HAL : Hid (∀ W, Calls Try.prog 8 #[] W fun e w' => e = .returned (.bool true) ∧ Turn (fun _ => False) W w') := fun W => alive_any13 W
  have HLI : Hid (∀ W, Calls Try.prog 6 #[.agg (cells13 q)] W fun e w' => e = .returned (.bool (light13 q)) ∧ Turn (fun _ => False) W w') := fun W => light_any13 q W
  obtain ⟨⟨c0, c1, c2, c3, c4, c5, c6, c7, c8, c9, c10, c11, c12, c13⟩, -⟩ := h0.s
  rw [hw0] at c0 c1 c2 c3 c4 c5 c6 c7 c8 c9 c10 c11 c12 c13
  clear hw0 h0 hu _wn _wx
  rw [hL] at HLI
  clear hL
  have hmk : ¬ (200 : Int) < (m.length : Int) := by omega
  have hm1 : m.length ≤ 1000000 := by omega
  clear hm
  obtain ⟨hn, hr, ho⟩ := chkQ_good hfa
  have hlen : (encQ q n.toNat).length ≤ 300 := encQ_len (by omega) (okQ_text ho)
  have hbk := readQ_back hfa
  have HEN : Hid (∀ W, Calls Try.prog 13 #[.agg (cells13 q), .int .i64 n] W fun e w' => ∃ v, e = .returned (.tuple #[v, .int .i64 0]) ∧ Rd w' v (encQ q n.toNat) ∧ Turn (fun _ => False) W w') := fun W => by
    refine (encode_any13 q n W).mono fun e w' h => ?_
    obtain ⟨v, g1, g2, g3, -⟩ := h.rd
    rw [hfa, if_pos rfl] at g2
    rw [hfa] at g1
    exact ⟨v, g1, g2, g3⟩
  have HRE : Hid (∀ V W, Rd W V (encQ q n.toNat) → Calls Try.prog 15 #[V, .int .i64 n] W fun e w' => e = .returned (.tuple #[.agg (cells13 q), .int .i64 0]) ∧ Turn (fun _ => False) W w') := fun V W hV => by
    have h := read_any13 V _ n W hV (by omega)
    unfold Readed13 at h
    rw [hbk] at h
    exact h
  clear hfa hn hr ho hlen hbk
  go_enter Try.func5, Try.ntmps5
  go_wp2_with fail
  rw [← HW.out]
  refine (HLI.out _).mono ?_
  rintro e w1 ⟨rfl, t1⟩
  have HAT1 := Lib.hid (HAT0.out.later t1)
  clear t1 c0 c1 c2 c3 c4 c5 c6 c7 c8 c9 c10 c11 c12 c13 HAT0
  obtain ⟨⟨b0, b1, b2, b3, b4, b5, b6, b7, b8, b9, b10, b11, b12, b13⟩, -⟩ := HAT1.out.s
  go_wp2_with fail
  refine (HEN.out w1).mono ?_
  rintro e w2 ⟨v2, rfl, r2, t2⟩
  have HAT2 := Lib.hid (HAT1.out.later t2)
  have HR2 := Lib.hid r2
  clear r2 t2 b0 b1 b2 b3 b4 b5 b6 b7 b8 b9 b10 b11 b12 b13 HAT1 HEN
  go_wp2_with fail
  refine (HRE.out v2 w2 HR2.out).mono ?_
  rintro e w3 ⟨rfl, t3⟩
  have HAT3 := Lib.hid (HAT2.out.later t3)
  clear t3 HAT2 HR2 HRE
  go_wp2_with fail
  obtain ⟨wp, hwp⟩ : ∃ wp, wp = w3.alloc (.cells (cells13 q) 25) := ⟨_, rfl⟩
  obtain ⟨P, hP⟩ : ∃ P, P = w3.heap.size := ⟨_, rfl⟩
  obtain ⟨b, hbb⟩ : ∃ b, b = w.heap.size := ⟨_, rfl⟩
  obtain ⟨mm, hmm⟩ : ∃ mm, mm = w.heap.size + 1 := ⟨_, rfl⟩
  have hbk : Bk13 w b mm P q k wp := by
    rw [hwp, hP, hbb, hmm]
    exact ⟨HAT3.out.later ((Turn.refl _ w3).alloc _), Box.new w3 _ _⟩
  have HAT := Lib.hid (hbk.later (Turn.refl (fun _ => False) wp).drew)
  unfold cells13 sv9 at hwp
  rw [← hwp, ← hmm, ← hbb, ← hP]
  clear hwp hmm hbb hP hbk HAT3
  refine drawn_region (fun W => CQ13 W b q ∧ CK13 W mm k ∧ CQ13 W P q) [] (by kernel_rfl) ?_
  generalize World.drew wp = wd at *
  have hS0 : CQ13 wd b q ∧ CK13 wd mm k ∧ CQ13 wd P q := HAT.out.s
  refine drawn_take 0 42 (.int .i64 0) rfl rfl (by kernel_rfl) (by kernel_rfl) (by kernel_rfl) (by kernel_rfl) (fun _ _ _ h => h) (by rfl) (by assumption) (by intro w hSw; obtain ⟨⟨b0, b1, b2, b3, b4, b5, b6, b7, b8, b9, b10, b11, b12, b13⟩, ⟨m0, m1, m2, m3, m4⟩, ⟨p0, p1, p2, p3, p4, p5, p6, p7, p8, p9, p10, p11, p12, p13⟩⟩ := hSw; go_simp) ?_
  try simp only [List.setIfInBounds_toArray, List.set_cons_zero, List.set_cons_succ]
  refine drawn_take 1 43 (.bool false) rfl rfl (by kernel_rfl) (by kernel_rfl) (by kernel_rfl) (by kernel_rfl) (fun _ _ _ h => h) (by rfl) (by assumption) (by intro w hSw; obtain ⟨⟨b0, b1, b2, b3, b4, b5, b6, b7, b8, b9, b10, b11, b12, b13⟩, ⟨m0, m1, m2, m3, m4⟩, ⟨p0, p1, p2, p3, p4, p5, p6, p7, p8, p9, p10, p11, p12, p13⟩⟩ := hSw; go_simp) ?_
  try simp only [List.setIfInBounds_toArray, List.set_cons_zero, List.set_cons_succ]
  refine drawn_take 2 44 (.bool false) rfl rfl (by kernel_rfl) (by kernel_rfl) (by kernel_rfl) (by kernel_rfl) (fun _ _ _ h => h) (by rfl) (by assumption) (by intro w hSw; obtain ⟨⟨b0, b1, b2, b3, b4, b5, b6, b7, b8, b9, b10, b11, b12, b13⟩, ⟨m0, m1, m2, m3, m4⟩, ⟨p0, p1, p2, p3, p4, p5, p6, p7, p8, p9, p10, p11, p12, p13⟩⟩ := hSw; go_simp) ?_
  try simp only [List.setIfInBounds_toArray, List.set_cons_zero, List.set_cons_succ]
  refine drawn_take 3 45 (.agg (cells13 q)) rfl rfl (by kernel_rfl) (by kernel_rfl) (by kernel_rfl) (by kernel_rfl) (fun _ _ _ h => h) (by rfl) (by assumption) (by intro w hSw; obtain ⟨⟨b0, b1, b2, b3, b4, b5, b6, b7, b8, b9, b10, b11, b12, b13⟩, ⟨m0, m1, m2, m3, m4⟩, ⟨p0, p1, p2, p3, p4, p5, p6, p7, p8, p9, p10, p11, p12, p13⟩⟩ := hSw; go_simp) ?_
  try simp only [List.setIfInBounds_toArray, List.set_cons_zero, List.set_cons_succ]
  refine drawn_take 4 46 (.agg (cells13 q)) rfl rfl (by kernel_rfl) (by kernel_rfl) (by kernel_rfl) (by kernel_rfl) (fun _ _ _ h => h) (by rfl) (by assumption) (by intro w hSw; obtain ⟨⟨b0, b1, b2, b3, b4, b5, b6, b7, b8, b9, b10, b11, b12, b13⟩, ⟨m0, m1, m2, m3, m4⟩, ⟨p0, p1, p2, p3, p4, p5, p6, p7, p8, p9, p10, p11, p12, p13⟩⟩ := hSw; go_simp) ?_
  try simp only [List.setIfInBounds_toArray, List.set_cons_zero, List.set_cons_succ]
  have hne := run_neq_query13 q q
  have hgd := fun op X Y => guard_query13 op X Y q q
  rw [decide_eq_true rfl, Bool.not_true] at hne
  unfold qv13 at hne hgd
  refine drawn_take 5 47 (.bool false) rfl rfl (by kernel_rfl) (by kernel_rfl) (by kernel_rfl) (by kernel_rfl) (fun _ _ _ h => h) (by rfl) (by assumption) (by intro w hSw; clear hSw; go_simp) ?_
  try simp only [List.setIfInBounds_toArray, List.set_cons_zero, List.set_cons_succ]
  clear hne hgd
  refine drawn_take 6 48 (.bool false) rfl rfl (by kernel_rfl) (by kernel_rfl) (by kernel_rfl) (by kernel_rfl) (fun _ _ _ h => h) (by rfl) (by assumption) (by intro w hSw; obtain ⟨⟨b0, b1, b2, b3, b4, b5, b6, b7, b8, b9, b10, b11, b12, b13⟩, ⟨m0, m1, m2, m3, m4⟩, ⟨p0, p1, p2, p3, p4, p5, p6, p7, p8, p9, p10, p11, p12, p13⟩⟩ := hSw; go_simp) ?_
  try simp only [List.setIfInBounds_toArray, List.set_cons_zero, List.set_cons_succ]
  refine drawn_take 7 49 (.bool false) rfl rfl (by kernel_rfl) (by kernel_rfl) (by kernel_rfl) (by kernel_rfl) (fun _ _ _ h => h) (by rfl) (by assumption) (by intro w hSw; obtain ⟨⟨b0, b1, b2, b3, b4, b5, b6, b7, b8, b9, b10, b11, b12, b13⟩, ⟨m0, m1, m2, m3, m4⟩, ⟨p0, p1, p2, p3, p4, p5, p6, p7, p8, p9, p10, p11, p12, p13⟩⟩ := hSw; go_simp) ?_
  try simp only [List.setIfInBounds_toArray, List.set_cons_zero, List.set_cons_succ]
  refine drawn_take 8 50 (.agg (cells13 q)) rfl rfl (by kernel_rfl) (by kernel_rfl) (by kernel_rfl) (by kernel_rfl) (fun _ _ _ h => h) (by rfl) (by assumption) (by intro w hSw; obtain ⟨⟨b0, b1, b2, b3, b4, b5, b6, b7, b8, b9, b10, b11, b12, b13⟩, ⟨m0, m1, m2, m3, m4⟩, ⟨p0, p1, p2, p3, p4, p5, p6, p7, p8, p9, p10, p11, p12, p13⟩⟩ := hSw; go_simp) ?_
  try simp only [List.setIfInBounds_toArray, List.set_cons_zero, List.set_cons_succ]
  refine drawn_take 9 51 (.int .i64 x) rfl rfl (by kernel_rfl) (by kernel_rfl) (by kernel_rfl) (by kernel_rfl) (fun _ _ _ h => h) (by rfl) (by assumption) (by intro w hSw; obtain ⟨⟨b0, b1, b2, b3, b4, b5, b6, b7, b8, b9, b10, b11, b12, b13⟩, ⟨m0, m1, m2, m3, m4⟩, ⟨p0, p1, p2, p3, p4, p5, p6, p7, p8, p9, p10, p11, p12, p13⟩⟩ := hSw; go_simp) ?_
  try simp only [List.setIfInBounds_toArray, List.set_cons_zero, List.set_cons_succ]
  refine drawn_take 11 53 (.agg #[.int .i64 k.h, sv9 k.a, sv9 k.b, sv9 k.c, sv9 k.d]) rfl rfl (by kernel_rfl) (by kernel_rfl) (by kernel_rfl) (by kernel_rfl) (fun _ _ _ h => h) (by rfl) (by assumption) (by intro w hSw; obtain ⟨⟨b0, b1, b2, b3, b4, b5, b6, b7, b8, b9, b10, b11, b12, b13⟩, ⟨m0, m1, m2, m3, m4⟩, ⟨p0, p1, p2, p3, p4, p5, p6, p7, p8, p9, p10, p11, p12, p13⟩⟩ := hSw; go_simp) ?_
  try simp only [List.setIfInBounds_toArray, List.set_cons_zero, List.set_cons_succ]
  refine drawn_take 13 55 (.agg (cells13 q)) rfl rfl (by kernel_rfl) (by kernel_rfl) (by kernel_rfl) (by kernel_rfl) (fun _ _ _ h => h) (by rfl) (by assumption) (by intro w hSw; obtain ⟨⟨b0, b1, b2, b3, b4, b5, b6, b7, b8, b9, b10, b11, b12, b13⟩, ⟨m0, m1, m2, m3, m4⟩, ⟨p0, p1, p2, p3, p4, p5, p6, p7, p8, p9, p10, p11, p12, p13⟩⟩ := hSw; go_simp) ?_
  try simp only [List.setIfInBounds_toArray, List.set_cons_zero, List.set_cons_succ]
  refine drawn_take 14 56 (.agg #[.int .i64 k.h, sv9 k.a, sv9 k.b, sv9 k.c, sv9 k.d]) rfl rfl (by kernel_rfl) (by kernel_rfl) (by kernel_rfl) (by kernel_rfl) (fun _ _ _ h => h) (by rfl) (by assumption) (by intro w hSw; obtain ⟨⟨b0, b1, b2, b3, b4, b5, b6, b7, b8, b9, b10, b11, b12, b13⟩, ⟨m0, m1, m2, m3, m4⟩, ⟨p0, p1, p2, p3, p4, p5, p6, p7, p8, p9, p10, p11, p12, p13⟩⟩ := hSw; go_simp) ?_
  try simp only [List.setIfInBounds_toArray, List.set_cons_zero, List.set_cons_succ]
  refine drawn_any [10] (by kernel_rfl) (by simp) ?_
  refine drawn_cons rfl (fun K2 hK => ?_) drawn_nil
  go_simp
  refine (cut_any13 q x wd).mono ?_
  rintro e w4 ⟨rfl, t4⟩
  have HAT4 := Lib.hid (HAT.out.later t4)
  have hS4 : CQ13 w4 b q ∧ CK13 w4 mm k ∧ CQ13 w4 P q := HAT4.out.s
  refine hK.out _ _ _ hS4 ?_
  clear hK K2 HAT hS0 t4
  try simp only [List.setIfInBounds_toArray, List.set_cons_zero, List.set_cons_succ]
  refine drawn_any [12] (by kernel_rfl) (by simp) ?_
  refine drawn_cons rfl (fun K2 hK => ?_) drawn_nil
  go_simp
  refine (matches_any13 (cutQ q x) k w4).mono ?_
  rw [match_cut]
  rintro e w5 ⟨rfl, t5⟩
  have HAT5 := Lib.hid (HAT4.out.later t5)
  have hS5 : CQ13 w5 b q ∧ CK13 w5 mm k ∧ CQ13 w5 P q := HAT5.out.s
  refine hK.out _ _ _ hS5 ?_
  clear hK K2 HAT4 hS4 t5
  try simp only [List.setIfInBounds_toArray, List.set_cons_zero, List.set_cons_succ]
  refine drawn_any [15] (by kernel_rfl) (by simp) ?_
  refine drawn_cons rfl (fun K2 hK => ?_) drawn_nil
  go_simp
  refine (matches_any13 q k w5).mono ?_
  rintro e w6 ⟨rfl, t6⟩
  have HAT6 := Lib.hid (HAT5.out.later t6)
  have hS6 : CQ13 w6 b q ∧ CK13 w6 mm k ∧ CQ13 w6 P q := HAT6.out.s
  refine hK.out _ _ _ hS6 ?_
  clear hK K2 HAT5 hS5 t6
  try simp only [List.setIfInBounds_toArray, List.set_cons_zero, List.set_cons_succ]
  obtain ⟨y, hy⟩ : ∃ y, y = decide (x ≤ k.h) := ⟨_, rfl⟩
  try rw [← hy]
  try rw [hM]
  clear hM
  refine drawn_take 16 58 (.bool false) rfl rfl (by kernel_rfl) (by kernel_rfl) (by kernel_rfl) (by kernel_rfl) (fun _ _ _ h => h) (by rfl) (by assumption) (by intro w hSw; obtain ⟨⟨b0, b1, b2, b3, b4, b5, b6, b7, b8, b9, b10, b11, b12, b13⟩, ⟨m0, m1, m2, m3, m4⟩, ⟨p0, p1, p2, p3, p4, p5, p6, p7, p8, p9, p10, p11, p12, p13⟩⟩ := hSw; go_simp) ?_
  try simp only [List.setIfInBounds_toArray, List.set_cons_zero, List.set_cons_succ]
  refine drawn_skip 17 59 rfl rfl (by kernel_rfl) (by kernel_rfl) (by kernel_rfl) (by kernel_rfl) (fun _ _ _ h => h) (by rfl) (fun _ => by assumption) ?_
  try simp only [List.setIfInBounds_toArray, List.set_cons_zero, List.set_cons_succ]
  refine drawn_skip 18 60 rfl rfl (by kernel_rfl) (by kernel_rfl) (by kernel_rfl) (by kernel_rfl) (fun _ _ _ h => h) (by rfl) (fun _ => by assumption) ?_
  try simp only [List.setIfInBounds_toArray, List.set_cons_zero, List.set_cons_succ]
  refine drawn_skip 19 61 rfl rfl (by kernel_rfl) (by kernel_rfl) (by kernel_rfl) (by kernel_rfl) (fun _ _ _ h => h) (by rfl) (fun _ => by assumption) ?_
  try simp only [List.setIfInBounds_toArray, List.set_cons_zero, List.set_cons_succ]
  refine drawn_skip 20 62 rfl rfl (by kernel_rfl) (by kernel_rfl) (by kernel_rfl) (by kernel_rfl) (fun _ _ _ h => h) (by rfl) (fun _ => by assumption) ?_
  try simp only [List.setIfInBounds_toArray, List.set_cons_zero, List.set_cons_succ]
  refine drawn_take 21 63 (.bool false) rfl rfl (by kernel_rfl) (by kernel_rfl) (by kernel_rfl) (by kernel_rfl) (fun _ _ _ h => h) (by rfl) (by assumption) (by intro w hSw; obtain ⟨⟨b0, b1, b2, b3, b4, b5, b6, b7, b8, b9, b10, b11, b12, b13⟩, ⟨m0, m1, m2, m3, m4⟩, ⟨p0, p1, p2, p3, p4, p5, p6, p7, p8, p9, p10, p11, p12, p13⟩⟩ := hSw; go_simp) ?_
  try simp only [List.setIfInBounds_toArray, List.set_cons_zero, List.set_cons_succ]
  refine drawn_take 22 64 (.bool false) rfl rfl (by kernel_rfl) (by kernel_rfl) (by kernel_rfl) (by kernel_rfl) (fun _ _ _ h => h) (by rfl) (by assumption) (by intro w hSw; obtain ⟨⟨b0, b1, b2, b3, b4, b5, b6, b7, b8, b9, b10, b11, b12, b13⟩, ⟨m0, m1, m2, m3, m4⟩, ⟨p0, p1, p2, p3, p4, p5, p6, p7, p8, p9, p10, p11, p12, p13⟩⟩ := hSw; go_simp) ?_
  try simp only [List.setIfInBounds_toArray, List.set_cons_zero, List.set_cons_succ]
  refine drawn_last1 23 65 (.bool false) rfl rfl (by kernel_rfl) (by kernel_rfl) (by rfl) (by intro w; go_simp) hS6 ?_
  try simp only [List.setIfInBounds_toArray, List.set_cons_zero, List.set_cons_succ]
  clear hS6 hy
  go_wp2_with fail
  have HTX := Lib.hid HAT6.out.qk.turn
  obtain ⟨WX, hWX⟩ : ∃ WX, WX = w6 := ⟨_, rfl⟩
  subst hWX
  have hrd := read_any13 _ m n WX (HU.out.later HTX.out) hm1
  unfold Readed13 at hrd
  obtain ⟨q2, hq2⟩ : ∃ q2, q2 = (readQ m n).2 := ⟨_, rfl⟩
  have hr2 : readQ m n = (0, q2) := by rw [hq2, ← hfb]
  obtain ⟨e1, e2⟩ := readQ_there hr2
  rw [hr2] at hrd
  have hen2 : ∀ W, Calls Try.prog 13 #[.agg (cells13 q2), .int .i64 n] W fun e w' => ∃ v, e = .returned (.tuple #[v, .int .i64 0]) ∧ Rd w' v m ∧ Turn (fun _ => False) W w' := fun W => by
    refine (encode_any13 q2 n W).mono fun e w' h => ?_
    obtain ⟨v, g1, g2, g3, -⟩ := h.rd
    rw [e2, if_pos rfl, e1] at g2
    rw [e2] at g1
    exact ⟨v, g1, g2, g3⟩
  have HEN2 := Lib.hid hen2
  clear hen2 e1 e2 hr2 hq2 hfb
  go_wp2_with fail
  refine hrd.mono ?_
  rintro e wr ⟨rfl, tr⟩
  clear hrd
  have htx := HTX.out.trans tr (fun _ _ f => f)
  clear tr
  obtain ⟨wp, hwp⟩ : ∃ wp, wp = wr.alloc (.cells (cells13 q2) 25) := ⟨_, rfl⟩
  have htp : Turn (fun _ => False) w wp := by rw [hwp]; exact htx.alloc _
  have hbp : Box wp wr.heap.size 25 (cells13 q2) := by rw [hwp]; exact Box.new wr _ _
  obtain ⟨b0, b1, b2, b3, b4, b5, b6, b7, b8, b9, b10, b11, b12, b13⟩ := box_query13 hbp
  have HTP := Lib.hid htp
  have HWP := hwp
  unfold cells13 sv9 at HWP
  rw [hwp] at b0 b1 b2 b3 b4 b5 b6 b7 b8 b9 b10 b11 b12 b13
  have HWH := Lib.hid HWP
  clear htx htp hbp hwp HWP
  dsimp only
  go_wp2_with fail
  rw [← HWH.out]
  refine (HEN2.out wp).mono ?_
  rintro e wv ⟨v, rfl, rv, tv⟩
  have HTV := Lib.hid (HTP.out.trans tv (fun _ _ f => f))
  have HRV := Lib.hid rv
  clear rv tv b0 b1 b2 b3 b4 b5 b6 b7 b8 b9 b10 b11 b12 b13
  go_wp2_with fail
  refine (same_any _ _ _ _ wv HRV.out (HU.out.later HTV.out)).mono ?_
  rintro e w8 ⟨rfl, rfl⟩
  rw [beq_self_eq_true]
  go_wp2_with fail
  refine (HAL.out wv).mono ?_
  rintro e wB ⟨rfl, tB⟩
  have HTB := Lib.hid (HTV.out.trans tB (fun _ _ f => f))
  clear tB
  go_wp2
  go_ret
  exact ⟨rfl, HTB.out.below (Nat.le_refl _) (fun _ f => f.elim)⟩

set_option maxRecDepth 100000 in
set_option maxHeartbeats 16000000 in
theorem none_ok (q : Q13) (u : Value) (m : List UInt8) (n : Int) (_wn : (Lit.int .i64 n).wf = true) (x : Int) (_wx : (Lit.int .i64 x).wf = true) (k : K9) (w : World) (hu : Rd w u m) (hL : light13 q = true) (hm : m.length ≤ 200) (hfa : ¬ chkQ q n = 0) (hfb : (readQ m n).1 = 0) :
    Calls Try.prog 5 #[qv13 q, u, .int .i64 n, .int .i64 x, kv9 k] w fun e w' => e = .returned (.bool true) ∧ Below w.heap.size w w' := by
  unfold qv13 kv9
  obtain ⟨A, c, rfl⟩ := hu.shape
  obtain ⟨w0, hw0⟩ : ∃ w0, w0 = (w.alloc (.cells (cells13 q) 25)).alloc (.cells #[.int .i64 k.h, sv9 k.a, sv9 k.b, sv9 k.c, sv9 k.d] 27) := ⟨_, rfl⟩
  have h0 := Qk13.new w q k
  rw [← hw0] at h0
  have HU := Lib.hid hu
  have HW := Lib.hid hw0
  have HAT0 := Lib.hid h0
  have HAL : Hid (∀ W, Calls Try.prog 8 #[] W fun e w' => e = .returned (.bool true) ∧ Turn (fun _ => False) W w') := fun W => alive_any13 W
  have HLI : Hid (∀ W, Calls Try.prog 6 #[.agg (cells13 q)] W fun e w' => e = .returned (.bool (light13 q)) ∧ Turn (fun _ => False) W w') := fun W => light_any13 q W
  obtain ⟨⟨c0, c1, c2, c3, c4, c5, c6, c7, c8, c9, c10, c11, c12, c13⟩, -⟩ := h0.s
  rw [hw0] at c0 c1 c2 c3 c4 c5 c6 c7 c8 c9 c10 c11 c12 c13
  clear hw0 h0 hu _wn _wx
  rw [hL] at HLI
  clear hL
  have hmk : ¬ (200 : Int) < (m.length : Int) := by omega
  have hm1 : m.length ≤ 1000000 := by omega
  clear hm
  have hfad : (chkQ q n == 0) = false := by simpa using hfa
  have HEN : Hid (∀ W, Calls Try.prog 13 #[.agg (cells13 q), .int .i64 n] W fun e w' => Encd13 W q n e w') := fun W => encode_any13 q n W
  clear hfa
  go_enter Try.func5, Try.ntmps5
  go_wp2_with fail
  rw [← HW.out]
  refine (HLI.out _).mono ?_
  rintro e w1 ⟨rfl, t1⟩
  have HAT1 := Lib.hid (HAT0.out.later t1)
  clear t1 c0 c1 c2 c3 c4 c5 c6 c7 c8 c9 c10 c11 c12 c13 HAT0
  obtain ⟨⟨b0, b1, b2, b3, b4, b5, b6, b7, b8, b9, b10, b11, b12, b13⟩, -⟩ := HAT1.out.s
  go_wp2_with fail
  refine (HEN.out w1).mono ?_
  intro e w2 g2
  obtain ⟨v2, rfl, -, t2, -⟩ := g2.rd
  have HAT2 := Lib.hid (HAT1.out.later t2)
  clear g2 t2 b0 b1 b2 b3 b4 b5 b6 b7 b8 b9 b10 b11 b12 b13 HAT1 HEN
  generalize chkQ q n = fa at *
  go_wp2_with fail
  have HTX := Lib.hid HAT2.out.turn
  obtain ⟨WX, hWX⟩ : ∃ WX, WX = w2 := ⟨_, rfl⟩
  subst hWX
  have hrd := read_any13 _ m n WX (HU.out.later HTX.out) hm1
  unfold Readed13 at hrd
  obtain ⟨q2, hq2⟩ : ∃ q2, q2 = (readQ m n).2 := ⟨_, rfl⟩
  have hr2 : readQ m n = (0, q2) := by rw [hq2, ← hfb]
  obtain ⟨e1, e2⟩ := readQ_there hr2
  rw [hr2] at hrd
  have hen2 : ∀ W, Calls Try.prog 13 #[.agg (cells13 q2), .int .i64 n] W fun e w' => ∃ v, e = .returned (.tuple #[v, .int .i64 0]) ∧ Rd w' v m ∧ Turn (fun _ => False) W w' := fun W => by
    refine (encode_any13 q2 n W).mono fun e w' h => ?_
    obtain ⟨v, g1, g2, g3, -⟩ := h.rd
    rw [e2, if_pos rfl, e1] at g2
    rw [e2] at g1
    exact ⟨v, g1, g2, g3⟩
  have HEN2 := Lib.hid hen2
  clear hen2 e1 e2 hr2 hq2 hfb
  go_wp2_with fail
  refine hrd.mono ?_
  rintro e wr ⟨rfl, tr⟩
  clear hrd
  have htx := HTX.out.trans tr (fun _ _ f => f)
  clear tr
  obtain ⟨wp, hwp⟩ : ∃ wp, wp = wr.alloc (.cells (cells13 q2) 25) := ⟨_, rfl⟩
  have htp : Turn (fun _ => False) w wp := by rw [hwp]; exact htx.alloc _
  have hbp : Box wp wr.heap.size 25 (cells13 q2) := by rw [hwp]; exact Box.new wr _ _
  obtain ⟨b0, b1, b2, b3, b4, b5, b6, b7, b8, b9, b10, b11, b12, b13⟩ := box_query13 hbp
  have HTP := Lib.hid htp
  have HWP := hwp
  unfold cells13 sv9 at HWP
  rw [hwp] at b0 b1 b2 b3 b4 b5 b6 b7 b8 b9 b10 b11 b12 b13
  have HWH := Lib.hid HWP
  clear htx htp hbp hwp HWP
  dsimp only
  go_wp2_with fail
  rw [← HWH.out]
  refine (HEN2.out wp).mono ?_
  rintro e wv ⟨v, rfl, rv, tv⟩
  have HTV := Lib.hid (HTP.out.trans tv (fun _ _ f => f))
  have HRV := Lib.hid rv
  clear rv tv b0 b1 b2 b3 b4 b5 b6 b7 b8 b9 b10 b11 b12 b13
  go_wp2_with fail
  refine (same_any _ _ _ _ wv HRV.out (HU.out.later HTV.out)).mono ?_
  rintro e w8 ⟨rfl, rfl⟩
  rw [beq_self_eq_true]
  go_wp2_with fail
  refine (HAL.out wv).mono ?_
  rintro e wB ⟨rfl, tB⟩
  have HTB := Lib.hid (HTV.out.trans tB (fun _ _ f => f))
  clear tB
  go_wp2
  go_ret
  exact ⟨rfl, HTB.out.below (Nat.le_refl _) (fun _ f => f.elim)⟩

set_option maxRecDepth 100000 in
set_option maxHeartbeats 16000000 in
theorem good_t_bad (q : Q13) (u : Value) (m : List UInt8) (n : Int) (_wn : (Lit.int .i64 n).wf = true) (x : Int) (_wx : (Lit.int .i64 x).wf = true) (k : K9) (w : World) (hu : Rd w u m) (hL : light13 q = true) (hm : m.length ≤ 200) (hfa : chkQ q n = 0) (hM : matchB q k = true) (hfb : ¬ (readQ m n).1 = 0) :
    Calls Try.prog 5 #[qv13 q, u, .int .i64 n, .int .i64 x, kv9 k] w fun e w' => e = .returned (.bool true) ∧ Below w.heap.size w w' := by
  unfold qv13 kv9
  obtain ⟨A, c, rfl⟩ := hu.shape
  obtain ⟨w0, hw0⟩ : ∃ w0, w0 = (w.alloc (.cells (cells13 q) 25)).alloc (.cells #[.int .i64 k.h, sv9 k.a, sv9 k.b, sv9 k.c, sv9 k.d] 27) := ⟨_, rfl⟩
  have h0 := Qk13.new w q k
  rw [← hw0] at h0
  have HU := Lib.hid hu
  have HW := Lib.hid hw0
  have HAT0 := Lib.hid h0
  have HAL : Hid (∀ W, Calls Try.prog 8 #[] W fun e w' => e = .returned (.bool true) ∧ Turn (fun _ => False) W w') := fun W => alive_any13 W
  have HLI : Hid (∀ W, Calls Try.prog 6 #[.agg (cells13 q)] W fun e w' => e = .returned (.bool (light13 q)) ∧ Turn (fun _ => False) W w') := fun W => light_any13 q W
  obtain ⟨⟨c0, c1, c2, c3, c4, c5, c6, c7, c8, c9, c10, c11, c12, c13⟩, -⟩ := h0.s
  rw [hw0] at c0 c1 c2 c3 c4 c5 c6 c7 c8 c9 c10 c11 c12 c13
  clear hw0 h0 hu _wn _wx
  rw [hL] at HLI
  clear hL
  have hmk : ¬ (200 : Int) < (m.length : Int) := by omega
  have hm1 : m.length ≤ 1000000 := by omega
  clear hm
  obtain ⟨hn, hr, ho⟩ := chkQ_good hfa
  have hlen : (encQ q n.toNat).length ≤ 300 := encQ_len (by omega) (okQ_text ho)
  have hbk := readQ_back hfa
  have HEN : Hid (∀ W, Calls Try.prog 13 #[.agg (cells13 q), .int .i64 n] W fun e w' => ∃ v, e = .returned (.tuple #[v, .int .i64 0]) ∧ Rd w' v (encQ q n.toNat) ∧ Turn (fun _ => False) W w') := fun W => by
    refine (encode_any13 q n W).mono fun e w' h => ?_
    obtain ⟨v, g1, g2, g3, -⟩ := h.rd
    rw [hfa, if_pos rfl] at g2
    rw [hfa] at g1
    exact ⟨v, g1, g2, g3⟩
  have HRE : Hid (∀ V W, Rd W V (encQ q n.toNat) → Calls Try.prog 15 #[V, .int .i64 n] W fun e w' => e = .returned (.tuple #[.agg (cells13 q), .int .i64 0]) ∧ Turn (fun _ => False) W w') := fun V W hV => by
    have h := read_any13 V _ n W hV (by omega)
    unfold Readed13 at h
    rw [hbk] at h
    exact h
  clear hfa hn hr ho hlen hbk
  go_enter Try.func5, Try.ntmps5
  go_wp2_with fail
  rw [← HW.out]
  refine (HLI.out _).mono ?_
  rintro e w1 ⟨rfl, t1⟩
  have HAT1 := Lib.hid (HAT0.out.later t1)
  clear t1 c0 c1 c2 c3 c4 c5 c6 c7 c8 c9 c10 c11 c12 c13 HAT0
  obtain ⟨⟨b0, b1, b2, b3, b4, b5, b6, b7, b8, b9, b10, b11, b12, b13⟩, -⟩ := HAT1.out.s
  go_wp2_with fail
  refine (HEN.out w1).mono ?_
  rintro e w2 ⟨v2, rfl, r2, t2⟩
  have HAT2 := Lib.hid (HAT1.out.later t2)
  have HR2 := Lib.hid r2
  clear r2 t2 b0 b1 b2 b3 b4 b5 b6 b7 b8 b9 b10 b11 b12 b13 HAT1 HEN
  go_wp2_with fail
  refine (HRE.out v2 w2 HR2.out).mono ?_
  rintro e w3 ⟨rfl, t3⟩
  have HAT3 := Lib.hid (HAT2.out.later t3)
  clear t3 HAT2 HR2 HRE
  go_wp2_with fail
  obtain ⟨wp, hwp⟩ : ∃ wp, wp = w3.alloc (.cells (cells13 q) 25) := ⟨_, rfl⟩
  obtain ⟨P, hP⟩ : ∃ P, P = w3.heap.size := ⟨_, rfl⟩
  obtain ⟨b, hbb⟩ : ∃ b, b = w.heap.size := ⟨_, rfl⟩
  obtain ⟨mm, hmm⟩ : ∃ mm, mm = w.heap.size + 1 := ⟨_, rfl⟩
  have hbk : Bk13 w b mm P q k wp := by
    rw [hwp, hP, hbb, hmm]
    exact ⟨HAT3.out.later ((Turn.refl _ w3).alloc _), Box.new w3 _ _⟩
  have HAT := Lib.hid (hbk.later (Turn.refl (fun _ => False) wp).drew)
  unfold cells13 sv9 at hwp
  rw [← hwp, ← hmm, ← hbb, ← hP]
  clear hwp hmm hbb hP hbk HAT3
  refine drawn_region (fun W => CQ13 W b q ∧ CK13 W mm k ∧ CQ13 W P q) [] (by kernel_rfl) ?_
  generalize World.drew wp = wd at *
  have hS0 : CQ13 wd b q ∧ CK13 wd mm k ∧ CQ13 wd P q := HAT.out.s
  refine drawn_take 0 42 (.int .i64 0) rfl rfl (by kernel_rfl) (by kernel_rfl) (by kernel_rfl) (by kernel_rfl) (fun _ _ _ h => h) (by rfl) (by assumption) (by intro w hSw; obtain ⟨⟨b0, b1, b2, b3, b4, b5, b6, b7, b8, b9, b10, b11, b12, b13⟩, ⟨m0, m1, m2, m3, m4⟩, ⟨p0, p1, p2, p3, p4, p5, p6, p7, p8, p9, p10, p11, p12, p13⟩⟩ := hSw; go_simp) ?_
  try simp only [List.setIfInBounds_toArray, List.set_cons_zero, List.set_cons_succ]
  refine drawn_take 1 43 (.bool false) rfl rfl (by kernel_rfl) (by kernel_rfl) (by kernel_rfl) (by kernel_rfl) (fun _ _ _ h => h) (by rfl) (by assumption) (by intro w hSw; obtain ⟨⟨b0, b1, b2, b3, b4, b5, b6, b7, b8, b9, b10, b11, b12, b13⟩, ⟨m0, m1, m2, m3, m4⟩, ⟨p0, p1, p2, p3, p4, p5, p6, p7, p8, p9, p10, p11, p12, p13⟩⟩ := hSw; go_simp) ?_
  try simp only [List.setIfInBounds_toArray, List.set_cons_zero, List.set_cons_succ]
  refine drawn_take 2 44 (.bool false) rfl rfl (by kernel_rfl) (by kernel_rfl) (by kernel_rfl) (by kernel_rfl) (fun _ _ _ h => h) (by rfl) (by assumption) (by intro w hSw; obtain ⟨⟨b0, b1, b2, b3, b4, b5, b6, b7, b8, b9, b10, b11, b12, b13⟩, ⟨m0, m1, m2, m3, m4⟩, ⟨p0, p1, p2, p3, p4, p5, p6, p7, p8, p9, p10, p11, p12, p13⟩⟩ := hSw; go_simp) ?_
  try simp only [List.setIfInBounds_toArray, List.set_cons_zero, List.set_cons_succ]
  refine drawn_take 3 45 (.agg (cells13 q)) rfl rfl (by kernel_rfl) (by kernel_rfl) (by kernel_rfl) (by kernel_rfl) (fun _ _ _ h => h) (by rfl) (by assumption) (by intro w hSw; obtain ⟨⟨b0, b1, b2, b3, b4, b5, b6, b7, b8, b9, b10, b11, b12, b13⟩, ⟨m0, m1, m2, m3, m4⟩, ⟨p0, p1, p2, p3, p4, p5, p6, p7, p8, p9, p10, p11, p12, p13⟩⟩ := hSw; go_simp) ?_
  try simp only [List.setIfInBounds_toArray, List.set_cons_zero, List.set_cons_succ]
  refine drawn_take 4 46 (.agg (cells13 q)) rfl rfl (by kernel_rfl) (by kernel_rfl) (by kernel_rfl) (by kernel_rfl) (fun _ _ _ h => h) (by rfl) (by assumption) (by intro w hSw; obtain ⟨⟨b0, b1, b2, b3, b4, b5, b6, b7, b8, b9, b10, b11, b12, b13⟩, ⟨m0, m1, m2, m3, m4⟩, ⟨p0, p1, p2, p3, p4, p5, p6, p7, p8, p9, p10, p11, p12, p13⟩⟩ := hSw; go_simp) ?_
  try simp only [List.setIfInBounds_toArray, List.set_cons_zero, List.set_cons_succ]
  have hne := run_neq_query13 q q
  have hgd := fun op X Y => guard_query13 op X Y q q
  rw [decide_eq_true rfl, Bool.not_true] at hne
  unfold qv13 at hne hgd
  refine drawn_take 5 47 (.bool false) rfl rfl (by kernel_rfl) (by kernel_rfl) (by kernel_rfl) (by kernel_rfl) (fun _ _ _ h => h) (by rfl) (by assumption) (by intro w hSw; clear hSw; go_simp) ?_
  try simp only [List.setIfInBounds_toArray, List.set_cons_zero, List.set_cons_succ]
  clear hne hgd
  refine drawn_take 6 48 (.bool false) rfl rfl (by kernel_rfl) (by kernel_rfl) (by kernel_rfl) (by kernel_rfl) (fun _ _ _ h => h) (by rfl) (by assumption) (by intro w hSw; obtain ⟨⟨b0, b1, b2, b3, b4, b5, b6, b7, b8, b9, b10, b11, b12, b13⟩, ⟨m0, m1, m2, m3, m4⟩, ⟨p0, p1, p2, p3, p4, p5, p6, p7, p8, p9, p10, p11, p12, p13⟩⟩ := hSw; go_simp) ?_
  try simp only [List.setIfInBounds_toArray, List.set_cons_zero, List.set_cons_succ]
  refine drawn_take 7 49 (.bool false) rfl rfl (by kernel_rfl) (by kernel_rfl) (by kernel_rfl) (by kernel_rfl) (fun _ _ _ h => h) (by rfl) (by assumption) (by intro w hSw; obtain ⟨⟨b0, b1, b2, b3, b4, b5, b6, b7, b8, b9, b10, b11, b12, b13⟩, ⟨m0, m1, m2, m3, m4⟩, ⟨p0, p1, p2, p3, p4, p5, p6, p7, p8, p9, p10, p11, p12, p13⟩⟩ := hSw; go_simp) ?_
  try simp only [List.setIfInBounds_toArray, List.set_cons_zero, List.set_cons_succ]
  refine drawn_take 8 50 (.agg (cells13 q)) rfl rfl (by kernel_rfl) (by kernel_rfl) (by kernel_rfl) (by kernel_rfl) (fun _ _ _ h => h) (by rfl) (by assumption) (by intro w hSw; obtain ⟨⟨b0, b1, b2, b3, b4, b5, b6, b7, b8, b9, b10, b11, b12, b13⟩, ⟨m0, m1, m2, m3, m4⟩, ⟨p0, p1, p2, p3, p4, p5, p6, p7, p8, p9, p10, p11, p12, p13⟩⟩ := hSw; go_simp) ?_
  try simp only [List.setIfInBounds_toArray, List.set_cons_zero, List.set_cons_succ]
  refine drawn_take 9 51 (.int .i64 x) rfl rfl (by kernel_rfl) (by kernel_rfl) (by kernel_rfl) (by kernel_rfl) (fun _ _ _ h => h) (by rfl) (by assumption) (by intro w hSw; obtain ⟨⟨b0, b1, b2, b3, b4, b5, b6, b7, b8, b9, b10, b11, b12, b13⟩, ⟨m0, m1, m2, m3, m4⟩, ⟨p0, p1, p2, p3, p4, p5, p6, p7, p8, p9, p10, p11, p12, p13⟩⟩ := hSw; go_simp) ?_
  try simp only [List.setIfInBounds_toArray, List.set_cons_zero, List.set_cons_succ]
  refine drawn_take 11 53 (.agg #[.int .i64 k.h, sv9 k.a, sv9 k.b, sv9 k.c, sv9 k.d]) rfl rfl (by kernel_rfl) (by kernel_rfl) (by kernel_rfl) (by kernel_rfl) (fun _ _ _ h => h) (by rfl) (by assumption) (by intro w hSw; obtain ⟨⟨b0, b1, b2, b3, b4, b5, b6, b7, b8, b9, b10, b11, b12, b13⟩, ⟨m0, m1, m2, m3, m4⟩, ⟨p0, p1, p2, p3, p4, p5, p6, p7, p8, p9, p10, p11, p12, p13⟩⟩ := hSw; go_simp) ?_
  try simp only [List.setIfInBounds_toArray, List.set_cons_zero, List.set_cons_succ]
  refine drawn_take 13 55 (.agg (cells13 q)) rfl rfl (by kernel_rfl) (by kernel_rfl) (by kernel_rfl) (by kernel_rfl) (fun _ _ _ h => h) (by rfl) (by assumption) (by intro w hSw; obtain ⟨⟨b0, b1, b2, b3, b4, b5, b6, b7, b8, b9, b10, b11, b12, b13⟩, ⟨m0, m1, m2, m3, m4⟩, ⟨p0, p1, p2, p3, p4, p5, p6, p7, p8, p9, p10, p11, p12, p13⟩⟩ := hSw; go_simp) ?_
  try simp only [List.setIfInBounds_toArray, List.set_cons_zero, List.set_cons_succ]
  refine drawn_take 14 56 (.agg #[.int .i64 k.h, sv9 k.a, sv9 k.b, sv9 k.c, sv9 k.d]) rfl rfl (by kernel_rfl) (by kernel_rfl) (by kernel_rfl) (by kernel_rfl) (fun _ _ _ h => h) (by rfl) (by assumption) (by intro w hSw; obtain ⟨⟨b0, b1, b2, b3, b4, b5, b6, b7, b8, b9, b10, b11, b12, b13⟩, ⟨m0, m1, m2, m3, m4⟩, ⟨p0, p1, p2, p3, p4, p5, p6, p7, p8, p9, p10, p11, p12, p13⟩⟩ := hSw; go_simp) ?_
  try simp only [List.setIfInBounds_toArray, List.set_cons_zero, List.set_cons_succ]
  refine drawn_any [10] (by kernel_rfl) (by simp) ?_
  refine drawn_cons rfl (fun K2 hK => ?_) drawn_nil
  go_simp
  refine (cut_any13 q x wd).mono ?_
  rintro e w4 ⟨rfl, t4⟩
  have HAT4 := Lib.hid (HAT.out.later t4)
  have hS4 : CQ13 w4 b q ∧ CK13 w4 mm k ∧ CQ13 w4 P q := HAT4.out.s
  refine hK.out _ _ _ hS4 ?_
  clear hK K2 HAT hS0 t4
  try simp only [List.setIfInBounds_toArray, List.set_cons_zero, List.set_cons_succ]
  refine drawn_any [12] (by kernel_rfl) (by simp) ?_
  refine drawn_cons rfl (fun K2 hK => ?_) drawn_nil
  go_simp
  refine (matches_any13 (cutQ q x) k w4).mono ?_
  rw [match_cut]
  rintro e w5 ⟨rfl, t5⟩
  have HAT5 := Lib.hid (HAT4.out.later t5)
  have hS5 : CQ13 w5 b q ∧ CK13 w5 mm k ∧ CQ13 w5 P q := HAT5.out.s
  refine hK.out _ _ _ hS5 ?_
  clear hK K2 HAT4 hS4 t5
  try simp only [List.setIfInBounds_toArray, List.set_cons_zero, List.set_cons_succ]
  refine drawn_any [15] (by kernel_rfl) (by simp) ?_
  refine drawn_cons rfl (fun K2 hK => ?_) drawn_nil
  go_simp
  refine (matches_any13 q k w5).mono ?_
  rintro e w6 ⟨rfl, t6⟩
  have HAT6 := Lib.hid (HAT5.out.later t6)
  have hS6 : CQ13 w6 b q ∧ CK13 w6 mm k ∧ CQ13 w6 P q := HAT6.out.s
  refine hK.out _ _ _ hS6 ?_
  clear hK K2 HAT5 hS5 t6
  try simp only [List.setIfInBounds_toArray, List.set_cons_zero, List.set_cons_succ]
  obtain ⟨y, hy⟩ : ∃ y, y = decide (x ≤ k.h) := ⟨_, rfl⟩
  try rw [← hy]
  try rw [hM]
  clear hM
  refine drawn_take 16 58 (.bool true) rfl rfl (by kernel_rfl) (by kernel_rfl) (by kernel_rfl) (by kernel_rfl) (fun _ _ _ h => h) (by rfl) (by assumption) (by intro w hSw; obtain ⟨⟨b0, b1, b2, b3, b4, b5, b6, b7, b8, b9, b10, b11, b12, b13⟩, ⟨m0, m1, m2, m3, m4⟩, ⟨p0, p1, p2, p3, p4, p5, p6, p7, p8, p9, p10, p11, p12, p13⟩⟩ := hSw; go_simp) ?_
  try simp only [List.setIfInBounds_toArray, List.set_cons_zero, List.set_cons_succ]
  refine drawn_take 17 59 (.pointer (some ⟨mm, 0, none⟩)) rfl rfl (by kernel_rfl) (by kernel_rfl) (by kernel_rfl) (by kernel_rfl) (fun _ _ _ h => h) (by rfl) (by assumption) (by intro w hSw; obtain ⟨⟨b0, b1, b2, b3, b4, b5, b6, b7, b8, b9, b10, b11, b12, b13⟩, ⟨m0, m1, m2, m3, m4⟩, ⟨p0, p1, p2, p3, p4, p5, p6, p7, p8, p9, p10, p11, p12, p13⟩⟩ := hSw; go_simp) ?_
  try simp only [List.setIfInBounds_toArray, List.set_cons_zero, List.set_cons_succ]
  refine drawn_take 18 60 (.int .i64 k.h) rfl rfl (by kernel_rfl) (by kernel_rfl) (by kernel_rfl) (by kernel_rfl) (fun _ _ _ h => h) (by rfl) (by assumption) (by intro w hSw; obtain ⟨⟨b0, b1, b2, b3, b4, b5, b6, b7, b8, b9, b10, b11, b12, b13⟩, ⟨m0, m1, m2, m3, m4⟩, ⟨p0, p1, p2, p3, p4, p5, p6, p7, p8, p9, p10, p11, p12, p13⟩⟩ := hSw; go_simp) ?_
  try simp only [List.setIfInBounds_toArray, List.set_cons_zero, List.set_cons_succ]
  refine drawn_take 19 61 (.int .i64 x) rfl rfl (by kernel_rfl) (by kernel_rfl) (by kernel_rfl) (by kernel_rfl) (fun _ _ _ h => h) (by rfl) (by assumption) (by intro w hSw; obtain ⟨⟨b0, b1, b2, b3, b4, b5, b6, b7, b8, b9, b10, b11, b12, b13⟩, ⟨m0, m1, m2, m3, m4⟩, ⟨p0, p1, p2, p3, p4, p5, p6, p7, p8, p9, p10, p11, p12, p13⟩⟩ := hSw; go_simp) ?_
  try simp only [List.setIfInBounds_toArray, List.set_cons_zero, List.set_cons_succ]
  refine drawn_take 20 62 (.bool y) rfl rfl (by kernel_rfl) (by kernel_rfl) (by kernel_rfl) (by kernel_rfl) (fun _ _ _ h => h) (by rfl) (by assumption) (by intro w hSw; clear hSw; rw [hy]; go_simp) ?_
  try simp only [List.setIfInBounds_toArray, List.set_cons_zero, List.set_cons_succ]
  clear hy
  refine drawn_take 21 63 (.bool y) rfl rfl (by kernel_rfl) (by kernel_rfl) (by kernel_rfl) (by kernel_rfl) (fun _ _ _ h => h) (by rfl) (by assumption) (by intro w hSw; obtain ⟨⟨b0, b1, b2, b3, b4, b5, b6, b7, b8, b9, b10, b11, b12, b13⟩, ⟨m0, m1, m2, m3, m4⟩, ⟨p0, p1, p2, p3, p4, p5, p6, p7, p8, p9, p10, p11, p12, p13⟩⟩ := hSw; go_simp) ?_
  try simp only [List.setIfInBounds_toArray, List.set_cons_zero, List.set_cons_succ]
  refine drawn_take 22 64 (.bool false) rfl rfl (by kernel_rfl) (by kernel_rfl) (by kernel_rfl) (by kernel_rfl) (fun _ _ _ h => h) (by rfl) (by assumption) (by intro w hSw; clear hSw; cases y <;> go_simp) ?_
  try simp only [List.setIfInBounds_toArray, List.set_cons_zero, List.set_cons_succ]
  refine drawn_last1 23 65 (.bool false) rfl rfl (by kernel_rfl) (by kernel_rfl) (by rfl) (by intro w; go_simp) hS6 ?_
  try simp only [List.setIfInBounds_toArray, List.set_cons_zero, List.set_cons_succ]
  clear hS6
  go_wp2_with fail
  have HTX := Lib.hid HAT6.out.qk.turn
  obtain ⟨WX, hWX⟩ : ∃ WX, WX = w6 := ⟨_, rfl⟩
  subst hWX
  have hrd := read_any13 _ m n WX (HU.out.later HTX.out) hm1
  unfold Readed13 at hrd
  rw [readQ_none hfb] at hrd
  have hfbd : ((readQ m n).1 != 0) = true := by simp [bne, hfb]
  have hne := run_eql_query13 zeroQ zeroQ
  have hgd := fun op X Y => guard_query13 op X Y zeroQ zeroQ
  rw [decide_eq_true rfl] at hne
  have hne2 : ∀ W, Sem.run Try.prog (binOp .eql 25 (.agg zcells13) (.agg zcells13)) W = .ok (.bool true) W := hne
  have hgd2 : ∀ (op : BinOp) (X Y : Operand) W, Sem.run Try.prog (eqGuard op 25 X Y (.agg zcells13) (.agg zcells13)) W = .ok () W := hgd
  clear hne hgd hfb
  unfold zcells13 at hne2 hgd2
  have hrd2 : Calls Try.prog 15 #[.slice A m.length c, .int .i64 n] WX fun e w' => e = .returned (.tuple #[.agg zcells13, .int .i64 (readQ m n).1]) ∧ Turn (fun _ => False) WX w' := hrd
  clear hrd
  generalize (readQ m n).1 = fb at *
  go_wp2_with fail
  refine hrd2.mono ?_
  rintro e wr ⟨rfl, tr⟩
  clear hrd2
  have HTR := Lib.hid ((HTX.out.trans tr (fun _ _ f => f)).alloc (.cells zcells13 25))
  clear tr
  go_wp2_with fail
  refine (HAL.out _).mono ?_
  rintro e wB ⟨rfl, tB⟩
  have HTB := Lib.hid (HTR.out.trans tB (fun _ _ f => f))
  clear tB
  go_wp2
  go_ret
  exact ⟨rfl, HTB.out.below (Nat.le_refl _) (fun _ f => f.elim)⟩

set_option maxRecDepth 100000 in
set_option maxHeartbeats 16000000 in
theorem good_f_bad (q : Q13) (u : Value) (m : List UInt8) (n : Int) (_wn : (Lit.int .i64 n).wf = true) (x : Int) (_wx : (Lit.int .i64 x).wf = true) (k : K9) (w : World) (hu : Rd w u m) (hL : light13 q = true) (hm : m.length ≤ 200) (hfa : chkQ q n = 0) (hM : matchB q k = false) (hfb : ¬ (readQ m n).1 = 0) :
    Calls Try.prog 5 #[qv13 q, u, .int .i64 n, .int .i64 x, kv9 k] w fun e w' => e = .returned (.bool true) ∧ Below w.heap.size w w' := by
  unfold qv13 kv9
  obtain ⟨A, c, rfl⟩ := hu.shape
  obtain ⟨w0, hw0⟩ : ∃ w0, w0 = (w.alloc (.cells (cells13 q) 25)).alloc (.cells #[.int .i64 k.h, sv9 k.a, sv9 k.b, sv9 k.c, sv9 k.d] 27) := ⟨_, rfl⟩
  have h0 := Qk13.new w q k
  rw [← hw0] at h0
  have HU := Lib.hid hu
  have HW := Lib.hid hw0
  have HAT0 := Lib.hid h0
  have HAL : Hid (∀ W, Calls Try.prog 8 #[] W fun e w' => e = .returned (.bool true) ∧ Turn (fun _ => False) W w') := fun W => alive_any13 W
  have HLI : Hid (∀ W, Calls Try.prog 6 #[.agg (cells13 q)] W fun e w' => e = .returned (.bool (light13 q)) ∧ Turn (fun _ => False) W w') := fun W => light_any13 q W
  obtain ⟨⟨c0, c1, c2, c3, c4, c5, c6, c7, c8, c9, c10, c11, c12, c13⟩, -⟩ := h0.s
  rw [hw0] at c0 c1 c2 c3 c4 c5 c6 c7 c8 c9 c10 c11 c12 c13
  clear hw0 h0 hu _wn _wx
  rw [hL] at HLI
  clear hL
  have hmk : ¬ (200 : Int) < (m.length : Int) := by omega
  have hm1 : m.length ≤ 1000000 := by omega
  clear hm
  obtain ⟨hn, hr, ho⟩ := chkQ_good hfa
  have hlen : (encQ q n.toNat).length ≤ 300 := encQ_len (by omega) (okQ_text ho)
  have hbk := readQ_back hfa
  have HEN : Hid (∀ W, Calls Try.prog 13 #[.agg (cells13 q), .int .i64 n] W fun e w' => ∃ v, e = .returned (.tuple #[v, .int .i64 0]) ∧ Rd w' v (encQ q n.toNat) ∧ Turn (fun _ => False) W w') := fun W => by
    refine (encode_any13 q n W).mono fun e w' h => ?_
    obtain ⟨v, g1, g2, g3, -⟩ := h.rd
    rw [hfa, if_pos rfl] at g2
    rw [hfa] at g1
    exact ⟨v, g1, g2, g3⟩
  have HRE : Hid (∀ V W, Rd W V (encQ q n.toNat) → Calls Try.prog 15 #[V, .int .i64 n] W fun e w' => e = .returned (.tuple #[.agg (cells13 q), .int .i64 0]) ∧ Turn (fun _ => False) W w') := fun V W hV => by
    have h := read_any13 V _ n W hV (by omega)
    unfold Readed13 at h
    rw [hbk] at h
    exact h
  clear hfa hn hr ho hlen hbk
  go_enter Try.func5, Try.ntmps5
  go_wp2_with fail
  rw [← HW.out]
  refine (HLI.out _).mono ?_
  rintro e w1 ⟨rfl, t1⟩
  have HAT1 := Lib.hid (HAT0.out.later t1)
  clear t1 c0 c1 c2 c3 c4 c5 c6 c7 c8 c9 c10 c11 c12 c13 HAT0
  obtain ⟨⟨b0, b1, b2, b3, b4, b5, b6, b7, b8, b9, b10, b11, b12, b13⟩, -⟩ := HAT1.out.s
  go_wp2_with fail
  refine (HEN.out w1).mono ?_
  rintro e w2 ⟨v2, rfl, r2, t2⟩
  have HAT2 := Lib.hid (HAT1.out.later t2)
  have HR2 := Lib.hid r2
  clear r2 t2 b0 b1 b2 b3 b4 b5 b6 b7 b8 b9 b10 b11 b12 b13 HAT1 HEN
  go_wp2_with fail
  refine (HRE.out v2 w2 HR2.out).mono ?_
  rintro e w3 ⟨rfl, t3⟩
  have HAT3 := Lib.hid (HAT2.out.later t3)
  clear t3 HAT2 HR2 HRE
  go_wp2_with fail
  obtain ⟨wp, hwp⟩ : ∃ wp, wp = w3.alloc (.cells (cells13 q) 25) := ⟨_, rfl⟩
  obtain ⟨P, hP⟩ : ∃ P, P = w3.heap.size := ⟨_, rfl⟩
  obtain ⟨b, hbb⟩ : ∃ b, b = w.heap.size := ⟨_, rfl⟩
  obtain ⟨mm, hmm⟩ : ∃ mm, mm = w.heap.size + 1 := ⟨_, rfl⟩
  have hbk : Bk13 w b mm P q k wp := by
    rw [hwp, hP, hbb, hmm]
    exact ⟨HAT3.out.later ((Turn.refl _ w3).alloc _), Box.new w3 _ _⟩
  have HAT := Lib.hid (hbk.later (Turn.refl (fun _ => False) wp).drew)
  unfold cells13 sv9 at hwp
  rw [← hwp, ← hmm, ← hbb, ← hP]
  clear hwp hmm hbb hP hbk HAT3
  refine drawn_region (fun W => CQ13 W b q ∧ CK13 W mm k ∧ CQ13 W P q) [] (by kernel_rfl) ?_
  generalize World.drew wp = wd at *
  have hS0 : CQ13 wd b q ∧ CK13 wd mm k ∧ CQ13 wd P q := HAT.out.s
  refine drawn_take 0 42 (.int .i64 0) rfl rfl (by kernel_rfl) (by kernel_rfl) (by kernel_rfl) (by kernel_rfl) (fun _ _ _ h => h) (by rfl) (by assumption) (by intro w hSw; obtain ⟨⟨b0, b1, b2, b3, b4, b5, b6, b7, b8, b9, b10, b11, b12, b13⟩, ⟨m0, m1, m2, m3, m4⟩, ⟨p0, p1, p2, p3, p4, p5, p6, p7, p8, p9, p10, p11, p12, p13⟩⟩ := hSw; go_simp) ?_
  try simp only [List.setIfInBounds_toArray, List.set_cons_zero, List.set_cons_succ]
  refine drawn_take 1 43 (.bool false) rfl rfl (by kernel_rfl) (by kernel_rfl) (by kernel_rfl) (by kernel_rfl) (fun _ _ _ h => h) (by rfl) (by assumption) (by intro w hSw; obtain ⟨⟨b0, b1, b2, b3, b4, b5, b6, b7, b8, b9, b10, b11, b12, b13⟩, ⟨m0, m1, m2, m3, m4⟩, ⟨p0, p1, p2, p3, p4, p5, p6, p7, p8, p9, p10, p11, p12, p13⟩⟩ := hSw; go_simp) ?_
  try simp only [List.setIfInBounds_toArray, List.set_cons_zero, List.set_cons_succ]
  refine drawn_take 2 44 (.bool false) rfl rfl (by kernel_rfl) (by kernel_rfl) (by kernel_rfl) (by kernel_rfl) (fun _ _ _ h => h) (by rfl) (by assumption) (by intro w hSw; obtain ⟨⟨b0, b1, b2, b3, b4, b5, b6, b7, b8, b9, b10, b11, b12, b13⟩, ⟨m0, m1, m2, m3, m4⟩, ⟨p0, p1, p2, p3, p4, p5, p6, p7, p8, p9, p10, p11, p12, p13⟩⟩ := hSw; go_simp) ?_
  try simp only [List.setIfInBounds_toArray, List.set_cons_zero, List.set_cons_succ]
  refine drawn_take 3 45 (.agg (cells13 q)) rfl rfl (by kernel_rfl) (by kernel_rfl) (by kernel_rfl) (by kernel_rfl) (fun _ _ _ h => h) (by rfl) (by assumption) (by intro w hSw; obtain ⟨⟨b0, b1, b2, b3, b4, b5, b6, b7, b8, b9, b10, b11, b12, b13⟩, ⟨m0, m1, m2, m3, m4⟩, ⟨p0, p1, p2, p3, p4, p5, p6, p7, p8, p9, p10, p11, p12, p13⟩⟩ := hSw; go_simp) ?_
  try simp only [List.setIfInBounds_toArray, List.set_cons_zero, List.set_cons_succ]
  refine drawn_take 4 46 (.agg (cells13 q)) rfl rfl (by kernel_rfl) (by kernel_rfl) (by kernel_rfl) (by kernel_rfl) (fun _ _ _ h => h) (by rfl) (by assumption) (by intro w hSw; obtain ⟨⟨b0, b1, b2, b3, b4, b5, b6, b7, b8, b9, b10, b11, b12, b13⟩, ⟨m0, m1, m2, m3, m4⟩, ⟨p0, p1, p2, p3, p4, p5, p6, p7, p8, p9, p10, p11, p12, p13⟩⟩ := hSw; go_simp) ?_
  try simp only [List.setIfInBounds_toArray, List.set_cons_zero, List.set_cons_succ]
  have hne := run_neq_query13 q q
  have hgd := fun op X Y => guard_query13 op X Y q q
  rw [decide_eq_true rfl, Bool.not_true] at hne
  unfold qv13 at hne hgd
  refine drawn_take 5 47 (.bool false) rfl rfl (by kernel_rfl) (by kernel_rfl) (by kernel_rfl) (by kernel_rfl) (fun _ _ _ h => h) (by rfl) (by assumption) (by intro w hSw; clear hSw; go_simp) ?_
  try simp only [List.setIfInBounds_toArray, List.set_cons_zero, List.set_cons_succ]
  clear hne hgd
  refine drawn_take 6 48 (.bool false) rfl rfl (by kernel_rfl) (by kernel_rfl) (by kernel_rfl) (by kernel_rfl) (fun _ _ _ h => h) (by rfl) (by assumption) (by intro w hSw; obtain ⟨⟨b0, b1, b2, b3, b4, b5, b6, b7, b8, b9, b10, b11, b12, b13⟩, ⟨m0, m1, m2, m3, m4⟩, ⟨p0, p1, p2, p3, p4, p5, p6, p7, p8, p9, p10, p11, p12, p13⟩⟩ := hSw; go_simp) ?_
  try simp only [List.setIfInBounds_toArray, List.set_cons_zero, List.set_cons_succ]
  refine drawn_take 7 49 (.bool false) rfl rfl (by kernel_rfl) (by kernel_rfl) (by kernel_rfl) (by kernel_rfl) (fun _ _ _ h => h) (by rfl) (by assumption) (by intro w hSw; obtain ⟨⟨b0, b1, b2, b3, b4, b5, b6, b7, b8, b9, b10, b11, b12, b13⟩, ⟨m0, m1, m2, m3, m4⟩, ⟨p0, p1, p2, p3, p4, p5, p6, p7, p8, p9, p10, p11, p12, p13⟩⟩ := hSw; go_simp) ?_
  try simp only [List.setIfInBounds_toArray, List.set_cons_zero, List.set_cons_succ]
  refine drawn_take 8 50 (.agg (cells13 q)) rfl rfl (by kernel_rfl) (by kernel_rfl) (by kernel_rfl) (by kernel_rfl) (fun _ _ _ h => h) (by rfl) (by assumption) (by intro w hSw; obtain ⟨⟨b0, b1, b2, b3, b4, b5, b6, b7, b8, b9, b10, b11, b12, b13⟩, ⟨m0, m1, m2, m3, m4⟩, ⟨p0, p1, p2, p3, p4, p5, p6, p7, p8, p9, p10, p11, p12, p13⟩⟩ := hSw; go_simp) ?_
  try simp only [List.setIfInBounds_toArray, List.set_cons_zero, List.set_cons_succ]
  refine drawn_take 9 51 (.int .i64 x) rfl rfl (by kernel_rfl) (by kernel_rfl) (by kernel_rfl) (by kernel_rfl) (fun _ _ _ h => h) (by rfl) (by assumption) (by intro w hSw; obtain ⟨⟨b0, b1, b2, b3, b4, b5, b6, b7, b8, b9, b10, b11, b12, b13⟩, ⟨m0, m1, m2, m3, m4⟩, ⟨p0, p1, p2, p3, p4, p5, p6, p7, p8, p9, p10, p11, p12, p13⟩⟩ := hSw; go_simp) ?_
  try simp only [List.setIfInBounds_toArray, List.set_cons_zero, List.set_cons_succ]
  refine drawn_take 11 53 (.agg #[.int .i64 k.h, sv9 k.a, sv9 k.b, sv9 k.c, sv9 k.d]) rfl rfl (by kernel_rfl) (by kernel_rfl) (by kernel_rfl) (by kernel_rfl) (fun _ _ _ h => h) (by rfl) (by assumption) (by intro w hSw; obtain ⟨⟨b0, b1, b2, b3, b4, b5, b6, b7, b8, b9, b10, b11, b12, b13⟩, ⟨m0, m1, m2, m3, m4⟩, ⟨p0, p1, p2, p3, p4, p5, p6, p7, p8, p9, p10, p11, p12, p13⟩⟩ := hSw; go_simp) ?_
  try simp only [List.setIfInBounds_toArray, List.set_cons_zero, List.set_cons_succ]
  refine drawn_take 13 55 (.agg (cells13 q)) rfl rfl (by kernel_rfl) (by kernel_rfl) (by kernel_rfl) (by kernel_rfl) (fun _ _ _ h => h) (by rfl) (by assumption) (by intro w hSw; obtain ⟨⟨b0, b1, b2, b3, b4, b5, b6, b7, b8, b9, b10, b11, b12, b13⟩, ⟨m0, m1, m2, m3, m4⟩, ⟨p0, p1, p2, p3, p4, p5, p6, p7, p8, p9, p10, p11, p12, p13⟩⟩ := hSw; go_simp) ?_
  try simp only [List.setIfInBounds_toArray, List.set_cons_zero, List.set_cons_succ]
  refine drawn_take 14 56 (.agg #[.int .i64 k.h, sv9 k.a, sv9 k.b, sv9 k.c, sv9 k.d]) rfl rfl (by kernel_rfl) (by kernel_rfl) (by kernel_rfl) (by kernel_rfl) (fun _ _ _ h => h) (by rfl) (by assumption) (by intro w hSw; obtain ⟨⟨b0, b1, b2, b3, b4, b5, b6, b7, b8, b9, b10, b11, b12, b13⟩, ⟨m0, m1, m2, m3, m4⟩, ⟨p0, p1, p2, p3, p4, p5, p6, p7, p8, p9, p10, p11, p12, p13⟩⟩ := hSw; go_simp) ?_
  try simp only [List.setIfInBounds_toArray, List.set_cons_zero, List.set_cons_succ]
  refine drawn_any [10] (by kernel_rfl) (by simp) ?_
  refine drawn_cons rfl (fun K2 hK => ?_) drawn_nil
  go_simp
  refine (cut_any13 q x wd).mono ?_
  rintro e w4 ⟨rfl, t4⟩
  have HAT4 := Lib.hid (HAT.out.later t4)
  have hS4 : CQ13 w4 b q ∧ CK13 w4 mm k ∧ CQ13 w4 P q := HAT4.out.s
  refine hK.out _ _ _ hS4 ?_
  clear hK K2 HAT hS0 t4
  try simp only [List.setIfInBounds_toArray, List.set_cons_zero, List.set_cons_succ]
  refine drawn_any [12] (by kernel_rfl) (by simp) ?_
  refine drawn_cons rfl (fun K2 hK => ?_) drawn_nil
  go_simp
  refine (matches_any13 (cutQ q x) k w4).mono ?_
  rw [match_cut]
  rintro e w5 ⟨rfl, t5⟩
  have HAT5 := Lib.hid (HAT4.out.later t5)
  have hS5 : CQ13 w5 b q ∧ CK13 w5 mm k ∧ CQ13 w5 P q := HAT5.out.s
  refine hK.out _ _ _ hS5 ?_
  clear hK K2 HAT4 hS4 t5
  try simp only [List.setIfInBounds_toArray, List.set_cons_zero, List.set_cons_succ]
  refine drawn_any [15] (by kernel_rfl) (by simp) ?_
  refine drawn_cons rfl (fun K2 hK => ?_) drawn_nil
  go_simp
  refine (matches_any13 q k w5).mono ?_
  rintro e w6 ⟨rfl, t6⟩
  have HAT6 := Lib.hid (HAT5.out.later t6)
  have hS6 : CQ13 w6 b q ∧ CK13 w6 mm k ∧ CQ13 w6 P q := HAT6.out.s
  refine hK.out _ _ _ hS6 ?_
  clear hK K2 HAT5 hS5 t6
  try simp only [List.setIfInBounds_toArray, List.set_cons_zero, List.set_cons_succ]
  obtain ⟨y, hy⟩ : ∃ y, y = decide (x ≤ k.h) := ⟨_, rfl⟩
  try rw [← hy]
  try rw [hM]
  clear hM
  refine drawn_take 16 58 (.bool false) rfl rfl (by kernel_rfl) (by kernel_rfl) (by kernel_rfl) (by kernel_rfl) (fun _ _ _ h => h) (by rfl) (by assumption) (by intro w hSw; obtain ⟨⟨b0, b1, b2, b3, b4, b5, b6, b7, b8, b9, b10, b11, b12, b13⟩, ⟨m0, m1, m2, m3, m4⟩, ⟨p0, p1, p2, p3, p4, p5, p6, p7, p8, p9, p10, p11, p12, p13⟩⟩ := hSw; go_simp) ?_
  try simp only [List.setIfInBounds_toArray, List.set_cons_zero, List.set_cons_succ]
  refine drawn_skip 17 59 rfl rfl (by kernel_rfl) (by kernel_rfl) (by kernel_rfl) (by kernel_rfl) (fun _ _ _ h => h) (by rfl) (fun _ => by assumption) ?_
  try simp only [List.setIfInBounds_toArray, List.set_cons_zero, List.set_cons_succ]
  refine drawn_skip 18 60 rfl rfl (by kernel_rfl) (by kernel_rfl) (by kernel_rfl) (by kernel_rfl) (fun _ _ _ h => h) (by rfl) (fun _ => by assumption) ?_
  try simp only [List.setIfInBounds_toArray, List.set_cons_zero, List.set_cons_succ]
  refine drawn_skip 19 61 rfl rfl (by kernel_rfl) (by kernel_rfl) (by kernel_rfl) (by kernel_rfl) (fun _ _ _ h => h) (by rfl) (fun _ => by assumption) ?_
  try simp only [List.setIfInBounds_toArray, List.set_cons_zero, List.set_cons_succ]
  refine drawn_skip 20 62 rfl rfl (by kernel_rfl) (by kernel_rfl) (by kernel_rfl) (by kernel_rfl) (fun _ _ _ h => h) (by rfl) (fun _ => by assumption) ?_
  try simp only [List.setIfInBounds_toArray, List.set_cons_zero, List.set_cons_succ]
  refine drawn_take 21 63 (.bool false) rfl rfl (by kernel_rfl) (by kernel_rfl) (by kernel_rfl) (by kernel_rfl) (fun _ _ _ h => h) (by rfl) (by assumption) (by intro w hSw; obtain ⟨⟨b0, b1, b2, b3, b4, b5, b6, b7, b8, b9, b10, b11, b12, b13⟩, ⟨m0, m1, m2, m3, m4⟩, ⟨p0, p1, p2, p3, p4, p5, p6, p7, p8, p9, p10, p11, p12, p13⟩⟩ := hSw; go_simp) ?_
  try simp only [List.setIfInBounds_toArray, List.set_cons_zero, List.set_cons_succ]
  refine drawn_take 22 64 (.bool false) rfl rfl (by kernel_rfl) (by kernel_rfl) (by kernel_rfl) (by kernel_rfl) (fun _ _ _ h => h) (by rfl) (by assumption) (by intro w hSw; obtain ⟨⟨b0, b1, b2, b3, b4, b5, b6, b7, b8, b9, b10, b11, b12, b13⟩, ⟨m0, m1, m2, m3, m4⟩, ⟨p0, p1, p2, p3, p4, p5, p6, p7, p8, p9, p10, p11, p12, p13⟩⟩ := hSw; go_simp) ?_
  try simp only [List.setIfInBounds_toArray, List.set_cons_zero, List.set_cons_succ]
  refine drawn_last1 23 65 (.bool false) rfl rfl (by kernel_rfl) (by kernel_rfl) (by rfl) (by intro w; go_simp) hS6 ?_
  try simp only [List.setIfInBounds_toArray, List.set_cons_zero, List.set_cons_succ]
  clear hS6 hy
  go_wp2_with fail
  have HTX := Lib.hid HAT6.out.qk.turn
  obtain ⟨WX, hWX⟩ : ∃ WX, WX = w6 := ⟨_, rfl⟩
  subst hWX
  have hrd := read_any13 _ m n WX (HU.out.later HTX.out) hm1
  unfold Readed13 at hrd
  rw [readQ_none hfb] at hrd
  have hfbd : ((readQ m n).1 != 0) = true := by simp [bne, hfb]
  have hne := run_eql_query13 zeroQ zeroQ
  have hgd := fun op X Y => guard_query13 op X Y zeroQ zeroQ
  rw [decide_eq_true rfl] at hne
  have hne2 : ∀ W, Sem.run Try.prog (binOp .eql 25 (.agg zcells13) (.agg zcells13)) W = .ok (.bool true) W := hne
  have hgd2 : ∀ (op : BinOp) (X Y : Operand) W, Sem.run Try.prog (eqGuard op 25 X Y (.agg zcells13) (.agg zcells13)) W = .ok () W := hgd
  clear hne hgd hfb
  unfold zcells13 at hne2 hgd2
  have hrd2 : Calls Try.prog 15 #[.slice A m.length c, .int .i64 n] WX fun e w' => e = .returned (.tuple #[.agg zcells13, .int .i64 (readQ m n).1]) ∧ Turn (fun _ => False) WX w' := hrd
  clear hrd
  generalize (readQ m n).1 = fb at *
  go_wp2_with fail
  refine hrd2.mono ?_
  rintro e wr ⟨rfl, tr⟩
  clear hrd2
  have HTR := Lib.hid ((HTX.out.trans tr (fun _ _ f => f)).alloc (.cells zcells13 25))
  clear tr
  go_wp2_with fail
  refine (HAL.out _).mono ?_
  rintro e wB ⟨rfl, tB⟩
  have HTB := Lib.hid (HTR.out.trans tB (fun _ _ f => f))
  clear tB
  go_wp2
  go_ret
  exact ⟨rfl, HTB.out.below (Nat.le_refl _) (fun _ f => f.elim)⟩

set_option maxRecDepth 100000 in
set_option maxHeartbeats 16000000 in
theorem none_bad (q : Q13) (u : Value) (m : List UInt8) (n : Int) (_wn : (Lit.int .i64 n).wf = true) (x : Int) (_wx : (Lit.int .i64 x).wf = true) (k : K9) (w : World) (hu : Rd w u m) (hL : light13 q = true) (hm : m.length ≤ 200) (hfa : ¬ chkQ q n = 0) (hfb : ¬ (readQ m n).1 = 0) :
    Calls Try.prog 5 #[qv13 q, u, .int .i64 n, .int .i64 x, kv9 k] w fun e w' => e = .returned (.bool true) ∧ Below w.heap.size w w' := by
  unfold qv13 kv9
  obtain ⟨A, c, rfl⟩ := hu.shape
  obtain ⟨w0, hw0⟩ : ∃ w0, w0 = (w.alloc (.cells (cells13 q) 25)).alloc (.cells #[.int .i64 k.h, sv9 k.a, sv9 k.b, sv9 k.c, sv9 k.d] 27) := ⟨_, rfl⟩
  have h0 := Qk13.new w q k
  rw [← hw0] at h0
  have HU := Lib.hid hu
  have HW := Lib.hid hw0
  have HAT0 := Lib.hid h0
  have HAL : Hid (∀ W, Calls Try.prog 8 #[] W fun e w' => e = .returned (.bool true) ∧ Turn (fun _ => False) W w') := fun W => alive_any13 W
  have HLI : Hid (∀ W, Calls Try.prog 6 #[.agg (cells13 q)] W fun e w' => e = .returned (.bool (light13 q)) ∧ Turn (fun _ => False) W w') := fun W => light_any13 q W
  obtain ⟨⟨c0, c1, c2, c3, c4, c5, c6, c7, c8, c9, c10, c11, c12, c13⟩, -⟩ := h0.s
  rw [hw0] at c0 c1 c2 c3 c4 c5 c6 c7 c8 c9 c10 c11 c12 c13
  clear hw0 h0 hu _wn _wx
  rw [hL] at HLI
  clear hL
  have hmk : ¬ (200 : Int) < (m.length : Int) := by omega
  have hm1 : m.length ≤ 1000000 := by omega
  clear hm
  have hfad : (chkQ q n == 0) = false := by simpa using hfa
  have HEN : Hid (∀ W, Calls Try.prog 13 #[.agg (cells13 q), .int .i64 n] W fun e w' => Encd13 W q n e w') := fun W => encode_any13 q n W
  clear hfa
  go_enter Try.func5, Try.ntmps5
  go_wp2_with fail
  rw [← HW.out]
  refine (HLI.out _).mono ?_
  rintro e w1 ⟨rfl, t1⟩
  have HAT1 := Lib.hid (HAT0.out.later t1)
  clear t1 c0 c1 c2 c3 c4 c5 c6 c7 c8 c9 c10 c11 c12 c13 HAT0
  obtain ⟨⟨b0, b1, b2, b3, b4, b5, b6, b7, b8, b9, b10, b11, b12, b13⟩, -⟩ := HAT1.out.s
  go_wp2_with fail
  refine (HEN.out w1).mono ?_
  intro e w2 g2
  obtain ⟨v2, rfl, -, t2, -⟩ := g2.rd
  have HAT2 := Lib.hid (HAT1.out.later t2)
  clear g2 t2 b0 b1 b2 b3 b4 b5 b6 b7 b8 b9 b10 b11 b12 b13 HAT1 HEN
  generalize chkQ q n = fa at *
  go_wp2_with fail
  have HTX := Lib.hid HAT2.out.turn
  obtain ⟨WX, hWX⟩ : ∃ WX, WX = w2 := ⟨_, rfl⟩
  subst hWX
  have hrd := read_any13 _ m n WX (HU.out.later HTX.out) hm1
  unfold Readed13 at hrd
  rw [readQ_none hfb] at hrd
  have hfbd : ((readQ m n).1 != 0) = true := by simp [bne, hfb]
  have hne := run_eql_query13 zeroQ zeroQ
  have hgd := fun op X Y => guard_query13 op X Y zeroQ zeroQ
  rw [decide_eq_true rfl] at hne
  have hne2 : ∀ W, Sem.run Try.prog (binOp .eql 25 (.agg zcells13) (.agg zcells13)) W = .ok (.bool true) W := hne
  have hgd2 : ∀ (op : BinOp) (X Y : Operand) W, Sem.run Try.prog (eqGuard op 25 X Y (.agg zcells13) (.agg zcells13)) W = .ok () W := hgd
  clear hne hgd hfb
  unfold zcells13 at hne2 hgd2
  have hrd2 : Calls Try.prog 15 #[.slice A m.length c, .int .i64 n] WX fun e w' => e = .returned (.tuple #[.agg zcells13, .int .i64 (readQ m n).1]) ∧ Turn (fun _ => False) WX w' := hrd
  clear hrd
  generalize (readQ m n).1 = fb at *
  go_wp2_with fail
  refine hrd2.mono ?_
  rintro e wr ⟨rfl, tr⟩
  clear hrd2
  have HTR := Lib.hid ((HTX.out.trans tr (fun _ _ f => f)).alloc (.cells zcells13 25))
  clear tr
  go_wp2_with fail
  refine (HAL.out _).mono ?_
  rintro e wB ⟨rfl, tB⟩
  have HTB := Lib.hid (HTR.out.trans tB (fun _ _ f => f))
  clear tB
  go_wp2
  go_ret
  exact ⟨rfl, HTB.out.below (Nat.le_refl _) (fun _ f => f.elim)⟩

theorem walk (q : Q13) (u : Value) (m : List UInt8) (n : Int) (_wn : (Lit.int .i64 n).wf = true) (x : Int) (_wx : (Lit.int .i64 x).wf = true) (k : K9) (w : World) (hu : Rd w u m):
    Calls Try.prog 5 #[qv13 q, u, .int .i64 n, .int .i64 x, kv9 k] w fun e w' => e = .returned (.bool true) ∧ Below w.heap.size w w' := by
  cases hL : light13 q with
  | false => exact dead1 q u m n _wn x _wx k w hu hL
  | true =>
    by_cases hm : m.length ≤ 200
    · by_cases hfb : (readQ m n).1 = 0
      · by_cases hfa : chkQ q n = 0
        · cases hM : matchB q k with
          | true => exact good_t_ok q u m n _wn x _wx k w hu hL hm hfa hM hfb
          | false => exact good_f_ok q u m n _wn x _wx k w hu hL hm hfa hM hfb
        · exact none_ok q u m n _wn x _wx k w hu hL hm hfa hfb
      · by_cases hfa : chkQ q n = 0
        · cases hM : matchB q k with
          | true => exact good_t_bad q u m n _wn x _wx k w hu hL hm hfa hM hfb
          | false => exact good_f_bad q u m n _wn x _wx k w hu hL hm hfa hM hfb
        · exact none_bad q u m n _wn x _wx k w hu hL hm hfa hfb
    · exact dead2 q u m n _wn x _wx k w hu hL hm

set_option maxRecDepth 100000 in
set_option maxRecDepth 100000 in
theorem lifted (os : Os) (started : os.Started) (H : Type) (enc : TypeId × Value → H) :
    ReturnsInHanded {} Try.checked os 5 .any (Rows.askBackSpec.pre6 enc Try.prog Try.f5 Rows.askBackRow.domain false) (Rows.askBackSpec.post enc Try.prog Try.f5 false true false false) := by
  refine returnsInHanded_of_change (C := Try.checked) own started (by kernel_rfl) Try.func5
    (ChangeSpec.witness6 (enc := enc) (C := Try.checked) false ⟨#[], #[.agg #[.int .i64 0, .int .i64 0, .bool false, .bool false, .bool false, .bool false, .bool false, .bool false, .bool false, .bool false, .string ⟨#[]⟩, .string ⟨#[]⟩, .string ⟨#[]⟩, .string ⟨#[]⟩], .slice none 0 0, .int .i64 0, .int .i64 0, .agg #[.int .i64 0, .string ⟨#[]⟩, .string ⟨#[]⟩, .string ⟨#[]⟩, .string ⟨#[]⟩]], []⟩ 8 (by kernel_rfl) (by kernel_rfl) (by kernel_rfl) (by kernel_rfl)) ?_
  intro W base args ds gs before hval0 hW hcnd _
  have hval : ∀ (j : Nat) t v, Try.f5.params[j]? = some t → args[j]? = some v → Value.okWide Try.prog W .any base t v := hval0
  have hW' := hW
  obtain ⟨p, q, hA0, hV, rfl, hfz, hnd⟩ := hW
  have hA : DataW.TrodAll enc Try.prog W 0 (fun _ => true) true Try.f5.params.toList args.toList ds p := hA0
  rw [Try.params5] at hA hval
  obtain ⟨v0, vs0, d0, ds0, p0, q0, hargs, rfl, rfl, h0, r0⟩ := trodAll_cons hA
  obtain ⟨v1, vs1, d1, ds1, p1, q1, rfl, rfl, rfl, h1, r1⟩ := trodAll_cons r0
  obtain ⟨v2, vs2, d2, ds2, p2, q2, rfl, rfl, rfl, h2, r2⟩ := trodAll_cons r1
  obtain ⟨v3, vs3, d3, ds3, p3, q3, rfl, rfl, rfl, h3, r3⟩ := trodAll_cons r2
  obtain ⟨v4, vs4, d4, ds4, p4, q4, rfl, rfl, rfl, h4, r4⟩ := trodAll_cons r3
  obtain ⟨rfl, rfl, rfl⟩ := trodAll_nil r4
  obtain rfl : args = #[v0, v1, v2, v3, v4] := by cases args; simp_all
  obtain ⟨rfl, rfl⟩ := trodVars_none hV
  have k0 := h0
  have lt0 : ∀ x ∈ p0, x.block < W.heap.size := by obtain ⟨m, hm⟩ := k0; exact DataW.trod_lt m _ _ _ hm
  obtain ⟨qy0, hq0⟩ := open_query13 (hval 0 25 v0 rfl rfl) h0
  subst hq0
  have k1 := h1
  have lt1 : ∀ x ∈ p1, x.block < W.heap.size := by obtain ⟨m, hm⟩ := k1; exact DataW.trod_lt m _ _ _ hm
  have hb1 := came_in9 Try.underlying34 (hval 1 34 v1 rfl rfl)
  obtain ⟨a1, len1, cap1, rfl⟩ := okWide_slice Try.underlying34 (hval 1 34 v1 rfl rfl)
  obtain ⟨l1, hp1, hl1⟩ := open_bytes rfl h1
  obtain ⟨a2, rfl, rfl, rfl, w2⟩ := open_int Try.underlying3 (hval 2 3 v2 rfl rfl) h2
  obtain ⟨a3, rfl, rfl, rfl, w3⟩ := open_int Try.underlying2 (hval 3 2 v3 rfl rfl) h3
  have k4 := h4
  have lt4 : ∀ x ∈ p4, x.block < W.heap.size := by obtain ⟨m, hm⟩ := k4; exact DataW.trod_lt m _ _ _ hm
  obtain ⟨ky4, hk4⟩ := open_key9 (hval 4 27 v4 rfl rfl) h4
  subst hk4
  clear hA0 hval0
  refine (walk qy0 _ l1 a2 w2 a3 w3 ky4 W hp1).mono fun e W' ⟨he, bel⟩ => ?_
  subst he
  exact ⟨_, rfl, _, _, _, [], _, [], hW', trodAll_mk1 (shut_bool Try.underlying4 _), (trodAll_cons_mk (Below.trod laidOut (by kernel_rfl) (of_decide_eq_true (by kernel_rfl)) k0 bel lt0) (trodAll_cons_mk (Below.trod laidOut (by kernel_rfl) (of_decide_eq_true (by kernel_rfl)) k1 bel lt1) (trodAll_cons_mk (shut_int Try.underlying3 w2) (trodAll_cons_mk (shut_int Try.underlying2 w3) (trodAll_cons_mk (Below.trod laidOut (by kernel_rfl) (of_decide_eq_true (by kernel_rfl)) k4 bel lt4) trodAll_mk0))))), rfl, bel.frame _, fun h => by cases h⟩

theorem over : Rows.askBackRow.holds Try.pinned (OpenSpec.ofChange Rows.askBackSpec) :=
  OpenClaim.holds_of_wide 5 Try.f5 rfl rfl rfl rfl rfl rfl rfl ⟨rfl, rfl, rfl, rfl, rfl⟩ rfl rfl rfl rfl rfl (by kernel_rfl) Try.func5 (by kernel_rfl)
    (of_decide_eq_true (by kernel_rfl)) (by unfold Func.isWrapper; first | (rw [if_pos (by decide +kernel)]; kernel_rfl) | (rw [if_neg (by decide +kernel)]; exact ⟨rfl, rfl⟩))
    (fun os started H enc _ => lifted os started H enc)

theorem proved : Rows.AskBackSaid := over
#print axioms proved
end Go.Proofs.Ytieffpngknglpaa.askBack
