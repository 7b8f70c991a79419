/-
  Texts laid one behind the other: Q2e Ta Tu Emr Em Zpl Ts Tv.
-/
import Derived.Test.YtklpmajaihmmfaaJocaj
import Derived.Test.YtklpmajaihmmfaaJocah
import Derived.Test.YtklpmajaihmmfaaJocag
import Derived.Test.YtklpmajaihmmfaaJocai
import Derived.Maps.RangeRun
import Derived.Maps.OwnSet
import Derived.WideKeyRuns
import Derived.Test.YtklpmajaihmmfaaJocab
import Derived.Test.YtklpmajaihmmfaaJocaa
import Derived.Shelf.GgSortFunc.InsertionK
import Derived.Shelf.SlSortCmp.NoneTotal
import Derived.Test.YtklpmajaihmmfaaProg

/-
  Stage 14: the rows that match, each at its group's key: an iterator that ranges over another one.
-/
namespace Go.Proofs.Ytklpmajaihmmfaa
open Go.RowKit Go.Shelf
attribute [local go_sem] Oper.semAt_some wide_fn

set_option maxRecDepth 100000

theorem grpR_yes1 {q : Q13} {pre : List R11} {r : R11} (hm : matchB q r.k = true) : grpR q (pre ++ [r]) = grpR q pre ++ [⟨groupK q r.k, r.c⟩] := by rw [grpR_append, grpR_one, if_pos hm]
theorem grpR_no1 {q : Q13} {pre : List R11} {r : R11} (hm : matchB q r.k = false) : grpR q (pre ++ [r]) = grpR q pre := by rw [grpR_append, grpR_one, if_neg (by rw [hm]; decide), List.append_nil]
theorem grpR_pre {q : Q13} {a b : List R11} (h : a <+: b) : grpR q a <+: grpR q b := by
  obtain ⟨t, rfl⟩ := h
  rw [grpR_append]
  exact List.prefix_append _ _

/-- The query's box, the yield's box, in a range. -/
structure Ask14 (yb qb l : Nat) (q : Q13) (V : World) : Prop where
  y : Box V yb 81 #[.func (.yield l) #[] #[]]
  q : Box V qb 25 (cells13 q)
theorem Ask14.odd {yb qb l D : Nat} {q : Q13} {A B : World} (h : Ask14 yb qb l q A) (ht : Turn (odd D A) A B) : Ask14 yb qb l q B := ⟨h.y.odd ht, h.q.odd ht⟩
theorem Ask14.turn {yb qb l : Nat} {q : Q13} {A B : World} {S : Nat → Prop} (h : Ask14 yb qb l q A) (ht : Turn S A B) (h1 : ¬ S yb) (h2 : ¬ S qb) : Ask14 yb qb l q B := ⟨h.y.turn ht h1, h.q.turn ht h2⟩

set_option maxHeartbeats 16000000 in
theorem asked_feed14 (n rb qb : Nat) (rv : Value) (q : Q13) (L : List R11) (w : World) (hit : It14 w rv L) (hr : Box w rb 62 #[rv]) (hqb : Box w qb 25 (cells13 q)) (S : Nat → Prop) (hS : ∀ k, S k → w.heap.size ≤ k) :
    Feeds n 41 #[.pointer (some ⟨rb, 0, none⟩), .pointer (some ⟨qb, 0, none⟩)] (fun r => #[rv11 r]) S (fun pre y _ => pre ++ [y] <+: grpR q L) (fun xs => xs = grpR q L) (fun pre => pre <+: grpR q L) w := fun l J Jx W hW hlW hSW hJ hJx hY h0 => by
  obtain ⟨gf, lb, rfl, heg, hfe⟩ := hit
  have HRB := Lib.hid (hr.turn hW (fun f => f)); have HQB := Lib.hid (hqb.turn hW (fun f => f))
  have HY := Lib.hid hY; have HJ := Lib.hid hJ; have HJx := Lib.hid hJx
  have HS := Lib.hid hS; have HSW := Lib.hid hSW; have HLW := Lib.hid hlW
  have H0 := Lib.hid h0; have HW := Lib.hid hW
  have HFE := Lib.hid hfe
  have HQL : Hid (qb < w.heap.size) := hqb.lt
  have hcr := (HRB.out.alloc (.cells #[.func (.yield l) #[] #[]] 81)).cell 0
  clear hY hJ hJx hlW h0 hr hqb hW hS hSW hfe
  refine calls_depth11 (m := 5) ?_
  refine callsIn_of_wp_marks Try.func41 rfl trivial ?_ rfl
  simp only [Try.ntmps41, List.size_toArray, List.length_cons, List.length_nil, Nat.reduceAdd, Nat.reduceSub, Array.replicate_succ, Array.replicate_zero, List.push_toArray, List.append_toArray, List.nil_append, List.cons_append]
  gi_wp2_with fail
  obtain ⟨W1, hW1⟩ : ∃ W1, W1 = W.alloc (.cells #[.func (.yield l) #[] #[]] 81) := ⟨_, rfl⟩
  obtain ⟨yb, hyb⟩ : ∃ yb, yb = W.heap.size := ⟨_, rfl⟩
  have HT1 : Hid (Turn (fun _ => False) W W1) := by rw [hW1]; exact (Turn.refl _ W).alloc _
  have HAB : Hid (Ask14 yb qb l q W1) := by rw [hW1, hyb]; exact ⟨Box.new W _ _, HQB.out.alloc _⟩
  have HSZ : Hid (W1.heap.size = W.heap.size + 1) := by show W1.heap.size = _; rw [hW1]; simp
  have HYB := Lib.hid hyb
  rw [← hW1, ← hyb]
  clear hW1 hcr hyb
  have HSi : Hid (∀ k, (S k ∨ k = W1.heap.size + 1) → w.heap.size ≤ k) := fun k h => h.elim (HS.out k) (fun e => by have := HW.out.size; have := HSZ.out; omega)
  have HNy : Hid (¬ S yb ∧ ¬ S qb) := ⟨fun h => by have := HSW.out _ h; have := HYB.out; omega, fun h => by have := HS.out _ h; have := HQL.out; omega⟩
  have HFD := Lib.hid (HFE.out 4 (fun k => S k ∨ k = W1.heap.size + 1) HSi.out)
  refine' over7 (n := 5) (by omega) (gf := gf) (lb := lb) rfl heg HFD.out (HW.out.trans HT1.out (fun _ _ f => f)) (Or.inr rfl) ?hS2 (fun _ => rfl) _
    (fun (pre : List R11) V => J (grpR q pre) V ∧ Ask14 yb qb l q V)
    (fun c xs V => c = .ret ∧ Jx (grpR q xs) V ∧ grpR q xs <+: grpR q L)
    ?hI ?hIx ?h0 (fun pre y p V => (J (grpR q pre) V ∧ Ask14 yb qb l q V) ∧ Box V p 55 (cells11 y) ∧ pre ++ [y] <+: L) ?hax ?assign ?body ?done ?stop
  case assign =>
    intro l0 pre x V K hi hgv hK
    have HK := Lib.hid hK
    have HT : Hid (Turn (fun _ => False) V (V.alloc (.cells (cells11 x) 55))) := (Turn.refl _ V).alloc _
    have HB : Hid ((J (grpR q pre) (V.alloc (.cells (cells11 x) 55)) ∧ Ask14 yb qb l q (V.alloc (.cells (cells11 x) 55))) ∧ Box (V.alloc (.cells (cells11 x) 55)) V.heap.size 55 (cells11 x) ∧ pre ++ [x] <+: L) :=
      ⟨⟨HJ.out _ _ _ hi.1 HT.out.none, hi.2.turn HT.out (fun f => f) (fun f => f)⟩, Box.new V _ _, hgv⟩
    clear hK hi hgv
    gi_wp2
    generalize V.alloc (.cells (cells11 x) 55) = V2 at *
    generalize V.heap.size = p at *
    exact HK.out p _ HB.out HT.out
  case hS2 =>
    intro k hk
    rcases hk with h | h
    · have := HSW.out k h; have := HSZ.out; omega
    · omega
  case hI =>
    intro s V V' ⟨h1, h2⟩ ht
    exact ⟨HJ.out.le (by have := HSZ.out; omega) _ _ _ h1 ht, h2.odd ht⟩
  case hIx =>
    intro c s V V' ⟨h1, h2, h3⟩ ht
    exact ⟨h1, HJx.out.le (by have := HSZ.out; omega) _ _ _ h2 ht, h3⟩
  case h0 => exact ⟨HJ.out _ _ _ H0.out HT1.out.none, HAB.out⟩
  case hax =>
    rintro pre y p A B ⟨⟨h1, h2⟩, h3, h4⟩ ht
    exact ⟨⟨HJ.out.le (by have := HSZ.out; omega) _ _ _ h1 ht, h2.odd ht⟩, h3.odd ht, h4⟩
  case body =>
    rintro l0 pre y p V ⟨⟨hj, hab⟩, hbx, hgv⟩
    have HJ1 := Lib.hid hj; have HA := Lib.hid hab; have HB := Lib.hid hbx; have HG := Lib.hid hgv
    obtain ⟨b0, b1, b2, b3, b4, b5, b6, b7, b8, b9, b10, b11, b12, b13⟩ := cq_box13 hab.q
    have k0 := hbx.cell 0; have k1 := hbx.cell 1; have k2 := hbx.cell 2; have k3 := hbx.cell 3; have k4 := hbx.cell 4
    simp only [cells11] at k0 k1 k2 k3 k4
    have HM : Hid (∀ W, Calls Try.prog 42 #[.agg (cells13 q), .agg #[.int .i64 y.k.h, sv9 y.k.a, sv9 y.k.b, sv9 y.k.c, sv9 y.k.d]] W fun e w' => e = .returned (.bool (matchB q y.k)) ∧ Turn (fun _ => False) W w') := fun W => matches_any13 q y.k W
    clear hj hab hbx hgv
    cases hm : matchB q y.k with
    | false =>
      have HE : Hid (grpR q (pre ++ [y]) = grpR q pre) := grpR_no1 hm
      rw [hm] at HM
      clear hm
      gi_wp2_with fail
      refine (CallsIn.inRound l0 (callsIn_wide.2 (HM.out _))).mono ?_
      rintro e V2 ⟨rfl, t2⟩
      have HT2 := Lib.hid t2
      clear t2 b0 b1 b2 b3 b4 b5 b6 b7 b8 b9 b10 b11 b12 b13 k0 k1 k2 k3 k4
      gi_wp2
      exact ⟨Still.turned HT2.out, HT2.out.none, by rw [HE.out]; exact HJ.out _ _ _ HJ1.out HT2.out.none, HA.out.turn HT2.out (fun f => f) (fun f => f)⟩
    | true =>
      have HE : Hid (grpR q (pre ++ [y]) = grpR q pre ++ [⟨groupK q y.k, y.c⟩]) := grpR_yes1 hm
      have HP : Hid (grpR q pre ++ [⟨groupK q y.k, y.c⟩] <+: grpR q L) := by show _ <+: _; rw [← HE.out]; exact grpR_pre HG.out
      have HGK : Hid (∀ W, Calls Try.prog 43 #[.agg (cells13 q), .agg #[.int .i64 y.k.h, sv9 y.k.a, sv9 y.k.b, sv9 y.k.c, sv9 y.k.d]] W fun e w' => e = .returned (kv9 (groupK q y.k)) ∧ Turn (fun _ => False) W w') := fun W => group_any13 q y.k W
      rw [hm] at HM
      clear hm
      generalize groupK q y.k = gk at *
      gi_wp2_with fail
      refine (CallsIn.inRound l0 (callsIn_wide.2 (HM.out _))).mono ?_
      rintro e V2 ⟨rfl, t2⟩
      have HT2 := Lib.hid t2
      clear t2 b0 b1 b2 b3 b4 b5 b6 b7 b8 b9 b10 b11 b12 b13 k0 k1 k2 k3 k4 HM
      gi_wp2_with fail
      refine cut_region 8 1 (fun W => Turn (fun _ => False) V W) [] op_round (by kernel_rfl) rfl (by kernel_rfl) ?_
      simp only [List.take_succ_cons, List.take_zero]
      have hS0 : Turn (fun _ => False) V (World.drew V2) := HT2.out.drew
      generalize World.drew V2 = wd at *
      refine drawn_take 0 12 (.func (.yield l) #[] #[]) rfl rfl (by kernel_rfl) (by kernel_rfl) (by kernel_rfl) (by kernel_rfl) (fun _ _ _ h => h) (by rfl) (by assumption) (by intro w hSw; have a0 := (HA.out.y.turn hSw (fun f => f)).cell 0; clear hSw; go_simp) ?_
      try simp only [List.setIfInBounds_toArray, List.set_cons_zero, List.set_cons_succ]
      refine drawn_take 1 13 (.agg (cells13 q)) rfl rfl (by kernel_rfl) (by kernel_rfl) (by kernel_rfl) (by kernel_rfl) (fun _ _ _ h => h) (by rfl) (by assumption) (by intro w hSw; obtain ⟨b0, b1, b2, b3, b4, b5, b6, b7, b8, b9, b10, b11, b12, b13⟩ := cq_box13 (HA.out.q.turn hSw (fun f => f)); clear hSw; go_simp) ?_
      try simp only [List.setIfInBounds_toArray, List.set_cons_zero, List.set_cons_succ]
      refine drawn_take 2 14 (.pointer (some ⟨p, 0, none⟩)) rfl rfl (by kernel_rfl) (by kernel_rfl) (by kernel_rfl) (by kernel_rfl) (fun _ _ _ h => h) (by rfl) (by assumption) (by intro w hSw; obtain hS1 := hSw; go_simp) ?_
      try simp only [List.setIfInBounds_toArray, List.set_cons_zero, List.set_cons_succ]
      refine drawn_take 3 15 (.agg #[.int .i64 y.k.h, sv9 y.k.a, sv9 y.k.b, sv9 y.k.c, sv9 y.k.d]) rfl rfl (by kernel_rfl) (by kernel_rfl) (by kernel_rfl) (by kernel_rfl) (fun _ _ _ h => h) (by rfl) (by assumption) (by intro w hSw; have hb := HB.out.turn hSw (fun f => f); have a0 := hb.cell 0; have a1 := hb.cell 1; have a2 := hb.cell 2; have a3 := hb.cell 3; have a4 := hb.cell 4; clear hSw hb; go_simp) ?_
      try simp only [List.setIfInBounds_toArray, List.set_cons_zero, List.set_cons_succ]
      refine drawn_take 5 17 (.pointer (some ⟨p, 5, none⟩)) rfl rfl (by kernel_rfl) (by kernel_rfl) (by kernel_rfl) (by kernel_rfl) (fun _ _ _ h => h) (by rfl) (by assumption) (by intro w hSw; obtain hS1 := hSw; go_simp) ?_
      try simp only [List.setIfInBounds_toArray, List.set_cons_zero, List.set_cons_succ]
      refine drawn_take 6 18 (.agg #[.int .i64 y.c.n, .int .i64 y.c.s, .int .i64 y.c.lo, .int .i64 y.c.hi]) rfl rfl (by kernel_rfl) (by kernel_rfl) (by kernel_rfl) (by kernel_rfl) (fun _ _ _ h => h) (by rfl) (by assumption) (by intro w hSw; have hb := HB.out.turn hSw (fun f => f); have a5 := hb.cell 5; have a6 := hb.cell 6; have a7 := hb.cell 7; have a8 := hb.cell 8; clear hSw hb; go_simp) ?_
      try simp only [List.setIfInBounds_toArray, List.set_cons_zero, List.set_cons_succ]
      refine drawn_any [4] (by kernel_rfl) (by simp) ?_
      refine drawn_cons rfl (fun K hK => ?_) drawn_nil
      go_simp
      refine (HGK.out wd).mono ?_
      rintro e V3 ⟨rfl, t3⟩
      have hS3 := hS0.trans t3 (fun _ _ f => f)
      refine hK.out _ _ _ hS3 ?_
      clear hK K hS0 t3
      try simp only [List.setIfInBounds_toArray, List.set_cons_zero, List.set_cons_succ]
      refine drawn_last1 7 19 (.agg #[.int .i64 gk.h, sv9 gk.a, sv9 gk.b, sv9 gk.c, sv9 gk.d, .int .i64 y.c.n, .int .i64 y.c.s, .int .i64 y.c.lo, .int .i64 y.c.hi]) rfl rfl (by kernel_rfl) (by kernel_rfl) (by rfl) (by intro w; go_simp) hS3 ?_
      try simp only [List.setIfInBounds_toArray, List.set_cons_zero, List.set_cons_succ]
      refine goes_on ?_
      intro fu
      have HT3 := Lib.hid hS3
      obtain ⟨fn, tm, asg, bo, hy, hrr⟩ := yield_depth11 (m' := 5 - 1 - 1 - 1) (HY.out (grpR q pre) ⟨gk, y.c⟩ V3 (HJ.out _ _ _ HJ1.out hS3.none) HP.out)
      have HRR : Hid (RoundIn (Fence.wide.inRound l0) (5 - 1 - 1 - 1) Try.prog l fn tm asg bo V3 _) := hrr
      dsimp only [rv11, cells11] at hy
      clear hrr hS3
      refine wpAnyIn_ready (rs := [8]) (by kernel_rfl) (by simp) ?_
      refine AllReadyIn.cons rfl (fun K hK => ?_) AllReadyIn.nil
      go_simp
      refine HRR.out.mono ?_
      rintro e V4 (⟨rfl, hj2, ht2, hs2⟩ | ⟨rfl, hx2, hs2⟩)
      · have HJ2 := Lib.hid hj2; have HT4 := Lib.hid ht2; have HS4 := Lib.hid hs2
        refine hK _ _ ?_
        clear hj2 ht2 hs2 hK K
        refine wpAnyIn_ready (rs := [9]) (by kernel_rfl) (by simp) ?_
        refine AllReadyIn.cons rfl (fun K hK => ?_) AllReadyIn.nil
        go_simp
        refine hK _ _ ?_
        clear hK K
        refine wpAnyIn_done (by kernel_rfl) ?_ _
        gi_wp2
        refine ⟨(Still.turned HT3.out).trans (HS4.out.le (by have := HLW.out; have := HSZ.out; omega)), (HT3.out.none.trans HT4.out (fun _ _ h => .inl h)), ?_, ?_⟩
        · rw [HE.out]; exact HJ2.out
        · exact (HA.out.turn HT3.out (fun f => f) (fun f => f)).turn HT4.out HNy.out.1 HNy.out.2
      · have HX2 := Lib.hid hx2; have HS4 := Lib.hid hs2
        refine hK _ _ ?_
        clear hx2 hs2 hK K
        refine wpAnyIn_ready (rs := [9]) (by kernel_rfl) (by simp) ?_
        refine AllReadyIn.cons rfl (fun K hK => ?_) AllReadyIn.nil
        go_simp
        refine hK _ _ ?_
        clear hK K
        refine wpAnyIn_done (by kernel_rfl) ?_ _
        gi_wp2
        exact ⟨(Still.turned HT3.out).trans (HS4.out.le (by have := HLW.out; have := HSZ.out; omega)), rfl, by rw [HE.out]; exact HX2.out, by rw [HE.out]; exact HP.out⟩
  case done =>
    rintro D xs V hD hA ⟨h1, h2⟩ hK
    have hj : J (grpR q xs) (V.putObj D (.deferred none)) := HJ.out.put _ h1 (by have := HSZ.out; omega) hK rfl
    subst hA
    clear h1 h2
    gi_wp2
    refine ⟨by simp, .inl ⟨_, _, rfl, run_takeDeferred hK, ?_⟩⟩
    exact ⟨_, results_none rfl _ _ _, ⟨_, rfl⟩, .inl ⟨_, rfl, hj⟩⟩
  case stop =>
    rintro D c0 pre V hD hP ⟨rfl, h2, h3⟩ hK
    have hj : Jx (grpR q pre) (V.putObj D (.deferred none)) := HJx.out.put _ h2 (by have := HSZ.out; omega) hK rfl
    have HX3 := Lib.hid h3
    clear h2 h3
    gi_wp2
    refine ⟨by simp, .inl ⟨_, _, rfl, run_takeDeferred hK, ?_⟩⟩
    exact ⟨_, results_none rfl _ _ _, ⟨_, rfl⟩, .inr ⟨_, HX3.out, hj⟩⟩

set_option maxHeartbeats 2000000 in
theorem asked_any14 (q : Q13) (v : Value) (L : List R11) (w : World) (h : It14 w v L) : Calls Try.prog 25 #[qv13 q, v] w fun e w' => Iter14 w (grpR q L) e w' := by
  have HI := Lib.hid h
  obtain ⟨gf, lb, rfl, -⟩ := h
  unfold qv13
  go_enter Try.func25, Try.ntmps25
  go_wp2
  go_ret
  have t1 : Turn (fun _ => False) w (w.alloc (.cells (cells13 q) 25)) := (Turn.refl _ w).alloc _
  have ht : Turn (fun _ => False) w ((w.alloc (.cells (cells13 q) 25)).alloc (.cells #[.func (.func gf) #[] lb] 62)) := t1.alloc _
  have hb := Box.new (w.alloc (.cells (cells13 q) 25)) 62 #[.func (.func gf) #[] lb]
  rw [World.size_alloc] at hb
  exact ⟨_, rfl, ⟨_, _, rfl, enters_of Try.func41 (by kernel_rfl) rfl, fun n S hS => asked_feed14 n _ _ _ q L _ (HI.out.later ht) hb ((Box.new w _ _).alloc _) S hS⟩, ht⟩

end Go.Proofs.Ytklpmajaihmmfaa

/-
  Stage 11, plain: lists of rows whose keys never fall; two of them laid into one; each key once; a map of cells.
-/
namespace Go.Proofs.Ytklpmajaihmmfaa
open Go.RowKit

/-- Rows whose keys never fall. -/
def NoFall (l : List R11) : Prop := l.Pairwise fun a b => keyLt b.k a.k = false
/-- Two such lists as one; of one key those of the first come first. -/
def bothL : List R11 → List R11 → List R11
  | [], b => b
  | x :: a, [] => x :: a
  | x :: a, y :: b => if keyLt y.k x.k then y :: bothL (x :: a) b else x :: bothL a (y :: b)
termination_by a b => a.length + b.length
theorem both_nil (b : List R11) : bothL [] b = b := by unfold bothL; rfl
theorem both_end (a : List R11) : bothL a [] = a := by cases a <;> (unfold bothL; rfl)
theorem both_lt {x y : R11} {a b : List R11} (h : keyLt y.k x.k = true) : bothL (x :: a) (y :: b) = y :: bothL (x :: a) b := by
  rw [bothL, if_pos h]
theorem both_ge {x y : R11} {a b : List R11} (h : keyLt y.k x.k = false) : bothL (x :: a) (y :: b) = x :: bothL a (y :: b) := by
  rw [bothL, if_neg (by rw [h]; simp)]
theorem both_mem : ∀ (a b : List R11) {r : R11}, r ∈ bothL a b → r ∈ a ∨ r ∈ b
  | [], b, r, h => by rw [both_nil] at h; exact .inr h
  | x :: a, [], r, h => by rw [both_end] at h; exact .inl h
  | x :: a, y :: b, r, h => by
    cases hc : keyLt y.k x.k with
    | true =>
      rw [both_lt hc] at h
      rcases List.mem_cons.1 h with rfl | h
      · exact .inr (List.mem_cons_self ..)
      · exact (both_mem (x :: a) b h).imp id (List.mem_cons_of_mem _)
    | false =>
      rw [both_ge hc] at h
      rcases List.mem_cons.1 h with rfl | h
      · exact .inl (List.mem_cons_self ..)
      · exact (both_mem a (y :: b) h).imp (List.mem_cons_of_mem _) id
termination_by a b => a.length + b.length
theorem both_len : ∀ (a b : List R11), (bothL a b).length = a.length + b.length
  | [], b => by rw [both_nil]; simp
  | x :: a, [] => by rw [both_end]; simp
  | x :: a, y :: b => by
    cases hc : keyLt y.k x.k with
    | true =>
      rw [both_lt hc, List.length_cons, both_len (x :: a) b]
      simp only [List.length_cons]; omega
    | false =>
      rw [both_ge hc, List.length_cons, both_len a (y :: b)]
      simp only [List.length_cons]; omega
termination_by a b => a.length + b.length
theorem ge_tr {a b c : K9} (h : keyLt b a = false) (g : keyLt c b = false) : keyLt c a = false := by
  cases e : keyLt c a with
  | false => rfl
  | true =>
    by_cases ab : b = a
    · rw [ab, e] at g; cases g
    · rw [key_tr e (rises_key.tot _ _ ab h)] at g; cases g
theorem both_nofall : ∀ (a b : List R11), NoFall a → NoFall b → NoFall (bothL a b)
  | [], b, _, hb => by rw [both_nil]; exact hb
  | x :: a, [], ha, _ => by rw [both_end]; exact ha
  | x :: a, y :: b, ha, hb => by
    obtain ⟨a1, a2⟩ := List.pairwise_cons.1 ha
    obtain ⟨b1, b2⟩ := List.pairwise_cons.1 hb
    cases hc : keyLt y.k x.k with
    | true =>
      rw [both_lt hc]
      refine List.pairwise_cons.2 ⟨fun r hr => ?_, both_nofall (x :: a) b ha b2⟩
      have hxy : keyLt x.k y.k = false := by
        cases e : keyLt x.k y.k with
        | false => rfl
        | true => have := key_tr hc e; rw [key_irr] at this; cases this
      rcases both_mem (x :: a) b hr with hr | hr
      · rcases List.mem_cons.1 hr with rfl | hr
        · exact hxy
        · exact ge_tr hxy (a1 r hr)
      · exact b1 r hr
    | false =>
      rw [both_ge hc]
      refine List.pairwise_cons.2 ⟨fun r hr => ?_, both_nofall a (y :: b) a2 hb⟩
      rcases both_mem a (y :: b) hr with hr | hr
      · exact a1 r hr
      · rcases List.mem_cons.1 hr with rfl | hr
        · exact hc
        · exact ge_tr hc (b1 r hr)
termination_by a b => a.length + b.length
theorem cells_above {k : K9} : ∀ {l : List R11}, (∀ r ∈ l, keyLt k r.k = true) → cellsOf k l = []
  | [], _ => rfl
  | r :: t, h => by
    show (if r.k = k then _ else cellsOf k t) = []
    rw [if_neg (fun e => by have h1 := h r (List.mem_cons_self ..); rw [e, key_irr] at h1; cases h1)]
    exact cells_above (fun y hy => h y (List.mem_cons_of_mem _ hy))
theorem cells_cons (k : K9) (r : R11) (t : List R11) : cellsOf k (r :: t) = (if r.k = k then [r.c] else []) ++ cellsOf k t := by
  show (if r.k = k then r.c :: cellsOf k t else cellsOf k t) = _
  split <;> rfl
theorem both_cells (k : K9) : ∀ (a b : List R11), NoFall a → cellsOf k (bothL a b) = cellsOf k a ++ cellsOf k b
  | [], b, _ => by rw [both_nil]; rfl
  | x :: a, [], _ => by rw [both_end]; simp [cellsOf]
  | x :: a, y :: b, ha => by
    obtain ⟨a1, a2⟩ := List.pairwise_cons.1 ha
    cases hc : keyLt y.k x.k with
    | true =>
      rw [both_lt hc, cells_cons, both_cells k (x :: a) b ha, cells_cons k y b]
      by_cases e : y.k = k
      · rw [cells_above (k := k) (l := x :: a) (fun r hr => by
          rw [← e]
          rcases List.mem_cons.1 hr with rfl | hr
          · exact hc
          · have h1 := a1 r hr
            by_cases e2 : x.k = r.k
            · rw [← e2]; exact hc
            · exact key_tr hc (rises_key.tot _ _ (Ne.symm e2) h1))]
        rfl
      · rw [if_neg e]; rfl
    | false =>
      rw [both_ge hc, cells_cons, both_cells k a (y :: b) a2, cells_cons k x a, List.append_assoc]
termination_by a b => a.length + b.length
theorem rise_nofall {l : List R11} (h : RiseR l) : NoFall l := h.imp fun {a b} hab => by
  cases e : keyLt b.k a.k with
  | false => rfl
  | true => have := key_tr hab e; rw [key_irr] at this; cases this
/-- Rows with the same cells, key by key, come to the same. -/
theorem puts_cells {l m : List R11} (h : ∀ k, cellsOf k l = cellsOf k m) : putsR [] l = putsR [] m := by
  by_cases hk : ∀ k, moreO none (cellsOf k m) ≠ none
  · obtain ⟨r, e1, e2, e3⟩ := puts_some (l := m) (acc := []) List.Pairwise.nil hk
    rw [e1]
    exact puts_is e2 fun k => by rw [h k]; exact e3 k
  · obtain ⟨k, e⟩ : ∃ k, moreO none (cellsOf k m) = none := Classical.byContradiction fun hn => hk fun k e => hn ⟨k, e⟩
    rw [puts_not e, puts_not (k := k) (by rw [h k]; exact e)]
/-- What lists of rows laid into one come to. -/
structure TogR (ls : List (List R11)) (rows : List R11) : Prop where
  nofall : NoFall rows
  cells : ∀ k, cellsOf k rows = cellsOf k ls.flatten
  len : rows.length = ls.flatten.length
  mem : ∀ r ∈ rows, r ∈ ls.flatten
theorem TogR.none : TogR [] [] := ⟨List.Pairwise.nil, fun _ => rfl, rfl, fun _ h => by cases h⟩
theorem TogR.one {l : List R11} (h : RiseR l) : TogR [l] l := ⟨rise_nofall h, fun k => by simp, by simp, fun r hr => by simpa using hr⟩
theorem TogR.two {ls ms : List (List R11)} {a b : List R11} (ha : TogR ls a) (hb : TogR ms b) : TogR (ls ++ ms) (bothL a b) :=
  ⟨both_nofall a b ha.nofall hb.nofall, fun k => by rw [both_cells k a b ha.nofall, ha.cells, hb.cells, List.flatten_append, cellsOf_append],
    by rw [both_len, ha.len, hb.len, List.flatten_append, List.length_append],
    fun r hr => by
      rw [List.flatten_append]
      exact List.mem_append.2 ((both_mem a b hr).imp (ha.mem r) (hb.mem r))⟩

/-- A row put behind rows whose last has a key no higher. -/
theorem put_last : ∀ {l : List R11} {x : R11}, (∀ r ∈ l, keyLt r.k x.k = true) → putR x l = some (l ++ [x])
  | [], x, _ => rfl
  | r :: t, x, h => by
    unfold putR
    rw [if_pos (h r (List.mem_cons_self ..)), put_last (fun y hy => h y (List.mem_cons_of_mem _ hy))]
    rfl
theorem put_same11 : ∀ {l : List R11} {r x : R11}, (∀ y ∈ l, keyLt y.k x.k = true) → r.k = x.k → putR x (l ++ [r]) = (mergeC r.c x.c).map fun c => l ++ [⟨x.k, c⟩]
  | [], r, x, _, e => by
    show putR x [r] = _
    unfold putR
    rw [if_neg (by rw [e, key_irr]; simp), if_pos e]
    rfl
  | y :: t, r, x, h, e => by
    show putR x (y :: (t ++ [r])) = _
    unfold putR
    rw [if_pos (h y (List.mem_cons_self ..)), put_same11 (fun z hz => h z (List.mem_cons_of_mem _ hz)) e]
    cases mergeC r.c x.c <;> rfl

/-- Behind the first i of rows: what they come to, whose last has the last one's key. -/
structure OnceR (rows : List R11) (i : Nat) (M : List R11) : Prop where
  puts : putsR [] (rows.take i) = some M
  low : ∀ r ∈ M, ∀ x, rows[i]? = some x → r.k = x.k ∨ keyLt r.k x.k = true
theorem OnceR.start (rows : List R11) : OnceR rows 0 [] := ⟨rfl, fun r h => by cases h⟩
theorem puts_mem : ∀ {l acc m : List R11}, putsR acc l = some m → ∀ r ∈ m, (∃ x ∈ l, r.k = x.k) ∨ ∃ x ∈ acc, r.k = x.k
  | [], acc, m, h, r, hr => by cases h; exact .inr ⟨r, hr, rfl⟩
  | x :: l, acc, m, h, r, hr => by
    unfold putsR at h
    cases hp : putR x acc with
    | none => rw [hp] at h; cases h
    | some a =>
      rw [hp] at h
      rcases puts_mem (l := l) (acc := a) h r hr with ⟨y, hy, e⟩ | ⟨y, hy, e⟩
      · exact .inl ⟨y, List.mem_cons_of_mem _ hy, e⟩
      · have key : ∀ {l a : List R11}, putR x l = some a → ∀ y ∈ a, y.k = x.k ∨ ∃ z ∈ l, y.k = z.k := by
          intro l
          induction l with
          | nil => intro a h y hy; cases h; exact .inl (by rw [List.mem_singleton.1 hy])
          | cons z t ih =>
            intro a h y hy
            unfold putR at h
            split at h
            · cases hq : putR x t with
              | none => rw [hq] at h; cases h
              | some b =>
                rw [hq] at h
                cases h
                rcases List.mem_cons.1 hy with rfl | hy
                · exact .inr ⟨_, List.mem_cons_self .., rfl⟩
                · exact (ih hq y hy).imp id fun ⟨u, hu, e⟩ => ⟨u, List.mem_cons_of_mem _ hu, e⟩
            · split at h
              · cases hq : mergeC z.c x.c with
                | none => rw [hq] at h; cases h
                | some c =>
                  rw [hq] at h
                  cases h
                  rcases List.mem_cons.1 hy with rfl | hy
                  · exact .inl rfl
                  · exact .inr ⟨y, List.mem_cons_of_mem _ hy, rfl⟩
              · cases h
                rcases List.mem_cons.1 hy with rfl | hy
                · exact .inl rfl
                · exact .inr ⟨y, hy, rfl⟩
        rcases key hp y hy with e2 | ⟨z, hz, e2⟩
        · exact .inl ⟨x, List.mem_cons_self .., e.trans e2⟩
        · exact .inr ⟨z, hz, e.trans e2⟩
theorem nofall_at {rows : List R11} (h : NoFall rows) {i j : Nat} {a b : R11} (hij : i < j) (ha : rows[i]? = some a) (hb : rows[j]? = some b) : keyLt b.k a.k = false := by
  obtain ⟨h1, e1⟩ := List.getElem?_eq_some_iff.1 ha
  obtain ⟨h2, e2⟩ := List.getElem?_eq_some_iff.1 hb
  have := List.pairwise_iff_getElem.1 h i j h1 h2 hij
  rw [e1, e2] at this
  exact this
theorem OnceR.of {rows : List R11} (h : NoFall rows) {i : Nat} {M : List R11} (hp : putsR [] (rows.take i) = some M) : OnceR rows i M :=
  ⟨hp, fun r hr x hx => by
    rcases puts_mem hp r hr with ⟨y, hy, e⟩ | ⟨y, hy, e⟩
    · obtain ⟨j, hj⟩ := List.mem_iff_getElem?.1 hy
      rw [List.getElem?_take] at hj
      split at hj
      · have h1 := nofall_at h (by assumption) hj hx
        by_cases e2 : y.k = x.k
        · exact .inl (e.trans e2)
        · exact .inr (by rw [e]; exact rises_key.tot _ _ (Ne.symm e2) h1)
      · cases hj
    · cases hy⟩
theorem puts_take {rows : List R11} {i : Nat} {x : R11} (hx : rows[i]? = some x) : putsR [] (rows.take (i + 1)) = (putsR [] (rows.take i)).bind fun a => putR x a := by
  obtain ⟨hi, e⟩ := List.getElem?_eq_some_iff.1 hx
  rw [List.take_succ_eq_append_getElem hi, e, putsR_append]
  congr 1
  funext a
  show (putR x a).bind _ = _
  cases putR x a <;> rfl
/-- A key that is not the last one's: a new row. -/
theorem once_new {rows : List R11} (hn : NoFall rows) {i : Nat} {M : List R11} {x : R11} (h : OnceR rows i M) (hx : rows[i]? = some x) (hl : ∀ r, M.getLast? = some r → r.k ≠ x.k) : OnceR rows (i + 1) (M ++ [x]) := by
  refine OnceR.of hn ?_
  rw [puts_take hx, h.puts]
  have hr := (puts_rise h.puts).1
  have hall : ∀ r ∈ M, keyLt r.k x.k = true := by
    rcases List.eq_nil_or_concat M with e | ⟨t, z, e⟩
    · subst e; intro r hr; cases hr
    · rw [List.concat_eq_append] at e
      subst e
      have hz : keyLt z.k x.k = true := by
        rcases h.low z (by simp) x hx with e | e
        · exact absurd e (hl z (by simp))
        · exact e
      intro r hr2
      rcases List.mem_append.1 hr2 with h1 | h1
      · exact key_tr ((List.pairwise_append.1 hr).2.2 r h1 z (by simp)) hz
      · rw [List.mem_singleton.1 h1]; exact hz
  exact put_last hall
/-- The last one's key: its cell merged. -/
theorem once_same {rows : List R11} {i : Nat} {t : List R11} {z x : R11} (h : OnceR rows i (t ++ [z])) (hx : rows[i]? = some x) (e : z.k = x.k) : putsR [] (rows.take (i + 1)) = (mergeC z.c x.c).map fun c => t ++ [⟨x.k, c⟩] := by
  rw [puts_take hx, h.puts]
  have hr := (puts_rise h.puts).1
  refine put_same11 (fun y hy => ?_) e
  rw [← e]
  exact (List.pairwise_append.1 hr).2.2 y hy z (by simp)
theorem puts_halt {rows : List R11} {i : Nat} (h : putsR [] (rows.take i) = none) : putsR [] rows = none := by
  rw [← List.take_append_drop i rows, putsR_append, h]
  rfl

/-- What is right stays right. -/
theorem right_merge {a b c : Cl} (ha : rightC a = true) (hb : rightC b = true) (h1 : 1 ≤ a.n) (h2 : 1 ≤ b.n) (h : mergeC a b = some c) : rightC c = true ∧ 1 ≤ c.n := by
  unfold mergeC at h
  rw [if_neg (by omega), if_neg (by omega)] at h
  split at h
  · cases h
    refine ⟨?_, by show 1 ≤ a.n + b.n; omega⟩
    unfold rightC at ha hb ⊢
    rw [if_neg (by omega)] at ha hb
    rw [if_neg (by show ¬ a.n + b.n = 0; omega)]
    simp only [Bool.and_eq_true, decide_eq_true_iff] at ha hb
    have e1 : decide (0 < a.n + b.n) = true := decide_eq_true (by omega)
    have e2 : decide (min a.lo b.lo ≤ max a.hi b.hi) = true := decide_eq_true (by omega)
    have e3 : decide (1 < a.n + b.n) = true := decide_eq_true (by omega)
    simp only [e1, e2, e3, Bool.true_or, Bool.and_true]
  · cases h

/-- All that rows come to is right, if they are. -/
theorem putR_fine {x : R11} (hx : okRow x = true ∧ okC x.c) : ∀ {l m : List R11}, (∀ r ∈ l, okRow r = true ∧ okC r.c) → putR x l = some m → ∀ r ∈ m, okRow r = true ∧ okC r.c
  | [], m, _, h, r, hr => by cases h; rw [List.mem_singleton.1 hr]; exact hx
  | z :: t, m, hl, h, r, hr => by
    unfold putR at h
    split at h
    · cases hq : putR x t with
      | none => rw [hq] at h; cases h
      | some b =>
        rw [hq] at h
        cases h
        rcases List.mem_cons.1 hr with rfl | hr
        · exact hl _ (List.mem_cons_self ..)
        · exact putR_fine hx (fun y hy => hl y (List.mem_cons_of_mem _ hy)) hq r hr
    · split at h
      · cases hq : mergeC z.c x.c with
        | none => rw [hq] at h; cases h
        | some c =>
          rw [hq] at h
          cases h
          rcases List.mem_cons.1 hr with rfl | hr
          · obtain ⟨z1, z2⟩ := hl z (List.mem_cons_self ..)
            unfold okRow at z1 hx ⊢
            rw [Bool.and_eq_true, decide_eq_true_iff] at z1 hx
            have g := right_merge z1.2 hx.1.2 z1.1 hx.1.1 hq
            rw [Bool.and_eq_true, decide_eq_true_iff]
            exact ⟨⟨g.2, g.1⟩, okC_merge z2 hx.2 hq⟩
          · exact hl r (List.mem_cons_of_mem _ hr)
      · cases h
        rcases List.mem_cons.1 hr with rfl | hr
        · exact hx
        · exact hl r hr
theorem puts_fine : ∀ {l acc m : List R11}, (∀ r ∈ l, okRow r = true ∧ okC r.c) → (∀ r ∈ acc, okRow r = true ∧ okC r.c) → putsR acc l = some m → ∀ r ∈ m, okRow r = true ∧ okC r.c
  | [], acc, m, _, ha, h => by cases h; exact ha
  | x :: l, acc, m, hl, ha, h => by
    unfold putsR at h
    cases hp : putR x acc with
    | none => rw [hp] at h; cases h
    | some a =>
      rw [hp] at h
      exact puts_fine (l := l) (fun r hr => hl r (List.mem_cons_of_mem _ hr)) (putR_fine (hl x (List.mem_cons_self ..)) ha hp) h
theorem right_of11 : ∀ {l : List R11}, RiseR l → (∀ r ∈ l, okRow r = true) → rightR l = true
  | [], _, _ => rfl
  | r :: t, h, ho => by
    obtain ⟨h1, h2⟩ := List.pairwise_cons.1 h
    have ih := right_of11 h2 (fun y hy => ho y (List.mem_cons_of_mem _ hy))
    unfold rightR
    rw [ho r (List.mem_cons_self ..), ih]
    cases t with
    | nil => rfl
    | cons s u => simp only [h1 s (List.mem_cons_self ..)]; rfl
theorem putR_len11 : ∀ {l a : List R11} {x : R11}, putR x l = some a → a.length ≤ l.length + 1
  | [], a, x, h => by cases h; simp
  | z :: t, a, x, h => by
    unfold putR at h
    split at h
    · cases hq : putR x t with
      | none => rw [hq] at h; cases h
      | some b =>
        rw [hq] at h
        cases h
        have := putR_len11 hq
        simp only [List.length_cons]; omega
    · split at h
      · cases hq : mergeC z.c x.c with
        | none => rw [hq] at h; cases h
        | some c => rw [hq] at h; cases h; simp
      · cases h; simp
theorem puts_len12 : ∀ {l acc m : List R11}, putsR acc l = some m → m.length ≤ acc.length + l.length
  | [], acc, m, h => by cases h; simp
  | x :: l, acc, m, h => by
    unfold putsR at h
    cases hp : putR x acc with
    | none => rw [hp] at h; cases h
    | some a =>
      rw [hp] at h
      have h1 := putR_len11 hp
      have h2 := puts_len12 (l := l) (acc := a) (m := m) h
      simp only [List.length_cons]
      omega
/-- Rows put one to the other are a segment's. -/
theorem puts_right {l m : List R11} (hl : ∀ r ∈ l, okRow r = true ∧ okC r.c) (h : putsR [] l = some m) (hn : l.length ≤ 20000) : rightR m = true ∧ (∀ r ∈ m, okC r.c) ∧ m.length ≤ 20000 := by
  have ho := puts_fine hl (fun r h => by cases h) h
  refine ⟨right_of11 (puts_rise h).1 fun r hr => (ho r hr).1, fun r hr => (ho r hr).2, ?_⟩
  have := puts_len12 h
  simp at this
  omega

end Go.Proofs.Ytklpmajaihmmfaa

/-
  Stage 11: a map of cells by their keys, in memory: looked up, stored into, ranged over.
-/
namespace Go.Proofs.Ytklpmajaihmmfaa
open Go.RowKit
open Go.ChangeMaps (setBlock)

set_option maxRecDepth 100000

/-- A cell stored at a key. -/
def setR (k : K9) (c : Cl) : List R11 → List R11
  | [] => [⟨k, c⟩]
  | r :: t => if r.k = k then ⟨k, c⟩ :: t else r :: setR k c t
theorem set_find (k : K9) (c : Cl) : ∀ es, findR k (setR k c es) = some c
  | [] => by simp [setR, findR]
  | r :: t => by
    unfold setR
    by_cases h : r.k = k
    · rw [if_pos h]; simp [findR]
    · rw [if_neg h]
      show (if r.k = k then _ else _) = _
      rw [if_neg h]
      exact set_find k c t
theorem set_other {k k' : K9} (c : Cl) (h : k' ≠ k) : ∀ es, findR k' (setR k c es) = findR k' es
  | [] => by
    show (if k = k' then _ else _) = _
    rw [if_neg (Ne.symm h)]
  | r :: t => by
    unfold setR
    by_cases e : r.k = k
    · rw [if_pos e]
      show (if k = k' then _ else _) = (if r.k = k' then _ else _)
      rw [if_neg (Ne.symm h), if_neg (by rw [e]; exact Ne.symm h)]
    · rw [if_neg e]
      show (if r.k = k' then _ else _) = (if r.k = k' then _ else _)
      rw [set_other c h t]
theorem set_keys {k : K9} (c : Cl) : ∀ {es : List R11} {r : R11}, r ∈ setR k c es → r.k = k ∨ ∃ x ∈ es, x.k = r.k
  | [], r, h => by
    unfold setR at h
    exact .inl (by rw [List.mem_singleton.1 h])
  | x :: t, r, h => by
    unfold setR at h
    split at h
    · rcases List.mem_cons.1 h with rfl | h
      · exact .inl rfl
      · exact .inr ⟨r, List.mem_cons_of_mem _ h, rfl⟩
    · rcases List.mem_cons.1 h with rfl | h
      · exact .inr ⟨_, List.mem_cons_self .., rfl⟩
      · exact (set_keys c h).imp id fun ⟨y, hy, e⟩ => ⟨y, List.mem_cons_of_mem _ hy, e⟩
/-- Each key once. -/
def OnceK (es : List R11) : Prop := es.Pairwise fun a b => a.k ≠ b.k
theorem set_once {k : K9} (c : Cl) : ∀ {es : List R11}, OnceK es → OnceK (setR k c es)
  | [], _ => List.pairwise_singleton _ _
  | r :: t, h => by
    obtain ⟨h1, h2⟩ := List.pairwise_cons.1 h
    unfold setR
    split
    · rename_i e
      exact List.pairwise_cons.2 ⟨fun y hy => by rw [← e]; exact h1 y hy, h2⟩
    · rename_i e
      refine List.pairwise_cons.2 ⟨fun y hy => ?_, set_once c h2⟩
      rcases set_keys c hy with e2 | ⟨x, hx, e2⟩
      · rw [e2]; exact e
      · rw [← e2]; exact h1 x hx
theorem set_len (k : K9) (c : Cl) : ∀ es : List R11, (setR k c es).length ≤ es.length + 1
  | [] => by simp [setR]
  | r :: t => by
    unfold setR
    split
    · simp
    · have := set_len k c t
      simp only [List.length_cons]; omega
theorem set_at {k : K9} {c : Cl} : ∀ {es : List R11} {j : Nat}, (es.findIdx? fun r => decide (r.k = k)) = some j → setR k c es = es.set j ⟨k, c⟩
  | [], j, h => by simp at h
  | r :: t, j, h => by
    rw [List.findIdx?_cons] at h
    unfold setR
    by_cases e : r.k = k
    · rw [decide_eq_true e] at h
      cases h
      rw [if_pos e]
      rfl
    · rw [decide_eq_false e] at h
      rw [if_neg e]
      cases hf : (t.findIdx? fun r => decide (r.k = k)) with
      | none => rw [hf] at h; cases h
      | some i =>
        rw [hf] at h
        cases h
        rw [set_at hf]
        rfl
theorem set_new {k : K9} {c : Cl} : ∀ {es : List R11}, (∀ r ∈ es, r.k ≠ k) → setR k c es = es ++ [⟨k, c⟩]
  | [], _ => rfl
  | r :: t, h => by
    unfold setR
    rw [if_neg (h r (List.mem_cons_self ..)), set_new (fun y hy => h y (List.mem_cons_of_mem _ hy))]
    rfl

/-- An entry. -/
def entR (p : R11 × Nat) : MapEntry := { key := kv9 p.1.k, val := cv p.1.c, born := p.2 }
def entsR (es : List R11) : Array MapEntry := (es.zipIdx.map entR).toArray
/-- A map in memory, by its entries in the order in which they came. -/
def MapIs (w : World) (b : Nat) (es : List R11) : Prop := w.heap[b]? = some (.map (entsR es) es.length)
theorem MapIs.lt {w : World} {b : Nat} {es : List R11} (h : MapIs w b es) : b < w.heap.size := (Array.getElem?_eq_some_iff.1 h).1
theorem MapIs.turn {S : Nat → Prop} {w w' : World} {b : Nat} {es : List R11} (h : MapIs w b es) (ht : Turn S w w') (hs : ¬ S b) : MapIs w' b es := (ht.block b h.lt hs).trans h
theorem MapIs.new (w : World) : MapIs (w.alloc (.map #[] 0)) w.heap.size [] := heap_alloc_new w _

theorem run_equal_key (p q : K9) (w : World) : (Op.equal 44 (kv9 p) (kv9 q)).run Try.prog w = .ok (decide (p = q)) w := eq_key9 9997 p q w
theorem asking_run (k : K9) (w : World) : ∀ (es : List R11) (n i : Nat), (Instr.findAsking 44 (kv9 k) ((es.zipIdx n).map entR) i).run Try.prog w = .ok (match es.findIdx? fun r => decide (r.k = k) with | some j => (es[j]?).map fun r => (i + j, cv r.c) | none => none) w
  | [], n, i => by simp [Instr.findAsking]
  | r :: t, n, i => by
    rw [List.zipIdx_cons, List.map_cons, Instr.findAsking]
    simp only [Sem.run_bind]
    rw [show (entR (r, n)).key = kv9 r.k from rfl, run_equal_key]
    rw [List.findIdx?_cons]
    by_cases e : k = r.k
    · rw [decide_eq_true e, decide_eq_true e.symm]
      simp [entR, Result.andThen]
    · rw [decide_eq_false e, decide_eq_false (fun h => e h.symm)]
      simp only [Result.andThen, Bool.false_eq_true, if_false]
      rw [asking_run k w t (n + 1) (i + 1)]
      cases hf : t.findIdx? fun r => decide (r.k = k) with
      | none => rfl
      | some j => simp [Nat.add_assoc, Nat.add_comm 1 j]
theorem find_run (k : K9) (es : List R11) (w : World) : (Instr.findKey 44 (kv9 k) (entsR es).toList).run Try.prog w = .ok (match es.findIdx? fun r => decide (r.k = k) with | some j => (es[j]?).map fun r => (j, cv r.c) | none => none) w := by
  rw [run_findKey_eq w (by kernel_rfl)]
  have h := asking_run k w es 0 0
  simp only [Nat.zero_add] at h
  exact h
theorem check_run (em : Bool) (k : K9) (w : World) : (Instr.checkKey em 10000 44 (kv9 k)).run Try.prog w = .ok () w := by
  have u2 := Try.underlying2
  have i2 := Try.isAgg2
  have z2 := Try.sizeOf2
  have u3 := Try.underlying9
  have a3' := Try.isAgg9
  have z3 := Try.sizeOf9
  have i4 := Try.isAgg23
  have z4 := Try.sizeOf23
  have hs : ∀ (d : Nat) (a : List UInt8), (Instr.checkKey em (d + 1) 9 (sv9 a)).run Try.prog w = .ok () w := fun d a => by simp [Instr.checkKey, run_underlying u3]
  have hi : ∀ (d : Nat) (a : Int), (Instr.checkKey em (d + 1) 2 (.int .i64 a)).run Try.prog w = .ok () w := fun d a => by simp [Instr.checkKey, run_underlying u2]
  have ha : ∀ (d : Nat) (a b c e : List UInt8), (Instr.checkKey em (d + 2) 23 (.agg #[sv9 a, sv9 b, sv9 c, sv9 e])).run Try.prog w = .ok () w := fun d a b c e => by
    rw [Instr.checkKey]
    simp only [Sem.run_bind, run_underlying Try.underlying23, Result.andThen_ok]
    simp only [Std.Legacy.Range.forIn_eq_forIn_range', Std.Legacy.Range.size, Nat.sub_zero, Nat.add_sub_cancel, Nat.div_one, List.range'_succ, List.range'_zero, List.forIn_cons, List.forIn_nil]
    go_simp
  unfold kv9
  rw [show (10000 : Nat) = 9997 + 3 from rfl, Instr.checkKey]
  simp only [Sem.run_bind, run_underlying Try.underlying44, Result.andThen_ok]
  go_simp

theorem idx_find (k : K9) : ∀ es : List R11, (match es.findIdx? fun r => decide (r.k = k) with | some j => (es[j]?).map fun r => r.c | none => none) = findR k es
  | [] => rfl
  | r :: t => by
    have ih := idx_find k t
    rw [List.findIdx?_cons]
    show _ = if r.k = k then some r.c else findR k t
    by_cases e : r.k = k
    · rw [decide_eq_true e, if_pos e]; rfl
    · rw [decide_eq_false e, if_neg e, ← ih]
      cases t.findIdx? fun r => decide (r.k = k) with
      | none => rfl
      | some j => rfl
theorem idx_at {k : K9} {es : List R11} {j : Nat} (h : (es.findIdx? fun r => decide (r.k = k)) = some j) : ∃ r, es[j]? = some r ∧ r.k = k := by
  obtain ⟨hj, h1, _⟩ := List.findIdx?_eq_some_iff_getElem.1 h
  exact ⟨_, List.getElem?_eq_getElem hj, by simpa using h1⟩
theorem idx_none {k : K9} {es : List R11} (h : (es.findIdx? fun r => decide (r.k = k)) = none) : ∀ r ∈ es, r.k ≠ k := fun r hr e => by
  have := List.findIdx?_eq_none_iff.1 h r hr
  simp [e] at this
theorem zero_cell11 (w : World) : (zeroValue 53).run Try.prog w = .ok (cv Cl.zero) w := by kernel_rfl
/-- m[k]. -/
theorem lookup_run {w : World} {b : Nat} {es : List R11} (h : MapIs w b es) (k : K9) : (Instr.lookup 72 (.map (some b)) (kv9 k) false).run Try.prog w = .ok (cv ((findR k es).getD Cl.zero)) w := by
  rw [← idx_find k es]
  have hf := find_run k es w
  simp only [Instr.lookup, Sem.run_bind, run_underlying Try.underlying72, Result.andThen_ok, MapKept.run_getObj_map h, Sem.run_pure, check_run, hf]
  cases hx : es.findIdx? fun r => decide (r.k = k) with
  | none =>
    simp only [Sem.run_bind, zero_cell11, Result.andThen_ok, Sem.run_pure]
    rfl
  | some j =>
    obtain ⟨r, hr, _⟩ := idx_at hx
    simp only [hr, Option.map_some]
    rfl
theorem stays_run (k : K9) (w : World) : (Instr.keyThatStays (kv9 k) (kv9 k)).run Try.prog w = .ok (kv9 k) w := by
  have h : Instr.sameBits 10000 (kv9 k) (kv9 k) = true := by
    rw [show (10000 : Nat) = 9998 + 2 from rfl]
    have hb : ∀ l : List UInt8, ((⟨l.toArray⟩ : ByteArray) == ⟨l.toArray⟩) = true := fun l => by
      show (l.toArray == l.toArray) = true
      exact beq_self_eq_true _
    simp [Instr.sameBits]
    exact ⟨hb _, hb _, hb _, hb _⟩
  unfold Instr.keyThatStays
  rw [if_pos h]
  rfl
theorem ents_at (es : List R11) (i : Nat) : (entsR es)[i]? = (es[i]?).map fun r => entR (r, i) := by
  unfold entsR
  simp [List.getElem?_zipIdx]
  rfl
theorem ents_set {es : List R11} {j : Nat} {r : R11} (h : es[j]? = some r) (x : R11) : (entsR es).modify j (fun e => { e with key := kv9 x.k, val := cv x.c }) = entsR (es.set j x) := by
  apply Array.ext_getElem?
  intro i
  rw [Array.getElem?_modify, ents_at, ents_at, List.getElem?_set]
  obtain ⟨hj, _⟩ := List.getElem?_eq_some_iff.1 h
  by_cases e : j = i
  · subst e
    rw [if_pos rfl, if_pos rfl, if_pos hj, h]
    rfl
  · rw [if_neg e, if_neg e]
theorem ents_push (es : List R11) (x : R11) : (entsR es).push { key := kv9 x.k, val := cv x.c, born := es.length } = entsR (es ++ [x]) := by
  unfold entsR
  rw [List.zipIdx_append, List.map_append, List.push_toArray]
  simp [entR]
/-- m[k] = c. -/
theorem store_run {w : World} {b : Nat} {es : List R11} (h : MapIs w b es) (k : K9) (c : Cl) :
    (Instr.mapUpdate 72 (.map (some b)) (kv9 k) (cv c)).run Try.prog w = .ok () (setBlock w b (.map (entsR (setR k c es)) (setR k c es).length)) := by
  have hf := find_run k es w
  simp only [Instr.mapUpdate, Sem.run_bind, run_underlying Try.underlying72, Result.andThen_ok, MapKept.run_getObj_map h, check_run, hf]
  cases hx : es.findIdx? fun r => decide (r.k = k) with
  | none =>
    rw [set_new (idx_none hx)]
    simp only [MapKept.run_setObj_map _ h]
    rw [ents_push es ⟨k, c⟩, List.length_append]
    rfl
  | some j =>
    obtain ⟨r, hr, hk⟩ := idx_at hx
    rw [set_at hx]
    have e1 : (((entsR es)[j]?).map (·.key)).getD (kv9 k) = kv9 k := by rw [ents_at, hr, ← hk]; rfl
    simp only [hr, Option.map_some, Sem.run_bind, e1, stays_run, Result.andThen_ok, MapKept.run_setObj_map _ h]
    rw [ents_set hr ⟨k, c⟩, List.length_set]
    rfl
theorem stored {w : World} {b : Nat} {es : List R11} (h : MapIs w b es) (fs : List R11) : MapIs (setBlock w b (.map (entsR fs) fs.length)) b fs ∧ Turn (fun k => k = b) w (setBlock w b (.map (entsR fs) fs.length)) :=
  by
  have hlt := h.lt
  have hat : (w.heap.setIfInBounds b (.map (entsR fs) fs.length))[b]? = some (.map (entsR fs) fs.length) := by rw [Array.getElem?_setIfInBounds, if_pos rfl, if_pos hlt]
  exact ⟨hat, rfl, rfl, rfl, by simp [setBlock], fun i _ hi => by show (w.heap.setIfInBounds b _)[i]? = _; rw [Array.getElem?_setIfInBounds, if_neg (Ne.symm hi)]⟩
theorem len_run {w : World} {b : Nat} {es : List R11} (h : MapIs w b es) (ty : TypeId) : (Builtin.len_ #[72] ty #[.map (some b)]).run Try.prog w = .ok (.int .i64 (es.length : Int)) w := by
  simp [Builtin.len_, run_underlying Try.underlying72, MapKept.run_getObj_map h, goInt, Result.andThen, entsR]

/-- An iterator over it: what it has handed out. -/
def IterIs (w : World) (r b : Nat) (es : List R11) (seen : Array Nat) : Prop := w.heap[r]? = some (.mapIter (some b) es.length seen es.length)
theorem IterIs.lt {w : World} {r b : Nat} {es : List R11} {seen : Array Nat} (h : IterIs w r b es seen) : r < w.heap.size := (Array.getElem?_eq_some_iff.1 h).1
theorem IterIs.turn {S : Nat → Prop} {w w' : World} {r b : Nat} {es : List R11} {seen : Array Nat} (h : IterIs w r b es seen) (ht : Turn S w w') (hs : ¬ S r) : IterIs w' r b es seen := (ht.block r h.lt hs).trans h
/-- What is still to come. -/
def leftR (es : List R11) (seen : Array Nat) : List (R11 × Nat) := es.zipIdx.filter fun p => !seen.contains p.2
theorem range_run {w : World} {b : Nat} {es : List R11} (h : MapIs w b es) : (Instr.range 72 (.map (some b))).run Try.prog w = .ok (.pointer (some ⟨w.heap.size, 0, none⟩)) (w.alloc (.mapIter (some b) es.length #[] es.length)) :=
  run_range_map w _ _ _ b _ _ Try.underlying72 h
theorem leftOf_is (es : List R11) (seen : Array Nat) : (leftOf (entsR es) seen).toList = (leftR es seen).map entR := by
  unfold leftOf entsR leftR
  rw [Array.toList_filter]
  simp only [List.filter_map]
  rfl
theorem ents_mem {es : List R11} {x : MapEntry} (h : x ∈ (entsR es).toList) : ∃ p ∈ es.zipIdx, x = entR p := by
  unfold entsR at h
  obtain ⟨p, hp, e⟩ := List.mem_map.1 h
  exact ⟨p, hp, e.symm⟩
theorem next_run {w : World} {r b : Nat} {es : List R11} {seen : Array Nat} (h : MapIs w b es) (hr : IterIs w r b es seen) (ty : TypeId) :
    (leftR es seen = [] ∧ (Instr.next (.pointer (some ⟨r, 0, none⟩)) false ty).run Try.prog w = .ok (.tuple #[.bool false]) w) ∨
    ∃ p ∈ leftR es seen, ∃ w1 : World, (w1 = w ∨ w1 = w.drew) ∧ (Instr.next (.pointer (some ⟨r, 0, none⟩)) false ty).run Try.prog w = .ok (.tuple #[.bool true, kv9 p.1.k, cv p.1.c]) (setBlock w1 r (.mapIter (some b) es.length (seen.push p.2) es.length)) := by
  rcases run_next_at (P := Try.prog) w ty r b es.length es.length seen (entsR es) es.length hr h (fun x hx => by
    obtain ⟨p, hp, rfl⟩ := ents_mem hx
    have := List.mem_zipIdx hp
    show p.2 < _
    omega) (Nat.le_refl _) with ⟨h0, h1⟩ | ⟨e, he, w1, h1, h2⟩
  · refine .inl ⟨?_, h1⟩
    have e1 := leftOf_is es seen
    have e2 : (leftOf (entsR es) seen).toList = [] := List.eq_nil_of_length_eq_zero (by simpa using h0)
    rw [e2] at e1
    exact (List.map_eq_nil_iff.1 e1.symm)
  · right
    rw [leftOf_is] at he
    obtain ⟨p, hp, rfl⟩ := List.mem_map.1 he
    exact ⟨p, hp, w1, h1, h2⟩
theorem iterated {w w1 : World} {r b : Nat} {es : List R11} {seen : Array Nat} (hr : IterIs w r b es seen) (h1 : w1 = w ∨ w1 = w.drew) (seen' : Array Nat) :
    IterIs (setBlock w1 r (.mapIter (some b) es.length seen' es.length)) r b es seen' ∧ Turn (fun k => k = r) w (setBlock w1 r (.mapIter (some b) es.length seen' es.length)) := by
  have hlt := hr.lt
  have hsame : ∀ i : Nat, i ≠ r → (w.heap.setIfInBounds r (.mapIter (some b) es.length seen' es.length))[i]? = w.heap[i]? := fun i hi => by
    rw [Array.getElem?_setIfInBounds, if_neg (Ne.symm hi)]
  have hat : (w.heap.setIfInBounds r (.mapIter (some b) es.length seen' es.length))[r]? = some (.mapIter (some b) es.length seen' es.length) := by
    rw [Array.getElem?_setIfInBounds, if_pos rfl, if_pos hlt]
  rcases h1 with rfl | rfl
  · exact ⟨hat, rfl, rfl, rfl, by simp [setBlock], fun i _ hi => hsame i hi⟩
  · exact ⟨hat, rfl, rfl, rfl, by show w.heap.size ≤ (w.heap.setIfInBounds r _).size; simp, fun i _ hi => hsame i hi⟩
theorem born_once (es : List R11) : ((entsR es).toList.map (·.born)).Nodup := by
  have e : (entsR es).toList.map (·.born) = List.range es.length := by
    unfold entsR
    rw [List.map_map]
    show es.zipIdx.map (fun p => p.2) = _
    rw [List.zipIdx_map_snd]
    exact List.range_eq_range'.symm
  rw [e]
  exact List.nodup_range
theorem entry_run {w : World} {r b : Nat} {es : List R11} {seen : Array Nat} {p : R11 × Nat} (h : MapIs w b es) (hp : p ∈ es.zipIdx) (hr : IterIs w r b es (seen.push p.2)) :
    (Instr.entry (.pointer (some ⟨r, 0, none⟩))).run Try.prog w = .ok (.tuple #[kv9 p.1.k, cv p.1.c]) w :=
  run_entry_at (P := Try.prog) w r b es.length seen (entsR es) es.length (entR p) hr h (by unfold entsR; exact List.mem_map.2 ⟨p, hp, rfl⟩) (born_once es)
/-- One handed out: the others are still to come. -/
theorem left_step {es : List R11} {seen : Array Nat} {p : R11 × Nat} (hp : p ∈ leftR es seen) : (leftR es seen).Perm (p :: leftR es (seen.push p.2)) := by
  have hnd : (leftR es seen).Nodup := by
    have h2 : (es.zipIdx.map Prod.snd).Nodup := by rw [List.zipIdx_map_snd, ← List.range_eq_range']; exact List.nodup_range
    have h3 : es.zipIdx.Nodup := (List.pairwise_map.1 h2).imp fun h e => h (by rw [e])
    exact h3.sublist List.filter_sublist
  have e : leftR es (seen.push p.2) = (leftR es seen).filter fun q => q.2 != p.2 := by
    unfold leftR
    rw [List.filter_filter]
    refine List.filter_congr fun q _ => ?_
    rw [Array.contains_push, Bool.not_or, Bool.and_comm]
    congr 1
  have e2 : ((leftR es seen).filter fun q => q.2 != p.2) = (leftR es seen).filter fun q => q != p := by
    refine List.filter_congr fun q hq => ?_
    have m1 := (List.mem_filter.1 hq).1
    have m2 := (List.mem_filter.1 hp).1
    obtain ⟨i1, e1⟩ := q
    obtain ⟨i2, e2⟩ := p
    rw [List.mk_mem_zipIdx_iff_getElem?] at m1 m2
    by_cases h : e1 = e2
    · subst h
      rw [m1] at m2
      cases m2
      simp
    · have h1 : (e1 != e2) = true := by simp [h]
      have h2 : ((i1, e1) != (i2, e2)) = true := by simp [h]
      rw [h1, h2]
  rw [e, e2, ← List.Nodup.erase_eq_filter hnd]
  exact List.perm_cons_erase hp
theorem left_all (es : List R11) : leftR es #[] = es.zipIdx := by
  unfold leftR
  exact List.filter_eq_self.2 fun p _ => by simp

end Go.Proofs.Ytklpmajaihmmfaa

/-
  Rows of a call's own, of elements of any size, sorted: from and to the shelf's words. No type is named.
-/
namespace Go.Proofs.Ytklpmajaihmmfaa
open Go.RowKit

section
variable {T : Type} [Inhabited T] {E : El T} {e : TypeId} {w : World} {L : List T}

theorem flatK_eq (E : El T) (d : Array T) : Sort.flatK E.enc E.sz d = (E.flat d.toList).toArray := by
  apply Sort.ext_get!
  · rw [Sort.size_flatK]
    show _ = (E.flat d.toList).length
    rw [E.flat_len]
    rfl
  · intro t ht
    rw [Sort.size_flatK] at ht
    have h0 : 0 < E.sz := by
      rcases Nat.eq_zero_or_pos E.sz with h | h
      · rw [h, Nat.mul_zero] at ht; exact absurd ht (Nat.not_lt_zero t)
      · exact h
    have hd : t / E.sz < d.size := (Nat.div_lt_iff_lt_mul h0).2 ht
    have hm : t % E.sz < E.sz := Nat.mod_lt _ h0
    rw [Sort.get_flatK _ _ _ _ ht]
    have hx : d.toList[t / E.sz]? = some d[t / E.sz] := by rw [Array.getElem?_toList, Array.getElem?_eq_getElem hd]
    have h1 := E.flat_at hx hm
    rw [show t / E.sz * E.sz + t % E.sz = t by rw [Nat.mul_comm]; exact Nat.div_add_mod t E.sz] at h1
    rw [getElem!_pos d _ hd]
    simp only [getElem!_def, List.getElem?_toArray, h1]

/-- A row of one's own holds its elements in the shelf's words. -/
theorem OwE.holdsK {ad : Addr} {n c : Nat} (h : OwE E e w (.slice (some ad) n c) L) : Sort.HoldsK E.enc E.sz w ad.block 0 L.toArray := by
  obtain ⟨cur, _, _, hb, _, _, _, h4⟩ := h.home
  unfold Sort.HoldsK Sort.Holds
  rw [flatK_eq]
  intro j hj
  rw [List.size_toArray] at hj
  rw [Nat.zero_add]
  refine ⟨?_, hb.free j⟩
  rw [hb.cell]
  have e1 : (E.flat L)[j]? = cur[j]? := by
    rw [← h4, List.getElem?_take, if_pos (by rw [E.flat_len] at hj; exact hj), Array.getElem?_toList]
  rw [← e1, List.getElem?_eq_getElem hj]
  simp only [id]
  rw [getElem!_pos _ j (by rw [List.size_toArray]; exact hj)]
  rfl

theorem turn_sortK (E : El T) (d : Array T) (g m : Nat) (os : Array Obj) (w : World) : Turn (fun k => k = g) w (sortWorldK E.enc E.sz w g 0 m d os) := by
  refine ⟨rfl, rfl, rfl, ?_, ?_⟩
  · show w.heap.size ≤ (_ ++ os).size
    rw [Array.size_append, Sort.putRowK, Sort.size_putRow]
    exact Nat.le_add_right _ _
  · intro k hk hg
    show (_ ++ os)[k]? = _
    rw [Array.getElem?_append_left (by rw [Sort.putRowK, Sort.size_putRow]; exact hk)]
    show (w.heap.modify g _)[k]? = _
    rw [Array.getElem?_modify, if_neg (fun e => hg e.symm)]

/-- Behind a sort: the row is one's own still, and holds what the shelf says. -/
theorem OwE.sorted {ad : Addr} {n c : Nat} (h : OwE E e w (.slice (some ad) n c) L) (d : Array T) (hd : d.size = L.length) (m : Nat) (os : Array Obj) :
    OwE E e (sortWorldK E.enc E.sz w ad.block 0 m d os) (.slice (some ad) n c) d.toList ∧ Turn (fun k => k = ad.block) w (sortWorldK E.enc E.sz w ad.block 0 m d os) := by
  refine ⟨?_, turn_sortK E d _ m os w⟩
  have hH := h.holdsK
  obtain ⟨cur, had, hn, hb, h1, h2, h3, h4⟩ := h.home
  have hlt := hb.lt
  have hdl : d.toList.length = L.length := by rw [Array.length_toList, hd]
  have hH2 : Sort.HoldsK E.enc E.sz (sortWorldK E.enc E.sz w ad.block 0 m d os) ad.block 0 d := by
    unfold sortWorldK
    refine Sort.holdsK_grow _ _ _ _ _ _ _ (by rw [Sort.putRowK, Sort.size_putRow]; exact hlt) (Sort.holdsK_putRowK _ _ _ _ _ L.toArray _ (Sort.holdsK_ahead _ _ _ _ _ _ _ hH) (by rw [List.size_toArray]; exact hd))
  have hb2 : Box (sortWorldK E.enc E.sz w ad.block 0 m d os) ad.block e (Sort.putCells id 0 (Sort.flatK E.enc E.sz d) cur) := by
    show (_ ++ os)[ad.block]? = _
    rw [Array.getElem?_append_left (by rw [Sort.putRowK, Sort.size_putRow]; exact hlt)]
    show (w.heap.modify ad.block _)[ad.block]? = _
    rw [Array.getElem?_modify, if_pos rfl, hb]
    rfl
  rw [had, hn, ← hdl]
  refine OwE.of_box hb2 (by rw [hdl]; exact h1) h2 (by rw [Sort.putCells, Array.size_mapIdx]; exact h3) ?_
  unfold Sort.HoldsK Sort.Holds at hH2
  rw [flatK_eq] at hH2
  rw [flatK_eq] at hb2 ⊢
  apply List.ext_getElem?
  intro j
  rw [List.getElem?_take]
  split
  · rename_i hj
    have hj2 : j < (E.flat d.toList).length := by rw [E.flat_len]; exact hj
    have g1 := (hH2 j (by rw [List.size_toArray]; exact hj2)).1
    rw [Nat.zero_add, hb2.cell] at g1
    rw [Array.getElem?_toList, g1, List.getElem?_eq_getElem hj2, id, getElem!_pos _ j (by rw [List.size_toArray]; exact hj2)]
    rfl
  · rename_i hj
    rw [List.getElem?_eq_none (by rw [E.flat_len]; omega)]
end


end Go.Proofs.Ytklpmajaihmmfaa

/-
  Orders in the shelf's words; what is in order is the list sorted. No type is named.
-/
namespace Go.Proofs.Ytklpmajaihmmfaa
open Go.RowKit

/-- An order, in the shelf's words. -/
theorem Rises.swo {A : Type} {lt : A → A → Bool} (h : Rises lt) : Sort.SWO lt where
  irrefl x := h.irr x
  trans x y z := h.tr x y z
  ntrans x y z h1 h2 := by
    cases e : lt x z with
    | false => rfl
    | true =>
      by_cases hxy : x = y
      · subst hxy
        rw [h2] at e
        cases e
      · have h3 := h.tot x y hxy h1
        rw [h.tr y x z h3 e] at h2
        cases h2
theorem Rises.one {A : Type} {lt : A → A → Bool} (h : Rises lt) (x y : A) (h1 : lt x y = false) (h2 : lt y x = false) : x = y := by
  by_cases e : x = y
  · exact e
  · rw [h.tot x y e h1] at h2
    cases h2
/-- What is in order, and has the things of a list, is that list sorted. -/
theorem sort_one {A : Type} {lt : A → A → Bool} (h : Rises lt) {l m : List A} (hp : m.Perm l) (hm : m.Pairwise fun x y => lt y x = false) : l.mergeSort (fun x y => !lt y x) = m := by
  refine List.Perm.eq_of_pairwise (le := fun x y => (!lt y x) = true) ?_ ?_ ?_ ((List.mergeSort_perm l _).trans hp.symm)
  · intro a b _ _ h1 h2
    simp only [Bool.not_eq_true'] at h1 h2
    exact h.one a b h2 h1
  · refine List.pairwise_mergeSort ?_ ?_ l
    · intro a b c h1 h2
      simp only [Bool.not_eq_true'] at *
      exact h.swo.ntrans c b a h2 h1
    · intro a b
      cases e : lt b a with
      | false => rfl
      | true =>
        cases e2 : lt a b with
        | false => rfl
        | true =>
          have h3 := h.tr a b a e2 e
          rw [h.irr a] at h3
          cases h3
  · exact hm.imp fun h => by simp [h]

end Go.Proofs.Ytklpmajaihmmfaa

/-
  The library's functions that the program calls, at this program's numbers: each laying is a table of numbers, and a theorem: a fact a row.
-/
namespace Go.Proofs.Ytklpmajaihmmfaa
open Go.Shelf
def Try.sortR11_ren : Go.Shelf.Ren := ⟨fun | 6 => 35 | 15 => 51 | 14 => 50 | 28 => 69 | 29 => 70 | 20 => 61 | 21 => 62 | 22 => 63 | 23 => 64 | 24 => 65 | 25 => 66 | 26 => 67 | 27 => 68 | 46 => 72 | 47 => 73 | 48 => 74 | 49 => 75 | 50 => 76 | 57 => 77 | n => n, fun | 22 => 26 | 24 => 55 | 25 => 76 | 3 => 3 | 39 => 87 | 0 => 0 | 53 => 107 | 55 => 96 | 4 => 4 | 46 => 100 | 45 => 99 | 50 => 104 | 5 => 5 | 9 => 9 | 66 => 110 | 70 => 114 | 76 => 116 | 77 => 117 | n => n, fun | n => n⟩
theorem Try.sortR11 : Go.Proofs.SlLaysF0.n6 Try.prog Try.sortR11_ren := {
  mixed := by kernel_rfl
  f6 := ⟨Try.f35.name, by decide, Try.func35.trans (congrArg some (by kernel_rfl))⟩
  f14 := ⟨Try.f50.name, by decide, Try.func50.trans (congrArg some (by kernel_rfl))⟩
  f15 := Try.func51.trans (congrArg some (by kernel_rfl))
  f20 := ⟨Try.f61.name, by decide, Try.func61.trans (congrArg some (by kernel_rfl))⟩
  f21 := ⟨Try.f62.name, by decide, Try.func62.trans (congrArg some (by kernel_rfl))⟩
  f22 := ⟨Try.f63.name, by decide, Try.func63.trans (congrArg some (by kernel_rfl))⟩
  f23 := ⟨Try.f64.name, by decide, Try.func64.trans (congrArg some (by kernel_rfl))⟩
  f24 := ⟨Try.f65.name, by decide, Try.func65.trans (congrArg some (by kernel_rfl))⟩
  f25 := ⟨Try.f66.name, by decide, Try.func66.trans (congrArg some (by kernel_rfl))⟩
  f26 := ⟨Try.f67.name, by decide, Try.func67.trans (congrArg some (by kernel_rfl))⟩
  f27 := ⟨Try.f68.name, by decide, Try.func68.trans (congrArg some (by kernel_rfl))⟩
  f28 := Try.func69.trans (congrArg some (by kernel_rfl))
  f29 := Try.func70.trans (congrArg some (by kernel_rfl))
  f46 := ⟨Try.f72.name, by decide, Try.func72.trans (congrArg some (by kernel_rfl))⟩
  f47 := Try.func73.trans (congrArg some (by kernel_rfl))
  f48 := Try.func74.trans (congrArg some (by kernel_rfl))
  f49 := ⟨Try.f75.name, by decide, Try.func75.trans (congrArg some (by kernel_rfl))⟩
  f50 := ⟨Try.f76.name, by decide, Try.func76.trans (congrArg some (by kernel_rfl))⟩
  f57 := ⟨Try.f77.name, by decide, Try.func77.trans (congrArg some (by kernel_rfl))⟩
  t0 := Try.underlying0
  a0 := Try.isAgg0
  z0 := Try.sizeOf0
  v0 := Try.zeroValue0
  t3 := Try.underlying3
  a3 := Try.isAgg3
  z3 := Try.sizeOf3
  v3 := Try.zeroValue3
  t4 := Try.underlying4
  a4 := Try.isAgg4
  z4 := Try.sizeOf4
  v4 := Try.zeroValue4
  t5 := Try.underlying5
  a5 := Try.isAgg5
  z5 := Try.sizeOf5
  v5 := Try.zeroValue5
  t9 := Try.underlying9
  a9 := Try.isAgg9
  z9 := Try.sizeOf9
  v9 := Try.zeroValue9
  t22 := Try.underlying26
  a22 := Try.isAgg26
  z22 := Try.sizeOf26
  v22 := Try.zeroValue26
  t25 := Try.underlying76
  a25 := Try.isAgg76
  z25 := Try.sizeOf76
  v25 := Try.zeroValue76
  t39 := Try.underlying87
  a39 := Try.isAgg87
  z39 := Try.sizeOf87
  v39 := Try.zeroValue87
  t45 := Try.underlying99
  a45 := Try.isAgg99
  z45 := Try.sizeOf99
  v45 := Try.zeroValue99
  t46 := Try.underlying100
  a46 := Try.isAgg100
  z46 := Try.sizeOf100
  v46 := Try.zeroValue100
  t50 := Try.underlying104
  a50 := Try.isAgg104
  z50 := Try.sizeOf104
  v50 := Try.zeroValue104
  t53 := Try.underlying107
  a53 := Try.isAgg107
  z53 := Try.sizeOf107
  v53 := Try.zeroValue107
  t55 := Try.underlying96
  a55 := Try.isAgg96
  z55 := Try.sizeOf96
  v55 := Try.zeroValue96
  t66 := Try.underlying110
  a66 := Try.isAgg110
  z66 := Try.sizeOf110
  v66 := Try.zeroValue110
  t70 := Try.underlying114
  a70 := Try.isAgg114
  z70 := Try.sizeOf114
  v70 := Try.zeroValue114
  t76 := Try.underlying116
  a76 := Try.isAgg116
  z76 := Try.sizeOf116
  v76 := Try.zeroValue116
  t77 := Try.underlying117
  a77 := Try.isAgg117
  z77 := Try.sizeOf117
  v77 := Try.zeroValue117 }
end Go.Proofs.Ytklpmajaihmmfaa

/-
  Stage 11: slices.SortFunc of rows by the program's closure.
-/
namespace Go.Proofs.Ytklpmajaihmmfaa
open Go.RowKit Go.ChangeShapes Go.WideShapes Go.Deep

set_option maxRecDepth 100000

def rowCmp (a b : R11) : Int := cmpK a.k b.k
theorem rowCmp_lt : ltOf rowCmp = fun a b => keyLt a.k b.k := by
  funext a b
  show decide (cmpK a.k b.k < 0) = keyLt a.k b.k
  rcases cmpK_ge (p := a.k) (q := b.k) with ⟨h, g⟩ | ⟨h, g⟩
  · rw [h, decide_eq_true g]
  · rw [h, decide_eq_false (by omega)]
theorem row_swo : Sort.SWO (fun a b : R11 => keyLt a.k b.k) where
  irrefl x := key_irr x.k
  trans _ _ _ := key_tr
  ntrans x y z h1 h2 := ge_tr (a := z.k) (b := y.k) (c := x.k) h2 h1

set_option maxHeartbeats 2000000 in
theorem sort_closure11 (a b : R11) (w : World) : Calls Try.prog 36 #[rv11 a, rv11 b] w fun e w' => e = .returned (.int .i64 (rowCmp a b)) ∧ Gr w w' := by
  unfold rv11 cells11 rowCmp
  obtain ⟨w0, hw0⟩ : ∃ w0, w0 = (w.alloc (.cells (cells11 a) 55)).alloc (.cells (cells11 b) 55) := ⟨_, rfl⟩
  have HT0 : Hid (Gr w w0) := by rw [hw0]; exact ((Gr.refl w).alloc _).alloc _
  have hb1 : Box w0 w.heap.size 55 (cells11 a) := by rw [hw0]; exact (Box.new w _ _).alloc _
  have hb2 : Box w0 (w.heap.size + 1) 55 (cells11 b) := by
    rw [hw0]
    have h := Box.new (w.alloc (.cells (cells11 a) 55)) 55 (cells11 b)
    rw [World.size_alloc] at h
    exact h
  have HC : Hid (∀ W, Calls Try.prog 22 #[kv9 a.k, kv9 b.k] W fun e w' => e = .returned (.int .i64 (cmpK a.k b.k)) ∧ Gr W w') := fun W => compare_gr9 a.k b.k W
  have HW := Lib.hid hw0
  have a0 := hb1.cell 0
  have a1 := hb1.cell 1
  have a2 := hb1.cell 2
  have a3 := hb1.cell 3
  have a4 := hb1.cell 4
  have b0 := hb2.cell 0
  have b1 := hb2.cell 1
  have b2 := hb2.cell 2
  have b3 := hb2.cell 3
  have b4 := hb2.cell 4
  generalize cmpK a.k b.k = cc at *
  clear hb1 hb2 hw0
  go_enter Try.func36, Try.ntmps36
  go_wp2_with fail
  rw [← HW.out]
  go_wp2_with fail
  refine (HC.out _).mono ?_
  rintro e w2 ⟨rfl, t2⟩
  have HT := Lib.hid (HT0.out.trans t2)
  clear t2
  go_wp2
  go_ret
  exact ⟨rfl, HT.out⟩

/-- Rows sorted. -/
def Sorted11 (w : World) (v : Value) (l : List R11) (e : Ending) (w' : World) : Prop := e = .returned (.tuple #[]) ∧ ∃ s, s.Perm l ∧ RiseR s ∧ OwE ER 55 w' v s ∧ Turn (fun k => v.ownBlock = some k) w w'
theorem sortfunc11 (v : Value) (l : List R11) (w : World) (h : OwE ER 55 w v l) (ho : OnceK l) (hl : l.length ≤ 1000000) :
    Calls Try.prog 35 #[v, .func (.func 36) #[] #[]] w fun e w' => Sorted11 w v l e w' := by
  by_cases h0 : l = []
  · subst h0
    obtain ⟨A, c, rfl⟩ := h.shape
    have hcon := AnyF.slices_SortFunc_none { Try.sortR11 with } A c (.func (.func 36) #[] #[]) w
    exact hcon.mono fun e w' ⟨he, hw⟩ => ⟨he, [], List.Perm.refl _, List.Pairwise.nil, by rw [hw]; exact h, by rw [hw]; exact Turn.refl _ w⟩
  · have hpos : 0 < l.length := List.length_pos_iff.2 h0
    obtain ⟨A, c, rfl⟩ := h.shape
    obtain ⟨ad, rfl, _⟩ := h.some_at hpos
    obtain ⟨cur, had, _, hb, _⟩ := h.home
    have hH := h.holdsK
    have eg : ∀ args w, (callFunc 36 args).run Try.prog w = .ok (.enter 36 args) w := enters_of Try.func36 (by kernel_rfl) rfl
    have hlays : CmpLays Try.prog 36 #[] ER.enc ER.sz rowCmp ad.block 0 l.toArray.size w := fun m os dk _ x y => sort_closure11 x y _
    have hcon := AnyQ.slices_SortFunc Try.sortR11 ER.sz Try.isAgg55 Try.sizeOf55 ER.enc ER.len ER.one rowCmp (by rw [rowCmp_lt]; exact row_swo) 36 #[] ad.block 0 c l.toArray w eg hlays hH hb.lt (by rw [List.size_toArray]; omega)
    rw [← had] at hcon
    refine hcon.mono fun e w' ⟨he, d', n, os, hp, hs, hw⟩ => ?_
    obtain ⟨hsz, _, hperm⟩ := hp
    have e1 : d'.extract 0 l.toArray.size = d' := by rw [← hsz]; exact Array.extract_size
    rw [e1, Array.extract_size] at hperm
    have hsd := h.sorted d' (by rw [hsz, List.size_toArray]) n os
    rw [← hw] at hsd
    have hperm2 : d'.toList.Perm l := hperm
    refine ⟨he, d'.toList, hperm2, ?_, hsd.1, hsd.2.mono fun k _ hk => by rw [hk]; rfl⟩
    refine List.pairwise_iff_getElem.2 fun i j hi hj hij => ?_
    have hi' : i < d'.size := by simpa using hi
    have hj' : j < d'.size := by simpa using hj
    have h1 := hs i j (Nat.zero_le _) hij (by rw [← hsz]; exact hj')
    rw [rowCmp_lt] at h1
    simp only [getElem!_pos d' i hi', getElem!_pos d' j hj'] at h1
    have hne : d'.toList[i].k ≠ d'.toList[j].k := by
      have hd : OnceK d'.toList := (hperm2.symm.pairwise_iff (R := fun a b : R11 => a.k ≠ b.k) (fun h => Ne.symm h)).1 ho
      exact List.pairwise_iff_getElem.1 hd i j hi hj hij
    exact rises_key.tot _ _ (Ne.symm hne) (by simpa using h1)

end Go.Proofs.Ytklpmajaihmmfaa

/-
  Stage 11, plain: facts gathered into a map of cells by their keys.
-/
namespace Go.Proofs.Ytklpmajaihmmfaa
open Go.RowKit

theorem moreO_append (o : Option Cl) (a : List Cl) (c : Cl) : moreO o (a ++ [c]) = (moreO o a).bind fun p => (addO p c).map some := by
  induction a generalizing o with
  | nil =>
    show (match addO o c with | some d => moreO (some d) [] | none => none) = (addO o c).map some
    cases addO o c <;> rfl
  | cons x a ih =>
    show (match addO o x with | some d => moreO (some d) (a ++ [c]) | none => none) = ((match addO o x with | some d => moreO (some d) a | none => none) : Option (Option Cl)).bind _
    cases addO o x with
    | none => rfl
    | some d => exact ih (some d)
theorem moreO_front {o : Option Cl} {a b : List Cl} (h : moreO o a = none) : moreO o (a ++ b) = none := by
  induction a generalizing o with
  | nil => cases h
  | cons x a ih =>
    show (match addO o x with | some d => moreO (some d) (a ++ b) | none => none) = none
    have h1 : (match addO o x with | some d => moreO (some d) a | none => none) = none := h
    cases hx : addO o x with
    | none => rfl
    | some d =>
      rw [hx] at h1
      exact ih h1
theorem addO_is (o : Option Cl) (c : Cl) : addO o c = mergeC (o.getD Cl.zero) c := by
  cases o with
  | none => rfl
  | some d => rfl
/-- Behind the first i facts: each key's cell. -/
structure MapR (l : List F9) (i : Nat) (es : List R11) : Prop where
  once : OnceK es
  cells : ∀ k, moreO none (cellsOf k ((l.take i).map rowF)) = some (findR k es)
  ok : ∀ r ∈ es, okC r.c
  len : es.length ≤ i
theorem MapR.start (l : List F9) : MapR l 0 [] := ⟨List.Pairwise.nil, fun _ => rfl, (fun r h => by cases h), Nat.le_refl _⟩
theorem cells_take {l : List F9} {i : Nat} {f : F9} (h : l[i]? = some f) (k : K9) : cellsOf k ((l.take (i + 1)).map rowF) = cellsOf k ((l.take i).map rowF) ++ if f.k = k then [Cl.of f.v] else [] := by
  obtain ⟨h0, e⟩ := List.getElem?_eq_some_iff.1 h
  rw [List.take_succ_eq_append_getElem h0, e, List.map_append, cellsOf_append, List.map_singleton, cells_cons]
  show _ ++ ((if f.k = k then [Cl.of f.v] else []) ++ []) = _
  rw [List.append_nil]
theorem MapR.okat {l : List F9} {i : Nat} {es : List R11} (h : MapR l i es) (k : K9) : okC ((findR k es).getD Cl.zero) := by
  cases hf : findR k es with
  | none => exact okC_zero
  | some c => exact h.ok _ (find_mem hf)
theorem MapR.step {l : List F9} {i : Nat} {es : List R11} (h : MapR l i es) {f : F9} (hf : l[i]? = some f) {c : Cl} (hv : fit f.v = true) (hm : mergeC ((findR f.k es).getD Cl.zero) (Cl.of f.v) = some c) : MapR l (i + 1) (setR f.k c es) := by
  refine ⟨set_once c h.once, fun k => ?_, fun r hr => ?_, ?_⟩
  · rw [cells_take hf]
    by_cases e : f.k = k
    · subst e
      rw [if_pos rfl, moreO_append, h.cells, Option.bind_some, addO_is, hm, set_find]
      rfl
    · rw [if_neg e, List.append_nil, h.cells, set_other c (Ne.symm e)]
  · have key : ∀ {es : List R11}, (∀ r ∈ es, okC r.c) → okC c → ∀ r ∈ setR f.k c es, okC r.c := by
      intro es
      induction es with
      | nil => intro _ hc r hr; unfold setR at hr; rw [List.mem_singleton.1 hr]; exact hc
      | cons x t ih =>
        intro ho hc r hr
        unfold setR at hr
        split at hr
        · rcases List.mem_cons.1 hr with rfl | hr
          · exact hc
          · exact ho r (List.mem_cons_of_mem _ hr)
        · rcases List.mem_cons.1 hr with rfl | hr
          · exact ho _ (List.mem_cons_self ..)
          · exact ih (fun y hy => ho y (List.mem_cons_of_mem _ hy)) hc r hr
    exact key h.ok (okC_merge (h.okat f.k) (okC_of hv) hm) r hr
  · have h1 := set_len f.k c es
    have h2 := h.len
    omega
theorem MapR.stop {l : List F9} {i : Nat} {es : List R11} (h : MapR l i es) {f : F9} (hf : l[i]? = some f) (hm : mergeC ((findR f.k es).getD Cl.zero) (Cl.of f.v) = none) : ofR l = none := by
  refine puts_not (k := f.k) ?_
  have h1 : moreO none (cellsOf f.k ((l.take (i + 1)).map rowF)) = none := by
    rw [cells_take hf, if_pos rfl, moreO_append, h.cells, Option.bind_some, addO_is, hm]
    rfl
  have e : l.map rowF = (l.take (i + 1)).map rowF ++ (l.drop (i + 1)).map rowF := by rw [← List.map_append, List.take_append_drop]
  rw [e, cellsOf_append]
  exact moreO_front h1
theorem find_perm {s es : List R11} (hs : RiseR s) (hp : s.Perm es) (ho : OnceK es) (k : K9) : findR k s = findR k es := by
  have key : ∀ {es : List R11} {r : R11}, OnceK es → r ∈ es → findR r.k es = some r.c := by
    intro es
    induction es with
    | nil => intro r _ h; cases h
    | cons x t ih =>
      intro r ho h
      obtain ⟨h1, h2⟩ := List.pairwise_cons.1 ho
      show (if x.k = r.k then some x.c else findR r.k t) = some r.c
      rcases List.mem_cons.1 h with rfl | h
      · rw [if_pos rfl]
      · rw [if_neg (h1 r h)]
        exact ih h2 h
  cases hf : findR k es with
  | some c =>
    have hm := hp.mem_iff.2 (find_mem hf)
    exact find_of hs hm
  | none =>
    cases hg : findR k s with
    | none => rfl
    | some c =>
      have hm := hp.mem_iff.1 (find_mem hg)
      rw [key ho hm] at hf
      cases hf
theorem MapR.all {l : List F9} {es s : List R11} (h : MapR l l.length es) (hs : RiseR s) (hp : s.Perm es) : ofR l = some s :=
  puts_is hs fun k => by
    have h1 := h.cells k
    rw [List.take_length] at h1
    rw [h1, find_perm hs hp h.once]
theorem rows_ok {l : List F9} (hf : ∀ f ∈ l, fit f.v = true) : ∀ r ∈ l.map rowF, okRow r = true ∧ okC r.c := fun r hr => by
  obtain ⟨f, hfl, rfl⟩ := List.mem_map.1 hr
  refine ⟨?_, okC_of (hf f hfl)⟩
  have h := right_cell [f.v]
  rw [cellL_one] at h
  show (decide (1 ≤ (1 : Int)) && rightC (Cl.of f.v)) = true
  rw [h]
  rfl

end Go.Proofs.Ytklpmajaihmmfaa
