/-
  Texts laid one behind the other: Ew Q1i.
-/
import Derived.Test.YtieffpngknglpaaJoacaj
import Derived.Test.YtieffpngknglpaaJoacak
import Derived.Test.YtieffpngknglpaaJoacav
import Derived.Test.YtieffpngknglpaaJoacax
import Derived.Test.YtieffpngknglpaaJoacay

/-
  A writer of pack (the program's) that is new since a world: one contract a call. For every stage whose code puts bytes so.
-/
namespace Go.Proofs.Ytieffpngknglpaa
open Go.RowKit

/-- A writer at p, new since w, that has bytes l. -/
def Wt (w : World) (p : Nat) (wr : World) (l : List UInt8) : Prop := w.heap.size ≤ p ∧ ∃ u, Wr wr p u l ∧ (∀ k, u.ownBlock = some k → w.heap.size ≤ k) ∧ Turn (fun _ => False) w wr
section
variable {w wr w' : World} {p : Nat} {l l' : List UInt8}
theorem Wt.turn (h : Wt w p wr l) : Turn (fun _ => False) w wr := by
  obtain ⟨_, u, _, _, h⟩ := h
  exact h
theorem Wt.later (h : Wt w p wr l) (ht : Turn (fun _ => False) wr w') : Wt w p w' l := by
  obtain ⟨h0, u, ⟨h1, h2⟩, h3, h4⟩ := h
  exact ⟨h0, u, ⟨h1.turn ht (fun f => f), h2.turn ht (fun _ _ f => f)⟩, h3, h4.trans ht (fun _ _ f => f)⟩
theorem Wt.put {u u' : Value} (h0 : w.heap.size ≤ p) (h3 : ∀ k, u.ownBlock = some k → w.heap.size ≤ k) (h4 : Turn (fun _ => False) w wr) (hp : Put wr p u w' u' l') : Wt w p w' l' := by
  obtain ⟨g1, g2, g3⟩ := hp
  refine ⟨h0, u', g1, fun k hk => ?_, h4.trans g2 (fun k hk e => ?_)⟩
  · rcases g3 with e | e
    · exact h3 k (by rw [← e]; exact hk)
    · exact Nat.le_trans h4.size (e k hk)
  · rcases e with e | e
    · omega
    · have := h3 k e; omega
/-- Boxes of other types than a writer's, and a byte's rows, are as they were. -/
def KeepB (w w' : World) : Prop := ∀ g t cs, t ≠ 45 → t ≠ 5 → Box w g t cs → Box w' g t cs
theorem KeepB.of {u u' : Value} (hw : Wr wr p u l) (hp : Put wr p u w' u' l') : KeepB wr w' := by
  intro g t cs h1 h2 hb
  refine hb.turn hp.2.1 (fun e => ?_)
  rcases e with e | e
  · subst e
    have e2 := hw.1.symm.trans hb
    injection e2 with e2
    injection e2 with _ e3
    exact h1 e3.symm
  · exact hw.2.ne_box hb (fun e => h2 e.symm) e
theorem KeepB.trans {a b c : World} (h : KeepB a b) (g : KeepB b c) : KeepB a c := fun k t cs h1 h2 hb => g k t cs h1 h2 (h k t cs h1 h2 hb)
theorem KeepB.refl (w : World) : KeepB w w := fun _ _ _ _ _ h => h
/-- A writer that was just laid. -/
theorem Wt.new (w : World) (hw : Turn (fun _ => False) w wr) : Wt w wr.heap.size (wr.alloc (.cells #[.slice none 0 0] 45)) [] :=
  ⟨hw.size, _, ⟨Box.new wr _ _, By.nil _⟩, (fun k e => by simp [Value.ownBlock] at e), hw.alloc _⟩
theorem wt_num (h : Wt w p wr l) (n : Nat) (hn : Hid (n < 18446744073709551616)) (hl : l.length ≤ 1000000) :
    Calls Try.prog 21 #[.pointer (some ⟨p, 0, none⟩), .int .u64 n] wr fun e w' => e = .returned (.pointer (some ⟨p, 0, none⟩)) ∧ Wt w p w' (l ++ enc n) ∧ KeepB wr w' := by
  obtain ⟨h0, u, h1, h3, h4⟩ := h
  exact (num_put p u l n wr h1 hn hl).mono fun e w' ⟨he, v', hp⟩ => ⟨he, Wt.put h0 h3 h4 hp, KeepB.of h1 hp⟩
theorem wt_text (h : Wt w p wr l) (t : List UInt8) (ht : t.length ≤ 900000) (hl : l.length ≤ 900000) :
    Calls Try.prog 23 #[.pointer (some ⟨p, 0, none⟩), .string ⟨t.toArray⟩] wr fun e w' => e = .returned (.pointer (some ⟨p, 0, none⟩)) ∧ Wt w p w' (l ++ (enc t.length ++ t)) ∧ KeepB wr w' := by
  obtain ⟨h0, u, h1, h3, h4⟩ := h
  exact (text_put p u l ⟨t.toArray⟩ wr h1 (by show t.toArray.size ≤ _; simpa using ht) hl).mono fun e w' ⟨he, v', hp⟩ => ⟨he, Wt.put h0 h3 h4 hp, KeepB.of h1 hp⟩
theorem wt_bytes (h : Wt w p wr l) (hl : l.length ≤ 1000000) :
    Calls Try.prog 24 #[.pointer (some ⟨p, 0, none⟩)] wr fun e w' => ∃ v', e = .returned v' ∧ Made w w' v' l := by
  obtain ⟨h0, u, h1, h3, h4⟩ := h
  exact (bytes_any p u l wr h1 hl).mono fun e w' ⟨v', he, hb, ht, hk⟩ => ⟨v', he, hb, h4.trans ht (fun _ _ f => f), fun k e => Nat.le_trans h4.size (hk k e)⟩
end

end Go.Proofs.Ytieffpngknglpaa

/-
  Stage 13: flags put and read; the program's Encode.
-/
namespace Go.Proofs.Ytieffpngknglpaa
open Go.RowKit

set_option maxRecDepth 100000

section
variable {w wr : World} {p : Nat} {l : List UInt8}
theorem wt_bool (h : Wt w p wr l) (b : Bool) (hl : l.length ≤ 1000000) :
    Calls Try.prog 22 #[.pointer (some ⟨p, 0, none⟩), .bool b] wr fun e w' => e = .returned (.pointer (some ⟨p, 0, none⟩)) ∧ Wt w p w' (l ++ enc b.toNat) ∧ KeepB wr w' := by
  obtain ⟨h0, u, h1, h3, h4⟩ := h
  exact (bool_put p u l b wr h1 hl).mono fun e w' ⟨he, v', hp⟩ => ⟨he, Wt.put h0 h3 h4 hp, KeepB.of h1 hp⟩
end
section
variable {w wr : World} {p : Nat} {s : RS9}
theorem ps_flag (h : PR w p wr s) : Calls Try.prog 43 #[.pointer (some ⟨p, 0, none⟩)] wr fun e w' => e = .returned (.bool (sFlag s)) ∧ PR w p w' (sFlag' s) ∧ Turn (fun g => g = p) wr w' := by
  obtain ⟨h0, ⟨v, l, k, h1, h2, h3⟩, h4⟩ := h
  refine (rbool p v l k s.2 wr h1).mono fun e w' hg => ?_
  by_cases hs : s.2 = 0
  · rw [h2 hs] at hg
    obtain ⟨g1, g2, g3⟩ := PR.step h0 h2 h3 h4 hg (fun hf => by rw [rdFlag_zero hf])
    refine ⟨?_, g2, g3⟩
    rw [g1]
    unfold sFlag
    rw [if_pos hs, if_pos hs]
  · obtain ⟨g1, g2⟩ := hg.2 hs
    refine ⟨by rw [g1]; unfold sFlag; rw [if_neg hs], ?_, g2.2⟩
    unfold sFlag'
    rw [if_neg hs]
    exact ⟨h0, ⟨v, l, k, g2.1, h2, h3⟩, h4.trans g2.2 (fun g hg e => by omega)⟩
end
section
variable {q B : Nat} {s : RS9} {w : World}
theorem xs_flag (h : XS w q B s) : Calls Try.prog 35 #[.pointer (some ⟨q, 0, none⟩)] w fun e w' => e = .returned (.bool (sFlag s)) ∧ XS w' q B (sFlag' s) ∧ Turn (fun g => g = q) w w' := by
  obtain ⟨A, c, h⟩ := h
  refine (xbool q B A c s.1 s.2 w h).mono fun e w' hx => ?_
  obtain ⟨h1, h2, h3⟩ := xs_of hx
  refine ⟨?_, h2, h3⟩
  rw [h1]
  unfold sFlag
  split <;> rfl
end

/-- Behind Encode: the bytes, or none. -/
def Encd13 (w : World) (q : Q13) (n : Int) (e : Ending) (w' : World) : Prop :=
  ∃ v, e = .returned (.tuple #[v, .int .i64 (chkQ q n)]) ∧ Made w w' v (if chkQ q n = 0 then encQ q n.toNat else [])
/-- In Encode: the writer, and the query. -/
structure En13 (w : World) (P b : Nat) (q : Q13) (acc : List UInt8) (W : World) : Prop where
  wt : Wt w P W acc
  q : Box W b 25 (cells13 q)
theorem En13.put {w W W2 : World} {P b : Nat} {q : Q13} {acc acc2 : List UInt8} (h : En13 w P b q acc W) (hw : Wt w P W2 acc2) (hk : KeepB W W2) : En13 w P b q acc2 W2 :=
  ⟨hw, hk _ _ _ (by decide) (by decide) h.q⟩
theorem En13.later {w W W2 : World} {P b : Nat} {q : Q13} {acc : List UInt8} (h : En13 w P b q acc W) (ht : Turn (fun _ => False) W W2) : En13 w P b q acc W2 :=
  ⟨h.wt.later ht, h.q.turn ht (fun f => f)⟩

set_option maxHeartbeats 16000000 in
theorem encode_any13 (q : Q13) (n : Int) (w : World) : Calls Try.prog 13 #[qv13 q, .int .i64 n] w fun e w' => Encd13 w q n e w' := by
  unfold qv13
  obtain ⟨w0, hw0⟩ : ∃ w0, w0 = w.alloc (.cells (cells13 q) 25) := ⟨_, rfl⟩
  have HT0 : Hid (Turn (fun _ => False) w w0) := by rw [hw0]; exact (Turn.refl _ w).alloc _
  have hb0 : Box w0 w.heap.size 25 (cells13 q) := by rw [hw0]; exact Box.new w _ _
  have HB0 := Lib.hid hb0
  obtain ⟨c0, c1, c2, c3, c4, c5, c6, c7, c8, c9, c10, c11, c12, c13⟩ := box_query13 hb0
  rw [hw0] at c0 c1 c2 c3 c4 c5 c6 c7 c8 c9 c10 c11 c12 c13
  have HW := Lib.hid hw0
  have HCK : Hid (∀ W, Calls Try.prog 20 #[.agg (cells13 q), .int .i64 n] W fun e w' => e = .returned (.int .i64 (chkQ q n)) ∧ Turn (fun _ => False) W w') := fun W => check_any13 q n W
  clear hw0 hb0
  by_cases h0 : chkQ q n = 0
  · obtain ⟨hn, hr, ho⟩ := chkQ_good h0
    obtain ⟨N, rfl⟩ := Int.eq_ofNat_of_zero_le (show 0 ≤ n by omega)
    have HEND : Hid (∀ v w', Made w w' v (encQ q N) → Encd13 w q (N : Int) (.returned (.tuple #[v, .int .i64 0])) w') := fun v w' hm => ⟨v, by rw [h0], by rw [if_pos h0, Int.toNat_natCast]; exact hm⟩
    rw [h0] at HCK
    have hN4 : N ≤ 4 := by omega
    obtain ⟨A, hA⟩ := Int.eq_ofNat_of_zero_le hr.1
    obtain ⟨B, hB⟩ := Int.eq_ofNat_of_zero_le (show 0 ≤ q.hi by omega)
    have hAl : A ≤ 16777217 := by omega
    have hBl : B ≤ 16777217 := by omega
    have hA64 : Hid (A < 18446744073709551616) := by show _ < _; omega
    have hB64 : Hid (B < 18446744073709551616) := by show _ < _; omega
    have hwA : IntKind.u64.wrap q.lo = (A : Int) := by rw [hA, IntKind.wrap_u64]; omega
    have hwB : IntKind.u64.wrap q.hi = (B : Int) := by rw [hB, IntKind.wrap_u64]; omega
    have HHEAD : Hid (enc A ++ enc B = encQ q 0) := by
      show _ = _
      unfold encQ dimsB13
      rw [hA, hB, Int.toNat_natCast, Int.toNat_natCast, List.append_nil]
    have HLEN := Lib.hid (fun i (hi : i ≤ 4) => encQ_len (q := q) hi (okQ_text ho))
    have HTL := Lib.hid (okQ_text ho)
    clear h0 hn hr ho hA hB
    go_enter Try.func13, Try.ntmps13
    go_wp2_with fail
    rw [← HW.out]
    refine (HCK.out _).mono ?_
    rintro e w1 ⟨rfl, t1⟩
    have HT1 := Lib.hid (HT0.out.trans t1 (fun _ _ f => f))
    have HB1 := Lib.hid (HB0.out.turn t1 (fun f => f))
    have HWT := Lib.hid (Wt.new w HT1.out)
    clear t1 c0 c1 c2 c3 c4 c5 c6 c7 c8 c9 c10 c11 c12 c13
    go_wp2_with fail
    obtain ⟨P, hP⟩ : ∃ P, P = w1.heap.size := ⟨_, rfl⟩
    obtain ⟨b, hbb⟩ : ∃ b, b = w.heap.size := ⟨_, rfl⟩
    rw [← hP, ← hbb]
    rw [← hP] at HWT
    rw [← hbb] at HB1
    obtain ⟨w2, hw2⟩ : ∃ w2, w2 = w1.alloc (.cells #[.slice none 0 0] 45) := ⟨_, rfl⟩
    have hen : En13 w P b q [] w2 := by rw [hw2]; exact ⟨HWT.out, HB1.out.alloc _⟩
    rw [← hw2]
    have HEN := Lib.hid (hen.later (Turn.refl (fun _ => False) w2).drew)
    clear hw2 hP hbb HB1 HWT HT1 hen HCK HT0 HB0 HW
    refine drawn_region (fun W => CQ13 W b q ∧ True) [7] (by kernel_rfl) ?_
    generalize World.drew w2 = wd at *
    have hS0 : CQ13 wd b q ∧ True := ⟨cq_box13 HEN.out.q, trivial⟩
    refine drawn_take 0 15 (.pointer (some ⟨b, 0, none⟩)) rfl rfl (by kernel_rfl) (by kernel_rfl) (by kernel_rfl) (by kernel_rfl) (fun _ _ _ h => h) (by rfl) (by assumption) (by intro w hSw; obtain ⟨⟨b0, b1, b2, b3, b4, b5, b6, b7, b8, b9, b10, b11, b12, b13⟩, -⟩ := hSw; go_simp) ?_
    try simp only [List.setIfInBounds_toArray, List.set_cons_zero, List.set_cons_succ]
    refine drawn_take 1 16 (.int .i64 q.lo) rfl rfl (by kernel_rfl) (by kernel_rfl) (by kernel_rfl) (by kernel_rfl) (fun _ _ _ h => h) (by rfl) (by assumption) (by intro w hSw; obtain ⟨⟨b0, b1, b2, b3, b4, b5, b6, b7, b8, b9, b10, b11, b12, b13⟩, -⟩ := hSw; go_simp) ?_
    try simp only [List.setIfInBounds_toArray, List.set_cons_zero, List.set_cons_succ]
    refine drawn_take 2 17 (.int .u64 (A : Int)) rfl rfl (by kernel_rfl) (by kernel_rfl) (by kernel_rfl) (by kernel_rfl) (fun _ _ _ h => h) (by rfl) (by assumption) (by intro w hSw; obtain ⟨⟨b0, b1, b2, b3, b4, b5, b6, b7, b8, b9, b10, b11, b12, b13⟩, -⟩ := hSw; go_simp) ?_
    try simp only [List.setIfInBounds_toArray, List.set_cons_zero, List.set_cons_succ]
    refine drawn_take 4 19 (.pointer (some ⟨b, 1, none⟩)) rfl rfl (by kernel_rfl) (by kernel_rfl) (by kernel_rfl) (by kernel_rfl) (fun _ _ _ h => h) (by rfl) (by assumption) (by intro w hSw; obtain ⟨⟨b0, b1, b2, b3, b4, b5, b6, b7, b8, b9, b10, b11, b12, b13⟩, -⟩ := hSw; go_simp) ?_
    try simp only [List.setIfInBounds_toArray, List.set_cons_zero, List.set_cons_succ]
    refine drawn_take 5 20 (.int .i64 q.hi) rfl rfl (by kernel_rfl) (by kernel_rfl) (by kernel_rfl) (by kernel_rfl) (fun _ _ _ h => h) (by rfl) (by assumption) (by intro w hSw; obtain ⟨⟨b0, b1, b2, b3, b4, b5, b6, b7, b8, b9, b10, b11, b12, b13⟩, -⟩ := hSw; go_simp) ?_
    try simp only [List.setIfInBounds_toArray, List.set_cons_zero, List.set_cons_succ]
    refine drawn_take 6 21 (.int .u64 (B : Int)) rfl rfl (by kernel_rfl) (by kernel_rfl) (by kernel_rfl) (by kernel_rfl) (fun _ _ _ h => h) (by rfl) (by assumption) (by intro w hSw; obtain ⟨⟨b0, b1, b2, b3, b4, b5, b6, b7, b8, b9, b10, b11, b12, b13⟩, -⟩ := hSw; go_simp) ?_
    try simp only [List.setIfInBounds_toArray, List.set_cons_zero, List.set_cons_succ]
    refine drawn_any [3] (by kernel_rfl) (by simp) ?_
    refine drawn_cons rfl (fun K2 hK => ?_) drawn_nil
    go_simp
    refine (wt_num HEN.out.wt A hA64 (by simp)).mono ?_
    rintro e w3 ⟨rfl, h3, k3⟩
    have HEN3 := Lib.hid (HEN.out.put h3 k3)
    have hS3 : CQ13 w3 b q ∧ True := ⟨cq_box13 HEN3.out.q, trivial⟩
    refine hK.out _ _ _ hS3 ?_
    clear hK K2 HEN hS0 h3 k3
    try simp only [List.setIfInBounds_toArray, List.set_cons_zero, List.set_cons_succ]
    refine drawn_last (z := 7) rfl (by kernel_rfl) (by kernel_rfl) (by kernel_rfl) (fun K2 hK => ?_)
    go_simp
    have hl3 := enc_len A
    refine (wt_num HEN3.out.wt B hB64 (by rw [List.nil_append]; omega)).mono ?_
    rintro e w4 ⟨rfl, h4, k4⟩
    have HEN4 : Hid (En13 w P b q (encQ q 0) w4) := by
      have h := HEN3.out.put h4 k4
      rw [List.nil_append, HHEAD.out] at h
      exact h
    refine hK.out _ _ ?_
    clear hK K2 HEN3 hS3 h4 k4 hl3
    try simp only [List.setIfInBounds_toArray, List.set_cons_zero, List.set_cons_succ]
    go_wp2_with fail
    go_loopw [24] (fun x24 wr => ∃ i : Nat, x24 = .int .i64 (i : Int) ∧ i ≤ N ∧ En13 w P b q (encQ q i) wr) (fun x24 _ => N - (intOf x24).toNat)
    case atStart => exact ⟨0, rfl, Nat.zero_le _, HEN4.out⟩
    case round =>
      clear HEN4
      obtain ⟨i, rfl, hi, hm⟩ := hrel
      have HM := Lib.hid hm
      have hlen := HLEN.out i (by omega)
      clear hm
      by_cases hlt : i < N
      · have h4 : i < 4 := by omega
        have hil : (i : Int) < N := by omega
        have hi4 : (i : Int) < 4 := by omega
        have HCL : Hid (∀ W, Box W b 25 (cells13 q) → W.cell? ⟨b, 2 + i, none⟩ = some (.bool (q.g.nth i)) ∧ W.cell? ⟨b, 6 + i, none⟩ = some (.bool (q.h.nth i)) ∧ W.cell? ⟨b, 10 + i, none⟩ = some (sv9 (q.f.nth i))) :=
          fun W h => ⟨(h.cell (2 + i)).trans (q_group13 q h4), (h.cell (6 + i)).trans (q_has13 q h4), (h.cell (10 + i)).trans (q_text13 q h4)⟩
        have HST : Hid (encQ q (i + 1) = encQ q i ++ (enc (q.g.nth i).toNat ++ enc (q.h.nth i).toNat ++ (if q.h.nth i then textB (q.f.nth i) else []))) := by
          show _ = _
          unfold encQ
          rw [dimsB13, ← List.append_assoc]
          rfl
        have htl := HTL.out i h4
        generalize q.g.nth i = G at *
        generalize q.h.nth i = H at *
        generalize q.f.nth i = T at *
        go_wp2_with fail
        have HMD := Lib.hid (HM.out.later (Turn.refl (fun _ => False) wr).drew)
        clear HM
        refine drawn_region (fun W => W.cell? ⟨b, 2 + i, none⟩ = some (.bool G) ∧ W.cell? ⟨b, 6 + i, none⟩ = some (.bool H)) [9] (by kernel_rfl) ?_
        generalize World.drew wr = wd at *
        have hS0 : wd.cell? ⟨b, 2 + i, none⟩ = some (.bool G) ∧ wd.cell? ⟨b, 6 + i, none⟩ = some (.bool H) := ⟨(HCL.out _ HMD.out.q).1, (HCL.out _ HMD.out.q).2.1⟩
        refine drawn_take 0 27 (.int .i64 (i : Int)) rfl rfl (by kernel_rfl) (by kernel_rfl) (by kernel_rfl) (by kernel_rfl) (fun _ _ _ h => h) (by rfl) (by assumption) (by intro w hSw; obtain ⟨b0, b1⟩ := hSw; go_simp) ?_
        try simp only [List.setIfInBounds_toArray, List.set_cons_zero, List.set_cons_succ]
        refine drawn_take 1 28 (.pointer (some ⟨b, 2, none⟩)) rfl rfl (by kernel_rfl) (by kernel_rfl) (by kernel_rfl) (by kernel_rfl) (fun _ _ _ h => h) (by rfl) (by assumption) (by intro w hSw; obtain ⟨b0, b1⟩ := hSw; go_simp) ?_
        try simp only [List.setIfInBounds_toArray, List.set_cons_zero, List.set_cons_succ]
        refine drawn_take 2 29 (.pointer (some ⟨b, 2 + i, none⟩)) rfl rfl (by kernel_rfl) (by kernel_rfl) (by kernel_rfl) (by kernel_rfl) (fun _ _ _ h => h) (by rfl) (by assumption) (by intro w hSw; obtain ⟨b0, b1⟩ := hSw; go_simp) ?_
        try simp only [List.setIfInBounds_toArray, List.set_cons_zero, List.set_cons_succ]
        refine drawn_take 3 30 (.bool G) rfl rfl (by kernel_rfl) (by kernel_rfl) (by kernel_rfl) (by kernel_rfl) (fun _ _ _ h => h) (by rfl) (by assumption) (by intro w hSw; obtain ⟨b0, b1⟩ := hSw; go_simp) ?_
        try simp only [List.setIfInBounds_toArray, List.set_cons_zero, List.set_cons_succ]
        refine drawn_take 5 32 (.int .i64 (i : Int)) rfl rfl (by kernel_rfl) (by kernel_rfl) (by kernel_rfl) (by kernel_rfl) (fun _ _ _ h => h) (by rfl) (by assumption) (by intro w hSw; obtain ⟨b0, b1⟩ := hSw; go_simp) ?_
        try simp only [List.setIfInBounds_toArray, List.set_cons_zero, List.set_cons_succ]
        refine drawn_take 6 33 (.pointer (some ⟨b, 6, none⟩)) rfl rfl (by kernel_rfl) (by kernel_rfl) (by kernel_rfl) (by kernel_rfl) (fun _ _ _ h => h) (by rfl) (by assumption) (by intro w hSw; obtain ⟨b0, b1⟩ := hSw; go_simp) ?_
        try simp only [List.setIfInBounds_toArray, List.set_cons_zero, List.set_cons_succ]
        refine drawn_take 7 34 (.pointer (some ⟨b, 6 + i, none⟩)) rfl rfl (by kernel_rfl) (by kernel_rfl) (by kernel_rfl) (by kernel_rfl) (fun _ _ _ h => h) (by rfl) (by assumption) (by intro w hSw; obtain ⟨b0, b1⟩ := hSw; go_simp) ?_
        try simp only [List.setIfInBounds_toArray, List.set_cons_zero, List.set_cons_succ]
        refine drawn_take 8 35 (.bool H) rfl rfl (by kernel_rfl) (by kernel_rfl) (by kernel_rfl) (by kernel_rfl) (fun _ _ _ h => h) (by rfl) (by assumption) (by intro w hSw; obtain ⟨b0, b1⟩ := hSw; go_simp) ?_
        try simp only [List.setIfInBounds_toArray, List.set_cons_zero, List.set_cons_succ]
        refine drawn_any [4] (by kernel_rfl) (by simp) ?_
        refine drawn_cons rfl (fun K2 hK => ?_) drawn_nil
        go_simp
        refine (wt_bool HMD.out.wt G (by omega)).mono ?_
        rintro e w5 ⟨rfl, h5, k5⟩
        have HM5 := Lib.hid (HMD.out.put h5 k5)
        have hS5 : w5.cell? ⟨b, 2 + i, none⟩ = some (.bool G) ∧ w5.cell? ⟨b, 6 + i, none⟩ = some (.bool H) := ⟨(HCL.out _ HM5.out.q).1, (HCL.out _ HM5.out.q).2.1⟩
        refine hK.out _ _ _ hS5 ?_
        clear hK K2 HMD hS0 h5 k5
        try simp only [List.setIfInBounds_toArray, List.set_cons_zero, List.set_cons_succ]
        refine drawn_last (z := 9) rfl (by kernel_rfl) (by kernel_rfl) (by kernel_rfl) (fun K2 hK => ?_)
        go_simp
        have hl5 := enc_len G.toNat
        have hl6 := enc_len H.toNat
        refine (wt_bool HM5.out.wt H (by rw [List.length_append]; omega)).mono ?_
        rintro e w6 ⟨rfl, h6, k6⟩
        have hm6 := HM5.out.put h6 k6
        rw [List.append_assoc] at hm6
        obtain ⟨-, b6, b7⟩ := HCL.out _ hm6.q
        have HM6 := Lib.hid hm6
        have hlen6 : (encQ q i ++ (enc G.toNat ++ enc H.toNat)).length ≤ 400 := by rw [List.length_append, List.length_append]; omega
        refine hK.out _ _ ?_
        clear hK K2 HM5 hS5 h6 k6 hm6 hl5 hl6 HCL
        try simp only [List.setIfInBounds_toArray, List.set_cons_zero, List.set_cons_succ]
        unfold sv9 at b7
        cases H with
        | false =>
          have HM7 : Hid (En13 w P b q (encQ q (i + 1)) w6) := by
            rw [HST.out, if_neg (by simp), List.append_nil]
            exact HM6.out
          clear HM6 HST
          go_wp2_with fail
          go_roundw
          case rel => exact ⟨i + 1, by go_num, hlt, HM7.out⟩
          case measure => simp [intOf]; omega
        | true =>
          rw [if_pos rfl, ← List.append_assoc] at HST
          generalize encQ q i ++ (enc G.toNat ++ enc true.toNat) = acc at *
          go_wp2_with fail
          refine (wt_text HM6.out.wt T (by omega) (by omega)).mono ?_
          rintro e w7 ⟨rfl, h7, k7⟩
          have HM7 : Hid (En13 w P b q (encQ q (i + 1)) w7) := by
            rw [HST.out]
            exact HM6.out.put h7 k7
          clear HM6 HST h7 k7
          go_wp2_with fail
          go_roundw
          case rel => exact ⟨i + 1, by go_num, hlt, HM7.out⟩
          case measure => simp [intOf]; omega
      · obtain rfl : i = N := by omega
        go_wp2_with fail
        refine (wt_bytes HM.out.wt (by omega)).mono ?_
        rintro e w5 ⟨v', rfl, hm⟩
        have HE := Lib.hid (HEND.out _ _ hm)
        clear hm
        go_wp2
        go_ret2
        exact HE.out
  · have HEND : Hid (∀ w', Turn (fun _ => False) w w' → Encd13 w q n (.returned (.tuple #[.slice none 0 0, .int .i64 (chkQ q n)])) w') := fun w' ht => ⟨_, rfl, by rw [if_neg h0]; exact ⟨By.nil w', ht, fun k hk => by simp [Value.ownBlock] at hk⟩⟩
    have hne : ((chkQ q n) != 0) = true := by simp [bne, h0]
    clear h0
    generalize chkQ q n = a at *
    go_enter Try.func13, Try.ntmps13
    go_wp2_with fail
    rw [← HW.out]
    refine (HCK.out _).mono ?_
    rintro e w1 ⟨rfl, t1⟩
    have HT1 := Lib.hid (HT0.out.trans t1 (fun _ _ f => f))
    clear t1 c0 c1 c2 c3 c4 c5 c6 c7 c8 c9 c10 c11 c12 c13
    go_wp2
    go_ret2
    exact HEND.out _ HT1.out

end Go.Proofs.Ytieffpngknglpaa
