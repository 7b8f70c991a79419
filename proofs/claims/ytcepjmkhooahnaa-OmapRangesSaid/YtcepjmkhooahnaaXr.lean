
/-
  'OmapRanges': the keys of any range, rising, as far as they are asked, behind any acts. No condition.
-/
import Derived.Test.YtcepjmkhooahnaaHn
import Derived.Test.YtcepjmkhooahnaaHl
import Derived.ProofKit
import Derived.OpenShut
namespace Go.Proofs.Ytcepjmkhooahnaa.omapRanges
open Go.ChangeShapes Go.WideShapes Go.ChangeAt Go.RowKit
set_option linter.unusedVariables false

theorem own : ownKnob Try.prog.godebug = none := by kernel_rfl
theorem laidOut : laidOutB Try.prog = true := by kernel_rfl

open omi Go.Shelf
attribute [local go_sem] Oper.semAt_some wide_fn

set_option maxRecDepth 100000 in
set_option maxHeartbeats 4000000 in
theorem walk (v : Value) (l : List AC) (from' : Int) (_wf : (Lit.int .i64 from').wf = true) (to : Int) (_wt : (Lit.int .i64 to).wf = true) (stop : Int) (_ws : (Lit.int .i64 stop).wf = true) (w : World) (h : RdE EA w v l) (hlen : l.length ≤ maxLen) :
    Calls Try.prog 4 #[v, .int .i64 from', .int .i64 to, .int .i64 stop] w fun e w' => e = .returned (.bool true) ∧ Below w.heap.size w w' := by
  have HV := Lib.hid h
  obtain ⟨A, c, rfl⟩ := h.shape
  unfold maxLen at hlen
  clear h
  refine (callsIn_wide (n := 5)).1 ?_
  refine callsIn_of_wp_marks Try.func4 rfl trivial ?_ rfl
  simp only [Try.ntmps4, List.size_toArray, List.length_cons, List.length_nil, Nat.reduceAdd, Nat.reduceSub, Array.replicate_succ, Array.replicate_zero, List.push_toArray, List.append_toArray, List.nil_append, List.cons_append]
  refine wpIn_wide.2 ?_
  by_cases h200 : l.length ≤ 200
  · go_wp2_with fail
    refine (alive_any6 _).mono ?_
    rintro e w1 ⟨rfl, ht⟩
    have hb0 := ((Box.new w 3 #[.int .i64 stop]).alloc (.cells #[.bool false] 4)).turn ht (fun f => f)
    have hb1 := (Box.new (w.alloc (.cells #[.int .i64 stop] 3)) 4 #[.bool false]).turn ht (fun f => f)
    rw [World.size_alloc] at hb1
    have HT1 : Hid (Turn (fun _ => False) w w1) := (((Turn.refl _ w).alloc _).alloc _).trans ht (fun _ _ f => f)
    have HZ1 : Hid (w.heap.size + 2 ≤ w1.heap.size) := by have := ht.size; rw [World.size_alloc, World.size_alloc] at this; exact this
    have HB0 := Lib.hid hb0; have HB1 := Lib.hid hb1
    clear ht hb1 hb0
    go_wp2_with fail
    refine (made_any _ l w1 (HV.out.later HT1.out) h200).mono ?_
    rintro e w2 ⟨g1, g2, rfl, hrun⟩
    have HT2 := Lib.hid hrun.turn
    have HG : Hid (w1.heap.size ≤ g1 ∧ w1.heap.size ≤ g2) := ⟨hrun.new1, hrun.new2⟩
    obtain ⟨L, sv, h2, hl, hn⟩ := hrun.out
    have H2 := Lib.hid h2; have HN := Lib.hid hn
    have HRG := Lib.hid (ref_range6 g2 sv L from' to w2 h2.r (by omega))
    clear hrun h2 hn
    go_wp2_with (go_at_call 13; refine HRG.out.mono ?_; rintro e w3 ⟨u, rfl, hnew⟩; obtain ⟨Au, cu, hu⟩ := hnew.own.shape; subst hu; have HU := Lib.hid hnew; clear hnew)
    obtain ⟨R, hR⟩ : ∃ R, R = rangeK ltI L from' to := ⟨_, rfl⟩
    rw [← hR] at HU ⊢
    have HRR := Lib.hid hR; clear hR
    obtain ⟨B, hB⟩ : ∃ B : Nat, B = w3.heap.size := ⟨_, rfl⟩
    obtain ⟨wq, hwq⟩ : ∃ wq, wq = (w3.alloc (.cells #[.slice Au R.length cu] 27)).alloc (.cells #[.int .i64 0] 3) := ⟨_, rfl⟩
    have HT3 := Lib.hid HU.out.turn
    have HTQ : Hid (Turn (fun _ => False) w3 wq) := by rw [hwq]; exact ((Turn.refl _ w3).alloc _).alloc _
    have HBS : Hid (Box wq B 27 #[.slice Au R.length cu]) := by rw [hwq, hB]; exact (Box.new w3 _ _).alloc _
    have HBN : Hid (Box wq (B + 1) 3 #[.int .i64 0]) := by
      have := Box.new (w3.alloc (.cells #[.slice Au R.length cu] 27)) 3 #[.int .i64 0]
      rw [World.size_alloc] at this
      rw [hwq, hB]; exact this
    have HOW : Hid (∀ k, (Value.slice Au R.length cu).ownBlock = some k → k < B) := fun k hk => by rw [hB]; exact HU.out.own.lt hk
    have HZ3 : Hid (w1.heap.size ≤ B) := by have h1 := HT2.out.size; have h2 := HT3.out.size; rw [hB]; exact Nat.le_trans h1 h2
    rw [← hwq, ← hB]
    clear hwq hB
    refine (range_any from' to (H2.out.m.later (HT3.out.trans HTQ.out (fun _ _ f => f)))).mono ?_
    rintro e w5 ⟨qr, qt, qf, q1, q2, rfl, hr⟩
    have HRN := Lib.hid hr
    have HTQ5 := Lib.hid hr.turn
    have HS5 := Lib.hid (HBS.out.turn hr.turn (fun f => f))
    have HN5 := Lib.hid (HBN.out.turn hr.turn (fun f => f))
    have HT15 : Hid (Turn (fun _ => False) w1 w5) := (((HT2.out.trans HT3.out (fun _ _ f => f)).trans HTQ.out (fun _ _ f => f)).trans hr.turn (fun _ _ f => f))
    obtain ⟨A5, x5, hs5, -⟩ := hr.at'.src
    have HNW := Lib.hid hr.new
    have HQ : Hid (qr < w5.heap.size ∧ qt < w5.heap.size ∧ qf < w5.heap.size ∧ q1 < w5.heap.size ∧ q2 < w5.heap.size) := ⟨hr.at'.rest.lt, hr.at'.top.lt, hr.at'.low.lt, hs5.root.lt, hs5.fun'.lt⟩
    have HQB : Hid (B + 1 < wq.heap.size ∧ B + 1 < w5.heap.size) := ⟨HBN.out.lt, HN5.out.lt⟩
    clear hr hs5
    have HFX : Hid (∀ V, Turn (fun k => k = B + 1) w5 V → Turn (fun _ => False) w V ∧ Box V w.heap.size 3 #[.int .i64 stop] ∧ Box V (w.heap.size + 1) 4 #[.bool false] ∧ Box V B 27 #[.slice Au R.length cu] ∧ RdE EP V (.slice Au R.length cu) R) := by
      intro V ht
      have h1 := HZ1.out; have h2 := HZ3.out
      refine ⟨(HT1.out.trans HT15.out (fun _ _ f => f)).fresh ht (fun k e => by omega), (HB0.out.turn HT15.out (fun f => f)).turn ht (by omega), (HB1.out.turn HT15.out (fun f => f)).turn ht (by omega), HS5.out.turn ht (by omega), ?_⟩
      exact (HU.out.own.rd.later (HTQ.out.trans HTQ5.out (fun _ _ f => f))).turn ht (fun k hk e => by have := HOW.out k hk; omega)
    unfold RngV
    go_wp2_with fail
    refine (wpIn_wide (n := 5)).1 ?_
    refine' over2 (n := 5) (by omega) (gf := 34) (lb := #[.pointer (some ⟨qr, 0, none⟩), .pointer (some ⟨qt, 0, none⟩)]) rfl (enters_of Try.func34 (by kernel_rfl) rfl)
      (range_feeds 4 HRN.out.at' (fun k => k = B + 1 ∨ k = w5.heap.size + 1) (by have := HQ.out; have := HNW.out; have := HQB.out; omega) (by have := HQ.out; have := HNW.out; have := HQB.out; omega) (by have := HQ.out; have := HNW.out; have := HQB.out; omega) (by have := HQ.out; have := HNW.out; have := HQB.out; omega) (by have := HQ.out; have := HNW.out; have := HQB.out; omega)
        ⟨fun g cs hb e => by
          rcases e with e | e
          · exact box_ne hb HN5.out (by decide) e
          · have := hb.lt; omega⟩) (Turn.refl _ _) (Or.inr rfl) (fun k e => by have := HQB.out; omega) (fun pre => fun _ _ _ h _ => h) (fun _ => rfl)
      (fun (pre : List (Int × List UInt8)) V => Box V (B + 1) 3 #[.int .i64 (pre.length : Nat)] ∧ Turn (fun k => k = B + 1) w5 V ∧ ∀ m : Nat, 1 ≤ m → m ≤ pre.length → (m : Int) ≠ stop)
      (fun c (pre : List (Int × List UInt8)) V => c = .exit 0 ∧ Box V (B + 1) 3 #[.int .i64 (pre.length : Nat)] ∧ Turn (fun k => k = B + 1) w5 V ∧ 1 ≤ pre.length ∧ (pre.length : Int) = stop)
      ?hI ?hIx ⟨HN5.out, Turn.refl _ _, fun m h1 h2 => absurd h1 (by simp at h2; omega)⟩ _ ?assign ?body ?done ?stop
    case hI =>
      exact Holds.and (holds_box _ _ _ (fun (pre : List (Int × List UInt8)) => #[.int .i64 (pre.length : Nat)])) (Holds.and (holds_turn (fun k h1 h2 => by omega)) (fun _ _ _ h _ => h))
    case hIx =>
      intro c
      exact Holds.and (fun _ _ _ h _ => h) (Holds.and (holds_box _ _ _ (fun (pre : List (Int × List UInt8)) => #[.int .i64 (pre.length : Nat)])) (Holds.and (holds_turn (fun k h1 h2 => by omega)) (fun _ _ _ h _ => h)))
    case assign =>
      intro l0 x W K hK
      have HK := Lib.hid hK; clear hK
      gi_wp2
      exact HK.out
    case body =>
      rintro l0 pre y V ⟨hb, ht, hno⟩ hgv
      rw [← HRR.out] at hgv
      obtain ⟨k, s⟩ := y
      dsimp only
      obtain ⟨tw, bs, b2, bw, hrd⟩ := HFX.out V ht
      obtain ⟨hat, hlt⟩ := pre_at hgv
      obtain ⟨ad, rfl, e1, e2⟩ := pair_at hrd hat
      have cs := bs.cell 0
      have cw := bw.cell 0
      have cn := hb.cell 0
      have fn := hb.free 0
      have HBN' := Lib.hid hb; have HTV := Lib.hid ht; have HNO := Lib.hid hno
      have hRl : R.length ≤ 200 := by rw [HRR.out]; exact Nat.le_trans (Nat.le_trans (List.length_filter_le _ _) hl) h200
      have hne : w.heap.size ≠ B + 1 := by have h1 := HZ1.out; have h2 := HZ3.out; omega
      have cs2 := (bs.far (p := ⟨B + 1, 0, none⟩) hne (.int .i64 ((pre.length : Int) + 1))).cell 0
      have cn2 := (hb.set 0 (.int .i64 ((pre.length : Int) + 1))).cell 0
      clear hb ht hno hgv tw bs b2 bw hrd hat hne
      by_cases hst : ((pre.length : Int) + 1) = stop
      · have heq : (((pre.length : Int) + 1) == stop) = true := by rw [beq_iff_eq]; exact hst
        have HST := Lib.hid hst; clear hst
        gi_wp2
        have e9 : (((pre ++ [(k, s)] : List (Int × List UInt8)).length : Nat) : Int) = (pre.length : Int) + 1 := by rw [List.length_append]; simp
        refine ⟨Still.setCell _ _ _, rfl, ?_, HTV.out.setCell (p := ⟨B + 1, 0, none⟩) (fun _ => rfl) _, by simp, by rw [e9]; exact HST.out⟩
        rw [e9]
        exact HBN'.out.set 0 (.int .i64 ((pre.length : Int) + 1))
      · have heq : (((pre.length : Int) + 1) == stop) = false := by rw [beq_eq_false_iff_ne]; exact hst
        have HST := Lib.hid hst; clear hst
        gi_wp2
        have e9 : (((pre ++ [(k, s)] : List (Int × List UInt8)).length : Nat) : Int) = (pre.length : Int) + 1 := by rw [List.length_append]; simp
        refine ⟨Still.setCell _ _ _, (Turn.refl _ V).setCell (p := ⟨B + 1, 0, none⟩) (fun _ => .inl rfl) _, ?_, HTV.out.setCell (p := ⟨B + 1, 0, none⟩) (fun _ => rfl) _, fun m h1 h2 => ?_⟩
        · rw [e9]
          exact HBN'.out.set 0 (.int .i64 ((pre.length : Int) + 1))
        · rw [List.length_append] at h2
          rcases Nat.lt_or_ge pre.length m with c | c
          · have : m = pre.length + 1 := by simp at h2; omega
            intro e
            exact HST.out (by rw [← e, this]; simp)
          · exact HNO.out m h1 c
    case stop =>
      rintro D c0 pre V hD hP ⟨rfl, hb, ht, h1, hs⟩ hK
      rw [← HRR.out] at hP
      have hle := hP.length_le
      obtain ⟨tw, bs, b2, bw, -⟩ := HFX.out V ht
      have cs := bs.cell 0
      have cw := bw.cell 0
      have cn := hb.cell 0
      have c2 := b2.cell 0
      have f2 := b2.free 0
      have HB2 := Lib.hid b2; have TW := Lib.hid tw; have HKD := Lib.hid hK
      have HDD : Hid (w.heap.size ≤ D) := Nat.le_trans (Nat.le_trans HT1.out.size HT15.out.size) hD
      have hRl : R.length ≤ 200 := by rw [HRR.out]; exact Nat.le_trans (Nat.le_trans (List.length_filter_le _ _) hl) h200
      generalize pre.length = N at *
      clear hb ht bs b2 bw tw hK hD hP
      subst hs
      have hpos : (0 : Int) < (N : Int) := by omega
      by_cases hlt : N < R.length
      · have hlt' : (N : Int) < (R.length : Int) := by omega
        refine wpIn_wide.2 ?_
        go_wp2
        have k1 := (KeepsOthers.setCell V ⟨w.heap.size + 1, 0, none⟩ (.bool true)).same D _ HKD.out rfl
        have b9 := HB2.out.set 0 (.bool true)
        have t9 : Turn (fun _ => False) w (V.setCell ⟨w.heap.size + 1, 0, none⟩ (.bool true)) := TW.out.setCell (p := ⟨w.heap.size + 1, 0, none⟩) (fun h => absurd h (by simp)) _
        generalize V.setCell ⟨w.heap.size + 1, 0, none⟩ (.bool true) = w9 at *
        have u1 : Turn (fun g => g = D) w9 (w9.putObj D (.deferred none)) := Turn.putObj _ D _ rfl
        have b10 := b9.turn u1 (fun e => by rw [← e, show w9.heap[w.heap.size + 1]? = _ from b9] at k1; cases k1)
        have h11 := b10.cell 0
        refine ⟨by simp, .inl ⟨_, _, rfl, run_takeDeferred k1, ?_⟩⟩
        refine ⟨.bool true, ?_, rfl, ?_⟩
        · simp [results, Try.f4, go_sem, h11]
        · exact (t9.fresh u1 (fun g e => by rw [e]; exact HDD.out)).below (Nat.le_refl _) (fun _ f => f.elim)
      · have hlt' : ¬ (N : Int) < (R.length : Int) := by omega
        have he : N = R.length := by omega
        subst he
        refine wpIn_wide.2 ?_
        go_wp2
        have k1 := (KeepsOthers.setCell V ⟨w.heap.size + 1, 0, none⟩ (.bool true)).same D _ HKD.out rfl
        have b9 := HB2.out.set 0 (.bool true)
        have t9 : Turn (fun _ => False) w (V.setCell ⟨w.heap.size + 1, 0, none⟩ (.bool true)) := TW.out.setCell (p := ⟨w.heap.size + 1, 0, none⟩) (fun h => absurd h (by simp)) _
        generalize V.setCell ⟨w.heap.size + 1, 0, none⟩ (.bool true) = w9 at *
        have u1 : Turn (fun g => g = D) w9 (w9.putObj D (.deferred none)) := Turn.putObj _ D _ rfl
        have b10 := b9.turn u1 (fun e => by rw [← e, show w9.heap[w.heap.size + 1]? = _ from b9] at k1; cases k1)
        have h11 := b10.cell 0
        refine ⟨by simp, .inl ⟨_, _, rfl, run_takeDeferred k1, ?_⟩⟩
        refine ⟨.bool true, ?_, rfl, ?_⟩
        · simp [results, Try.f4, go_sem, h11]
        · exact (t9.fresh u1 (fun g e => by rw [e]; exact HDD.out)).below (Nat.le_refl _) (fun _ f => f.elim)
    case done =>
      rintro D xs V hD hA ⟨hb, ht, hno⟩ hK
      rw [← HRR.out] at hA
      subst hA
      obtain ⟨tw, bs, b2, bw, -⟩ := HFX.out V ht
      have cs := bs.cell 0
      have cw := bw.cell 0
      have cn := hb.cell 0
      have c2 := b2.cell 0
      have f2 := b2.free 0
      have HB2 := Lib.hid b2; have TW := Lib.hid tw; have HKD := Lib.hid hK
      have HDD : Hid (w.heap.size ≤ D) := Nat.le_trans (Nat.le_trans HT1.out.size HT15.out.size) hD
      have hRl : xs.length ≤ 200 := by rw [HRR.out]; exact Nat.le_trans (Nat.le_trans (List.length_filter_le _ _) hl) h200
      have HNO := Lib.hid hno
      clear hb ht bs b2 bw tw hK hD hno
      by_cases hpos : (0 : Int) < stop
      · have hlt' : ¬ stop < (xs.length : Int) := fun h => by
          obtain ⟨m, rfl⟩ := Int.eq_ofNat_of_zero_le (by omega : 0 ≤ stop)
          exact HNO.out m (by omega) (by omega) rfl
        go_wp2
        have k1 := (KeepsOthers.setCell V ⟨w.heap.size + 1, 0, none⟩ (.bool true)).same D _ HKD.out rfl
        have b9 := HB2.out.set 0 (.bool true)
        have t9 : Turn (fun _ => False) w (V.setCell ⟨w.heap.size + 1, 0, none⟩ (.bool true)) := TW.out.setCell (p := ⟨w.heap.size + 1, 0, none⟩) (fun h => absurd h (by simp)) _
        generalize V.setCell ⟨w.heap.size + 1, 0, none⟩ (.bool true) = w9 at *
        have u1 : Turn (fun g => g = D) w9 (w9.putObj D (.deferred none)) := Turn.putObj _ D _ rfl
        have b10 := b9.turn u1 (fun e => by rw [← e, show w9.heap[w.heap.size + 1]? = _ from b9] at k1; cases k1)
        have h11 := b10.cell 0
        refine ⟨by simp, .inl ⟨_, _, rfl, run_takeDeferred k1, ?_⟩⟩
        refine ⟨.bool true, ?_, rfl, ?_⟩
        · simp [results, Try.f4, go_sem, h11]
        · exact (t9.fresh u1 (fun g e => by rw [e]; exact HDD.out)).below (Nat.le_refl _) (fun _ f => f.elim)
      · go_wp2
        have k1 := (KeepsOthers.setCell V ⟨w.heap.size + 1, 0, none⟩ (.bool true)).same D _ HKD.out rfl
        have b9 := HB2.out.set 0 (.bool true)
        have t9 : Turn (fun _ => False) w (V.setCell ⟨w.heap.size + 1, 0, none⟩ (.bool true)) := TW.out.setCell (p := ⟨w.heap.size + 1, 0, none⟩) (fun h => absurd h (by simp)) _
        generalize V.setCell ⟨w.heap.size + 1, 0, none⟩ (.bool true) = w9 at *
        have u1 : Turn (fun g => g = D) w9 (w9.putObj D (.deferred none)) := Turn.putObj _ D _ rfl
        have b10 := b9.turn u1 (fun e => by rw [← e, show w9.heap[w.heap.size + 1]? = _ from b9] at k1; cases k1)
        have h11 := b10.cell 0
        refine ⟨by simp, .inl ⟨_, _, rfl, run_takeDeferred k1, ?_⟩⟩
        refine ⟨.bool true, ?_, rfl, ?_⟩
        · simp [results, Try.f4, go_sem, h11]
        · exact (t9.fresh u1 (fun g e => by rw [e]; exact HDD.out)).below (Nat.le_refl _) (fun _ f => f.elim)
  · go_wp2_with fail
    refine (alive_any6 _).mono ?_
    rintro e w1 ⟨rfl, ht⟩
    have hb0 := ((Box.new w 3 #[.int .i64 stop]).alloc (.cells #[.bool false] 4)).turn ht (fun f => f)
    have hb1 := (Box.new (w.alloc (.cells #[.int .i64 stop] 3)) 4 #[.bool false]).turn ht (fun f => f)
    rw [World.size_alloc] at hb1
    have HT1 : Hid (Turn (fun _ => False) w w1) := (((Turn.refl _ w).alloc _).alloc _).trans ht (fun _ _ f => f)
    have hc1 := hb1.cell 0; have hf1 := hb1.free 0
    have HB1 := Lib.hid hb1
    clear ht hb1 hb0
    go_wp2
    refine ⟨.bool true, ?_, rfl, ?_⟩
    · have h2 := (HB1.out.set 0 (.bool true)).cell 0
      simp [results, Try.f4, go_sem, h2]
    · exact (HT1.out.setCell (p := ⟨w.heap.size + 1, 0, none⟩) (fun h => absurd h (by simp)) _).below (Nat.le_refl _) (fun _ f => f.elim)

set_option maxRecDepth 100000 in
theorem lifted (os : Os) (started : os.Started) (H : Type) (enc : TypeId × Value → H) :
    ReturnsInHanded {} Try.checked os 4 .any (Rows.omapRangesSpec.pre6 enc Try.prog Try.f4 Rows.omapRangesRow.domain false) (Rows.omapRangesSpec.post enc Try.prog Try.f4 false true false false) := by
  refine returnsInHanded_of_change (C := Try.checked) own started (by kernel_rfl) Try.func4
    (ChangeSpec.witness6 (enc := enc) (C := Try.checked) false ⟨#[], #[.slice none 0 0, .int .i64 0, .int .i64 0, .int .i64 0], []⟩ 8 (by kernel_rfl) (by kernel_rfl) (by kernel_rfl) (by kernel_rfl)) ?_
  intro W base args ds gs before hval0 hW hcnd _
  have hval : ∀ (j : Nat) t v, Try.f4.params[j]? = some t → args[j]? = some v → Value.okWide Try.prog W .any base t v := hval0
  have hW' := hW
  obtain ⟨p, q, hA0, hV, rfl, hfz, hnd⟩ := hW
  have hA : DataW.TrodAll enc Try.prog W 0 (fun _ => true) true Try.f4.params.toList args.toList ds p := hA0
  rw [Try.params4] at hA hval
  obtain ⟨v0, vs0, d0, ds0, p0, q0, hargs, rfl, rfl, h0, r0⟩ := trodAll_cons hA
  obtain ⟨v1, vs1, d1, ds1, p1, q1, rfl, rfl, rfl, h1, r1⟩ := trodAll_cons r0
  obtain ⟨v2, vs2, d2, ds2, p2, q2, rfl, rfl, rfl, h2, r2⟩ := trodAll_cons r1
  obtain ⟨v3, vs3, d3, ds3, p3, q3, rfl, rfl, rfl, h3, r3⟩ := trodAll_cons r2
  obtain ⟨rfl, rfl, rfl⟩ := trodAll_nil r3
  obtain rfl : args = #[v0, v1, v2, v3] := by cases args; simp_all
  obtain ⟨rfl, rfl⟩ := trodVars_none hV
  have k0 := h0
  have lt0 : ∀ x ∈ p0, x.block < W.heap.size := by obtain ⟨m, hm⟩ := k0; exact DataW.trod_lt m _ _ _ hm
  obtain ⟨a0, len0, cap0, rfl⟩ := okWide_slice Try.underlying22 (hval 0 22 v0 rfl rfl)
  obtain ⟨l0, hp0, hl0, hf0⟩ := open_acts rfl h0
  obtain ⟨a1, rfl, rfl, rfl, w1⟩ := open_int Try.underlying2 (hval 1 2 v1 rfl rfl) h1
  obtain ⟨a2, rfl, rfl, rfl, w2⟩ := open_int Try.underlying2 (hval 2 2 v2 rfl rfl) h2
  obtain ⟨a3, rfl, rfl, rfl, w3⟩ := open_int Try.underlying3 (hval 3 3 v3 rfl rfl) h3
  clear hA0 hval0
  refine (walk _ l0 a1 w1 a2 w2 a3 w3 W hp0 hl0).mono fun e W' ⟨he, bel⟩ => ?_
  subst he
  exact ⟨_, rfl, _, _, _, [], _, [], hW', trodAll_mk1 (shut_bool Try.underlying4 _), (trodAll_cons_mk (Below.trod laidOut (by kernel_rfl) (of_decide_eq_true (by kernel_rfl)) k0 bel lt0) (trodAll_cons_mk (shut_int Try.underlying2 w1) (trodAll_cons_mk (shut_int Try.underlying2 w2) (trodAll_cons_mk (shut_int Try.underlying3 w3) trodAll_mk0)))), rfl, bel.frame _, fun h => by cases h⟩

theorem over : Rows.omapRangesRow.holds Try.pinned (OpenSpec.ofChange Rows.omapRangesSpec) :=
  OpenClaim.holds_of_wide 4 Try.f4 rfl rfl rfl rfl rfl rfl rfl ⟨rfl, rfl, rfl, rfl, rfl⟩ rfl rfl rfl rfl rfl (by kernel_rfl) Try.func4 (by kernel_rfl)
    (of_decide_eq_true (by kernel_rfl)) (by unfold Func.isWrapper; first | (rw [if_pos (by decide +kernel)]; kernel_rfl) | (rw [if_neg (by decide +kernel)]; exact ⟨rfl, rfl⟩))
    (fun os started H enc _ => lifted os started H enc)

theorem proved : Rows.OmapRangesSaid := over
#print axioms proved
end Go.Proofs.Ytcepjmkhooahnaa.omapRanges
