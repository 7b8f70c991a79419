
/-
  'FrameCuts': of frames that are cut anywhere all come that are whole, in order, and nothing else. No condition.
-/
import Derived.Test.YtjhgbbmghgeeoaaFg
import Derived.Test.YtjhgbbmghgeeoaaFh
import Derived.Test.YtjhgbbmghgeeoaaFn
import Derived.Test.YtjhgbbmghgeeoaaIq
import Derived.Test.YtjhgbbmghgeeoaaBs
namespace Go.Proofs.Ytjhgbbmghgeeoaa.frameCuts
open Go.ChangeShapes Go.WideShapes Go.ChangeAt Go.RowKit Go.Shelf Go.BigFrame
set_option linter.unusedVariables false
attribute [local go_sem] Oper.semAt_some wide_fn

theorem own : ownKnob Try.prog.godebug = none := by kernel_rfl
theorem laidOut : laidOutB Try.prog = true := by kernel_rfl

theorem cut_start (w : World) (L : List (List UInt8)) : CutRel w w.heap.size L (w.alloc (.cells #[.slice none 0 0] 24)) (.slice none 0 0) (.slice none 0 0) 0 :=
  ⟨Nat.zero_le _, (fun p h => by simp at h), ⟨By.nil _, (Turn.refl _ w).alloc _, fun k h => by cases h⟩, Box.new w _ _, Nat.le_refl _, Row.nil _ _, fun k h => by cases h⟩

set_option maxRecDepth 100000 in
set_option maxHeartbeats 2000000 in
theorem walk (v : Value) (L : List (List UInt8)) (k : Int) (w : World) (h : Rds w v L) (hlen : L.length ≤ maxLen) (hlens : ∀ l ∈ L, l.length ≤ maxLen) :
    Calls Try.prog 4 #[v, .int .i64 k] w fun e w' => e = .returned (.bool true) ∧ Below w.heap.size w w' := by
  have HV := Lib.hid h
  obtain ⟨A, c, rfl⟩ := h.shape
  clear h
  unfold maxLen at hlen
  refine (callsIn_wide (n := 5)).1 ?_
  refine callsIn_of_wp_marks Try.func4 rfl trivial ?_ rfl
  simp only [Try.ntmps4, List.size_toArray, List.length_cons, List.length_nil, Nat.reduceAdd, Nat.reduceSub, Array.replicate_succ, Array.replicate_zero, List.push_toArray, List.append_toArray, List.nil_append, List.cons_append]
  refine wpIn_wide.2 ?_
  by_cases h20 : L.length ≤ 20
  · go_wp2_with (go_at_call 5; refine (alive_any3 _).mono ?_; rintro e w1 ⟨rfl, ht⟩; have hb0 := ((Box.new w 25 #[.slice A L.length c]).alloc (.cells #[.bool false] 4)).turn ht (fun f => f); have hb1 := (Box.new (w.alloc (.cells #[.slice A L.length c] 25)) 4 #[.bool false]).turn ht (fun f => f); rw [World.size_alloc] at hb1; have hc0 := hb0.cell 0; have HT1 := Lib.hid ht; have HB0 := Lib.hid hb0; have HB1 := Lib.hid hb1; clear ht hb1 hb0)
    go_loopw [5, 7] (fun x5 x7 wr => ∃ (i : Nat) (ve : Value), x7 = .int .i64 (i : Int) ∧ CutRel w1 w1.heap.size L wr x5 ve i) (fun _ x7 _ => L.length - (intOf x7).toNat)
    case atStart => exact ⟨0, _, rfl, cut_start w1 L⟩
    case round =>
      obtain ⟨i, ve, rfl, hr⟩ := hrel
      have HR := Lib.hid hr
      have hil := hr.hi
      obtain ⟨j, hj⟩ : ∃ j, j = joined (L.take i) := ⟨_, rfl⟩
      have hjl : j.length ≤ 3000 := by
        rw [hj, joined_len]
        have h1 := total_small (L.take i) hr.hs
        rw [List.length_take] at h1
        omega
      obtain ⟨A5, c5, h5⟩ := hr.ha.1.shape
      rw [← hj] at h5
      subst h5
      obtain ⟨A6, c6, h6⟩ := hr.re.shape
      rw [List.length_map, endsOf_len, List.length_take, Nat.min_eq_left hil] at h6
      subst h6
      have HJ := Lib.hid hj; clear hj
      have hc0' := (HB0.out.turn hr.ha.2.1 (fun f => f)).cell 0
      have hc1' := (HB1.out.turn hr.ha.2.1 (fun f => f)).cell 0
      have hf1' := (HB1.out.turn hr.ha.2.1 (fun f => f)).free 0
      have HTW : Hid (Turn (fun _ => False) w wr) := (((((Turn.refl _ w).alloc _).alloc _).trans HT1.out (fun _ _ f => f)).trans hr.ha.2.1 (fun _ _ f => f))
      clear hr hc0
      by_cases hlt : i < L.length
      · obtain ⟨p, hp⟩ : ∃ p, L[i]? = some p := ⟨_, List.getElem?_eq_getElem hlt⟩
        obtain ⟨ad, Ap, cp, rfl, hcp, hrp⟩ := (HV.out.later HTW.out).at hp
        have HP := Lib.hid hp; have HRP := Lib.hid hrp; clear hp hrp
        by_cases h100 : p.length ≤ 100
        · have hfl : (fr p).length ≤ 114 := by rw [fr_len]; have := enc_ten p.length; unfold sz; omega
          go_wp2_with (first
            | (go_at_call 10; refine (frame_put _ p wr HRP.out (by omega)).mono ?_; rintro e w2 ⟨u, rfl, hm⟩; obtain ⟨Au, cu, hu⟩ := hm.1.shape; subst hu; have HM := Lib.hid hm; clear hm)
            | (at_builtin; go_must (refine wpList_app (o := ⟨some 36, _, _, _, _, _⟩) _ rfl (.tmp 30) (.tmp 35) 22 rfl _ j rfl (by have h := HR.out.ha.1.turn HM.out.2.1 (fun _ _ f => f); rw [← HJ.out] at h; exact h) _ rfl (fr p) HM.out.1.yields (by omega) ?_)))
          intro A7 n7 c7 w3 hb7 hg7 ha7
          have HE7 : Hid (n7 = total (L.take (i + 1))) := by
            have h1 := hb7.cap.1
            rw [HJ.out, ← joined_more HP.out, joined_len] at h1
            exact h1
          have hn7 : n7 ≤ 4000 := by have h1 := hb7.cap.1; rw [List.length_append] at h1; omega
          have HB7 := Lib.hid hb7; have HG7 := Lib.hid hg7; have HA7 := Lib.hid ha7
          clear hb7 hg7 ha7
          have hc6' : w3.cell? ⟨w1.heap.size, 0, none⟩ = some (.slice A6 i c6) := by
            have hb := HR.out.hb.turn HM.out.2.1 (fun f => f)
            have hx := HR.out.ha.1.turn HM.out.2.1 (fun _ _ f => f)
            exact (hb.grown HG7.out (fun e => (hx.row.not_box hb (by decide)) e.symm)).cell 0
          go_wp2_with (at_builtin; go_must (refine wpList_push (o := ⟨some 41, _, _, _, _, _⟩) rfl (.tmp 37) (.tmp 40) 24 3 Try.underlying24 int_info rfl (by decide) rfl _ ((endsOf (L.take i)).map nv) rfl (cut_row HR.out HM.out.2.1 HG7.out _).1 w3.heap.size (nv n7) rfl ((Box.new w3 _ _).cell 0) rfl (by rw [List.length_map, endsOf_len, List.length_take]; omega) ?_))
          intro A8 n8 c8 w4 r8 g8 a8
          have hb8 := cut_box HR.out HM.out.2.1 HG7.out g8
          have hc8 := hb8.cell 0
          have hf8 := hb8.free 0
          have HN := Lib.hid (cut_next HR.out HP.out h100 HM.out.2.1 (by have h := HB7.out; rw [HJ.out] at h; exact h) HG7.out HA7.out (by rw [← HE7.out]; exact r8) g8 a8).1
          clear r8 g8 a8 hb8
          go_wp2
          go_roundw
          case rel => exact ⟨i + 1, _, by go_num, HN.out⟩
          case measure => simp [intOf]; omega
        · have h101 : 100 < p.length := by omega
          clear h100
          go_wp2
          refine ⟨.bool true, ?_, rfl, ?_⟩
          · have h2 := ((HB1.out.turn HR.out.ha.2.1 (fun f => f)).set 0 (.bool true)).cell 0
            simp [results, Try.f4, go_sem, h2]
          · exact (HTW.out.setCell (p := ⟨w.heap.size + 1, 0, none⟩) (fun h => absurd h (by simp)) _).below (Nat.le_refl _) (fun _ f => f.elim)
      · obtain rfl : i = L.length := by omega
        have hre := HR.out.re
        have hLs := HR.out.hs
        have hcap := HR.out.ha.1.cap
        have HBY := Lib.hid HR.out.ha.1
        rw [List.take_length] at hre hLs HJ
        have HRE := Lib.hid hre.nums; have HLS := Lib.hid hLs
        clear hre hLs hlt hil
        have hcm : c5 ≤ 9223372036854775807 := by have := hcap.2.2.1; unfold maxLen at this; omega
        have hcl : j.length ≤ c5 := by
          have h1 := HR.out.ha.1
          rw [List.take_length, ← HJ.out] at h1
          exact h1.cap.2.1
        clear hcap
        by_cases hk : 0 ≤ k ∧ k ≤ (j.length : Int)
        · obtain ⟨hk0, hk1⟩ := hk
          obtain ⟨e, rfl⟩ := Int.eq_ofNat_of_zero_le hk0
          obtain ⟨m, hm⟩ : ∃ m, j.length = m + e := ⟨j.length - e, by omega⟩
          have HRD : Hid (Rd wr (.slice A5 m c5) (j.take m)) := by
            have h1 := HBY.out.rd
            rw [List.take_length, ← HJ.out] at h1
            exact h1.front m (by omega)
          have HMJ : Hid ((j.take m).length = m) := by show _ = _; rw [List.length_take]; omega
          rw [hm] at hcl hjl ⊢
          clear hk0 hk1 hm
          go_wp2_with (go_at_call 8; refine (each_any _ (j.take m) _ (HRD.out.later (((Turn.refl _ wr).alloc _).alloc _)) (by rw [HMJ.out]; omega)).mono ?_; rintro e1 w5 ⟨q, u, rfl, hq, hu, ht, hqs, hus⟩; have HQ := Lib.hid hq; have HU := Lib.hid hu; have HT5 := Lib.hid ht; have HQS := Lib.hid hqs; have HUS := Lib.hid hus; clear hq hu ht hqs hus)
          have hsz : wr.heap.size + 2 ≤ w5.heap.size := by have := HT5.out.size; simpa using this
          have HSZ := Lib.hid hsz
          clear hsz
          have HNE : Hid (w.heap.size + 2 ≤ w1.heap.size ∧ w1.heap.size + 1 ≤ wr.heap.size) := by
            have h1 : w.heap.size + 2 ≤ w1.heap.size := by have := HT1.out.size; simpa using this
            have h2 := HR.out.hb.lt
            exact ⟨h1, h2⟩
          have HFX : Hid (∀ W, Turn (fun g => g = wr.heap.size + 1) w5 W → Turn (fun g => wr.heap.size ≤ g) wr W ∧ Box W wr.heap.size 22 #[.slice A5 m c5]) := by
            intro W ht
            exact ⟨((((Turn.refl _ wr).alloc _).alloc _).trans HT5.out (fun _ _ f => f)).none.trans ht (fun g _ e => by rw [e]; omega), (((Box.new wr _ _).alloc _).turn HT5.out (fun f => f)).turn ht (by omega)⟩
          have HALL : Hid (allOf (j.take m) = laid 0 (upto m L)) := by
            show _ = _
            rw [HJ.out]
            exact allOf_cut HLS.out m
          have HB6 := Lib.hid HR.out.hb
          have HBX0 := Lib.hid (HB0.out.turn HR.out.ha.2.1 (fun f => f))
          have HBX1 := Lib.hid (HB1.out.turn HR.out.ha.2.1 (fun f => f))
          have HRDS := Lib.hid (HV.out.later HTW.out)
          refine (wpIn_wide (n := 5)).1 ?_
          refine' over (n := 5) (by omega) (gf := 15) (lb := #[.pointer (some ⟨q, 0, none⟩)]) rfl (enters_of Try.func15 (by kernel_rfl) rfl)
            (frames_give 4 (by omega) q u (j.take m) w5 HQ.out HU.out.rd (by rw [HMJ.out]; omega) (fun g => g = wr.heap.size + 1 ∨ w5.heap.size ≤ g) ?hq ?hu) (Turn.refl _ _) (fun k h => .inr h) (fun pre => frGv_holds _ (j.take m) pre) (fun _ => rfl)
            (fun (pre : List Fr) W => Box W (wr.heap.size + 1) 3 #[.int .i64 (pre.length : Nat)] ∧ Turn (fun g => g = wr.heap.size + 1) w5 W)
            (fun _ _ _ => False)
            (Holds.and (holds_box _ _ _ (fun (pre : List Fr) => #[.int .i64 (pre.length : Nat)])) (holds_turn (fun k h1 h2 => by have := HSZ.out; omega)))
            (fun _ _ _ _ h _ => h) ?h0 _ ?assign ?body ?done ?stop
          case hq =>
            have h1 : wr.heap.size + 2 ≤ q := by have := HQS.out; simpa using this
            have h2 := HQ.out.lt
            omega
          case hu =>
            intro g hk
            have h1 : wr.heap.size + 2 ≤ g := by have := HUS.out g hk; simpa using this
            have h2 := HU.out.lt hk
            omega
          case h0 =>
            have h := Box.new (wr.alloc (.cells #[.slice A5 m c5] 22)) 3 #[.int .i64 0]
            rw [World.size_alloc] at h
            exact ⟨h.turn HT5.out (fun f => f), Turn.refl _ _⟩
          case assign =>
            intro l0 x W K hK
            have HK := Lib.hid hK; clear hK
            gi_wp2
            exact HK.out
          case body =>
            rintro l0 pre x W ⟨hb, ht⟩ hgv
            obtain ⟨hr, hpre⟩ := hgv
            obtain ⟨⟨i, p⟩, ⟨Au, cu⟩⟩ := x
            dsimp only at hr
            rw [HALL.out, List.map_append] at hpre
            obtain ⟨hLn, hnL, hE⟩ := cut_one hpre
            rw [List.length_map] at hLn hnL hE
            obtain ⟨tb, b8⟩ := HFX.out W ht
            obtain ⟨n, hn⟩ : ∃ n, n = pre.length := ⟨_, rfl⟩
            rw [← hn] at hLn hnL hE hb
            obtain ⟨E, hEE⟩ : ∃ E, E = total (L.take (n + 1)) := ⟨_, rfl⟩
            rw [← hEE] at hE
            have hei : (endsOf L)[n]? = some E := by rw [hEE]; exact endsOf_at hnL
            obtain ⟨ad6, rfl, hce⟩ := (HRE.out.below tb (Nat.le_refl _)).at hei
            obtain ⟨ad0, Ap, cp, rfl, hcp, hrp⟩ := (HRDS.out.below tb (Nat.le_refl _)).at hLn
            have x0 := HBX0.out.turn tb (by have := HBX0.out.lt; omega)
            have x6 := HB6.out.turn tb (by have := HB6.out.lt; omega)
            have c0 := x0.cell 0
            have c6 := x6.cell 0
            have c8 := b8.cell 0
            have c9 := hb.cell 0
            have f9 := hb.free 0
            have hd1 : decide (L.length ≤ n) = false := decide_eq_false (by omega)
            have hd2 : decide (m < E) = false := decide_eq_false (by omega)
            have HR1 := Lib.hid hr; have HRP := Lib.hid hrp; have HB9 := Lib.hid hb; have HT9 := Lib.hid ht; have HN := Lib.hid hn
            clear hr hrp hb ht hn hpre hLn x0 x6 b8 tb hei hEE
            gi_wp2
            refine quiet_region (by kernel_rfl) (by kernel_rfl) (by kernel_rfl) ?_
            repeat (gi_big_quiet_step ((gi_at_call 9; exact quiet_same (same_any _ _ p p _ (HR1.out.drewN _) (HRP.out.drewN _)))))
            refine wpQuietIn_nil ?_
            intro _ hw'
            obtain ⟨nq, hw''⟩ := hw'
            subst hw''
            gi_wp2
            refine ⟨(KeepsOthers.turned ((Turn.refl (fun _ => False) W).drewN nq)).trans (KeepsOthers.setCell _ _ _), ((Turn.refl _ W).drewN nq).setCell (p := ⟨wr.heap.size + 1, 0, none⟩) (fun _ => .inl rfl) _, ?_, (HT9.out.drewN nq).setCell (p := ⟨wr.heap.size + 1, 0, none⟩) (fun _ => rfl) _⟩
            have h9 := (HB9.out.turn ((Turn.refl (fun _ => False) W).drewN nq) (fun f => f)).set 0 (.int .i64 ((n : Int) + 1))
            have e9 : (((pre ++ [((i, p), (Au, cu))] : List Fr).length : Nat) : Int) = (n : Int) + 1 := by rw [HN.out, List.length_append]; simp
            rw [e9]
            simpa using h9
          case done =>
            rintro D xs W hD hA ⟨hb, ht⟩ hK
            obtain ⟨N, hN⟩ : ∃ N, N = (upto m L).length := ⟨_, rfl⟩
            have hxs : xs.length = N := by
              have h1 : xs.map (·.1) = allOf (j.take m) := hA
              rw [hN, ← laid_len 0 (upto m L), ← HALL.out, ← h1, List.length_map]
            rw [hxs] at hb
            have HEND : Hid (endOf 0 (allOf (j.take m)) = total (upto m L)) := by
              show _ = _
              rw [HALL.out, laid_end]
              omega
            obtain ⟨T, hT⟩ : ∃ T, T = total (upto m L) := ⟨_, rfl⟩
            have HTT : Hid (T = total (L.take N)) := by rw [hT, hN, cut_take]; trivial
            rw [← hT] at HEND
            have hNL : N ≤ L.length := by rw [hN]; exact (upto_prefix m L).length_le
            have HBY2 : Hid (N < L.length → m < total (L.take (N + 1))) := by rw [hN]; exact cut_beyond
            clear hT hN hxs hA
            obtain ⟨tb, b8⟩ := HFX.out W ht
            have x0 := HBX0.out.turn tb (by have := HBX0.out.lt; omega)
            have x1 := HBX1.out.turn tb (by have := HBX1.out.lt; omega)
            have x6 := HB6.out.turn tb (by have := HB6.out.lt; omega)
            have HNU := Lib.hid (HRE.out.below tb (Nat.le_refl _))
            have HRW := Lib.hid (HRD.out.below tb (Nat.le_refl _))
            have HTW2 : Hid (Turn (fun _ => False) w W) := HTW.out.fresh tb (fun g h => by have := HNE.out; omega)
            have c0 := x0.cell 0
            have c6 := x6.cell 0
            have c8 := b8.cell 0
            have c9 := hb.cell 0
            have HX1 := Lib.hid x1
            have HKD := Lib.hid hK
            have HDD : Hid (w.heap.size ≤ D) := by have := HSZ.out; have := HNE.out; show w.heap.size ≤ D; omega
            clear hK x0 x1 x6 b8 hb tb ht hD
            have HEA : Hid (∀ i : Nat, i < L.length → (endsOf L)[i]? = some (total (L.take (i + 1)))) := fun i hi => endsOf_at hi
            obtain ⟨nL, hnL⟩ : ∃ nL, nL = L.length := ⟨_, rfl⟩
            rw [← hnL] at c0 c6 h20 hNL HBY2 HNU HEA ⊢
            have HNL := Lib.hid hnL
            clear hnL
            by_cases hlt : N < nL
            · obtain ⟨E, hE⟩ : ∃ E, E = total (L.take (N + 1)) := ⟨_, rfl⟩
              have hme : m < E := by rw [hE]; exact HBY2.out hlt
              obtain ⟨ad6, rfl, hce⟩ := HNU.out.at (k := N) (x := E) (by rw [hE]; exact HEA.out _ hlt)
              have hd1 : decide (N < nL) = true := decide_eq_true hlt
              have hd2 : decide (E ≤ m) = false := decide_eq_false (by omega)
              clear hE
              rcases Nat.eq_zero_or_pos N with hN0 | hN0
              · subst hN0
                obtain rfl : T = 0 := HTT.out
                have hce0 : W.cell? ad6 = some (.int .i64 (E : Int)) := by simpa [Addr.add] using hce
                go_wp2
                go_quiet (fail)
                go_wp2_with (go_at_call 7; refine (whole_any _ (j.take m) _ (HRW.out.drewN _) (by rw [HMJ.out]; omega)).mono ?_; rintro e7 w7 ⟨rfl, ht7⟩; rw [HEND.out]; have hb7 := (HX1.out.turn ((Turn.refl (fun _ => False) W).drewN _) (fun f => f)).turn ht7 (fun f => f); have hc7 := hb7.cell 0; have hf7 := hb7.free 0; have HB7 := Lib.hid hb7; have HT7 := Lib.hid (((Turn.refl (fun _ => False) W).drewN _).trans ht7 (fun _ _ f => f)); clear ht7 hb7)
                have hk7 := (KeepsOthers.turned HT7.out).same D _ HKD.out rfl
                have hK' := (KeepsOthers.setCell w7 ⟨w.heap.size + 1, 0, none⟩ (.bool true)).same D _ hk7 rfl
                have h9 := cell_kept ((HB7.out.set 0 (.bool true)).cell 0) (grownBy_putObj' _ D (.deferred none)) (fun r e => by cases e; exact ⟨_, hK', rfl⟩)
                have HT9 : Turn (fun _ => False) w ((w7.setCell ⟨w.heap.size + 1, 0, none⟩ (.bool true)).putObj D (.deferred none)) :=
                  ((HTW2.out.trans HT7.out (fun _ _ f => f)).setCell (p := ⟨w.heap.size + 1, 0, none⟩) (fun h => absurd h (by simp)) _).fresh (Turn.putObj _ D _ (S := fun g => g = D) rfl) (fun g e => by rw [e]; exact HDD.out)
                refine ⟨by simp, .inl ⟨_, _, rfl, run_takeDeferred hK', ?_⟩⟩
                refine ⟨.bool true, ?_, rfl, HT9.below (Nat.le_refl _) (fun _ f => f.elim)⟩
                simp [results, Try.f4, go_sem, h9]
              · obtain ⟨ad6', e6, hcT⟩ := HNU.out.at (k := N - 1) (x := T) (by rw [HTT.out, HEA.out _ (by omega), Nat.sub_add_cancel hN0])
                cases e6
                go_wp2
                go_quiet (fail)
                go_wp2_with (go_at_call 7; refine (whole_any _ (j.take m) _ (HRW.out.drewN _) (by rw [HMJ.out]; omega)).mono ?_; rintro e7 w7 ⟨rfl, ht7⟩; rw [HEND.out]; have hb7 := (HX1.out.turn ((Turn.refl (fun _ => False) W).drewN _) (fun f => f)).turn ht7 (fun f => f); have hc7 := hb7.cell 0; have hf7 := hb7.free 0; have HB7 := Lib.hid hb7; have HT7 := Lib.hid (((Turn.refl (fun _ => False) W).drewN _).trans ht7 (fun _ _ f => f)); clear ht7 hb7)
                have hk7 := (KeepsOthers.turned HT7.out).same D _ HKD.out rfl
                have hK' := (KeepsOthers.setCell w7 ⟨w.heap.size + 1, 0, none⟩ (.bool true)).same D _ hk7 rfl
                have h9 := cell_kept ((HB7.out.set 0 (.bool true)).cell 0) (grownBy_putObj' _ D (.deferred none)) (fun r e => by cases e; exact ⟨_, hK', rfl⟩)
                have HT9 : Turn (fun _ => False) w ((w7.setCell ⟨w.heap.size + 1, 0, none⟩ (.bool true)).putObj D (.deferred none)) :=
                  ((HTW2.out.trans HT7.out (fun _ _ f => f)).setCell (p := ⟨w.heap.size + 1, 0, none⟩) (fun h => absurd h (by simp)) _).fresh (Turn.putObj _ D _ (S := fun g => g = D) rfl) (fun g e => by rw [e]; exact HDD.out)
                refine ⟨by simp, .inl ⟨_, _, rfl, run_takeDeferred hK', ?_⟩⟩
                refine ⟨.bool true, ?_, rfl, HT9.below (Nat.le_refl _) (fun _ f => f.elim)⟩
                simp [results, Try.f4, go_sem, h9]
            · obtain rfl : N = nL := by omega
              have hd1 : decide (N < N) = false := decide_eq_false (by omega)
              rcases Nat.eq_zero_or_pos N with hN0 | hN0
              · subst hN0
                obtain rfl : T = 0 := HTT.out
                go_wp2
                go_quiet (fail)
                go_wp2_with (go_at_call 7; refine (whole_any _ (j.take m) _ (HRW.out.drewN _) (by rw [HMJ.out]; omega)).mono ?_; rintro e7 w7 ⟨rfl, ht7⟩; rw [HEND.out]; have hb7 := (HX1.out.turn ((Turn.refl (fun _ => False) W).drewN _) (fun f => f)).turn ht7 (fun f => f); have hc7 := hb7.cell 0; have hf7 := hb7.free 0; have HB7 := Lib.hid hb7; have HT7 := Lib.hid (((Turn.refl (fun _ => False) W).drewN _).trans ht7 (fun _ _ f => f)); clear ht7 hb7)
                have hk7 := (KeepsOthers.turned HT7.out).same D _ HKD.out rfl
                have hK' := (KeepsOthers.setCell w7 ⟨w.heap.size + 1, 0, none⟩ (.bool true)).same D _ hk7 rfl
                have h9 := cell_kept ((HB7.out.set 0 (.bool true)).cell 0) (grownBy_putObj' _ D (.deferred none)) (fun r e => by cases e; exact ⟨_, hK', rfl⟩)
                have HT9 : Turn (fun _ => False) w ((w7.setCell ⟨w.heap.size + 1, 0, none⟩ (.bool true)).putObj D (.deferred none)) :=
                  ((HTW2.out.trans HT7.out (fun _ _ f => f)).setCell (p := ⟨w.heap.size + 1, 0, none⟩) (fun h => absurd h (by simp)) _).fresh (Turn.putObj _ D _ (S := fun g => g = D) rfl) (fun g e => by rw [e]; exact HDD.out)
                refine ⟨by simp, .inl ⟨_, _, rfl, run_takeDeferred hK', ?_⟩⟩
                refine ⟨.bool true, ?_, rfl, HT9.below (Nat.le_refl _) (fun _ f => f.elim)⟩
                simp [results, Try.f4, go_sem, h9]
              · obtain ⟨N', rfl⟩ : ∃ N', N = N' + 1 := ⟨N - 1, by omega⟩
                obtain ⟨ad6', e6, hcT⟩ := HNU.out.at (k := N') (x := T) (by rw [HTT.out]; exact HEA.out _ (by omega))
                subst e6
                have hd3 : (0 : Int) < (N' : Int) + 1 := by omega
                go_wp2
                go_quiet (fail)
                go_wp2_with (go_at_call 7; refine (whole_any _ (j.take m) _ (HRW.out.drewN _) (by rw [HMJ.out]; omega)).mono ?_; rintro e7 w7 ⟨rfl, ht7⟩; rw [HEND.out]; have hb7 := (HX1.out.turn ((Turn.refl (fun _ => False) W).drewN _) (fun f => f)).turn ht7 (fun f => f); have hc7 := hb7.cell 0; have hf7 := hb7.free 0; have HB7 := Lib.hid hb7; have HT7 := Lib.hid (((Turn.refl (fun _ => False) W).drewN _).trans ht7 (fun _ _ f => f)); clear ht7 hb7)
                have hk7 := (KeepsOthers.turned HT7.out).same D _ HKD.out rfl
                have hK' := (KeepsOthers.setCell w7 ⟨w.heap.size + 1, 0, none⟩ (.bool true)).same D _ hk7 rfl
                have h9 := cell_kept ((HB7.out.set 0 (.bool true)).cell 0) (grownBy_putObj' _ D (.deferred none)) (fun r e => by cases e; exact ⟨_, hK', rfl⟩)
                have HT9 : Turn (fun _ => False) w ((w7.setCell ⟨w.heap.size + 1, 0, none⟩ (.bool true)).putObj D (.deferred none)) :=
                  ((HTW2.out.trans HT7.out (fun _ _ f => f)).setCell (p := ⟨w.heap.size + 1, 0, none⟩) (fun h => absurd h (by simp)) _).fresh (Turn.putObj _ D _ (S := fun g => g = D) rfl) (fun g e => by rw [e]; exact HDD.out)
                refine ⟨by simp, .inl ⟨_, _, rfl, run_takeDeferred hK', ?_⟩⟩
                refine ⟨.bool true, ?_, rfl, HT9.below (Nat.le_refl _) (fun _ f => f.elim)⟩
                simp [results, Try.f4, go_sem, h9]
          case stop =>
            rintro D c0 pre W _ _ h _
            exact h.elim
        · have hk' : k < 0 ∨ (j.length : Int) < k := by omega
          clear hk
          rcases hk' with hk | hk
          all_goals
            go_wp2
            refine ⟨.bool true, ?_, rfl, ?_⟩
            · have h2 := ((HB1.out.turn HR.out.ha.2.1 (fun f => f)).set 0 (.bool true)).cell 0
              simp [results, Try.f4, go_sem, h2]
            · exact (HTW.out.setCell (p := ⟨w.heap.size + 1, 0, none⟩) (fun h => absurd h (by simp)) _).below (Nat.le_refl _) (fun _ f => f.elim)
  · have h21 : 20 < L.length := by omega
    clear h20
    go_wp2_with (go_at_call 5; refine (alive_any3 _).mono ?_; rintro e w1 ⟨rfl, ht⟩; have hb0 := ((Box.new w 25 #[.slice A L.length c]).alloc (.cells #[.bool false] 4)).turn ht (fun f => f); have hb1 := (Box.new (w.alloc (.cells #[.slice A L.length c] 25)) 4 #[.bool false]).turn ht (fun f => f); rw [World.size_alloc] at hb1; have hc0 := hb0.cell 0; have hc1 := hb1.cell 0; have hf1 := hb1.free 0; have HT1 := Lib.hid ht; have HB1 := Lib.hid hb1; clear ht hb1 hb0)
    refine ⟨.bool true, ?_, rfl, ?_⟩
    · have h2 := (HB1.out.set 0 (.bool true)).cell 0
      simp [results, Try.f4, go_sem, h2]
    · exact (((((Turn.refl _ w).alloc _).alloc _).trans HT1.out (fun _ _ f => f)).setCell (p := ⟨w.heap.size + 1, 0, none⟩) (fun h => absurd h (by simp)) _).below (Nat.le_refl _) (fun _ f => f.elim)

set_option maxRecDepth 100000 in
theorem lifted (os : Os) (started : os.Started) (H : Type) (enc : TypeId × Value → H) :
    ReturnsInHanded {} Try.checked os 4 .any (Rows.frameCutsSpec.pre6 enc Try.prog Try.f4 Rows.frameCutsRow.domain false) (Rows.frameCutsSpec.post enc Try.prog Try.f4 false true false false) := by
  refine returnsInHanded_of_change (C := Try.checked) own started (by kernel_rfl) Try.func4
    (ChangeSpec.witness6 (enc := enc) (C := Try.checked) false ⟨#[], #[.slice none 0 0, .int .i64 0], []⟩ 8 (by kernel_rfl) (by kernel_rfl) (by kernel_rfl) (by kernel_rfl)) ?_
  intro W base args ds gs before hval0 hW hcnd _
  have hval : ∀ (j : Nat) t v, Try.f4.params[j]? = some t → args[j]? = some v → Value.okWide Try.prog W .any base t v := hval0
  have hW' := hW
  obtain ⟨p, q, hA0, hV, rfl, hfz, hnd⟩ := hW
  have hA : DataW.TrodAll enc Try.prog W 0 (fun _ => true) true Try.f4.params.toList args.toList ds p := hA0
  rw [Try.params4] at hA hval
  obtain ⟨v0, vs0, d0, ds0, p0, q0, hargs, rfl, rfl, h0, r0⟩ := trodAll_cons hA
  obtain ⟨v1, vs1, d1, ds1, p1, q1, rfl, rfl, rfl, h1, r1⟩ := trodAll_cons r0
  obtain ⟨rfl, rfl, rfl⟩ := trodAll_nil r1
  obtain rfl : args = #[v0, v1] := by cases args; simp_all
  obtain ⟨rfl, rfl⟩ := trodVars_none hV
  have k0 := h0
  have lt0 : ∀ x ∈ p0, x.block < W.heap.size := by obtain ⟨m, hm⟩ := k0; exact DataW.trod_lt m _ _ _ hm
  obtain ⟨a0, len0, cap0, rfl⟩ := okWide_slice Try.underlying25 (hval 0 25 v0 rfl rfl)
  obtain ⟨l0, hp0, hl0, hm0⟩ := open_rows rfl h0
  obtain ⟨a1, rfl, rfl, rfl, w1⟩ := open_int Try.underlying3 (hval 1 3 v1 rfl rfl) h1
  clear hA0 hval0
  refine (walk _ l0 a1 W hp0 hl0 hm0).mono fun e W' ⟨he, bel⟩ => ?_
  subst he
  exact ⟨_, rfl, _, _, _, [], _, [], hW', trodAll_mk1 (shut_bool Try.underlying4 _), (trodAll_cons_mk (Below.trod laidOut (by kernel_rfl) (of_decide_eq_true (by kernel_rfl)) k0 bel lt0) (trodAll_cons_mk (shut_int Try.underlying3 w1) trodAll_mk0)), rfl, bel.frame _, fun h => by cases h⟩

theorem over : Rows.frameCutsRow.holds Try.pinned (OpenSpec.ofChange Rows.frameCutsSpec) :=
  OpenClaim.holds_of_wide 4 Try.f4 rfl rfl rfl rfl rfl rfl rfl ⟨rfl, rfl, rfl, rfl, rfl⟩ rfl rfl rfl rfl rfl (by kernel_rfl) Try.func4 (by kernel_rfl)
    (of_decide_eq_true (by kernel_rfl)) (by unfold Func.isWrapper; first | (rw [if_pos (by decide +kernel)]; kernel_rfl) | (rw [if_neg (by decide +kernel)]; exact ⟨rfl, rfl⟩))
    (fun os started H enc _ => lifted os started H enc)

theorem proved : Rows.FrameCutsSaid := over
#print axioms proved
end Go.Proofs.Ytjhgbbmghgeeoaa.frameCuts
