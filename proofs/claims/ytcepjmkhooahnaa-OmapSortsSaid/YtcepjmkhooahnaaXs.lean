
/-
  'OmapSorts': texts as keys are told rising, each once, whatever the order in which they come. No condition.
-/
import Derived.Test.YtcepjmkhooahnaaHm
import Derived.ProofKit
import Derived.OpenShut
namespace Go.Proofs.Ytcepjmkhooahnaa.omapSorts
open Go.ChangeShapes Go.WideShapes Go.ChangeAt Go.RowKit
set_option linter.unusedVariables false

theorem own : ownKnob Try.prog.godebug = none := by kernel_rfl
theorem laidOut : laidOutB Try.prog = true := by kernel_rfl

open oms Go.Shelf
attribute [local go_sem] Oper.semAt_some wide_fn

set_option maxRecDepth 100000 in
set_option maxHeartbeats 4000000 in
theorem walk (v : Value) (l : List (List UInt8)) (w : World) (h : RdE ES w v l) (hlen : l.length ≤ maxLen) :
    Calls Try.prog 6 #[v] w fun e w' => e = .returned (.bool true) ∧ Below w.heap.size w w' := by
  have HV := Lib.hid h
  obtain ⟨A, c, rfl⟩ := h.shape
  unfold maxLen at hlen
  clear h
  refine (callsIn_wide (n := 5)).1 ?_
  refine callsIn_of_wp_marks Try.func6 rfl trivial ?_ rfl
  simp only [Try.ntmps6, List.size_toArray, List.length_cons, List.length_nil, Nat.reduceAdd, Nat.reduceSub, Array.replicate_succ, Array.replicate_zero, List.push_toArray, List.append_toArray, List.nil_append, List.cons_append]
  refine wpIn_wide.2 ?_
  by_cases h60 : l.length ≤ 60
  · go_wp2_with (go_at_call 8; refine (alive_any6 _).mono ?_; rintro e w1 ⟨rfl, ht⟩; have hb0 := ((Box.new w 46 #[.slice A l.length c]).alloc (.cells #[.bool false] 4)).turn ht (fun f => f); have hb1 := (Box.new (w.alloc (.cells #[.slice A l.length c] 46)) 4 #[.bool false]).turn ht (fun f => f); rw [World.size_alloc] at hb1; have hc0 := hb0.cell 0; have HT1 := Lib.hid ht; have HB0 := Lib.hid hb0; have HB1 := Lib.hid hb1; clear ht hb1 hb0)
    refine (new_any w1).mono ?_
    rintro e w2 ⟨rfl, hm, ht⟩
    have HM2 := Lib.hid hm; have HT2 := Lib.hid ht
    have hc02 := (HB0.out.turn ht (fun f => f)).cell 0
    clear hm ht hc0
    go_wp2_with fail
    go_loopw [4] (fun x4 wr => ∃ (i : Nat) (L : List (List UInt8 × Int)), x4 = .int .i64 (i : Int) ∧ i ≤ l.length ∧ SortRel l i L ∧ MP wr w1.heap.size L ∧ Turn (fun _ => False) w1 wr) (fun x4 _ => l.length - (intOf x4).toNat)
    case atStart => exact ⟨0, [], rfl, Nat.zero_le _, sort_start l, HM2.out, HT2.out⟩
    case round =>
      obtain ⟨i, L, rfl, hi, hs, hm, ht⟩ := hrel
      have HS := Lib.hid hs; have HM := Lib.hid hm; have HT := Lib.hid ht
      have HT0 : Hid (Turn (fun _ => False) w wr) := (((Turn.refl _ w).alloc _).alloc _).trans (HT1.out.trans ht (fun _ _ f => f)) (fun _ _ f => f)
      have hcr := (HB0.out.turn ht (fun f => f)).cell 0
      have hlL := hs.len
      clear hs hm ht hc02
      by_cases hlt : i < l.length
      · obtain ⟨s, hs⟩ : ∃ s, l[i]? = some s := ⟨_, List.getElem?_eq_getElem hlt⟩
        obtain ⟨ad, rfl, hc⟩ := str_in HV.out hs
        have hce := hc wr HT0.out
        have HP := Lib.hid (put_any s (i : Int) HM.out (by omega))
        have HST := Lib.hid (sort_step HS.out hs)
        clear hc hs
        go_wp2_with (go_at_call 18; refine HP.out.mono ?_; rintro e w5 ⟨rfl, hm, ht⟩; have HM5 := Lib.hid hm; have HT5 := Lib.hid (HT.out.fresh ht (fun k e => by rw [e]; exact Nat.le_refl _)); clear hm ht)
        go_roundw
        case rel => exact ⟨i + 1, _, by go_num, hlt, HST.out, HM5.out, HT5.out⟩
        case measure => simp [intOf]; omega
      · obtain rfl : i = l.length := by omega
        go_wp2_with fail
        obtain ⟨B, hB⟩ : ∃ B : Nat, B = wr.heap.size := ⟨_, rfl⟩
        obtain ⟨wq, hwq⟩ : ∃ wq, wq = (wr.alloc (.cells #[.string ⟨#[]⟩] 9)).alloc (.cells #[.int .i64 0] 3) := ⟨_, rfl⟩
        have HTQ : Hid (Turn (fun _ => False) wr wq) := by rw [hwq]; exact ((Turn.refl _ wr).alloc _).alloc _
        have HBL : Hid (Box wq B 9 #[.string ⟨#[]⟩]) := by rw [hwq, hB]; exact (Box.new wr _ _).alloc _
        have HBN : Hid (Box wq (B + 1) 3 #[.int .i64 0]) := by
          have := Box.new (wr.alloc (.cells #[.string ⟨#[]⟩] 9)) 3 #[.int .i64 0]
          rw [World.size_alloc] at this
          rw [hwq, hB]; exact this
        rw [← hwq, ← hB]
        clear hwq
        refine (all_any (HM.out.later HTQ.out)).mono ?_
        rintro e w5 ⟨q1, q2, rfl, hr⟩
        have HR := Lib.hid hr
        have HTR : Hid (Turn (fun _ => False) wr w5) := HTQ.out.trans hr.turn (fun _ _ f => f)
        have HL5 := Lib.hid (HBL.out.turn hr.turn (fun f => f))
        have HN5 := Lib.hid (HBN.out.turn hr.turn (fun f => f))
        have HTW5 : Hid (Turn (fun _ => False) w w5) := HT0.out.trans HTR.out (fun _ _ f => f)
        obtain ⟨A0, x0, hq1, hq2, -, -⟩ := hr.out
        have hqs1 := hr.new1; have hqs2 := hr.new2; have hqz := HBN.out.lt
        have HQ : Hid (q1 < w5.heap.size ∧ q2 < w5.heap.size ∧ B + 1 < q1 ∧ B + 1 < q2) := ⟨hq1.lt, hq2.lt, by omega, by omega⟩
        have HGL : Hid (w1.heap.size < B) := by obtain ⟨_, _, hb, _⟩ := HM.out.out; rw [hB]; exact hb.lt
        have HSZ : Hid (w.heap.size + 2 ≤ w1.heap.size ∧ B + 1 < w5.heap.size) := ⟨by have := HT1.out.size; simpa using this, HN5.out.lt⟩
        have HFX : Hid (∀ V, Turn (fun k => k = B ∨ k = B + 1) w5 V → Turn (fun _ => False) w V ∧ Box V w.heap.size 46 #[.slice A l.length c] ∧ Box V (w.heap.size + 1) 4 #[.bool false] ∧ MP V w1.heap.size L) := by
          intro V ht
          have h1 := HGL.out; have h2 := HSZ.out.1
          refine ⟨HTW5.out.fresh ht (fun k e => by rcases e with e | e <;> omega), ?_, ?_, ?_⟩
          · exact ((HB0.out.turn HT.out (fun f => f)).turn HTR.out (fun f => f)).turn ht (by omega)
          · exact ((HB1.out.turn HT.out (fun f => f)).turn HTR.out (fun f => f)).turn ht (by omega)
          · refine (HM.out.later HTR.out).turn ht (by omega) (fun i cs hi e => ?_)
            rcases e with e | e
            · exact box_ne hi HL5.out (by decide) e
            · exact box_ne hi HN5.out (by decide) e
        clear hr hq1 hq2 hqs1 hqs2 hqz hcr hB
        unfold RisV
        go_wp2_with fail
        refine (wpIn_wide (n := 5)).1 ?_
        refine' over2 (n := 5) (by omega) (gf := 53) (lb := #[.pointer (some ⟨q1, 0, none⟩), .pointer (some ⟨q2, 0, none⟩)]) rfl (enters_of Try.func53 (by kernel_rfl) rfl)
          (all_feeds 4 HR.out (fun k => k = B ∨ k = B + 1 ∨ k = w5.heap.size + 1) (by have := HQ.out; omega) (by have := HQ.out; omega) ⟨fun g cs hb e => by
            rcases e with e | e | e
            · exact box_ne hb HL5.out (by decide) e
            · exact box_ne hb HN5.out (by decide) e
            · have := hb.lt; omega⟩) (Turn.refl _ _) (Or.inr (Or.inr rfl)) (fun k e => by have := HSZ.out; omega) (fun pre => fun _ _ _ h _ => h) (fun _ => rfl)
          (fun (pre : List (List UInt8 × Int)) V => Box V B 9 #[.string ⟨(lastKey pre).toArray⟩] ∧ Box V (B + 1) 3 #[.int .i64 (pre.length : Nat)] ∧ Turn (fun k => k = B ∨ k = B + 1) w5 V)
          (fun _ _ _ => False) (Holds.and (holds_box _ _ _ (fun (pre : List (List UInt8 × Int)) => #[.string ⟨(lastKey pre).toArray⟩])) (Holds.and (holds_box _ _ _ (fun (pre : List (List UInt8 × Int)) => #[.int .i64 (pre.length : Nat)])) (holds_turn (fun k h1 h2 => by omega)))) (fun _ _ _ _ h _ => h) ⟨HL5.out, HN5.out, Turn.refl _ _⟩ _ ?assign ?body ?done ?stop
        case assign =>
          intro l0 x W K hK
          have HK := Lib.hid hK; clear hK
          gi_wp2
          exact HK.out
        case stop =>
          rintro D c0 pre V _ _ h _
          exact h.elim
        case body =>
          rintro l0 pre y V ⟨hb1, hb2, ht⟩ hgv
          obtain ⟨k, n⟩ := y
          obtain ⟨vn, hvn, hvl, hlv, hno⟩ := HS.out.sound _ (mem_of_pre hgv)
          dsimp only at hvn hlv hno
          subst hvn
          dsimp only
          obtain ⟨tw, bt1, bt2, -⟩ := HFX.out V ht
          obtain ⟨ad, rfl, hc⟩ := str_in HV.out hlv
          have hce := hc V tw
          have c1 := bt1.cell 0
          have cL := hb1.cell 0
          have cN := hb2.cell 0
          have fL := hb1.free 0
          have fN := hb2.free 0
          have hpl : pre.length ≤ l.length := by have h1 := hgv.length_le; rw [List.length_append] at h1; simp at h1; omega
          have HNO := Lib.hid hno; have TW := Lib.hid tw; have HTV := Lib.hid ht; have HB1' := Lib.hid hb1; have HB2' := Lib.hid hb2
          have HLB : Hid (pre ≠ [] → Op.bytesLess (lastKey pre) k = true) := fun h0 => last_below HS.out.up hgv h0
          clear hgv hno tw ht hb1 hb2 bt1 bt2 hc hlv
          by_cases h0 : pre = []
          · subst h0
            gi_wp2_with fail
            gi_loopw [9] (fun x9 wz => ∃ i : Nat, x9 = .int .i64 (i : Int) ∧ vn < i ∧ i ≤ l.length ∧ wz = V) (fun x9 _ => l.length - (intOf x9).toNat)
            case atStart => exact ⟨vn + 1, by go_num, Nat.lt_succ_self _, hvl, rfl⟩
            case round =>
              obtain ⟨i, rfl, hvi, hil, rfl⟩ := hrel
              by_cases hlt2 : i < l.length
              · obtain ⟨t, hti⟩ : ∃ t, l[i]? = some t := ⟨_, List.getElem?_eq_getElem hlt2⟩
                have hne : (t == k) = false := beq_eq_false_iff_ne.2 (HNO.out i hvi hlt2 t hti)
                obtain ⟨ad2, e2, hc2⟩ := str_in HV.out hti
                cases e2
                have hce2 := hc2 _ TW.out
                clear hti hc2
                gi_wp2
                go_roundw
                case rel => exact ⟨i + 1, by go_num, by omega, hlt2, by first | rfl | trivial⟩
                case measure => simp [intOf]; omega
              · gi_wp2
                have e9 : (((([] : List (List UInt8 × Int)) ++ [(k, (vn : Int))] : List (List UInt8 × Int)).length : Nat) : Int) = 1 := by rw [List.length_append]; simp
                refine ⟨(Still.setCell _ _ _).trans (Still.setCell _ _ _), ((Turn.refl _ _).setCell (p := ⟨B, 0, none⟩) (fun _ => .inl rfl) _).setCell (p := ⟨B + 1, 0, none⟩) (fun _ => .inr (.inl rfl)) _, ?_, ?_, (HTV.out.setCell (p := ⟨B, 0, none⟩) (fun _ => .inl rfl) _).setCell (p := ⟨B + 1, 0, none⟩) (fun _ => .inr rfl) _⟩
                · rw [last_snoc]
                  have := (HB1'.out.set 0 (.string ⟨k.toArray⟩)).far (p := ⟨B + 1, 0, none⟩) (by simp) (.int .i64 (1))
                  simpa using this
                · have := (HB2'.out.far (p := ⟨B, 0, none⟩) (by simp) (.string ⟨k.toArray⟩)).set 0 (.int .i64 (1))
                  rw [e9]
                  simpa using this
          · have hpos : 0 < pre.length := List.length_pos_iff.2 h0
            have hl1 := HLB.out h0
            have hl2 : Op.bytesLess k (lastKey pre) = false := not_lt_of rises_bytes hl1
            have hl3 : (k == lastKey pre) = false := beq_eq_false_iff_ne.2 (ne_of_lt rises_bytes hl1)
            have hN0 : Hid (pre ≠ []) := h0
            clear h0
            gi_wp2_with fail
            gi_loopw [9] (fun x9 wz => ∃ i : Nat, x9 = .int .i64 (i : Int) ∧ vn < i ∧ i ≤ l.length ∧ wz = V) (fun x9 _ => l.length - (intOf x9).toNat)
            case atStart => exact ⟨vn + 1, by go_num, Nat.lt_succ_self _, hvl, rfl⟩
            case round =>
              obtain ⟨i, rfl, hvi, hil, rfl⟩ := hrel
              by_cases hlt2 : i < l.length
              · obtain ⟨t, hti⟩ : ∃ t, l[i]? = some t := ⟨_, List.getElem?_eq_getElem hlt2⟩
                have hne : (t == k) = false := beq_eq_false_iff_ne.2 (HNO.out i hvi hlt2 t hti)
                obtain ⟨ad2, e2, hc2⟩ := str_in HV.out hti
                cases e2
                have hce2 := hc2 _ TW.out
                clear hti hc2
                gi_wp2
                go_roundw
                case rel => exact ⟨i + 1, by go_num, by omega, hlt2, by first | rfl | trivial⟩
                case measure => simp [intOf]; omega
              · gi_wp2
                have e9 : (((pre ++ [(k, (vn : Int))] : List (List UInt8 × Int)).length : Nat) : Int) = (pre.length : Int) + 1 := by rw [List.length_append]; simp
                refine ⟨(Still.setCell _ _ _).trans (Still.setCell _ _ _), ((Turn.refl _ _).setCell (p := ⟨B, 0, none⟩) (fun _ => .inl rfl) _).setCell (p := ⟨B + 1, 0, none⟩) (fun _ => .inr (.inl rfl)) _, ?_, ?_, (HTV.out.setCell (p := ⟨B, 0, none⟩) (fun _ => .inl rfl) _).setCell (p := ⟨B + 1, 0, none⟩) (fun _ => .inr rfl) _⟩
                · rw [last_snoc]
                  have := (HB1'.out.set 0 (.string ⟨k.toArray⟩)).far (p := ⟨B + 1, 0, none⟩) (by simp) (.int .i64 ((pre.length : Int) + 1))
                  simpa using this
                · have := (HB2'.out.far (p := ⟨B, 0, none⟩) (by simp) (.string ⟨k.toArray⟩)).set 0 (.int .i64 ((pre.length : Int) + 1))
                  rw [e9]
                  simpa using this
        case done =>
          rintro D xs V hD hA ⟨hb1, hb2, ht⟩ hK
          obtain rfl : xs = L := hA
          obtain ⟨tw, bt1, bt2, hmv⟩ := HFX.out V ht
          have HB2' := Lib.hid hb2; have TW := Lib.hid tw; have BT1 := Lib.hid bt1; have BT2 := Lib.hid bt2; have HMV := Lib.hid hmv; have HKD := Lib.hid hK
          have HDD : Hid (w.heap.size ≤ D) := Nat.le_trans HTW5.out.size hD
          clear hb1 hb2 ht tw bt1 bt2 hmv hK hD
          go_wp2_with fail
          go_loopw [10] (fun x10 wz => ∃ i : Nat, x10 = .int .i64 (i : Int) ∧ i ≤ l.length ∧ Turn (fun _ => False) V wz) (fun x10 _ => l.length - (intOf x10).toNat)
          case atStart => exact ⟨0, rfl, Nat.zero_le _, Turn.refl _ _⟩
          case round =>
            obtain ⟨i, rfl, hil, htz⟩ := hrel
            have HTZ := Lib.hid htz
            have cz := (BT1.out.turn htz (fun f => f)).cell 0
            have cn := (HB2'.out.turn htz (fun f => f)).cell 0
            have HMZ := Lib.hid (HMV.out.later htz)
            clear htz
            by_cases hlt2 : i < l.length
            · obtain ⟨t, hti⟩ : ∃ t, l[i]? = some t := ⟨_, List.getElem?_eq_getElem hlt2⟩
              obtain ⟨ad2, e2, hc2⟩ := str_in HV.out hti
              subst e2
              have hce2 := hc2 _ (TW.out.trans HTZ.out (fun _ _ f => f))
              have hfull := HS.out.full i hlt2 t hti
              rw [has_get] at hfull
              obtain ⟨z, hz⟩ := Option.isSome_iff_exists.1 hfull
              have HG := Lib.hid (get_any t HMZ.out)
              rw [hz] at HG
              clear hti hc2 hfull hz
              unfold getA at HG
              go_wp2_with (go_at_call 20; refine HG.out.mono ?_; rintro e w7 ⟨rfl, ht7⟩; have HT7 := Lib.hid (HTZ.out.trans ht7 (fun _ _ f => f)); clear ht7)
              go_roundw
              case rel => exact ⟨i + 1, by go_num, hlt2, HT7.out⟩
              case measure => simp [intOf]; omega
            · have HLN := Lib.hid (len_any (HMZ.out.later (Turn.refl _ wr).drew))
              have bz2 := (BT2.out.turn HTZ.out (fun f => f)).turn (Turn.refl (fun _ => False) wr).drew (fun f => f)
              have cn2 := (HB2'.out.turn HTZ.out.drew (fun f => f)).cell 0
              have cz2 := bz2.cell 0
              have fz2 := bz2.free 0
              have HBZ := Lib.hid bz2
              clear bz2
              go_wp2_with fail
              have HBF : Hid (Box wr.drew (B + 1) 3 #[.int .i64 (xs.length : Nat)]) := HB2'.out.turn HTZ.out.drew (fun f => f)
              have HNE : Hid (B + 1 ≠ w.heap.size + 1) := by have := HGL.out; have := HSZ.out; show B + 1 ≠ _; omega
              go_region_held3 (fun W => W.cell? ⟨B + 1, 0, none⟩ = some (.int .i64 (xs.length : Int))) (first | exact cn2 | exact (HBF.out.far (p := ⟨w.heap.size + 1, 0, none⟩) HNE.out _).cell 0)
                (first
                  | (go_at_call 21; refine HLN.out.mono ?_; rintro e w7 ⟨rfl, rfl⟩)
                  | fail)
              all_goals go_wp2
              have k1 : ((wr.setCell ⟨w.heap.size + 1, 0, none⟩ (.bool true)).drew).heap[D]? = some (.deferred (some [])) := (KeepsOthers.setCell wr ⟨w.heap.size + 1, 0, none⟩ (.bool true)).same D _ ((KeepsOthers.turned HTZ.out).same D _ HKD.out rfl) rfl
              have b9 : Box ((wr.setCell ⟨w.heap.size + 1, 0, none⟩ (.bool true)).drew) (w.heap.size + 1) 4 #[.bool true] := (BT2.out.turn HTZ.out (fun f => f)).set 0 (.bool true)
              have t9 : Turn (fun _ => False) w ((wr.setCell ⟨w.heap.size + 1, 0, none⟩ (.bool true)).drew) := ((TW.out.trans HTZ.out (fun _ _ f => f)).setCell (p := ⟨w.heap.size + 1, 0, none⟩) (fun h => absurd h (by simp)) _).drew
              generalize (wr.setCell ⟨w.heap.size + 1, 0, none⟩ (.bool true)).drew = w9 at *
              have u1 : Turn (fun g => g = D) w9 (w9.putObj D (.deferred none)) := Turn.putObj _ D _ rfl
              have b10 := b9.turn u1 (fun e => by rw [← e, show w9.heap[w.heap.size + 1]? = _ from b9] at k1; cases k1)
              have h11 := b10.cell 0
              refine ⟨by simp, .inl ⟨_, _, rfl, run_takeDeferred k1, ?_⟩⟩
              refine ⟨.bool true, ?_, rfl, ?_⟩
              · simp [results, Try.f6, go_sem, h11]
              · exact (t9.fresh u1 (fun g e => by rw [e]; exact HDD.out)).below (Nat.le_refl _) (fun _ f => f.elim)
  · go_wp2_with (go_at_call 8; refine (alive_any6 _).mono ?_; rintro e w1 ⟨rfl, ht⟩; have hb0 := ((Box.new w 46 #[.slice A l.length c]).alloc (.cells #[.bool false] 4)).turn ht (fun f => f); have hb1 := (Box.new (w.alloc (.cells #[.slice A l.length c] 46)) 4 #[.bool false]).turn ht (fun f => f); rw [World.size_alloc] at hb1; have hc0 := hb0.cell 0; have hc1 := hb1.cell 0; have hf1 := hb1.free 0; have HT1 := Lib.hid ht; have HB1 := Lib.hid hb1; clear ht hb1 hb0)
    refine ⟨.bool true, ?_, rfl, ?_⟩
    · have h2 := (HB1.out.set 0 (.bool true)).cell 0
      simp [results, Try.f6, go_sem, h2]
    · exact ((((Turn.refl _ w).alloc _).alloc _).trans HT1.out (fun _ _ f => f)).setCell (p := ⟨w.heap.size + 1, 0, none⟩) (fun h => absurd h (by simp)) _ |>.below (Nat.le_refl _) (fun _ f => f.elim)

set_option maxRecDepth 100000 in
theorem lifted (os : Os) (started : os.Started) (H : Type) (enc : TypeId × Value → H) :
    ReturnsInHanded {} Try.checked os 6 .any (Rows.omapSortsSpec.pre6 enc Try.prog Try.f6 Rows.omapSortsRow.domain false) (Rows.omapSortsSpec.post enc Try.prog Try.f6 false true false false) := by
  refine returnsInHanded_of_change (C := Try.checked) own started (by kernel_rfl) Try.func6
    (ChangeSpec.witness6 (enc := enc) (C := Try.checked) false ⟨#[], #[.slice none 0 0], []⟩ 8 (by kernel_rfl) (by kernel_rfl) (by kernel_rfl) (by kernel_rfl)) ?_
  intro W base args ds gs before hval0 hW hcnd _
  have hval : ∀ (j : Nat) t v, Try.f6.params[j]? = some t → args[j]? = some v → Value.okWide Try.prog W .any base t v := hval0
  have hW' := hW
  obtain ⟨p, q, hA0, hV, rfl, hfz, hnd⟩ := hW
  have hA : DataW.TrodAll enc Try.prog W 0 (fun _ => true) true Try.f6.params.toList args.toList ds p := hA0
  rw [Try.params6] at hA hval
  obtain ⟨v0, vs0, d0, ds0, p0, q0, hargs, rfl, rfl, h0, r0⟩ := trodAll_cons hA
  obtain ⟨rfl, rfl, rfl⟩ := trodAll_nil r0
  obtain rfl : args = #[v0] := by cases args; simp_all
  obtain ⟨rfl, rfl⟩ := trodVars_none hV
  have k0 := h0
  have lt0 : ∀ x ∈ p0, x.block < W.heap.size := by obtain ⟨m, hm⟩ := k0; exact DataW.trod_lt m _ _ _ hm
  obtain ⟨a0, len0, cap0, rfl⟩ := okWide_slice Try.underlying46 (hval 0 46 v0 rfl rfl)
  obtain ⟨l0, hp0, hl0, hf0⟩ := open_strs rfl h0
  clear hA0 hval0
  refine (walk _ l0 W hp0 hl0).mono fun e W' ⟨he, bel⟩ => ?_
  subst he
  exact ⟨_, rfl, _, _, _, [], _, [], hW', trodAll_mk1 (shut_bool Try.underlying4 _), (trodAll_cons_mk (Below.trod laidOut (by kernel_rfl) (of_decide_eq_true (by kernel_rfl)) k0 bel lt0) trodAll_mk0), rfl, bel.frame _, fun h => by cases h⟩

theorem over : Rows.omapSortsRow.holds Try.pinned (OpenSpec.ofChange Rows.omapSortsSpec) :=
  OpenClaim.holds_of_wide 6 Try.f6 rfl rfl rfl rfl rfl rfl rfl ⟨rfl, rfl, rfl, rfl, rfl⟩ rfl rfl rfl rfl rfl (by kernel_rfl) Try.func6 (by kernel_rfl)
    (of_decide_eq_true (by kernel_rfl)) (by unfold Func.isWrapper; first | (rw [if_pos (by decide +kernel)]; kernel_rfl) | (rw [if_neg (by decide +kernel)]; exact ⟨rfl, rfl⟩))
    (fun os started H enc _ => lifted os started H enc)

theorem proved : Rows.OmapSortsSaid := over
#print axioms proved
end Go.Proofs.Ytcepjmkhooahnaa.omapSorts
