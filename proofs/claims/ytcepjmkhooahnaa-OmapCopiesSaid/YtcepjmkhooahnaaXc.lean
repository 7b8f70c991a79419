
/-
  'OmapCopies': all keys of a map and of its copy, behind any acts, and that the copy stays as it is when the map is changed. No condition.
-/
import Derived.Test.YtcepjmkhooahnaaHn
import Derived.Test.YtcepjmkhooahnaaHl
import Derived.ProofKit
import Derived.OpenShut
namespace Go.Proofs.Ytcepjmkhooahnaa.omapCopies
open Go.ChangeShapes Go.WideShapes Go.ChangeAt Go.RowKit
set_option linter.unusedVariables false

theorem own : ownKnob Try.prog.godebug = none := by kernel_rfl
theorem laidOut : laidOutB Try.prog = true := by kernel_rfl

open omi Go.Shelf
attribute [local go_sem] Oper.semAt_some wide_fn

/-- The maps behind i acts more, since w4. -/
structure More (w1 w4 : World) (g1 g2 n i : Nat) (W : World) : Prop where
  out : ∃ (M : List (Int × List UInt8)) (sv : Value), Two W g1 g2 sv M ∧ M.length ≤ n + i ∧ ∀ j, sv.ownBlock = some j → w1.heap.size ≤ j
  turn : Turn (fun j => j = g1 ∨ j = g2) w4 W
theorem More.step {w1 w4 W W' : World} {g1 g2 n i : Nat} {L : List (Int × List UInt8)} {sv : Value} (h : More w1 w4 g1 g2 n i W) (hl : L.length ≤ n + i) (hn : ∀ j, sv.ownBlock = some j → w1.heap.size ≤ j) (h14 : w1.heap.size ≤ w4.heap.size) (ha : Acted W W' g1 g2 sv L.length) : More w1 w4 g1 g2 n (i + 1) W' := by
  obtain ⟨M, sv', h3, h4, h5⟩ := ha.out
  refine ⟨⟨M, sv', h3, by omega, fun j hj => ?_⟩, h.turn.trans ha.turn (fun _ _ e => e)⟩
  rcases h5 j hj with e | e
  · exact hn j e
  · exact Nat.le_trans h14 (Nat.le_trans h.turn.size e)
theorem More.later {w1 w4 W W' : World} {g1 g2 n i : Nat} (h : More w1 w4 g1 g2 n i W) (ht : Turn (fun _ => False) W W') : More w1 w4 g1 g2 n i W' := by
  obtain ⟨M, sv, h3, h4, h5⟩ := h.out
  exact ⟨⟨M, sv, h3.later ht, h4, h5⟩, h.turn.trans ht (fun _ _ f => f.elim)⟩

/-- What was there before stays as it is where a later block turns. -/
theorem rd_fresh {T : Type} {E : El T} {w w5 V : World} {v : Value} {l : List T} {B : Nat} (h : RdE E w v l) (h5 : Turn (fun _ => False) w w5) (hB : w.heap.size ≤ B) (ht : Turn (fun k => k = B) w5 V) : RdE E V v l := by
  obtain ⟨A, c, rfl, hk, hn, hx⟩ := h
  refine ⟨A, c, rfl, hk, hn, fun ad e i u hi => ?_⟩
  have h1 := hx ad e i u hi
  have hlt := World.block_lt_of_cell? w _ h1
  rw [ht.cell (by have := h5.size; omega) (by omega), h5.cell hlt (fun f => f)]
  exact h1

set_option maxRecDepth 100000 in
set_option maxHeartbeats 4000000 in
theorem walk (v v' : Value) (l l' : List AC) (w : World) (h : RdE EA w v l) (h' : RdE EA w v' l') (hlen : l.length ≤ maxLen) (hlen' : l'.length ≤ maxLen) :
    Calls Try.prog 5 #[v, v'] w fun e w' => e = .returned (.bool true) ∧ Below w.heap.size w w' := by
  have HV := Lib.hid h; have HV' := Lib.hid h'
  obtain ⟨A, c, rfl⟩ := h.shape
  obtain ⟨A', c', rfl⟩ := h'.shape
  unfold maxLen at hlen hlen'
  clear h h'
  refine (callsIn_wide (n := 5)).1 ?_
  refine callsIn_of_wp_marks Try.func5 rfl trivial ?_ rfl
  simp only [Try.ntmps5, List.size_toArray, List.length_cons, List.length_nil, Nat.reduceAdd, Nat.reduceSub, Array.replicate_succ, Array.replicate_zero, List.push_toArray, List.append_toArray, List.nil_append, List.cons_append]
  refine wpIn_wide.2 ?_
  by_cases h100 : l.length ≤ 100 ∧ l'.length ≤ 100
  · obtain ⟨h1, h2⟩ := h100
    go_wp2_with fail
    refine (alive_any6 _).mono ?_
    rintro e w1 ⟨rfl, ht⟩
    have hb1 := (Box.new w 4 #[.bool false]).turn ht (fun f => f)
    have HT1 : Hid (Turn (fun _ => False) w w1) := ((Turn.refl _ w).alloc _).trans ht (fun _ _ f => f)
    have HZ1 : Hid (w.heap.size + 1 ≤ w1.heap.size) := by have := ht.size; rw [World.size_alloc] at this; exact this
    have HB1 := Lib.hid hb1
    clear ht hb1
    go_wp2_with fail
    refine (made_any _ l w1 (HV.out.later HT1.out) (by omega)).mono ?_
    rintro e w2 ⟨g1, g2, rfl, hrun⟩
    have HT2 := Lib.hid hrun.turn
    have HG : Hid (w1.heap.size ≤ g1 ∧ w1.heap.size ≤ g2) := ⟨hrun.new1, hrun.new2⟩
    obtain ⟨L, sv, h3, hl, hn⟩ := hrun.out
    obtain ⟨A3, c3, hsv⟩ := h3.r.row.shape
    subst hsv
    have H2 := Lib.hid h3; have HN := Lib.hid hn
    clear hrun h3 hn
    go_wp2_with fail
    obtain ⟨R6, hR6⟩ : ∃ R6 : Nat, R6 = w2.heap.size := ⟨_, rfl⟩
    obtain ⟨wa, hwa⟩ : ∃ wa, wa = w2.alloc (.cells #[.pointer (some ⟨g2, 0, none⟩)] 26) := ⟨_, rfl⟩
    have HTA : Hid (Turn (fun _ => False) w2 wa) := by rw [hwa]; exact (Turn.refl _ w2).alloc _
    have HB6 : Hid (Box wa R6 26 #[.pointer (some ⟨g2, 0, none⟩)]) := by rw [hwa, hR6]; exact Box.new w2 _ _
    have HR6 : Hid (w1.heap.size ≤ R6) := by rw [hR6]; exact HT2.out.size
    rw [← hwa, ← hR6]
    clear hwa hR6
    refine (copy_any (H2.out.m.later HTA.out)).mono ?_
    rintro e w3 ⟨rfl, hm3, ht3⟩
    obtain ⟨g3, hg3⟩ : ∃ g3 : Nat, g3 = wa.heap.size := ⟨_, rfl⟩
    rw [← hg3] at hm3 ⊢
    have HT23 : Hid (Turn (fun _ => False) w2 w3) := HTA.out.trans ht3 (fun _ _ f => f)
    have HM3 := Lib.hid hm3
    have H3 := Lib.hid (H2.out.later HT23.out)
    have HB63 := Lib.hid (HB6.out.turn ht3 (fun f => f))
    have HG3 : Hid (g3 ≠ g1 ∧ w1.heap.size ≤ g3) := by
      have h4 := H2.out.m.lt; have h5 := HTA.out.size; have h6 := HT2.out.size
      exact ⟨by omega, by omega⟩
    have hc6 := HB63.out.cell 0
    have ho3 := H3.out.r.obj.cell 0
    clear hm3 ht3 hg3
    go_wp2_with fail
    obtain ⟨R9, hR9⟩ : ∃ R9 : Nat, R9 = w3.heap.size := ⟨_, rfl⟩
    obtain ⟨w4, hw4⟩ : ∃ w4, w4 = w3.alloc (.cells #[.slice A3 L.length c3] 27) := ⟨_, rfl⟩
    have HT34 : Hid (Turn (fun _ => False) w3 w4) := by rw [hw4]; exact (Turn.refl _ w3).alloc _
    have HB9 : Hid (Box w4 R9 27 #[.slice A3 L.length c3]) := by rw [hw4, hR9]; exact Box.new w3 _ _
    have HR9 : Hid (R9 ≠ g1 ∧ R9 ≠ g2 ∧ w1.heap.size ≤ R9) := by
      have h4 := H3.out.m.lt; have h5 := H3.out.r.obj.lt; have h6 := HT2.out.size; have h7 := HT23.out.size
      refine ⟨?_, ?_, ?_⟩ <;> omega
    rw [← hw4, ← hR9]
    clear hw4 hR9 hc6 ho3
    have HT14 : Hid (Turn (fun _ => False) w1 w4) := (HT2.out.trans HT23.out (fun _ _ f => f)).trans HT34.out (fun _ _ f => f)
    have H4 := Lib.hid (H3.out.later HT34.out)
    have HR6n : Hid (R6 ≠ g1 ∧ R6 ≠ g2) := ⟨fun e => by
        obtain ⟨cs, hb⟩ := H3.out.m.box
        exact box_ne HB63.out hb (by decide) e, fun e => box_ne HB63.out H3.out.r.obj (by decide) e⟩
    have HFA : Hid (∀ V, Turn (fun j => j = g1 ∨ j = g2) w4 V → Turn (fun _ => False) w V ∧ Box V w.heap.size 4 #[.bool false] ∧ Box V R6 26 #[.pointer (some ⟨g2, 0, none⟩)] ∧ Box V R9 27 #[.slice A3 L.length c3] ∧ RdE EP V (.slice A3 L.length c3) L ∧ MP V g3 L) := by
      intro V ht
      have h4 := HG.out; have h5 := HZ1.out; have h6 := HR6n.out; have h7 := HR9.out; have h8 := HG3.out
      refine ⟨(HT1.out.trans HT14.out (fun _ _ f => f)).fresh ht (fun k e => by omega), (HB1.out.turn HT14.out (fun f => f)).turn ht (by omega), (HB63.out.turn HT34.out (fun f => f)).turn ht (by omega), HB9.out.turn ht (by omega), H4.out.r.row.turn ht (fun k hk e => ?_), (HM3.out.later HT34.out).apart H4.out.m H4.out.r.obj h8.1 ht⟩
      rcases e with e | e
      · exact H4.out.far (by rw [hk, e])
      · exact H4.out.r.far (by rw [hk, e])
    go_loopw [10] (fun x10 wr => ∃ i : Nat, x10 = .int .i64 (i : Int) ∧ i ≤ l'.length ∧ More w1 w4 g1 g2 l.length i wr) (fun x10 _ => l'.length - (intOf x10).toNat)
    case atStart => exact ⟨0, rfl, Nat.zero_le _, ⟨L, _, H4.out, hl, HN.out⟩, Turn.refl _ _⟩
    case round =>
      obtain ⟨i, rfl, hi, hmore⟩ := hrel
      have HMO := Lib.hid hmore
      obtain ⟨tw, b1, b6, b9, hrd, hm3⟩ := HFA.out wr hmore.turn
      have HTW := Lib.hid tw; have HB1r := Lib.hid b1; have HB6r := Lib.hid b6; have HB9r := Lib.hid b9; have HRDr := Lib.hid hrd; have HM3r := Lib.hid hm3
      obtain ⟨M, svM, h2m, hMl, hnM⟩ := hmore.out
      have HTM := Lib.hid h2m; have HNM := Lib.hid hnM
      clear hmore tw b1 b6 b9 hrd hm3 h2m hnM
      by_cases hlt : i < l'.length
      · obtain ⟨a, ha⟩ : ∃ a, l'[i]? = some a := ⟨_, List.getElem?_eq_getElem hlt⟩
        obtain ⟨ad, rfl, hc⟩ := ac_at HV'.out ha
        have HC := Lib.hid hc; clear hc ha
        have HK : Hid (∀ W, Turn (fun j => j = g1 ∨ j = g2) wr W → W.cell? ⟨R6, 0, none⟩ = some (.pointer (some ⟨g2, 0, none⟩)) ∧ (W.cell? (ad.add (i * 3)) = some (.int .i64 a.kind) ∧ W.cell? ⟨(ad.add (i * 3)).block, (ad.add (i * 3)).off + 1, none⟩ = some (.int .i64 a.k) ∧ W.cell? ⟨(ad.add (i * 3)).block, (ad.add (i * 3)).off + 2, none⟩ = some (.string ⟨a.v.toArray⟩))) := fun W ht => by
          have h4 := HFA.out W (HMO.out.turn.trans ht (fun _ _ e => e))
          exact ⟨h4.2.2.1.cell 0, HC.out W h4.1⟩
        go_wp2_with fail
        go_region_held3 (fun W => W.cell? ⟨R6, 0, none⟩ = some (.pointer (some ⟨g2, 0, none⟩)) ∧ (W.cell? (ad.add (i * 3)) = some (.int .i64 a.kind) ∧ W.cell? ⟨(ad.add (i * 3)).block, (ad.add (i * 3)).off + 1, none⟩ = some (.int .i64 a.k) ∧ W.cell? ⟨(ad.add (i * 3)).block, (ad.add (i * 3)).off + 2, none⟩ = some (.string ⟨a.v.toArray⟩)))
          ((refine HK.out _ ?_; first | exact HTB.out | exact (Turn.refl _ wr).drew | exact (Turn.refl _ wr).drewN _))
          (first
            | (go_at_call 10; (with_reducible refine (act_any a g1 g2 svM M _ (HTM.out.later (Turn.refl _ wr).drew) ?_).mono ?_); (focus omega); rintro e w6 ⟨rfl, hac⟩; have hstep := (HMO.out.later (Turn.refl _ wr).drew).step hMl HNM.out HT14.out.size hac; have HMO2 := Lib.hid hstep; have HTB : Hid (Turn (fun j => j = g1 ∨ j = g2) wr w6) := ((Turn.refl (fun j => j = g1 ∨ j = g2) wr).drew).trans hac.turn (fun _ _ e => e); clear hac hstep)
            | fail)
        all_goals go_wp2
        all_goals go_roundw
        all_goals first
          | exact ⟨i + 1, by go_num, hlt, HMO2.out⟩
          | (simp [intOf]; omega)
      · obtain rfl : i = l'.length := by omega
        go_wp2_with fail
        obtain ⟨Am, cm, hsvm⟩ := HTM.out.r.row.shape
        subst hsvm
        obtain ⟨B, hB⟩ : ∃ B : Nat, B = wr.heap.size := ⟨_, rfl⟩
        obtain ⟨wb, hwb⟩ : ∃ wb, wb = wr.alloc (.cells #[.int .i64 0] 3) := ⟨_, rfl⟩
        have HTB : Hid (Turn (fun _ => False) wr wb) := by rw [hwb]; exact (Turn.refl _ wr).alloc _
        have HBN : Hid (Box wb B 3 #[.int .i64 0]) := by rw [hwb, hB]; exact Box.new wr _ _
        have HLT : Hid (w.heap.size < B ∧ R6 < B ∧ R9 < B ∧ g1 < B ∧ g2 < B ∧ g3 < B) := by
          rw [hB]
          exact ⟨HB1r.out.lt, HB6r.out.lt, HB9r.out.lt, HTM.out.m.lt, HTM.out.r.obj.lt, HM3r.out.lt⟩
        have HWB : Hid (wr.heap.size ≤ B) := by rw [hB]; exact Nat.le_refl _
        rw [← hwb, ← hB]
        clear hwb hB
        refine (all_any (HM3r.out.later HTB.out)).mono ?_
        rintro e w5 ⟨q1, q2, rfl, hr⟩
        have HRA := Lib.hid hr
        have HTB5 := Lib.hid hr.turn
        have HN5 := Lib.hid (HBN.out.turn hr.turn (fun f => f))
        have HT5 : Hid (Turn (fun _ => False) wr w5) := HTB.out.trans hr.turn (fun _ _ f => f)
        obtain ⟨A5, x5, hq1, hq2, -, -⟩ := hr.out
        have hz := HBN.out.lt
        have HQ : Hid (q1 < w5.heap.size ∧ q2 < w5.heap.size ∧ B < q1 ∧ B < q2 ∧ B < w5.heap.size) := ⟨hq1.lt, hq2.lt, by have := hr.new1; omega, by have := hr.new2; omega, HN5.out.lt⟩
        clear hr hq1 hq2 hz
        have HFX : Hid (∀ V, Turn (fun k => k = B) w5 V → Turn (fun _ => False) w V ∧ Box V w.heap.size 4 #[.bool false] ∧ Box V R6 26 #[.pointer (some ⟨g2, 0, none⟩)] ∧ Box V R9 27 #[.slice A3 L.length c3] ∧ RdE EP V (.slice A3 L.length c3) L ∧ MP V g3 L ∧ Two V g1 g2 (.slice Am M.length cm) M) := by
          intro V ht
          have h4 := HLT.out
          have hnode : ∀ i cs, Box w5 i 80 cs → ¬ i = B := fun i cs hi => box_ne hi HN5.out (by decide)
          have hT := HTM.out.later HT5.out
          refine ⟨(HTW.out.trans HT5.out (fun _ _ f => f)).fresh ht (fun k e => by omega), (HB1r.out.turn HT5.out (fun f => f)).turn ht (by omega), (HB6r.out.turn HT5.out (fun f => f)).turn ht (by omega), (HB9r.out.turn HT5.out (fun f => f)).turn ht (by omega),
            rd_fresh HRDr.out HT5.out HWB.out ht, (HM3r.out.later HT5.out).turn ht (by omega) hnode, ⟨hT.m.turn ht (by omega) hnode, ⟨hT.r.obj.turn ht (by omega), rd_fresh HTM.out.r.row HT5.out HWB.out ht, hT.r.far⟩, hT.far⟩⟩
        unfold RisV
        go_wp2_with fail
        refine (wpIn_wide (n := 5)).1 ?_
        refine' over2 (n := 5) (by omega) (gf := 47) (lb := #[.pointer (some ⟨q1, 0, none⟩), .pointer (some ⟨q2, 0, none⟩)]) rfl (enters_of Try.func47 (by kernel_rfl) rfl)
          (all_feeds 4 HRA.out (fun k => k = B ∨ k = w5.heap.size + 1) (by have := HQ.out; omega) (by have := HQ.out; omega) ⟨fun g cs hb e => by
            rcases e with e | e
            · exact box_ne hb HN5.out (by decide) e
            · have := hb.lt; omega⟩) (Turn.refl _ _) (Or.inr rfl) (fun k e => by have := HQ.out; omega) (fun pre => fun _ _ _ h _ => h) (fun _ => rfl)
          (fun (pre : List (Int × List UInt8)) V => Box V B 3 #[.int .i64 (pre.length : Nat)] ∧ Turn (fun k => k = B) w5 V)
          (fun _ _ _ => False) (Holds.and (holds_box _ _ _ (fun (pre : List (Int × List UInt8)) => #[.int .i64 (pre.length : Nat)])) (holds_turn (fun k h1 h2 => by omega))) (fun _ _ _ _ h _ => h) ⟨HN5.out, Turn.refl _ _⟩ _ ?assign ?body ?done ?stop
        case assign =>
          intro l0 x W K hK
          have HK := Lib.hid hK; clear hK
          gi_wp2
          exact HK.out
        case stop =>
          rintro D c0 pre V _ _ h _
          exact h.elim
        case body =>
          rintro l0 pre y V ⟨hb, ht⟩ hgv
          obtain ⟨k, s⟩ := y
          dsimp only
          obtain ⟨tw, b1, b6, b9, hrd, -, -⟩ := HFX.out V ht
          obtain ⟨hat, hlt3⟩ := pre_at hgv
          obtain ⟨ad, rfl, e1, e2⟩ := pair_at hrd hat
          have c9 := b9.cell 0
          have cn := hb.cell 0
          have fn := hb.free 0
          have HBV := Lib.hid hb; have HTV := Lib.hid ht
          have hLl : L.length ≤ 100 := Nat.le_trans hl h1
          clear hb ht hgv tw b1 b6 b9 hrd hat
          gi_wp2
          have e9 : (((pre ++ [(k, s)] : List (Int × List UInt8)).length : Nat) : Int) = (pre.length : Int) + 1 := by rw [List.length_append]; simp
          refine ⟨Still.setCell _ _ _, (Turn.refl _ V).setCell (p := ⟨B, 0, none⟩) (fun _ => .inl rfl) _, ?_, HTV.out.setCell (p := ⟨B, 0, none⟩) (fun _ => rfl) _⟩
          rw [e9]
          exact HBV.out.set 0 (.int .i64 ((pre.length : Int) + 1))
        case done =>
          rintro D xs V hD hA ⟨hb, ht⟩ hK
          obtain rfl : xs = L := hA
          obtain ⟨tw, b1, b6, b9, hrd, hm3, htwo⟩ := HFX.out V ht
          have c9 := b9.cell 0
          have cn := hb.cell 0
          have fn := hb.free 0
          have HBV := Lib.hid hb; have HTV := Lib.hid ht; have HKD := Lib.hid hK
          have HLN := Lib.hid (fun n => len_any (hm3.later ((Turn.refl _ V).drewN n)))
          have HTWO := Lib.hid htwo
          have HDB : Hid (B < D ∧ w.heap.size ≤ D) := ⟨by have := HQ.out; show B < D; omega, Nat.le_trans (HTW.out.trans HT5.out (fun _ _ f => f)).size hD⟩
          clear hb ht tw b1 b6 b9 hrd hm3 htwo hK hD
          go_wp2
          go_quiet ((go_at_call 11; with_reducible exact quiet_left (HLN.out _)))
          go_wp2_with fail
          obtain ⟨V1, hV1⟩ : ∃ V1, V1 = (V.drewN nq).setCell ⟨B, 0, none⟩ (.int .i64 0) := ⟨_, rfl⟩
          have HTV1 : Hid (Turn (fun k => k = B) w5 V1) := by rw [hV1]; exact (HTV.out.drewN nq).setCell (p := ⟨B, 0, none⟩) (fun _ => rfl) _
          have HBV1 : Hid (Box V1 B 3 #[.int .i64 0]) := by rw [hV1]; exact (HBV.out.turn ((Turn.refl (fun _ => False) V).drewN nq) (fun f => f)).set 0 (.int .i64 0)
          have HKD1 : Hid (V1.heap[D]? = some (.deferred (some []))) := by rw [hV1]; exact (KeepsOthers.setCell (V.drewN nq) ⟨B, 0, none⟩ (.int .i64 0)).same D _ HKD.out rfl
          rw [← hV1]
          clear hV1 c9 cn fn
          refine (all_any (HFX.out V1 HTV1.out).2.2.2.2.2.2.m).mono ?_
          rintro e w7 ⟨p1, p2, rfl, hr⟩
          have HR7 := Lib.hid hr
          have HT17 := Lib.hid hr.turn
          have HN7 := Lib.hid (HBV1.out.turn hr.turn (fun f => f))
          have HT57 : Hid (Turn (fun k => k = B) w5 w7) := HTV1.out.trans hr.turn (fun _ _ f => f.elim)
          have HKD7 : Hid (w7.heap[D]? = some (.deferred (some []))) := (hr.turn.block D (Array.getElem?_eq_some_iff.1 HKD1.out).1 (fun f => f)).trans HKD1.out
          have HDL : Hid (D < w7.heap.size) := (Array.getElem?_eq_some_iff.1 HKD7.out).1
          obtain ⟨A7, x7, hq1, hq2, -, -⟩ := hr.out
          have hz := HBV1.out.lt
          have HQ7 : Hid (p1 < w7.heap.size ∧ p2 < w7.heap.size ∧ B < p1 ∧ B < p2 ∧ B < w7.heap.size) := ⟨hq1.lt, hq2.lt, by have := hr.new1; omega, by have := hr.new2; omega, HN7.out.lt⟩
          clear hr hq1 hq2 hz
          unfold RisV
          go_wp2_with fail
          refine (wpIn_wide (n := 5)).1 ?_
          refine' over2 (n := 5) (by omega) (gf := 47) (lb := #[.pointer (some ⟨p1, 0, none⟩), .pointer (some ⟨p2, 0, none⟩)]) rfl (enters_of Try.func47 (by kernel_rfl) rfl)
            (all_feeds 4 HR7.out (fun k => k = B ∨ k = w7.heap.size + 1) (by have := HQ7.out; omega) (by have := HQ7.out; omega) ⟨fun g cs hb e => by
              rcases e with e | e
              · exact box_ne hb HN7.out (by decide) e
              · have := hb.lt; omega⟩) (Turn.refl _ _) (Or.inr rfl) (fun k e => by have := HQ7.out; omega) (fun pre => fun _ _ _ h _ => h) (fun _ => rfl)
            (fun (pre : List (Int × List UInt8)) V => V.heap[D]? = some (.deferred (some [])) ∧ Box V B 3 #[.int .i64 (pre.length : Nat)] ∧ Turn (fun k => k = B) w5 V)
            (fun _ _ _ => False) (Holds.and (fun _ A B h ht => (ht.block D (Array.getElem?_eq_some_iff.1 h).1 (fun o => by have := HDL.out; have := o.1; omega)).trans h) (Holds.and (holds_box _ _ _ (fun (pre : List (Int × List UInt8)) => #[.int .i64 (pre.length : Nat)])) (holds_turn (fun k h1 h2 => by have := HT57.out.size; omega)))) (fun _ _ _ _ h _ => h) ⟨HKD7.out, HN7.out, HT57.out⟩ _ ?assign2 ?body2 ?done2 ?stop2
          case assign2 =>
            intro l0 x W K hK
            have HK := Lib.hid hK; clear hK
            gi_wp2
            exact HK.out
          case stop2 =>
            rintro D c0 pre V _ _ h _
            exact h.elim
          case body2 =>
            rintro l0 pre y V2 ⟨hk, hb, ht⟩ hgv
            obtain ⟨k, s⟩ := y
            dsimp only
            obtain ⟨tw, b1, b6, b9, hrd, -, htwo⟩ := HFX.out V2 ht
            obtain ⟨hat, hlt3⟩ := pre_at hgv
            obtain ⟨ad, rfl, e1, e2⟩ := pair_at htwo.r.row hat
            have c6 := b6.cell 0
            have co := htwo.r.obj.cell 0
            have cn := hb.cell 0
            have fn := hb.free 0
            have HBV2 := Lib.hid hb; have HTV2 := Lib.hid ht; have HKV2 := Lib.hid hk
            have hMl2 : M.length ≤ 200 := by omega
            have hd1 : decide (M.length ≤ pre.length) = false := decide_eq_false (by omega)
            clear hk hb ht hgv tw b1 b6 b9 hrd hat htwo
            gi_wp2
            refine quiet_region (by kernel_rfl) (by kernel_rfl) (by kernel_rfl) ?_
            repeat (gi_big_quiet_step (fail))
            refine wpQuietIn_nil ?_
            intro _ hw'
            obtain ⟨nr, hw''⟩ := hw'
            subst hw''
            gi_wp2
            have e9 : (((pre ++ [(k, s)] : List (Int × List UInt8)).length : Nat) : Int) = (pre.length : Int) + 1 := by rw [List.length_append]; simp
            refine ⟨(Still.turned ((Turn.refl _ V2).drewN nr)).trans (Still.setCell _ _ _), ((Turn.refl _ V2).drewN nr).setCell (p := ⟨B, 0, none⟩) (fun _ => .inl rfl) _, (KeepsOthers.setCell (V2.drewN nr) ⟨B, 0, none⟩ _).same D _ HKV2.out rfl, ?_, (HTV2.out.drewN nr).setCell (p := ⟨B, 0, none⟩) (fun _ => rfl) _⟩
            rw [e9]
            exact (HBV2.out.turn ((Turn.refl (fun _ => False) V2).drewN nr) (fun f => f)).set 0 (.int .i64 ((pre.length : Int) + 1))
          case done2 =>
            rintro D2 ys V2 hD2 hA2 ⟨hk, hb, ht⟩ hK2
            obtain rfl : ys = M := hA2
            obtain ⟨tw, b1, b6, b9, hrd, hm3, htwo⟩ := HFX.out V2 ht
            have HK1 := Lib.hid hk; have HK2 := Lib.hid hK2
            have HTW2 := Lib.hid tw
            have HDD : Hid (w.heap.size ≤ D ∧ w.heap.size ≤ D2 ∧ D ≠ D2) := ⟨HDB.out.2, by have h4 := HLT.out; have h5 := HQ7.out; show w.heap.size ≤ D2; omega, by have := HDL.out; show D ≠ D2; omega⟩
            have HNE : Hid (B ≠ w.heap.size ∧ R6 ≠ w.heap.size ∧ g2 ≠ w.heap.size) := by
              have h4 := HLT.out; have h5 := HR6.out; have h6 := HZ1.out; have h7 := HG.out
              refine ⟨?_, ?_, ?_⟩ <;> omega
            have cn := hb.cell 0
            have c6 := b6.cell 0
            have co := htwo.r.obj.cell 0
            have f1 := (b1.turn (Turn.refl (fun _ => False) V2).drew (fun f => f)).free 0
            have c1 := (b1.turn (Turn.refl (fun _ => False) V2).drew (fun f => f)).cell 0
            have HB1V := Lib.hid b1
            have HKK : Hid (∀ W, Turn (fun k => k = w.heap.size) V2 W → W.cell? ⟨B, 0, none⟩ = some (.int .i64 (ys.length : Int)) ∧ W.cell? ⟨R6, 0, none⟩ = some (.pointer (some ⟨g2, 0, none⟩)) ∧ W.cell? ⟨g2, 0, none⟩ = some (.slice Am ys.length cm)) := fun W h4 =>
              ⟨(hb.turn h4 HNE.out.1).cell 0, (b6.turn h4 HNE.out.2.1).cell 0, (htwo.r.obj.turn h4 HNE.out.2.2).cell 0⟩
            clear hk hb ht tw b1 b6 b9 hrd hm3 htwo hK2 hD2
            go_wp2
            go_region_held3 (fun W => W.cell? ⟨B, 0, none⟩ = some (.int .i64 (ys.length : Int)) ∧ W.cell? ⟨R6, 0, none⟩ = some (.pointer (some ⟨g2, 0, none⟩)) ∧ W.cell? ⟨g2, 0, none⟩ = some (.slice Am ys.length cm))
              ((refine HKK.out _ ?_; first | exact (Turn.refl _ V2).drew | exact (Turn.setCell (S := fun k => k = w.heap.size) (p := ⟨w.heap.size, 0, none⟩) (Turn.refl _ V2) (fun _ => rfl) _).drew | fail)) (fail)
            all_goals go_wp2
            have k1 : ((V2.setCell ⟨w.heap.size, 0, none⟩ (.bool true)).drew).heap[D]? = some (.deferred (some [])) := (KeepsOthers.setCell V2 ⟨w.heap.size, 0, none⟩ (.bool true)).same D _ HK1.out rfl
            have k2 : ((V2.setCell ⟨w.heap.size, 0, none⟩ (.bool true)).drew).heap[D2]? = some (.deferred (some [])) := (KeepsOthers.setCell V2 ⟨w.heap.size, 0, none⟩ (.bool true)).same D2 _ HK2.out rfl
            have b9 : Box ((V2.setCell ⟨w.heap.size, 0, none⟩ (.bool true)).drew) w.heap.size 4 #[.bool true] := HB1V.out.set 0 (.bool true)
            have t9 : Turn (fun _ => False) w ((V2.setCell ⟨w.heap.size, 0, none⟩ (.bool true)).drew) := (HTW2.out.setCell (p := ⟨w.heap.size, 0, none⟩) (fun h => absurd h (Nat.lt_irrefl _)) _).drew
            generalize (V2.setCell ⟨w.heap.size, 0, none⟩ (.bool true)).drew = w9 at *
            have u1 : Turn (fun g => g = D2) w9 (w9.putObj D2 (.deferred none)) := Turn.putObj _ D2 _ rfl
            have k3 : (w9.putObj D2 (.deferred none)).heap[D]? = some (.deferred (some [])) := (World.putObj_heap_other (fun e => HDD.out.2.2 e)).trans k1
            have u2 : Turn (fun g => g = D) (w9.putObj D2 (.deferred none)) ((w9.putObj D2 (.deferred none)).putObj D (.deferred none)) := Turn.putObj _ D _ rfl
            have b10 := b9.turn u1 (fun e => by rw [← e, show w9.heap[w.heap.size]? = _ from b9] at k2; cases k2)
            have b11 := b10.turn u2 (fun e => by rw [← e, show (w9.putObj D2 (.deferred none)).heap[w.heap.size]? = _ from b10] at k3; cases k3)
            have h11 := b11.cell 0
            refine ⟨by simp, .inl ⟨_, _, rfl, run_takeDeferred k2, by simp, .inl ⟨_, _, rfl, run_takeDeferred k3, ?_⟩⟩⟩
            refine ⟨.bool true, ?_, rfl, ?_⟩
            · simp [results, Try.f5, go_sem, h11]
            · exact ((t9.fresh u1 (fun g e => by rw [e]; exact HDD.out.2.1)).fresh u2 (fun g e => by rw [e]; exact HDD.out.1)).below (Nat.le_refl _) (fun _ f => f.elim)
  · go_wp2_with fail
    refine (alive_any6 _).mono ?_
    rintro e w1 ⟨rfl, ht⟩
    have hb1 := (Box.new w 4 #[.bool false]).turn ht (fun f => f)
    have HT1 : Hid (Turn (fun _ => False) w w1) := ((Turn.refl _ w).alloc _).trans ht (fun _ _ f => f)
    have hc1 := hb1.cell 0; have hf1 := hb1.free 0
    have HB1 := Lib.hid hb1
    clear ht hb1
    rcases Nat.lt_or_ge 100 l.length with c1 | c1
    · go_wp2
      refine ⟨.bool true, ?_, rfl, ?_⟩
      · have h2 := (HB1.out.set 0 (.bool true)).cell 0
        simp [results, Try.f5, go_sem, h2]
      · exact (HT1.out.setCell (p := ⟨w.heap.size, 0, none⟩) (fun h => absurd h (by simp)) _).below (Nat.le_refl _) (fun _ f => f.elim)
    · have c2 : 100 < l'.length := by
        rcases Nat.lt_or_ge 100 l'.length with c2 | c2
        · exact c2
        · exact absurd ⟨c1, c2⟩ h100
      clear h100
      go_wp2
      refine ⟨.bool true, ?_, rfl, ?_⟩
      · have h2 := (HB1.out.set 0 (.bool true)).cell 0
        simp [results, Try.f5, go_sem, h2]
      · exact (HT1.out.setCell (p := ⟨w.heap.size, 0, none⟩) (fun h => absurd h (by simp)) _).below (Nat.le_refl _) (fun _ f => f.elim)

set_option maxRecDepth 100000 in
theorem lifted (os : Os) (started : os.Started) (H : Type) (enc : TypeId × Value → H) :
    ReturnsInHanded {} Try.checked os 5 .any (Rows.omapCopiesSpec.pre6 enc Try.prog Try.f5 Rows.omapCopiesRow.domain false) (Rows.omapCopiesSpec.post enc Try.prog Try.f5 false true false false) := by
  refine returnsInHanded_of_change (C := Try.checked) own started (by kernel_rfl) Try.func5
    (ChangeSpec.witness6 (enc := enc) (C := Try.checked) false ⟨#[], #[.slice none 0 0, .slice none 0 0], []⟩ 8 (by kernel_rfl) (by kernel_rfl) (by kernel_rfl) (by kernel_rfl)) ?_
  intro W base args ds gs before hval0 hW hcnd _
  have hval : ∀ (j : Nat) t v, Try.f5.params[j]? = some t → args[j]? = some v → Value.okWide Try.prog W .any base t v := hval0
  have hW' := hW
  obtain ⟨p, q, hA0, hV, rfl, hfz, hnd⟩ := hW
  have hA : DataW.TrodAll enc Try.prog W 0 (fun _ => true) true Try.f5.params.toList args.toList ds p := hA0
  rw [Try.params5] at hA hval
  obtain ⟨v0, vs0, d0, ds0, p0, q0, hargs, rfl, rfl, h0, r0⟩ := trodAll_cons hA
  obtain ⟨v1, vs1, d1, ds1, p1, q1, rfl, rfl, rfl, h1, r1⟩ := trodAll_cons r0
  obtain ⟨rfl, rfl, rfl⟩ := trodAll_nil r1
  obtain rfl : args = #[v0, v1] := by cases args; simp_all
  obtain ⟨rfl, rfl⟩ := trodVars_none hV
  have k0 := h0
  have lt0 : ∀ x ∈ p0, x.block < W.heap.size := by obtain ⟨m, hm⟩ := k0; exact DataW.trod_lt m _ _ _ hm
  obtain ⟨a0, len0, cap0, rfl⟩ := okWide_slice Try.underlying22 (hval 0 22 v0 rfl rfl)
  obtain ⟨l0, hp0, hl0, hf0⟩ := open_acts rfl h0
  have k1 := h1
  have lt1 : ∀ x ∈ p1, x.block < W.heap.size := by obtain ⟨m, hm⟩ := k1; exact DataW.trod_lt m _ _ _ hm
  obtain ⟨a1, len1, cap1, rfl⟩ := okWide_slice Try.underlying22 (hval 1 22 v1 rfl rfl)
  obtain ⟨l1, hp1, hl1, hf1⟩ := open_acts rfl h1
  clear hA0 hval0
  refine (walk _ _ l0 l1 W hp0 hp1 hl0 hl1).mono fun e W' ⟨he, bel⟩ => ?_
  subst he
  exact ⟨_, rfl, _, _, _, [], _, [], hW', trodAll_mk1 (shut_bool Try.underlying4 _), (trodAll_cons_mk (Below.trod laidOut (by kernel_rfl) (of_decide_eq_true (by kernel_rfl)) k0 bel lt0) (trodAll_cons_mk (Below.trod laidOut (by kernel_rfl) (of_decide_eq_true (by kernel_rfl)) k1 bel lt1) trodAll_mk0)), rfl, bel.frame _, fun h => by cases h⟩

theorem over : Rows.omapCopiesRow.holds Try.pinned (OpenSpec.ofChange Rows.omapCopiesSpec) :=
  OpenClaim.holds_of_wide 5 Try.f5 rfl rfl rfl rfl rfl rfl rfl ⟨rfl, rfl, rfl, rfl, rfl⟩ rfl rfl rfl rfl rfl (by kernel_rfl) Try.func5 (by kernel_rfl)
    (of_decide_eq_true (by kernel_rfl)) (by unfold Func.isWrapper; first | (rw [if_pos (by decide +kernel)]; kernel_rfl) | (rw [if_neg (by decide +kernel)]; exact ⟨rfl, rfl⟩))
    (fun os started H enc _ => lifted os started H enc)

theorem proved : Rows.OmapCopiesSaid := over
#print axioms proved
end Go.Proofs.Ytcepjmkhooahnaa.omapCopies
