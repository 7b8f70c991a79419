
/-
  Stage 10: the program's Of: all things put, then told in order, then each with its number (things string).
-/
import Derived.Test.YtnapeckpjnbcgaaDpbs
import Derived.Test.YtnapeckpjnbcgaaDpm
import Derived.Test.YtnapeckpjnbcgaaDpr
namespace Go.Proofs.Ytnapeckpjnbcgaa
open Go.RowKit Go.Shelf
attribute [local go_sem] Oper.semAt_some wide_fn

/-- Behind Of. -/
def Of_any10 (w : World) (l : List (List UInt8)) (e : Ending) (w' : World) : Prop := ∃ d, e = .returned d ∧ DV10 w' d (setG Op.bytesLess l) ∧ d ≠ .pointer none ∧ Turn (fun _ => False) w w'

set_option maxRecDepth 100000 in
set_option maxHeartbeats 8000000 in
theorem of_post_any10 (v : Value) (l : List (List UInt8)) (w : World) (hv : RdE ET10 w v l) (hl : l.length ≤ 1000) : Calls Try.prog 8 #[v] w fun e w' => Of_any10 w l e w' := by
  have HV := Lib.hid hv
  obtain ⟨A, c, rfl⟩ := hv.shape
  clear hv
  refine (callsIn_wide (n := 5)).1 ?_
  refine callsIn_of_wp_marks Try.func8 rfl trivial ?_ rfl
  simp only [Try.ntmps8, List.size_toArray, List.length_cons, List.length_nil, Nat.reduceAdd, Nat.reduceSub, Array.replicate_succ, Array.replicate_zero, List.push_toArray, List.append_toArray, List.nil_append, List.cons_append]
  refine wpIn_wide.2 ?_
  go_wp2_with fail
  refine (oms.new_any _).mono ?_
  rintro e w1 ⟨rfl, hm1, t1⟩
  obtain ⟨g, hg⟩ : ∃ g : Nat, g = w.heap.size := ⟨_, rfl⟩
  rw [← hg] at hm1 ⊢
  have HG := Lib.hid hg
  have HM1 := Lib.hid hm1; have HT1 := Lib.hid t1
  clear hm1 t1 hg
  go_wp2_with fail
  go_loopw [13] (fun x13 wr => ∃ (i : Nat) (M : List ((List UInt8) × Int)), x13 = .int .i64 (i : Int) ∧ i ≤ l.length ∧ oms.MP wr g M ∧ AllPut Op.bytesLess l i M ∧ Turn (fun _ => False) w wr) (fun x13 _ => l.length - (intOf x13).toNat)
  case atStart => exact ⟨0, [], rfl, Nat.zero_le _, HM1.out, AllPut.start l, HT1.out⟩
  case round =>
    obtain ⟨i, M, rfl, hi, hm, hp, ht⟩ := hrel
    have HM := Lib.hid hm; have HP := Lib.hid hp; have HT := Lib.hid ht
    have hml := hp.len
    clear hm hp ht
    by_cases hlt : i < l.length
    · obtain ⟨x, hx⟩ : ∃ x, l[i]? = some x := ⟨_, List.getElem?_eq_getElem hlt⟩
      obtain ⟨ad, rfl, hc⟩ := str_at10 HV.out hx
      have e0 := hc _ HT.out
      unfold sv10 at e0
      have hil : (i : Int) < l.length := by omega
      have HP2 := Lib.hid (HP.out.step rises_bytes hx 0)
      clear hc hx
      go_wp2_with fail
      refine (oms.put_any x 0 HM.out (by omega)).mono ?_
      rintro e w2 ⟨rfl, hm2, t2⟩
      have HM2 := Lib.hid hm2
      have HT2 : Hid (Turn (fun _ => False) w w2) := HT.out.trans t2 (fun k hk e => by have := HG.out; omega)
      clear hm2 t2
      go_wp2
      go_roundw
      case rel => exact ⟨i + 1, _, by go_num, hlt, HM2.out, HP2.out, HT2.out⟩
      case measure => simp [intOf]; omega
    · obtain rfl : i = l.length := by omega
      have HK : Hid (M.map (·.1) = setG Op.bytesLess l) := HP.out.keys rises_bytes
      generalize hL : setG Op.bytesLess l = L at *
      have hLM : M.length = L.length := by rw [← HK.out, List.length_map]
      go_wp2_with fail
      refine (oms.len_any HM.out).mono ?_
      rintro e w2 ⟨rfl, rfl⟩
      rw [hLM] 
      have hmk := made_texts10 L.length (by omega) wr
      have HR0 := Lib.hid (own_texts10 L.length (by omega) wr)
      go_wp2_with fail
      clear hmk
      obtain ⟨R, hR⟩ : ∃ R : Nat, R = wr.heap.size := ⟨_, rfl⟩
      obtain ⟨wb, hwb⟩ : ∃ wb, wb = (wr.alloc (.cells (madeCells #[.string ⟨#[]⟩] L.length) 9)).alloc (.cells #[.slice (some ⟨R, 0, none⟩) 0 L.length] 22) := ⟨_, rfl⟩
      have HTB : Hid (Turn (fun _ => False) wr wb) := by rw [hwb]; exact ((Turn.refl _ wr).alloc _).alloc _
      have HBX : Hid (Box wb (R + 1) 22 #[.slice (some ⟨R, 0, none⟩) 0 L.length]) := by
        rw [hwb, hR]
        have h := Box.new (wr.alloc (.cells (madeCells #[.string ⟨#[]⟩] L.length) 9)) 22 #[.slice (some ⟨wr.heap.size, 0, none⟩) 0 L.length]
        rw [World.size_alloc] at h
        exact h
      have HRO : Hid (OwE ET10 9 wb (.slice (some ⟨R, 0, none⟩) 0 L.length) []) := by
        rw [hwb, hR]
        exact HR0.out.turn ((Turn.refl (fun _ => False) _).alloc _) (fun _ _ f => f)
      have HGR : Hid (g < R) := by obtain ⟨_, _, hb, _⟩ := HM.out.out; rw [hR]; exact hb.lt
      rw [← hR]
      rw [← hwb]
      clear hwb hR HR0
      refine (oms.all_any (HM.out.later HTB.out)).mono ?_
      rintro e w5 ⟨q1, q2, rfl, hr⟩
      have HRA := Lib.hid hr
      have HB5 := Lib.hid (HBX.out.turn hr.turn (fun f => f))
      have HO5 := Lib.hid (HRO.out.later hr.turn)
      have HT5 : Hid (Turn (fun _ => False) wr w5) := HTB.out.trans hr.turn (fun _ _ f => f)
      have HM5 := Lib.hid (HM.out.later HT5.out)
      have HTW5 : Hid (Turn (fun _ => False) w w5) := HT.out.trans HT5.out (fun _ _ f => f)
      obtain ⟨A5, x5, hq1, hq2, -, -⟩ := hr.out
      have hz := HBX.out.lt
      have HQ : Hid (R + 1 < q1 ∧ R + 1 < q2 ∧ q1 < w5.heap.size ∧ q2 < w5.heap.size ∧ R + 1 < w5.heap.size) := ⟨by have := hr.new1; omega, by have := hr.new2; omega, hq1.lt, hq2.lt, HB5.out.lt⟩
      clear hr hq1 hq2 hz
      unfold oms.RisV
      go_wp2_with fail
      refine (wpIn_wide (n := 5)).1 ?_
      refine' over2 (n := 5) (by omega) (gf := 55) (lb := #[.pointer (some ⟨q1, 0, none⟩), .pointer (some ⟨q2, 0, none⟩)]) rfl (enters_of Try.func55 (by kernel_rfl) rfl)
        (oms.all_feeds 4 HRA.out (fun k => k = R ∨ k = R + 1 ∨ k = w5.heap.size + 1) (by have := HQ.out; omega) (by have := HQ.out; omega) ⟨fun g cs hb e => by
          rcases e with e | e | e
          · exact box_not_own hb HO5.out rfl (by decide) e
          · exact box_ne10 hb HB5.out (by decide) e
          · have := hb.lt; omega⟩) (Turn.refl _ _) (Or.inr (Or.inr rfl)) (fun k e => by have := HQ.out; omega) (fun pre => fun _ _ _ h _ => h) (fun _ => rfl)
        (fun (pre : List ((List UInt8) × Int)) V => Box V (R + 1) 22 #[.slice (some ⟨R, 0, none⟩) pre.length L.length] ∧ OwE ET10 9 V (.slice (some ⟨R, 0, none⟩) pre.length L.length) (pre.map (·.1)) ∧ Turn (fun k => k = R ∨ k = R + 1) w5 V)
        (fun _ _ _ => False) (Holds.and (holds_box _ _ _ (fun (pre : List ((List UInt8) × Int)) => #[.slice (some ⟨R, 0, none⟩) pre.length L.length])) (Holds.and (holds_own _ (fun (pre : List ((List UInt8) × Int)) => .slice (some ⟨R, 0, none⟩) pre.length L.length) (fun pre => pre.map (·.1))) (holds_turn (fun k h1 h2 => by omega)))) (fun _ _ _ _ h _ => h) ⟨HB5.out, HO5.out, Turn.refl _ _⟩ _ ?assign ?body ?done ?stop
      case assign =>
        intro l0 x W K hK
        have HK := Lib.hid hK; clear hK
        gi_wp2
        exact HK.out
      case stop =>
        rintro D c0 pre V _ _ h _
        exact h.elim
      case body =>
        rintro l0 pre y V ⟨hb, ho, ht⟩ hgv
        obtain ⟨k, n⟩ := y
        dsimp only
        have cB := hb.cell 0
        have fB := hb.free 0
        have hpl := (pre_at10 hgv).2
        have HB := Lib.hid hb; have HO := Lib.hid ho; have HTV := Lib.hid ht
        clear hb ho ht hgv
        have hpn : (pre.map (·.1)).length = pre.length := List.length_map _
        have HN1 := Lib.hid (HO.out.later ((Turn.refl (fun _ => False) V).alloc (.cells #[(sv10 k)] 9)))
        have HSR := Lib.hid ((one_row ET10 9 V k).src Try.underlying22)
        gi_wp2_with (gi_at_builtin; refine wpListIn_room Try.underlying22 str_info10 _ rfl _ _ rfl R pre.length L.length _ rfl HN1.out _ rfl [k] HSR.out (by rw [hpn]; simp only [List.length_cons, List.length_nil]; omega) ?_; intro w6 ho6 ht6; have HO6 := Lib.hid ho6; have HT6 := Lib.hid ht6; have b6 := (HB.out.turn ((Turn.refl (fun _ => False) V).alloc (.cells #[(sv10 k)] 9)) (fun f => f)).turn ht6 (by omega); have c6 := b6.cell 0; have f6 := b6.free 0; have HB6 := Lib.hid b6; clear ho6 ht6 b6)
        have e9 : (pre ++ [(k, n)] : List ((List UInt8) × Int)).length = pre.length + 1 := by rw [List.length_append]; rfl
        have HT16 : Hid (Turn (fun k => k = R ∨ k = R + 1) V w6) := ((Turn.refl (fun k => k = R ∨ k = R + 1) V).alloc (.cells #[(sv10 k)] 9)).trans HT6.out (fun _ _ e => .inl e)
        refine ⟨?_, ?_, ?_⟩
        · exact (Still.turned ((Turn.refl (fun _ => False) V).alloc (.cells #[(sv10 k)] 9))).trans ((own_still HT6.out (own_cells HN1.out rfl)).trans (Still.setCell _ _ _))
        · exact (HT16.out.mono (fun _ _ e => e.imp id .inl)).setCell (p := ⟨R + 1, 0, none⟩) (fun _ => .inr (.inl rfl)) _
        · refine ⟨?_, ?_, ?_⟩
          · rw [e9]
            exact HB6.out.set 0 (.slice (some ⟨R, 0, none⟩) (pre.length + 1) L.length)
          · rw [e9, List.map_append]
            have h := HO6.out.turn ((Turn.refl (fun k => k = R + 1) w6).setCell (p := ⟨R + 1, 0, none⟩) (fun _ => rfl) (.slice (some ⟨R, 0, none⟩) (pre.length + 1) L.length)) (fun k hk e => by simp only [Value.ownBlock, Option.some.injEq] at hk; omega)
            rw [hpn] at h
            exact h
          · exact (HTV.out.trans HT16.out (fun _ _ e => e)).setCell (p := ⟨R + 1, 0, none⟩) (fun _ => .inr rfl) _
      case done =>
        rintro D xs V hD hA ⟨hb, ho, ht⟩ hK
        obtain rfl : xs = M := hA
        have hm5 : oms.MP V g xs := HM5.out.turn ht (fun e => by have := HGR.out; omega) (fun i cs hi e => by
          rcases e with e | e
          · exact box_not_own hi HO5.out rfl (by decide) e
          · exact box_ne10 hi HB5.out (by decide) e)
        have hrd := ho.rd
        rw [HK.out, hLM] at hrd
        rw [hLM] at hb
        have cB := hb.cell 0
        have HB := Lib.hid hb; have HR := Lib.hid hrd; have HTV := Lib.hid ht; have HMV := Lib.hid hm5; have HKD := Lib.hid hK; have HDD := Lib.hid hD
        clear hb ho ht hm5 hK hD hrd
        have HN0 : Hid (oms.MP V g (Numbered L xs 0)) := by show oms.MP _ _ _; rw [numbered_start]; exact HMV.out
        go_wp2_with fail
        go_loopw [34] (fun x34 wz => ∃ j : Nat, x34 = .int .i64 (j : Int) ∧ j ≤ L.length ∧ oms.MP wz g (Numbered L xs j) ∧ Turn (fun k => k = g) V wz) (fun x34 _ => L.length - (intOf x34).toNat)
        case atStart => exact ⟨0, rfl, Nat.zero_le _, HN0.out, Turn.refl _ _⟩
        case round =>
          obtain ⟨j, rfl, hj, hmz, htz⟩ := hrel
          have HMZ := Lib.hid hmz; have HTZ := Lib.hid htz
          have hrz := HR.out.turn htz (fun b hb e => by simp only [Value.ownBlock, Option.some.injEq] at hb; have := HGR.out; omega)
          have HRZ := Lib.hid hrz
          clear hmz htz
          by_cases hlt2 : j < L.length
          · obtain ⟨x, hx⟩ : ∃ x, L[j]? = some x := ⟨_, List.getElem?_eq_getElem hlt2⟩
            obtain ⟨ad, ead, hc⟩ := str_at10 hrz hx
            cases ead
            have e0 := hc _ (Turn.refl _ _)
            rw [own_add] at e0
            unfold sv10 at e0
            have hjl : (j : Int) < L.length := by omega
            have HNX := Lib.hid (numbered_step rises_bytes HK.out hx HMZ.out.up)
            have HNL := Lib.hid (numbered_len (L := L) HK.out j)
            clear hc hx hrz
            go_wp2_with fail
            refine (oms.put_any x (j : Int) HMZ.out (by rw [HNL.out]; omega)).mono ?_
            rintro e w7 ⟨rfl, hm7, t7⟩
            rw [HNX.out] at hm7
            have HM7 := Lib.hid hm7
            have HT7 : Hid (Turn (fun k => k = g) V w7) := HTZ.out.trans t7 (fun _ _ e => e)
            clear hm7 t7
            go_wp2
            go_roundw
            case rel => exact ⟨j + 1, by go_num, hlt2, HM7.out, HT7.out⟩
            case measure => simp [intOf]; omega
          · obtain rfl : j = L.length := by omega
            have hmz := HMZ.out
            rw [numbered_end HK.out] at hmz
            have HME := Lib.hid hmz
            have hbz := HB.out.turn HTZ.out (by have := HGR.out; omega)
            have cz := hbz.cell 0
            have HKZ : Hid (wr.heap[D]? = some (.deferred (some []))) := ((HTZ.out.block D (Array.getElem?_eq_some_iff.1 HKD.out).1 (by have := HGR.out; have := HDD.out; have := HQ.out; omega)).trans HKD.out)
            clear hmz hbz hrz cB
            go_wp2
            have k1 : (wr.alloc (.cells #[.pointer (some ⟨g, 0, none⟩), .slice (some ⟨R, 0, none⟩) L.length L.length] 57)).heap[D]? = some (.deferred (some [])) := (Below.heap_alloc wr _ D (Array.getElem?_eq_some_iff.1 HKZ.out).1).trans HKZ.out
            have b9 : Box (wr.alloc (.cells #[.pointer (some ⟨g, 0, none⟩), .slice (some ⟨R, 0, none⟩) L.length L.length] 57)) wr.heap.size 57 #[.pointer (some ⟨g, 0, none⟩), .slice (some ⟨R, 0, none⟩) L.length L.length] := Box.new _ _ _
            have t9 : Turn (fun _ => False) wr (wr.alloc (.cells #[.pointer (some ⟨g, 0, none⟩), .slice (some ⟨R, 0, none⟩) L.length L.length] 57)) := (Turn.refl _ wr).alloc _
            have m9 := HME.out.later t9
            have r9 := HRZ.out.later t9
            have hwr : w.heap.size ≤ g := by rw [HG.out]; exact Nat.le_refl _
            have tall : Turn (fun _ => False) w (wr.alloc (.cells #[.pointer (some ⟨g, 0, none⟩), .slice (some ⟨R, 0, none⟩) L.length L.length] 57)) :=
              ((HTW5.out.trans HTV.out (fun k hk e => by have := HGR.out; omega)).trans HTZ.out (fun k hk e => by omega)).trans t9 (fun _ _ f => f)
            generalize wr.alloc (.cells #[.pointer (some ⟨g, 0, none⟩), .slice (some ⟨R, 0, none⟩) L.length L.length] 57) = w9 at *
            have u1 : Turn (fun k => k = D) w9 (w9.putObj D (.deferred none)) := Turn.putObj _ D _ rfl
            have hnc : ∀ i t cs, Box w9 i t cs → ¬ i = D := fun i t cs hb e => by rw [← e, show w9.heap[i]? = _ from hb] at k1; cases k1
            refine ⟨by simp, .inl ⟨_, _, rfl, run_takeDeferred k1, ?_⟩⟩
            refine ⟨.pointer (some ⟨wr.heap.size, 0, none⟩), ?_, ?_⟩
            · simp [results, Try.f8, go_sem]
            · have hset := setG_is Op.bytesLess rises_bytes l
              rw [hL] at hset
              have hDg : w.heap.size ≤ D := Nat.le_trans (HT.out.trans HT5.out (fun _ _ f => f)).size HDD.out
              obtain ⟨_, _, hbg, _⟩ := m9.out
              have hfin : DV10 (w9.putObj D (.deferred none)) (.pointer (some ⟨wr.heap.size, 0, none⟩)) L := by
                refine ⟨.inr ⟨wr.heap.size, g, .slice (some ⟨R, 0, none⟩) L.length L.length, rfl, b9.turn u1 (hnc _ _ _ b9), m9.turn u1 (hnc _ _ _ hbg) (fun i cs hb => hnc _ _ _ hb), r9.turn u1 ?_⟩, hset.1, by omega⟩
                intro b hb e
                simp only [Value.ownBlock, Option.some.injEq] at hb
                have h0 := HDD.out; have h1 := HQ.out
                omega
              rw [← hL] at hfin
              exact ⟨_, rfl, hfin, (fun e => by cases e), tall.trans u1 (fun k hk e => by omega)⟩

end Go.Proofs.Ytnapeckpjnbcgaa
