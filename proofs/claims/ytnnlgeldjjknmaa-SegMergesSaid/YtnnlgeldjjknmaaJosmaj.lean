/-
  'SegMerges': what any segments are together. No condition.
-/
import Derived.Test.YtnnlgeldjjknmaaJocai
import Derived.Test.YtnnlgeldjjknmaaJocad
import Derived.ProofKit
import Derived.OpenShut

namespace Go.Proofs.Ytnnlgeldjjknmaa.segMerges
open Go.ChangeShapes Go.WideShapes Go.ChangeAt Go.RowKit
set_option linter.unusedVariables false

theorem own : ownKnob Try.prog.godebug = none := by kernel_rfl
theorem laidOut : laidOutB Try.prog = true := by kernel_rfl

theorem sl_info11 : (Try.prog.info? 23).map (fun i => (i.zero, i.size, i.bytes)) = some (some (.slice none 0 0), ESL.sz, 24) := by kernel_rfl
theorem sl_zero11 : (Value.cells (.slice none 0 0)).size = ESL.sz := rfl
theorem wpList_sls11 (w : World) {ops : Array Oper} {rest : List Oper} {o : Oper} {a : Act} {Q : Exit → Act → World → Prop} (hgd : o.guard = none) (s x : Operand)
    (ho : o.op = .call { callee := .builtin .append, args := #[s, x], argTypes := #[37, 37] }) (v : Value) (l : List (Option Addr × Nat × Nat)) (hs : a.eval s = v) (hown : OwE ESL 23 w v l)
    (y : Value) (hx : a.eval x = y) (m : List (Option Addr × Nat × Nat)) (hy : RdE ESL w y m) (hl : l.length + m.length ≤ 3000000)
    (h : ∀ A n c w', OwE ESL 23 w' (.slice A n c) (l ++ m) → Turn (fun k => v.ownBlock = some k) w w' → ((Value.slice A n c).ownBlock = v.ownBlock ∨ (Value.slice A n c).ownBlock = some w.heap.size) → wpList Try.prog ops Q rest (a.put o.dst (.slice A n c)) w') :
    wpList Try.prog ops Q (o :: rest) a w :=
  wpList_appE Try.underlying37 sl_info11 sl_zero11 w hgd s x _ ho v l hs hown y hx m (hy.src Try.underlying37) (by simp only [maxLen]; omega) (by omega) h
/-- Slices that hold rows, some of them. -/
theorem some_rds11 {w : World} {v : Value} {P : List ((Option Addr × Nat × Nat) × List R11)} (hP : ∀ p ∈ P, RdE ER w (.slice p.1.1 p.1.2.1 p.1.2.2) p.2) (h : RdE ESL w v (P.map (·.1))) : RdS w v (P.map (·.2)) :=
  ⟨P.map (·.1), h, by rw [List.length_map, List.length_map], fun j s x h1 h2 => by
    rw [List.getElem?_map] at h1 h2
    obtain ⟨p, hp, rfl⟩ := Option.map_eq_some_iff.1 h1
    rw [hp] at h2
    cases h2
    exact hP p (List.mem_of_getElem? hp)⟩

set_option maxRecDepth 100000 in
set_option maxHeartbeats 16000000 in
theorem walk (v0 v1 v2 : Value) (a b c : List R11) (w : World) (h0 : RdE ER w v0 a) (h1 : RdE ER w v1 b) (h2 : RdE ER w v2 c) (n0 : a.length ≤ maxLen) (n1 : b.length ≤ maxLen) (n2 : c.length ≤ maxLen) (k0 : ∀ r ∈ a, okC r.c) (k1 : ∀ r ∈ b, okC r.c) (k2 : ∀ r ∈ c, okC r.c) :
    Calls Try.prog 4 #[v0, v1, v2] w fun e w' => e = .returned (.bool true) ∧ Below w.heap.size w w' := by
  have HA := Lib.hid h0; have HB := Lib.hid h1; have HC := Lib.hid h2
  have HKA := Lib.hid k0; have HKB := Lib.hid k1; have HKC := Lib.hid k2
  have HLA : Hid (∀ W, w = W → Calls Try.prog 9 #[v0] W fun e w' => e = .returned (.bool (decide (a.length ≤ 100))) ∧ w = w') := fun W e => by subst e; exact (light_any11 v0 a w h0 n0).mono fun _ _ ⟨p, q⟩ => ⟨p, q.symm⟩
  have HLB : Hid (∀ W, w = W → Calls Try.prog 9 #[v1] W fun e w' => e = .returned (.bool (decide (b.length ≤ 100))) ∧ w = w') := fun W e => by subst e; exact (light_any11 v1 b w h1 n1).mono fun _ _ ⟨p, q⟩ => ⟨p, q.symm⟩
  have HLC : Hid (∀ W, w = W → Calls Try.prog 9 #[v2] W fun e w' => e = .returned (.bool (decide (c.length ≤ 100))) ∧ w = w') := fun W e => by subst e; exact (light_any11 v2 c w h2 n2).mono fun _ _ ⟨p, q⟩ => ⟨p, q.symm⟩
  have HAL : Hid (∀ W, Calls Try.prog 10 #[] W fun e w' => e = .returned (.bool true) ∧ Turn (fun _ => False) W w') := fun W => alive_any11 W
  obtain ⟨A0, d0, rfl⟩ := h0.shape
  obtain ⟨A1, d1, rfl⟩ := h1.shape
  obtain ⟨A2, d2, rfl⟩ := h2.shape
  clear h0 h1 h2 n0 n1 n2 k0 k1 k2
  cases hda : decide (a.length ≤ 100) with
  | false =>
    rw [hda] at HLA
    go_enter Try.func4, Try.ntmps4
    go_wp2_with fail
    refine (HLA.out w rfl).mono ?_
    rintro e w1 ⟨rfl, hw1⟩
    subst hw1
    go_wp2_with fail
    refine (HAL.out _).mono ?_
    rintro e wz ⟨rfl, tz⟩
    have HTZ := Lib.hid tz
    clear tz
    go_wp2
    go_ret
    exact ⟨rfl, HTZ.out.below (Nat.le_refl _) (fun _ f => f.elim)⟩
  | true =>
  rw [hda] at HLA
  cases hdb : decide (b.length ≤ 100) with
  | false =>
    rw [hdb] at HLB
    go_enter Try.func4, Try.ntmps4
    go_wp2_with fail
    refine (HLA.out w rfl).mono ?_
    rintro e w1 ⟨rfl, hw1⟩
    subst hw1
    go_wp2_with fail
    refine (HLB.out w rfl).mono ?_
    rintro e w1 ⟨rfl, hw1⟩
    subst hw1
    go_wp2_with fail
    refine (HAL.out _).mono ?_
    rintro e wz ⟨rfl, tz⟩
    have HTZ := Lib.hid tz
    clear tz
    go_wp2
    go_ret
    exact ⟨rfl, HTZ.out.below (Nat.le_refl _) (fun _ f => f.elim)⟩
  | true =>
  rw [hdb] at HLB
  cases hdc : decide (c.length ≤ 100) with
  | false =>
    rw [hdc] at HLC
    go_enter Try.func4, Try.ntmps4
    go_wp2_with fail
    refine (HLA.out w rfl).mono ?_
    rintro e w1 ⟨rfl, hw1⟩
    subst hw1
    go_wp2_with fail
    refine (HLB.out w rfl).mono ?_
    rintro e w1 ⟨rfl, hw1⟩
    subst hw1
    go_wp2_with fail
    refine (HLC.out w rfl).mono ?_
    rintro e w1 ⟨rfl, hw1⟩
    subst hw1
    go_wp2_with fail
    refine (HAL.out _).mono ?_
    rintro e wz ⟨rfl, tz⟩
    have HTZ := Lib.hid tz
    clear tz
    go_wp2
    go_ret
    exact ⟨rfl, HTZ.out.below (Nat.le_refl _) (fun _ f => f.elim)⟩
  | true =>
  rw [hdc] at HLC
  have la := of_decide_eq_true hda
  have lb := of_decide_eq_true hdb
  have lc := of_decide_eq_true hdc
  clear hda hdb hdc
  obtain ⟨P, hP⟩ : ∃ P : List ((Option Addr × Nat × Nat) × List R11), P = [((A0, a.length, d0), a), ((A1, b.length, d1), b), ((A2, c.length, d2), c)] := ⟨_, rfl⟩
  have HPR : Hid (∀ p ∈ P, RdE ER w (.slice p.1.1 p.1.2.1 p.1.2.2) p.2) := by
    intro p hp
    rw [hP] at hp
    simp only [List.mem_cons, List.not_mem_nil, or_false] at hp
    rcases hp with rfl | rfl | rfl
    · exact HA.out
    · exact HB.out
    · exact HC.out
  have HP3 : Hid (P.length = 3) := by rw [hP]; rfl
  have HPL : Hid (∀ p ∈ P, p.2.length ≤ 100) := by
    intro p hp
    rw [hP] at hp
    simp only [List.mem_cons, List.not_mem_nil, or_false] at hp
    rcases hp with rfl | rfl | rfl <;> assumption
  have HPC : Hid (∀ (i : Nat) (W : World), i < 3 → ∃ A n d x, P[i]? = some ((A, n, d), x) ∧ (W.alloc (.cells #[.slice A0 a.length d0, .slice A1 b.length d1, .slice A2 c.length d2] 23)).cell? ⟨W.heap.size, i, none⟩ = some (.slice A n d)) := by
    intro i W hi
    have hb := Box.new W 23 #[.slice A0 a.length d0, .slice A1 b.length d1, .slice A2 c.length d2]
    rw [hP]
    match i, hi with
    | 0, _ => exact ⟨_, _, _, _, rfl, hb.cell 0⟩
    | 1, _ => exact ⟨_, _, _, _, rfl, hb.cell 1⟩
    | 2, _ => exact ⟨_, _, _, _, rfl, hb.cell 2⟩
  have HRI : Hid (∀ (p : (Option Addr × Nat × Nat) × List R11) W, p ∈ P → Turn (fun _ => False) w W → Calls Try.prog 16 #[.slice p.1.1 p.1.2.1 p.1.2.2] W fun e w' => e = .returned (.bool (rightR p.2)) ∧ Turn (fun _ => False) W w') := fun p W hp ht => ref_right11 _ p.2 W ((HPR.out p hp).later ht) (by have := HPL.out p hp; omega)
  have HN0 : Hid (NewE ESL 23 w w (.slice none 0 0) (((P.take 0).filter fun p => rightR p.2).map (·.1))) := ⟨OwE.nil _, (fun k e => by simp [Value.ownBlock] at e), Turn.refl _ w⟩
  have HPE := Lib.hid hP
  clear hP
  go_enter Try.func4, Try.ntmps4
  go_wp2_with fail
  refine (HLA.out w rfl).mono ?_
  rintro e w1 ⟨rfl, hw1⟩
  subst hw1
  go_wp2_with fail
  refine (HLB.out w rfl).mono ?_
  rintro e w1 ⟨rfl, hw1⟩
  subst hw1
  go_wp2_with fail
  refine (HLC.out w rfl).mono ?_
  rintro e w1 ⟨rfl, hw1⟩
  subst hw1
  go_wp2_with fail
  go_loopw [7, 8] (fun x7 x8 wr => ∃ i : Nat, x8 = .int .i64 (i : Int) ∧ i ≤ 3 ∧ NewE ESL 23 w wr x7 (((P.take i).filter fun p => rightR p.2).map (·.1))) (fun _ x8 _ => 3 - (intOf x8).toNat)
  case atStart => exact ⟨0, rfl, Nat.zero_le _, HN0.out⟩
  case round =>
    obtain ⟨i, rfl, hi, hm⟩ := hrel
    have HM := Lib.hid hm
    obtain ⟨A7, c7, hv⟩ := hm.own.shape
    have hln : (((P.take i).filter fun p => rightR p.2).map (·.1)).length ≤ 3 := by
      rw [List.length_map]
      refine Nat.le_trans (List.length_filter_le _ _) ?_
      rw [List.length_take]
      omega
    obtain ⟨m7, hm7⟩ : ∃ m7, m7 = (((P.take i).filter fun p => rightR p.2).map (·.1)).length := ⟨_, rfl⟩
    rw [← hm7] at hv
    subst hv
    have HLN := Lib.hid hln
    clear hm hm7 hln
    by_cases hlt : i < 3
    · obtain ⟨Ai, ni, di, x, hx, hc⟩ := HPC.out i wr hlt
      have hil : (i : Int) < 3 := by omega
      have HXP := Lib.hid (List.mem_of_getElem? hx)
      have HTK : Hid (P.take (i + 1) = P.take i ++ [((Ai, ni, di), x)]) := (split_at11 hx).1
      have HRI2 := Lib.hid (HRI.out _ (wr.alloc (.cells #[.slice A0 a.length d0, .slice A1 b.length d1, .slice A2 c.length d2] 23)) HXP.out (HM.out.turn.alloc _))
      clear hx
      go_wp2_with fail
      refine HRI2.out.mono ?_
      rintro e w2 ⟨rfl, t2⟩
      have HM2 : Hid (NewE ESL 23 w w2 (.slice A7 m7 c7) (((P.take i).filter fun p => rightR p.2).map (·.1))) := ⟨(HM.out.own.later ((Turn.refl _ wr).alloc _)).later t2, HM.out.new, (HM.out.turn.alloc _).trans t2 (fun _ _ f => f)⟩
      clear t2 HRI2
      dsimp only
      cases hR : rightR x with
      | true =>
        have HFI : Hid (((P.take (i + 1)).filter fun p => rightR p.2).map (·.1) = ((P.take i).filter fun p => rightR p.2).map (·.1) ++ [(Ai, ni, di)]) := by
          show _ = _
          rw [HTK.out, List.filter_append, List.map_append, List.filter_cons, if_pos hR]
          rfl
        have HN1 := Lib.hid (HM2.out.alloc (.cells #[.slice Ai ni di] 23))
        have HSR := Lib.hid (one_row ESL 23 w2 (Ai, ni, di))
        have hb : (((P.take i).filter fun p => rightR p.2).map (·.1)).length + 1 ≤ 3000000 := by have := HLN.out; omega
        have HBN := Lib.hid hb
        clear hR hb
        go_wp2_with (at_builtin; refine wpList_sls11 _ rfl _ _ rfl _ _ rfl HN1.out.own _ rfl [(Ai, ni, di)] HSR.out HBN.out ?_; intro A8 n8 c8 w8 ho ht hn; have HN8 := Lib.hid (HN1.out.step ho ht hn); clear ho ht hn)
        go_roundw
        case rel => exact ⟨i + 1, by go_num, hlt, by rw [HFI.out]; exact HN8.out⟩
        case measure => simp [intOf]; omega
      | false =>
        have HFI : Hid (((P.take (i + 1)).filter fun p => rightR p.2).map (·.1) = ((P.take i).filter fun p => rightR p.2).map (·.1)) := by
          show _ = _
          rw [HTK.out, List.filter_append, List.map_append, List.filter_cons, if_neg (by rw [hR]; decide)]
          simp
        clear hR
        go_wp2
        go_roundw
        case rel => exact ⟨i + 1, by go_num, hlt, by rw [HFI.out]; exact HM2.out⟩
        case measure => simp [intOf]; omega
    · obtain rfl : i = 3 := by omega
      have HRS : Hid (RdS wr (.slice A7 m7 c7) ((P.filter fun p => rightR p.2).map (·.2))) := by
        have h := HM.out.own.rd
        rw [List.take_of_length_le (by rw [HP3.out]; exact Nat.le_refl _)] at h
        exact some_rds11 (fun p hp => (HPR.out p (List.mem_filter.1 hp).1).later HM.out.turn) h
      have HTR := Lib.hid HM.out.turn
      have HLS : Hid (((P.filter fun p => rightR p.2).map (·.2)) = [a, b, c].filter rightR) := by
        show _ = _
        rw [HPE.out]
        cases hra : rightR a <;> cases hrb : rightR b <;> cases hrc : rightR c <;> simp [List.filter, hra, hrb, hrc]
      rw [HLS.out] at HRS
      obtain ⟨ra, hra⟩ : ∃ ra, ra = if rightR a = true then a else [] := ⟨_, rfl⟩
      obtain ⟨rb, hrb⟩ : ∃ rb, rb = if rightR b = true then b else [] := ⟨_, rfl⟩
      obtain ⟨rc, hrc⟩ : ∃ rc, rc = if rightR c = true then c else [] := ⟨_, rfl⟩
      have HFL : Hid (([a, b, c].filter rightR).flatten = ra ++ rb ++ rc ∧ ([a, b, c].filter rightR).length ≤ 3 ∧ (ra ++ rb ++ rc).length ≤ 300 ∧ [ra, [], rb, rc].flatten = ra ++ rb ++ rc) := by
        have e0 : ra.length ≤ 100 := by rw [hra]; split <;> first | assumption | simp
        have e1 : rb.length ≤ 100 := by rw [hrb]; split <;> first | assumption | simp
        have e2 : rc.length ≤ 100 := by rw [hrc]; split <;> first | assumption | simp
        refine ⟨?_, List.length_filter_le _ _, by rw [List.length_append, List.length_append]; omega, by simp⟩
        rw [hra, hrb, hrc]
        cases h0 : rightR a <;> cases h1 : rightR b <;> cases h2 : rightR c <;> simp [List.filter, h0, h1, h2]
      have HKF : Hid (∀ x ∈ [a, b, c].filter rightR, ∀ r ∈ x, okC r.c) := by
        intro x hx
        have h := (List.mem_filter.1 hx).1
        simp only [List.mem_cons, List.not_mem_nil, or_false] at h
        rcases h with rfl | rfl | rfl
        · exact HKA.out
        · exact HKB.out
        · exact HKC.out
      have HMEQ : Hid (mergeR [ra, [], rb, rc] = mergeR ([a, b, c].filter rightR)) := by
        show _ = _
        unfold mergeR
        rw [HFL.out.1, HFL.out.2.2.2]
      have HMA := Lib.hid (fun W (ht : Turn (fun _ => False) w W) => made_any11 _ a W (HA.out.later ht) HKA.out (by omega))
      have HMB := Lib.hid (fun W (ht : Turn (fun _ => False) w W) => made_any11 _ b W (HB.out.later ht) HKB.out (by omega))
      have HMC := Lib.hid (fun W (ht : Turn (fun _ => False) w W) => made_any11 _ c W (HC.out.later ht) HKC.out (by omega))
      rw [← hra] at HMA
      rw [← hrb] at HMB
      rw [← hrc] at HMC
      clear hra hrb hrc HLS
      generalize [a, b, c].filter rightR = ls at *
      go_wp2_with fail
      refine (HMA.out _ HTR.out).mono ?_
      rintro e w2 ⟨s, rfl, hs, t2⟩
      obtain ⟨pa, rfl⟩ := hs.ptr
      have HT2 := Lib.hid (HTR.out.trans t2 (fun _ _ f => f)); have HS2 := Lib.hid hs; have HL2 := Lib.hid (HRS.out.later t2)
      clear hs t2
      go_wp2_with fail
      refine (HMB.out _ HT2.out).mono ?_
      rintro e w3 ⟨s, rfl, hs, t3⟩
      obtain ⟨pb, rfl⟩ := hs.ptr
      have HT3 := Lib.hid (HT2.out.trans t3 (fun _ _ f => f)); have HS3 := Lib.hid hs; have HA3 := Lib.hid (HS2.out.later t3); have HL3 := Lib.hid (HL2.out.later t3)
      clear hs t3
      go_wp2_with fail
      refine (HMC.out _ HT3.out).mono ?_
      rintro e w4 ⟨s, rfl, hs, t4⟩
      obtain ⟨pc, rfl⟩ := hs.ptr
      have HT4 := Lib.hid (HT3.out.trans t4 (fun _ _ f => f)); have HC4 := Lib.hid hs; have HA4 := Lib.hid (HA3.out.later t4); have HB4 := Lib.hid (HS3.out.later t4); have HL4 := Lib.hid (HL3.out.later t4)
      clear hs t4 HMA HMB HMC HS2 HS3 HA3 HL2 HL3
      have HMV : Hid (SVs11 (w4.alloc (.cells #[.pointer pa, .pointer none, .pointer pb, .pointer pc] 27)) (.slice (some ⟨w4.heap.size, 0, none⟩) 4 4) [ra, [], rb, rc]) := by
        have ha := (Turn.refl (fun _ => False) w4).alloc (.cells #[.pointer pa, .pointer none, .pointer pb, .pointer pc] 27)
        refine ⟨[pa, none, pb, pc], (OwE.made (E := EP11) (e := 27) w4 [pa, none, pb, pc] (by simp [maxLen])).rd, rfl, fun j q x h1 h2 => ?_⟩
        match j with
        | 0 => simp at h1 h2; subst h1 h2; exact HA4.out.later ha
        | 1 => simp at h1 h2; subst h1 h2; exact SV11.nil _
        | 2 => simp at h1 h2; subst h1 h2; exact HB4.out.later ha
        | 3 => simp at h1 h2; subst h1 h2; exact HC4.out.later ha
        | j + 4 => simp at h1
      have HME := Lib.hid (merge_any11 _ [ra, [], rb, rc] _ HMV.out (by rw [HFL.out.2.2.2]; have := HFL.out.2.2.1; omega) (by simp))
      have HRM : Hid (∀ W, Turn (fun _ => False) w4 W → Calls Try.prog 19 #[.slice A7 m7 c7] W fun e w' => Put11 W (mergeR ls) e w') := fun W ht => ref_merge11 _ ls W (HL4.out.later ht) HKF.out (by rw [HFL.out.1]; have := HFL.out.2.2.1; omega) (by have := HFL.out.2.1; omega)
      rw [HMEQ.out] at HME
      unfold Seg11 faultO at HME
      unfold Put11 at HRM
      clear HMV HMEQ HFL HKF
      generalize mergeR ls = o at *
      obtain ⟨fo, hfo⟩ : ∃ fo : Int, fo = if o.isSome = true then 0 else 6 := ⟨_, rfl⟩
      rw [← hfo] at HME HRM
      have hff : (fo == fo) = true := beq_self_eq_true fo
      clear hfo
      go_wp2_with fail
      refine HME.out.mono ?_
      rintro e w5 ⟨s, rfl, hs, t5⟩
      obtain ⟨p, rfl⟩ := hs.ptr
      have HT45 := Lib.hid (((Turn.refl _ w4).alloc (.cells #[.pointer pa, .pointer none, .pointer pb, .pointer pc] 27)).trans t5 (fun _ _ f => f))
      have HS5 := Lib.hid hs
      clear hs t5
      go_wp2_with fail
      refine (HRM.out _ HT45.out).mono ?_
      rintro e w6 ⟨u, rfl, hu, t6⟩
      obtain ⟨B6, d6, e6⟩ := hu.shape
      subst e6
      have HS6 := Lib.hid (HS5.out.later t6); have HU6 := Lib.hid hu
      have HT6 := Lib.hid ((HT4.out.trans HT45.out (fun _ _ f => f)).trans t6 (fun _ _ f => f))
      clear hu t6 HME HRM
      have hgl : (o.getD []).length ≤ 1000 := HS6.out.right.2.2
      generalize o.getD [] = G at *
      go_wp2_with fail
      refine (back_any11 _ G w6 HS6.out).mono ?_
      rintro e w7 ⟨u7, rfl, hu7, t7⟩
      have HT7 := Lib.hid (HT6.out.trans t7 (fun _ _ f => f))
      have HSM := Lib.hid (same_refl11 u7 _ G w7 hu7 (HU6.out.later t7) (by omega))
      clear hu7 t7
      go_wp2_with fail
      refine HSM.out.mono ?_
      rintro e w8 ⟨rfl, t8⟩
      have HT8 := Lib.hid (HT7.out.trans t8 (fun _ _ f => f))
      clear t8 HSM
      go_wp2_with fail
      refine (HAL.out _).mono ?_
      rintro e wz ⟨rfl, tz⟩
      have HTZ := Lib.hid (HT8.out.trans tz (fun _ _ f => f))
      clear tz
      go_wp2
      go_ret
      exact ⟨rfl, HTZ.out.below (Nat.le_refl _) (fun _ f => f.elim)⟩

set_option maxRecDepth 100000 in
theorem lifted (os : Os) (started : os.Started) (H : Type) (enc : TypeId × Value → H) :
    ReturnsInHanded {} Try.checked os 4 .any (Rows.segMergesSpec.pre6 enc Try.prog Try.f4 Rows.segMergesRow.domain false) (Rows.segMergesSpec.post enc Try.prog Try.f4 false true false false) := by
  refine returnsInHanded_of_change (C := Try.checked) own started (by kernel_rfl) Try.func4
    (ChangeSpec.witness6 (enc := enc) (C := Try.checked) false ⟨#[], #[.slice none 0 0, .slice none 0 0, .slice none 0 0], []⟩ 8 (by kernel_rfl) (by kernel_rfl) (by kernel_rfl) (by kernel_rfl)) ?_
  intro W base args ds gs before hval0 hW hcnd _
  have hval : ∀ (j : Nat) t v, Try.f4.params[j]? = some t → args[j]? = some v → Value.okWide Try.prog W .any base t v := hval0
  have hW' := hW
  obtain ⟨p, q, hA0, hV, rfl, hfz, hnd⟩ := hW
  have hA : DataW.TrodAll enc Try.prog W 0 (fun _ => true) true Try.f4.params.toList args.toList ds p := hA0
  rw [Try.params4] at hA hval
  obtain ⟨v0, vs0, d0, ds0, p0, q0, hargs, rfl, rfl, h0, r0⟩ := trodAll_cons hA
  obtain ⟨v1, vs1, d1, ds1, p1, q1, rfl, rfl, rfl, h1, r1⟩ := trodAll_cons r0
  obtain ⟨v2, vs2, d2, ds2, p2, q2, rfl, rfl, rfl, h2, r2⟩ := trodAll_cons r1
  obtain ⟨rfl, rfl, rfl⟩ := trodAll_nil r2
  obtain rfl : args = #[v0, v1, v2] := by cases args; simp_all
  obtain ⟨rfl, rfl⟩ := trodVars_none hV
  have k0 := h0
  have lt0 : ∀ x ∈ p0, x.block < W.heap.size := by obtain ⟨m, hm⟩ := k0; exact DataW.trod_lt m _ _ _ hm
  obtain ⟨a0, len0, cap0, rfl⟩ := okWide_slice Try.underlying23 (hval 0 23 v0 rfl rfl)
  obtain ⟨l0, hp0, hl0, hf0⟩ := open_rows11 rfl h0
  have k1 := h1
  have lt1 : ∀ x ∈ p1, x.block < W.heap.size := by obtain ⟨m, hm⟩ := k1; exact DataW.trod_lt m _ _ _ hm
  obtain ⟨a1, len1, cap1, rfl⟩ := okWide_slice Try.underlying23 (hval 1 23 v1 rfl rfl)
  obtain ⟨l1, hp1, hl1, hf1⟩ := open_rows11 rfl h1
  have k2 := h2
  have lt2 : ∀ x ∈ p2, x.block < W.heap.size := by obtain ⟨m, hm⟩ := k2; exact DataW.trod_lt m _ _ _ hm
  obtain ⟨a2, len2, cap2, rfl⟩ := okWide_slice Try.underlying23 (hval 2 23 v2 rfl rfl)
  obtain ⟨l2, hp2, hl2, hf2⟩ := open_rows11 rfl h2
  clear hA0 hval0
  refine (walk _ _ _ l0 l1 l2 W hp0 hp1 hp2 hl0 hl1 hl2 hf0 hf1 hf2).mono fun e W' ⟨he, bel⟩ => ?_
  subst he
  exact ⟨_, rfl, _, _, _, [], _, [], hW', trodAll_mk1 (shut_bool Try.underlying4 _), (trodAll_cons_mk (Below.trod laidOut (by kernel_rfl) (of_decide_eq_true (by kernel_rfl)) k0 bel lt0) (trodAll_cons_mk (Below.trod laidOut (by kernel_rfl) (of_decide_eq_true (by kernel_rfl)) k1 bel lt1) (trodAll_cons_mk (Below.trod laidOut (by kernel_rfl) (of_decide_eq_true (by kernel_rfl)) k2 bel lt2) trodAll_mk0))), rfl, bel.frame _, fun h => by cases h⟩

theorem over : Rows.segMergesRow.holds Try.pinned (OpenSpec.ofChange Rows.segMergesSpec) :=
  OpenClaim.holds_of_wide 4 Try.f4 rfl rfl rfl rfl rfl rfl rfl ⟨rfl, rfl, rfl, rfl, rfl⟩ rfl rfl rfl rfl rfl (by kernel_rfl) Try.func4 (by kernel_rfl)
    (of_decide_eq_true (by kernel_rfl)) (by unfold Func.isWrapper; first | (rw [if_pos (by decide +kernel)]; kernel_rfl) | (rw [if_neg (by decide +kernel)]; exact ⟨rfl, rfl⟩))
    (fun os started H enc _ => lifted os started H enc)

theorem proved : Rows.SegMergesSaid := over
#print axioms proved
end Go.Proofs.Ytnnlgeldjjknmaa.segMerges
