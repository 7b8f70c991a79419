
/-
  Stage 10: the program's Codes and Things: there and back by a function that asks (things int64).
-/
import Derived.Test.YtnapeckpjnbcgaaDpbi
import Derived.Test.YtnapeckpjnbcgaaDpm
namespace Go.Proofs.Ytnapeckpjnbcgaa
open Go.RowKit

set_option maxRecDepth 100000

set_option maxHeartbeats 4000000 in
theorem each_code_int10 (v d : Value) (L b : List Int) (w : World) (h : DI10 w d L) (hv : RdE EC10 w v b) (hl : b.length ≤ 1000) :
    Calls Try.prog 36 #[v, .func (.func 37) #[d] #[]] w fun e w' => Codes10 w b L e w' := by
  have HV := Lib.hid hv; have HD := Lib.hid h
  obtain ⟨A, c, rfl⟩ := hv.shape
  clear hv h
  have hmk := made_codes10 b.length (by omega) w
  have HM0 : Hid (NewE EC10 3 w (w.alloc (.cells (madeCells (Value.cells (.int .i64 0)) b.length) 3)) (.slice (some ⟨w.heap.size, 0, none⟩) 0 b.length) ((b.take 0).map fun x => (idxG x L : Int))) :=
    ⟨own_codes10 b.length (by omega) w, (fun k e => Nat.le_of_eq (by simpa [Value.ownBlock] using e)), (Turn.refl _ w).alloc _⟩
  go_enter Try.func36, Try.ntmps36
  go_wp2_with fail
  clear hmk
  go_loopw [6, 16] (fun x6 x16 wr => ∃ i : Nat, x16 = .int .i64 (i : Int) ∧ i ≤ b.length ∧ (∀ x ∈ b.take i, x ∈ L) ∧ NewE EC10 3 w wr x6 ((b.take i).map fun x => (idxG x L : Int))) (fun _ x16 _ => b.length - (intOf x16).toNat)
  case atStart => exact ⟨0, rfl, Nat.zero_le _, (fun x hx => by simp at hx), HM0.out⟩
  case round =>
    obtain ⟨i, rfl, hi, hin, hm⟩ := hrel
    have HM := Lib.hid hm
    have HIN : Hid (∀ x ∈ b.take i, x ∈ L) := hin
    obtain ⟨A2, c2, hv⟩ := hm.own.shape
    have hti : (((b.take i).map fun x => (idxG x L : Int))).length = i := by rw [List.length_map, List.length_take]; omega
    rw [hti] at hv
    subst hv
    clear hm hin
    by_cases hlt : i < b.length
    · obtain ⟨x, hx⟩ : ∃ x, b[i]? = some x := ⟨_, List.getElem?_eq_getElem hlt⟩
      obtain ⟨ad, rfl, hc⟩ := num_at10 HV.out hx
      have e0 := hc _ HM.out.turn
      have hil : (i : Int) < b.length := by omega
      have HTK : Hid (b.take (i + 1) = b.take i ++ [x]) := by
        show _ = _
        obtain ⟨h0, e⟩ := List.getElem?_eq_some_iff.1 hx
        rw [List.take_succ_eq_append_getElem h0, e]
      have HXB := Lib.hid (List.mem_of_getElem? hx)
      have HC := Lib.hid (code_int10 d L x wr (HD.out.later HM.out.turn))
      clear hc hx
      by_cases hk : idxG x L < L.length
      · have EC : Hid (codeI x L = .tuple #[.int .i64 (idxG x L : Int), .bool true]) := by show _ = _; unfold codeI; rw [if_pos hk, decide_eq_true hk]
        have HXL := Lib.hid (idxG_mem.1 hk)
        rw [EC.out] at HC
        have HTM : Hid (((b.take (i + 1)).map fun x => (idxG x L : Int)) = ((b.take i).map fun x => (idxG x L : Int)) ++ [(idxG x L : Int)]) := by show _ = _; rw [HTK.out, List.map_append]; rfl
        generalize idxG x L = q at *
        clear hk EC
        go_wp2_with fail
        refine HC.out.mono ?_
        rintro e w2 ⟨rfl, t2⟩
        have HM2 : Hid (NewE EC10 3 w w2 (.slice A2 i c2) ((b.take i).map fun x => (idxG x L : Int))) := ⟨HM.out.own.later t2, HM.out.new, HM.out.turn.trans t2 (fun _ _ f => f)⟩
        have HN1 := Lib.hid (HM2.out.alloc (.cells #[.int .i64 (q : Int)] 3))
        have HSR := Lib.hid (one_row EC10 3 w2 (q : Int))
        clear t2
        go_wp2_with (at_builtin; refine wpList_codes10 _ rfl _ _ rfl _ _ rfl HN1.out.own _ rfl [(q : Int)] HSR.out (by simp only [List.length_cons, List.length_nil, hti]; omega) ?_; intro A3 n3 c3 w3 ho ht hn; have HN3 := Lib.hid (HN1.out.step ho ht hn); clear ho ht hn)
        go_roundw
        case rel => exact ⟨i + 1, by go_num, hlt, (fun y hy => by rw [HTK.out] at hy; rcases List.mem_append.1 hy with hy | hy <;> first | exact HIN.out y hy | (rw [List.mem_singleton.1 hy]; exact HXL.out)), by rw [HTM.out]; exact HN3.out⟩
        case measure => simp [intOf]; omega
      · have EC : Hid (codeI x L = .tuple #[.int .i64 0, .bool false]) := by show _ = _; unfold codeI; rw [if_neg hk, decide_eq_false hk]
        have EI : Hid (allIn b L = false) := by
          cases e : allIn b L with
          | false => exact rfl
          | true => exact absurd (idxG_mem.2 (allIn_iff.1 e x HXB.out)) hk
        rw [EC.out] at HC
        clear hk EC
        go_wp2_with fail
        refine HC.out.mono ?_
        rintro e w2 ⟨rfl, t2⟩
        have HT2 := Lib.hid (HM.out.turn.trans t2 (fun _ _ f => f))
        clear t2
        go_wp2
        go_ret2
        exact ⟨_, by rw [EI.out]; rfl, by unfold codesG; rw [EI.out]; exact RdE.nil _, HT2.out⟩
    · obtain rfl : i = b.length := by omega
      have HM2 := HM.out
      have HIN2 := HIN.out
      rw [List.take_length] at HM2 HIN2
      have EI : Hid (allIn b L = true) := allIn_iff.2 HIN2
      have HR := Lib.hid HM2.own.rd
      clear HM2 HIN2
      go_wp2
      go_ret2
      exact ⟨_, by rw [EI.out]; rfl, by unfold codesG; rw [EI.out]; exact HR.out, HM.out.turn⟩

set_option maxHeartbeats 4000000 in
theorem each_thing_int10 (v d : Value) (L : List Int) (cs : List Int) (w : World) (h : DI10 w d L) (hv : RdE EC10 w v cs) (hl : cs.length ≤ 1000) :
    Calls Try.prog 38 #[v, .func (.func 39) #[d] #[]] w fun e w' => Things10 EC10 w cs L e w' := by
  have HV := Lib.hid hv; have HD := Lib.hid h
  obtain ⟨A, c, rfl⟩ := hv.shape
  clear hv h
  have hmk := made_nums10 cs.length (by omega) w
  have HM0 : Hid (NewE EC10 2 w (w.alloc (.cells (madeCells (Value.cells (.int .i64 0)) cs.length) 2)) (.slice (some ⟨w.heap.size, 0, none⟩) 0 cs.length) ((cs.take 0).filterMap fun n => atG n L)) :=
    ⟨own_nums10 cs.length (by omega) w, (fun k e => Nat.le_of_eq (by simpa [Value.ownBlock] using e)), (Turn.refl _ w).alloc _⟩
  go_enter Try.func38, Try.ntmps38
  go_wp2_with fail
  clear hmk
  go_loopw [6, 16] (fun x6 x16 wr => ∃ i : Nat, x16 = .int .i64 (i : Int) ∧ i ≤ cs.length ∧ (∀ n ∈ cs.take i, (atG n L).isSome = true) ∧ ((cs.take i).filterMap fun n => atG n L).length = i ∧ NewE EC10 2 w wr x6 ((cs.take i).filterMap fun n => atG n L)) (fun _ x16 _ => cs.length - (intOf x16).toNat)
  case atStart => exact ⟨0, rfl, Nat.zero_le _, (fun x hx => by simp at hx), by simp, HM0.out⟩
  case round =>
    obtain ⟨i, rfl, hi, hin, hti, hm⟩ := hrel
    have HM := Lib.hid hm
    have HIN : Hid (∀ n ∈ cs.take i, (atG n L).isSome = true) := hin
    obtain ⟨A2, c2, hv⟩ := hm.own.shape
    rw [hti] at hv
    subst hv
    clear hm hin
    by_cases hlt : i < cs.length
    · obtain ⟨n, hx⟩ : ∃ n, cs[i]? = some n := ⟨_, List.getElem?_eq_getElem hlt⟩
      obtain ⟨ad, rfl, hc⟩ := num_at10 HV.out hx
      have e0 := hc _ HM.out.turn
      have hil : (i : Int) < cs.length := by omega
      have HTK : Hid (cs.take (i + 1) = cs.take i ++ [n]) := by
        show _ = _
        obtain ⟨h0, e⟩ := List.getElem?_eq_some_iff.1 hx
        rw [List.take_succ_eq_append_getElem h0, e]
      have HXB := Lib.hid (List.mem_of_getElem? hx)
      have HC := Lib.hid (at_int10 d L n wr (HD.out.later HM.out.turn))
      clear hc hx
      cases hk : atG n L with
      | some y =>
        have EC : Hid (atI n L = .tuple #[(.int .i64 y), .bool true]) := by show _ = _; unfold atI; rw [hk]; rfl
        rw [EC.out] at HC
        have HKS : Hid ((atG n L).isSome = true) := by show _ = _; rw [hk]; rfl
        have HTM : Hid (((cs.take (i + 1)).filterMap fun n => atG n L) = ((cs.take i).filterMap fun n => atG n L) ++ [y]) := by show _ = _; rw [HTK.out, List.filterMap_append, List.filterMap_cons, hk]; rfl
        clear hk EC
        go_wp2_with fail
        refine HC.out.mono ?_
        rintro e w2 ⟨rfl, t2⟩
        have HM2 : Hid (NewE EC10 2 w w2 (.slice A2 i c2) ((cs.take i).filterMap fun n => atG n L)) := ⟨HM.out.own.later t2, HM.out.new, HM.out.turn.trans t2 (fun _ _ f => f)⟩
        have HN1 := Lib.hid (HM2.out.alloc (.cells #[(.int .i64 y)] 2))
        have HSR := Lib.hid (one_row EC10 2 w2 y)
        clear t2
        go_wp2_with (at_builtin; refine wpList_nums10 _ rfl _ _ rfl _ _ rfl HN1.out.own _ rfl [y] HSR.out (by simp only [List.length_cons, List.length_nil, hti]; omega) ?_; intro A3 n3 c3 w3 ho ht hn; have HN3 := Lib.hid (HN1.out.step ho ht hn); clear ho ht hn)
        go_roundw
        case rel => exact ⟨i + 1, by go_num, hlt, (fun y hy => by rw [HTK.out] at hy; rcases List.mem_append.1 hy with hy | hy <;> first | exact HIN.out y hy | (rw [List.mem_singleton.1 hy]; exact HKS.out)), by rw [HTM.out, List.length_append, hti]; rfl, by rw [HTM.out]; exact HN3.out⟩
        case measure => simp [intOf]; omega
      | none =>
        have EC : Hid (atI n L = .tuple #[.int .i64 0, .bool false]) := by show _ = _; unfold atI; rw [hk]; rfl
        have EI : Hid (allAt cs L = false) := by
          cases e : allAt cs L with
          | false => exact rfl
          | true =>
            unfold allAt at e
            rw [List.all_eq_true] at e
            have := e n HXB.out
            rw [hk] at this
            cases this
        rw [EC.out] at HC
        clear hk EC
        go_wp2_with fail
        refine HC.out.mono ?_
        rintro e w2 ⟨rfl, t2⟩
        have HT2 := Lib.hid (HM.out.turn.trans t2 (fun _ _ f => f))
        clear t2
        go_wp2
        go_ret2
        exact ⟨_, by rw [EI.out]; rfl, by unfold thingsG; rw [EI.out]; exact RdE.nil _, HT2.out⟩
    · obtain rfl : i = cs.length := by omega
      have HM2 := HM.out
      have HIN2 := HIN.out
      rw [List.take_length] at HM2 HIN2
      have EI : Hid (allAt cs L = true) := by show _ = _; unfold allAt; rw [List.all_eq_true]; exact HIN2
      have HR := Lib.hid HM2.own.rd
      have HT2 := Lib.hid HM.out.turn
      rw [List.take_length] at hti
      clear HM2 HIN2 HIN
      go_wp2
      go_ret2
      exact ⟨_, by rw [EI.out]; rfl, by unfold thingsG; rw [EI.out]; exact HR.out, HT2.out⟩

theorem codes_int10 (d v : Value) (L b : List Int) (w : World) (h : DI10 w d L) (hd : d ≠ .pointer none) (hv : RdE EC10 w v b) (hl : b.length ≤ 1000) : Calls Try.prog 19 #[d, v] w fun e w' => Codes10 w b L e w' := by
  have HC := Lib.hid (each_code_int10 v d L b w h hv hl)
  obtain ⟨p, rfl⟩ := h.ptr
  obtain ⟨A, c, rfl⟩ := hv.shape
  cases p with
  | none => exact absurd rfl hd
  | some ad =>
    clear h hv hd
    go_enter Try.func19, Try.ntmps19
    go_wp2_with fail
    refine HC.out.mono ?_
    rintro e w2 ⟨u, rfl, hu, t2⟩
    obtain ⟨A2, c2, rfl⟩ := hu.shape
    have HU := Lib.hid hu; have HT := Lib.hid t2
    clear hu t2 HC
    go_wp2
    go_ret2
    exact ⟨_, rfl, HU.out, HT.out⟩
theorem things_int10 (d v : Value) (L : List Int) (cs : List Int) (w : World) (h : DI10 w d L) (hd : d ≠ .pointer none) (hv : RdE EC10 w v cs) (hl : cs.length ≤ 1000) : Calls Try.prog 20 #[d, v] w fun e w' => Things10 EC10 w cs L e w' := by
  have HC := Lib.hid (each_thing_int10 v d L cs w h hv hl)
  obtain ⟨p, rfl⟩ := h.ptr
  obtain ⟨A, c, rfl⟩ := hv.shape
  cases p with
  | none => exact absurd rfl hd
  | some ad =>
    clear h hv hd
    go_enter Try.func20, Try.ntmps20
    go_wp2_with fail
    refine HC.out.mono ?_
    rintro e w2 ⟨u, rfl, hu, t2⟩
    obtain ⟨A2, c2, rfl⟩ := hu.shape
    have HU := Lib.hid hu; have HT := Lib.hid t2
    clear hu t2 HC
    go_wp2
    go_ret2
    exact ⟨_, rfl, HU.out, HT.out⟩

end Go.Proofs.Ytnapeckpjnbcgaa
