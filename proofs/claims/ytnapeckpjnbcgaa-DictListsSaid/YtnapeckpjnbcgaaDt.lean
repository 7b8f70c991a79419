
/-
  Stage 10: the statement's own list of a dictionary's things; the chapter's example.
-/
import Derived.Test.YtnapeckpjnbcgaaDq
import Derived.Test.YtnapeckpjnbcgaaEr
namespace Go.Proofs.Ytnapeckpjnbcgaa
open Go.RowKit

set_option maxRecDepth 100000

theorem at_in10 {L : List (List UInt8)} {i : Nat} {x : List UInt8} (h : L[i]? = some x) : atA (i : Int) L = .tuple #[sv10 x, .bool true] := by
  unfold atA atT
  rw [if_pos (Int.natCast_nonneg i), Int.toNat_natCast, h]
  rfl

set_option maxHeartbeats 4000000 in
theorem things10 (d : Value) (L : List (List UInt8)) (w : World) (h : DV10 w d L) (hl : L.length ≤ 1000) : Calls Try.prog 14 #[d] w fun e w' => Texts10 w L e w' := by
  have HD := Lib.hid h
  obtain ⟨p, rfl⟩ := h.ptr
  clear h
  have HN0 : Hid (NewE ET10 9 w w (.slice none 0 0) []) := ⟨OwE.nil _, (fun k e => by simp [Value.ownBlock] at e), Turn.refl _ w⟩
  go_enter Try.func14, Try.ntmps14
  go_wp2_with fail
  go_loopw [3, 4] (fun x3 x4 wr => ∃ i : Nat, x4 = .int .i64 (i : Int) ∧ i ≤ L.length ∧ NewE ET10 9 w wr x3 (L.take i)) (fun _ x4 _ => L.length - (intOf x4).toNat)
  case atStart => exact ⟨0, rfl, Nat.zero_le _, by rw [List.take_zero]; exact HN0.out⟩
  case round =>
    obtain ⟨i, rfl, hi, hm⟩ := hrel
    have HM := Lib.hid hm
    obtain ⟨A2, c2, hv⟩ := hm.own.shape
    have hti : (L.take i).length = i := by rw [List.length_take]; omega
    rw [hti] at hv
    subst hv
    clear hm
    go_wp2_with fail
    refine (len_any10 _ L wr (HD.out.later HM.out.turn)).mono ?_
    rintro e w1 ⟨rfl, t1⟩
    have HM1 : Hid (NewE ET10 9 w w1 (.slice A2 i c2) (L.take i)) := ⟨HM.out.own.later t1, HM.out.new, HM.out.turn.trans t1 (fun _ _ f => f)⟩
    clear t1
    by_cases hlt : i < L.length
    · obtain ⟨x, hx⟩ : ∃ x, L[i]? = some x := ⟨_, List.getElem?_eq_getElem hlt⟩
      have hil : (i : Int) < L.length := by omega
      have HAT := at_any10 (.pointer p) L (i : Int) w1 (HD.out.later HM1.out.turn)
      rw [at_in10 hx] at HAT
      have HA := Lib.hid HAT
      have HTK : Hid (L.take (i + 1) = L.take i ++ [x]) := by
        show _ = _
        obtain ⟨h0, e⟩ := List.getElem?_eq_some_iff.1 hx
        rw [List.take_succ_eq_append_getElem h0, e]
      clear hx HAT
      go_wp2_with fail
      refine HA.out.mono ?_
      rintro e w2 ⟨rfl, t2⟩
      have HM2 : Hid (NewE ET10 9 w w2 (.slice A2 i c2) (L.take i)) := ⟨HM1.out.own.later t2, HM1.out.new, HM1.out.turn.trans t2 (fun _ _ f => f)⟩
      have HN1 := Lib.hid (HM2.out.alloc (.cells #[sv10 x] 9))
      have HSR := Lib.hid (one_row ET10 9 w2 x)
      clear t2
      go_wp2_with (at_builtin; refine wpList_texts10 _ rfl _ _ rfl _ _ rfl HN1.out.own _ rfl [x] HSR.out (by simp only [List.length_cons, List.length_nil, hti]; omega) ?_; intro A3 n3 c3 w3 ho ht hn; have HN3 := Lib.hid (HN1.out.step ho ht hn); clear ho ht hn)
      go_roundw
      case rel => exact ⟨i + 1, by go_num, hlt, by rw [HTK.out]; exact HN3.out⟩
      case measure => simp [intOf]; omega
    · obtain rfl : i = L.length := by omega
      have HM2 : Hid (NewE ET10 9 w w1 (.slice A2 L.length c2) L) := by have h := HM1.out; rwa [List.take_length] at h
      go_wp2
      go_ret
      exact ⟨_, rfl, HM2.out.own.rd, HM2.out.turn⟩

theorem abb10 : ofT [[98], [97], [98]] = [[97], [98]] := by decide
set_option maxHeartbeats 2000000 in
theorem alive_any10 (w : World) : Calls Try.prog 7 #[] w fun e w' => e = .returned (.bool true) ∧ Turn (fun _ => False) w w' := by
  have hrow : RdE ET10 (w.alloc (.cells #[.string ⟨#[98]⟩, .string ⟨#[97]⟩, .string ⟨#[98]⟩] 9)) (.slice (some ⟨w.heap.size, 0, none⟩) 3 3) [[98], [97], [98]] :=
    (OwE.made (E := ET10) (e := 9) w [[98], [97], [98]] (by simp [maxLen])).rd
  have HOF := Lib.hid (of_any10 _ _ _ hrow (by simp))
  rw [abb10] at HOF
  have hc : codeA [98] [[97], [98]] = .tuple #[.int .i64 1, .bool true] := by simp [codeA, idxG]
  have ha : atA 0 [[97], [98]] = .tuple #[sv10 [97], .bool true] := by simp [atA, atT]
  have HC := Lib.hid hc
  have HA := Lib.hid ha
  clear hrow hc ha
  go_enter Try.func7, Try.ntmps7
  go_wp2_with fail
  refine HOF.out.mono ?_
  rintro e w1 ⟨d, rfl, h1, t1⟩
  obtain ⟨p, rfl⟩ := h1.ptr
  have H1 := Lib.hid h1
  have HT1 : Hid (Turn (fun _ => False) w w1) := ((Turn.refl _ w).alloc _).trans t1 (fun _ _ f => f)
  have H2 := code_any10 _ _ [98] w1 h1
  rw [HC.out] at H2
  have HC2 := Lib.hid H2
  clear h1 t1 H2
  go_wp2_with fail
  refine HC2.out.mono ?_
  rintro e w2 ⟨rfl, t2⟩
  have H3 := at_any10 _ _ 0 w2 (H1.out.later t2)
  rw [HA.out] at H3
  have HA2 := Lib.hid H3
  have HD2 := Lib.hid (H1.out.later t2)
  have HT2 : Hid (Turn (fun _ => False) w w2) := HT1.out.trans t2 (fun _ _ f => f)
  clear t2 H3
  go_wp2_with fail
  refine HA2.out.mono ?_
  rintro e w3 ⟨rfl, t3⟩
  have HL := Lib.hid (len_any10 _ _ w3 (HD2.out.later t3))
  have HT3 : Hid (Turn (fun _ => False) w w3) := HT2.out.trans t3 (fun _ _ f => f)
  clear t3
  go_wp2_with fail
  refine HL.out.mono ?_
  rintro e w4 ⟨rfl, t4⟩
  have HT4 : Hid (Turn (fun _ => False) w w4) := HT3.out.trans t4 (fun _ _ f => f)
  clear t4
  go_wp2
  go_ret
  exact ⟨rfl, HT4.out⟩

end Go.Proofs.Ytnapeckpjnbcgaa
