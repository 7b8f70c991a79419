
/-
  Stage 10: the program's dictionary in memory; Len, At, Code (things string).
-/
import Derived.Test.YtnapeckpjnbcgaaDcb
import Derived.Test.YtnapeckpjnbcgaaDcn
import Derived.Test.YtnapeckpjnbcgaaDpa
import Derived.Test.YtnapeckpjnbcgaaHks
import Derived.Test.YtnapeckpjnbcgaaEr
namespace Go.Proofs.Ytnapeckpjnbcgaa
open Go.RowKit

set_option maxRecDepth 100000

/-- A dictionary's things; a nil one has none. -/
structure DV10 (w : World) (v : Value) (L : List (List UInt8)) : Prop where
  out : (v = .pointer none ∧ L = []) ∨ ∃ d g sl, v = .pointer (some ⟨d, 0, none⟩) ∧ Box w d 57 #[.pointer (some ⟨g, 0, none⟩), sl] ∧ oms.MP w g (numFrom 0 L) ∧ RdE ET10 w sl L
  up : L.Pairwise fun x y => Op.bytesLess x y = true
  len : L.length ≤ 1000
theorem DV10.later {w w' : World} {v : Value} {L : List (List UInt8)} (h : DV10 w v L) (ht : Turn (fun _ => False) w w') : DV10 w' v L :=
  ⟨h.out.imp id fun ⟨d, g, sl, e, hb, hm, hr⟩ => ⟨d, g, sl, e, hb.turn ht (fun f => f), hm.later ht, hr.later ht⟩, h.up, h.len⟩
theorem DV10.nil (w : World) : DV10 w (.pointer none) [] := ⟨.inl ⟨rfl, rfl⟩, List.Pairwise.nil, Nat.zero_le _⟩
theorem DV10.ptr {w : World} {v : Value} {L : List (List UInt8)} (h : DV10 w v L) : ∃ p, v = .pointer p := by
  rcases h.out with ⟨rfl, _⟩ | ⟨d, g, sl, rfl, _⟩
  · exact ⟨_, rfl⟩
  · exact ⟨_, rfl⟩

theorem len_same_any10 (d : Value) (L : List (List UInt8)) (w : World) (h : DV10 w d L) : Calls Try.prog 22 #[d] w fun e w' => e = .returned (.int .i64 (L.length : Int)) ∧ w = w' := by
  rcases h.out with ⟨rfl, rfl⟩ | ⟨d, g, sl, rfl, hb, hm, hr⟩
  · clear h
    go_enter Try.func22, Try.ntmps22
    go_wp2
    go_ret
    exact ⟨rfl, rfl⟩
  · obtain ⟨A, c, rfl⟩ := hr.shape
    have c1 := hb.cell 1
    clear h hb hm hr
    go_enter Try.func22, Try.ntmps22
    go_wp2
    go_ret
    exact ⟨rfl, rfl⟩
theorem len_any10 (d : Value) (L : List (List UInt8)) (w : World) (h : DV10 w d L) : Calls Try.prog 22 #[d] w fun e w' => e = .returned (.int .i64 (L.length : Int)) ∧ Turn (fun _ => False) w w' :=
  (len_same_any10 d L w h).mono fun _ _ ⟨he, hw⟩ => ⟨he, by rw [← hw]; exact Turn.refl _ w⟩

/-- What is answered. -/
def codeA (x : List UInt8) (L : List (List UInt8)) : Value := .tuple #[.int .i64 (if idxG x L < L.length then (idxG x L : Int) else 0), .bool (decide (idxG x L < L.length))]
def atT (n : Int) (L : List (List UInt8)) : Option (List UInt8) := if 0 ≤ n then L[n.toNat]? else none
def atA (n : Int) (L : List (List UInt8)) : Value := .tuple #[sv10 ((atT n L).getD []), .bool (atT n L).isSome]

set_option maxHeartbeats 2000000 in
theorem code_any10 (d : Value) (L : List (List UInt8)) (x : List UInt8) (w : World) (h : DV10 w d L) : Calls Try.prog 10 #[d, sv10 x] w fun e w' => e = .returned (codeA x L) ∧ Turn (fun _ => False) w w' := by
  rcases h.out with ⟨rfl, rfl⟩ | ⟨d, g, sl, rfl, hb, hm, hr⟩
  · clear h
    go_enter Try.func10, Try.ntmps10
    go_wp2
    go_ret2
    exact ⟨by simp [codeA, idxG], Turn.refl _ w⟩
  · have HG := Lib.hid (oms.get_any x hm)
    rw [numFrom_get rises_bytes x 0 h.up] at HG
    have c0 := hb.cell 0
    clear h hb hm hr
    unfold sv10
    by_cases hi : idxG x L < L.length
    · rw [if_pos hi] at HG
      go_enter Try.func10, Try.ntmps10
      go_wp2_with (go_at_call 27; refine (HG.out).mono ?_; rintro e w' ⟨rfl, ht⟩; have HT := Lib.hid ht; clear ht; unfold oms.getA)
      go_ret2
      exact ⟨by simp [codeA, hi], HT.out⟩
    · rw [if_neg hi] at HG
      go_enter Try.func10, Try.ntmps10
      go_wp2_with (go_at_call 27; refine (HG.out).mono ?_; rintro e w' ⟨rfl, ht⟩; have HT := Lib.hid ht; clear ht; unfold oms.getA)
      go_ret2
      exact ⟨by simp [codeA, hi], HT.out⟩

set_option maxHeartbeats 2000000 in
theorem at_any10 (d : Value) (L : List (List UInt8)) (n : Int) (w : World) (h : DV10 w d L) : Calls Try.prog 12 #[d, .int .i64 n] w fun e w' => e = .returned (atA n L) ∧ Turn (fun _ => False) w w' := by
  have HLN := Lib.hid (len_same_any10 d L w h)
  obtain ⟨p, rfl⟩ := h.ptr
  by_cases hn : 0 ≤ n ∧ n < L.length
  · obtain ⟨n0, n1⟩ := hn
    obtain ⟨N, rfl⟩ := Int.eq_ofNat_of_zero_le n0
    have hNl : N < L.length := by omega
    obtain ⟨y, hy⟩ : ∃ y, L[N]? = some y := ⟨_, List.getElem?_eq_getElem hNl⟩
    have EA : Hid (atA (N : Int) L = .tuple #[sv10 y, .bool true]) := by show _ = _; unfold atA atT; rw [if_pos n0, Int.toNat_natCast, hy]; rfl
    rcases h.out with ⟨_, rfl⟩ | ⟨d, g, sl, e0, hb, hm, hr⟩
    · simp at hy
    · cases e0
      obtain ⟨A, c, rfl⟩ := hr.shape
      obtain ⟨ad, rfl, hc⟩ := str_at10 hr hy
      have HC := Lib.hid hc
      have c1 := hb.cell 1
      have e1 := hc w (Turn.refl _ w)
      unfold sv10 at e1 EA
      clear h hb hm hr hc hy
      go_enter Try.func12, Try.ntmps12
      go_wp2_with (go_at_call 22; with_reducible refine (HLN.out).mono ?_; rintro e w' ⟨rfl, rfl⟩)
      go_ret2
      exact ⟨by rw [EA.out]; rfl, Turn.refl _ w⟩
  · have EA : Hid (atA n L = .tuple #[(sv10 []), .bool false]) := by
      show _ = _
      have ey : atT n L = none := by
        unfold atT
        split
        · rw [List.getElem?_eq_none (by omega)]
        · rfl
      unfold atA
      rw [ey]
      rfl
    unfold sv10 at EA
    clear h
    by_cases n0 : n < 0
    · clear hn
      go_enter Try.func12, Try.ntmps12
      go_wp2_with (go_at_call 22; with_reducible refine (HLN.out).mono ?_; rintro e w' ⟨rfl, rfl⟩)
      go_ret2
      exact ⟨by rw [EA.out]; rfl, Turn.refl _ w⟩
    · have n1 : (L.length : Int) ≤ n := by omega
      clear hn
      go_enter Try.func12, Try.ntmps12
      go_wp2_with (go_at_call 22; with_reducible refine (HLN.out).mono ?_; rintro e w' ⟨rfl, rfl⟩)
      go_ret2
      exact ⟨by rw [EA.out]; rfl, Turn.refl _ w⟩

end Go.Proofs.Ytnapeckpjnbcgaa
