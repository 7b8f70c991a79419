
/-
  Stage 10: the program's dictionary in memory; Len, At, Code (things int64).
-/
import Derived.Test.YtnapeckpjnbcgaaDcb
import Derived.Test.YtnapeckpjnbcgaaDcn
import Derived.Test.YtnapeckpjnbcgaaDpa
import Derived.Test.YtnapeckpjnbcgaaHkj
import Derived.Test.YtnapeckpjnbcgaaEr
namespace Go.Proofs.Ytnapeckpjnbcgaa
open Go.RowKit

set_option maxRecDepth 100000

/-- A dictionary's things; a nil one has none. -/
structure DI10 (w : World) (v : Value) (L : List Int) : Prop where
  out : (v = .pointer none ∧ L = []) ∨ ∃ d g sl, v = .pointer (some ⟨d, 0, none⟩) ∧ Box w d 69 #[.pointer (some ⟨g, 0, none⟩), sl] ∧ omj.MP w g (numFrom 0 L) ∧ RdE EC10 w sl L
  up : L.Pairwise fun x y => ltI x y = true
  len : L.length ≤ 1000
theorem DI10.later {w w' : World} {v : Value} {L : List Int} (h : DI10 w v L) (ht : Turn (fun _ => False) w w') : DI10 w' v L :=
  ⟨h.out.imp id fun ⟨d, g, sl, e, hb, hm, hr⟩ => ⟨d, g, sl, e, hb.turn ht (fun f => f), hm.later ht, hr.later ht⟩, h.up, h.len⟩
theorem DI10.nil (w : World) : DI10 w (.pointer none) [] := ⟨.inl ⟨rfl, rfl⟩, List.Pairwise.nil, Nat.zero_le _⟩
theorem DI10.ptr {w : World} {v : Value} {L : List Int} (h : DI10 w v L) : ∃ p, v = .pointer p := by
  rcases h.out with ⟨rfl, _⟩ | ⟨d, g, sl, rfl, _⟩
  · exact ⟨_, rfl⟩
  · exact ⟨_, rfl⟩

theorem len_same_int10 (d : Value) (L : List Int) (w : World) (h : DI10 w d L) : Calls Try.prog 21 #[d] w fun e w' => e = .returned (.int .i64 (L.length : Int)) ∧ w = w' := by
  rcases h.out with ⟨rfl, rfl⟩ | ⟨d, g, sl, rfl, hb, hm, hr⟩
  · clear h
    go_enter Try.func21, Try.ntmps21
    go_wp2
    go_ret
    exact ⟨rfl, rfl⟩
  · obtain ⟨A, c, rfl⟩ := hr.shape
    have c1 := hb.cell 1
    clear h hb hm hr
    go_enter Try.func21, Try.ntmps21
    go_wp2
    go_ret
    exact ⟨rfl, rfl⟩
theorem len_int10 (d : Value) (L : List Int) (w : World) (h : DI10 w d L) : Calls Try.prog 21 #[d] w fun e w' => e = .returned (.int .i64 (L.length : Int)) ∧ Turn (fun _ => False) w w' :=
  (len_same_int10 d L w h).mono fun _ _ ⟨he, hw⟩ => ⟨he, by rw [← hw]; exact Turn.refl _ w⟩

/-- What is answered. -/
def codeI (x : Int) (L : List Int) : Value := .tuple #[.int .i64 (if idxG x L < L.length then (idxG x L : Int) else 0), .bool (decide (idxG x L < L.length))]
def atI (n : Int) (L : List Int) : Value := .tuple #[.int .i64 ((atG n L).getD 0), .bool (atG n L).isSome]

set_option maxHeartbeats 2000000 in
theorem code_int10 (d : Value) (L : List Int) (x : Int) (w : World) (h : DI10 w d L) : Calls Try.prog 37 #[d, .int .i64 x] w fun e w' => e = .returned (codeI x L) ∧ Turn (fun _ => False) w w' := by
  rcases h.out with ⟨rfl, rfl⟩ | ⟨d, g, sl, rfl, hb, hm, hr⟩
  · clear h
    go_enter Try.func37, Try.ntmps37
    go_wp2
    go_ret2
    exact ⟨by simp [codeI, idxG], Turn.refl _ w⟩
  · have HG := Lib.hid (omj.get_any x hm)
    rw [numFrom_get rises_ltI x 0 h.up] at HG
    have c0 := hb.cell 0
    clear h hb hm hr
    by_cases hi : idxG x L < L.length
    · rw [if_pos hi] at HG
      go_enter Try.func37, Try.ntmps37
      go_wp2_with (go_at_call 51; refine (HG.out).mono ?_; rintro e w' ⟨rfl, ht⟩; have HT := Lib.hid ht; clear ht; unfold omj.getA)
      go_ret2
      exact ⟨by simp [codeI, hi], HT.out⟩
    · rw [if_neg hi] at HG
      go_enter Try.func37, Try.ntmps37
      go_wp2_with (go_at_call 51; refine (HG.out).mono ?_; rintro e w' ⟨rfl, ht⟩; have HT := Lib.hid ht; clear ht; unfold omj.getA)
      go_ret2
      exact ⟨by simp [codeI, hi], HT.out⟩

set_option maxHeartbeats 2000000 in
theorem at_int10 (d : Value) (L : List Int) (n : Int) (w : World) (h : DI10 w d L) : Calls Try.prog 39 #[d, .int .i64 n] w fun e w' => e = .returned (atI n L) ∧ Turn (fun _ => False) w w' := by
  have HLN := Lib.hid (len_same_int10 d L w h)
  obtain ⟨p, rfl⟩ := h.ptr
  by_cases hn : 0 ≤ n ∧ n < L.length
  · obtain ⟨n0, n1⟩ := hn
    obtain ⟨N, rfl⟩ := Int.eq_ofNat_of_zero_le n0
    have hNl : N < L.length := by omega
    obtain ⟨y, hy⟩ : ∃ y, L[N]? = some y := ⟨_, List.getElem?_eq_getElem hNl⟩
    have EA : Hid (atI (N : Int) L = .tuple #[.int .i64 y, .bool true]) := by show _ = _; unfold atI atG; rw [if_pos n0, Int.toNat_natCast, hy]; rfl
    rcases h.out with ⟨_, rfl⟩ | ⟨d, g, sl, e0, hb, hm, hr⟩
    · simp at hy
    · cases e0
      obtain ⟨A, c, rfl⟩ := hr.shape
      obtain ⟨ad, rfl, hc⟩ := num_at10 hr hy
      have HC := Lib.hid hc
      have c1 := hb.cell 1
      have e1 := hc w (Turn.refl _ w)
      clear h hb hm hr hc hy
      go_enter Try.func39, Try.ntmps39
      go_wp2_with (go_at_call 21; with_reducible refine (HLN.out).mono ?_; rintro e w' ⟨rfl, rfl⟩)
      go_ret2
      exact ⟨by rw [EA.out]; rfl, Turn.refl _ w⟩
  · have EA : Hid (atI n L = .tuple #[(.int .i64 0), .bool false]) := by
      show _ = _
      have ey : atG n L = none := by
        unfold atG
        split
        · rw [List.getElem?_eq_none (by omega)]
        · rfl
      unfold atI
      rw [ey]
      rfl
    clear h
    by_cases n0 : n < 0
    · clear hn
      go_enter Try.func39, Try.ntmps39
      go_wp2_with (go_at_call 21; with_reducible refine (HLN.out).mono ?_; rintro e w' ⟨rfl, rfl⟩)
      go_ret2
      exact ⟨by rw [EA.out]; rfl, Turn.refl _ w⟩
    · have n1 : (L.length : Int) ≤ n := by omega
      clear hn
      go_enter Try.func39, Try.ntmps39
      go_wp2_with (go_at_call 21; with_reducible refine (HLN.out).mono ?_; rintro e w' ⟨rfl, rfl⟩)
      go_ret2
      exact ⟨by rw [EA.out]; rfl, Turn.refl _ w⟩

end Go.Proofs.Ytnapeckpjnbcgaa
