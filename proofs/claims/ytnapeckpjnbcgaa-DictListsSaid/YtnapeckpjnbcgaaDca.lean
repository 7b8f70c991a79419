
/-
  Stage 10: texts in memory; the document's Code and Same.
-/
import Derived.Test.YtnapeckpjnbcgaaGa
import Derived.Test.YtnapeckpjnbcgaaEa
import Derived.Test.YtnapeckpjnbcgaaNb
import Derived.Test.YtnapeckpjnbcgaaEp
import Derived.Deep.QuietTactic
import Derived.BigQuiet
namespace Go.Proofs.Ytnapeckpjnbcgaa
open Go.RowKit

set_option maxRecDepth 100000

/-- A text's cell. -/
def ET10 : El (List UInt8) where
  sz := 1
  enc s := [.string ⟨s.toArray⟩]
  len _ := rfl
  one s u hu := by rw [List.mem_singleton.1 hu]; rfl
theorem str_info10 : (Try.prog.info? 9).map (fun i => (i.zero, i.size, i.bytes)) = some (some (.string ⟨#[]⟩), ET10.sz, 16) := by kernel_rfl
theorem str_zero10 : (Value.cells (.string ⟨#[]⟩)).size = ET10.sz := rfl
abbrev sv10 (l : List UInt8) : Value := .string ⟨l.toArray⟩
theorem str_at10 {w : World} {A : Option Addr} {n c : Nat} {L : List (List UInt8)} (h : RdE ET10 w (.slice A n c) L) {j : Nat} {x : List UInt8} (hj : L[j]? = some x) :
    ∃ ad, A = some ad ∧ ∀ W, Turn (fun _ => False) w W → W.cell? (ad.add j) = some (sv10 x) := by
  obtain ⟨ad, hA, _⟩ := h.cells hj
  refine ⟨ad, hA, fun W ht => ?_⟩
  obtain ⟨ad', hA', hc⟩ := (h.later ht).cells hj
  rw [hA] at hA'
  cases hA'
  have h1 := hc 0 _ rfl
  rwa [show j * ET10.sz + 0 = j from by simp [ET10]] at h1

/-- The number of a text; -1: it has none. -/
def codeT (x : List UInt8) (l : List (List UInt8)) : Int := if idxG x l < l.length then (idxG x l : Int) else -1

set_option maxHeartbeats 4000000 in
theorem ref_code10 (v : Value) (l : List (List UInt8)) (x : List UInt8) (w : World) (hv : RdE ET10 w v l) (hl : l.length ≤ 1000000) : Calls Try.prog 11 #[v, sv10 x] w fun e w' => e = .returned (.int .i64 (codeT x l)) ∧ w' = w := by
  have HV := Lib.hid hv
  obtain ⟨A, c, rfl⟩ := hv.shape
  clear hv
  have HC : Hid (codeT x l = if idxG x l < l.length then (idxG x l : Int) else -1) := rfl
  have hle := idxG_le x l
  have HAT := Lib.hid (fun (h : idxG x l < l.length) => idxG_at (x := x) (l := l) rfl h)
  have HBL : Hid (∀ i y, i < idxG x l → l[i]? = some y → y ≠ x) := fun i y h1 h2 => idxG_below h1 h2
  generalize codeT x l = cv at *
  generalize idxG x l = p at *
  unfold sv10
  go_enter Try.func11, Try.ntmps11
  go_wp2_with fail
  go_loopw [5] (fun x5 wr => wr = w ∧ ∃ i : Nat, x5 = .int .i64 (i : Int) ∧ i ≤ p) (fun x5 _ => p + 1 - (intOf x5).toNat)
  case atStart => exact ⟨rfl, 0, rfl, Nat.zero_le _⟩
  case round =>
    obtain ⟨rfl, i, rfl, hi⟩ := hrel
    by_cases hlt : i < l.length
    · obtain ⟨y, hy⟩ : ∃ y, l[i]? = some y := ⟨_, List.getElem?_eq_getElem hlt⟩
      obtain ⟨ad, rfl, hc⟩ := str_at10 HV.out hy
      have e0 := hc _ (Turn.refl _ _)
      have hil : (i : Int) < l.length := by omega
      unfold sv10 at e0
      by_cases hip : i < p
      · have hne : (y == x) = false := by simpa using HBL.out i y hip hy
        clear hc hy
        go_wp2_with fail
        go_roundw
        case rel => exact ⟨trivial, i + 1, by go_num, hip⟩
        case measure => simp [intOf]; omega
      · obtain rfl : i = p := by omega
        have e2 := HAT.out hlt
        rw [hy] at e2
        obtain rfl : y = x := by simpa using e2
        have hee : (y == y) = true := beq_self_eq_true y
        have HC2 : Hid (cv = (i : Int)) := HC.out.trans (if_pos hlt)
        clear hc hy e2
        go_wp2_with fail
        go_ret
        rw [HC2.out]
        exact ⟨rfl, rfl⟩
    · have hil : ¬ ((i : Int) < l.length) := by omega
      have HC2 : Hid (cv = -1) := HC.out.trans (if_neg (by omega))
      go_wp2
      go_ret
      rw [HC2.out]
      exact ⟨rfl, rfl⟩

set_option maxHeartbeats 4000000 in
theorem same_refl10 (a b : Value) (L : List (List UInt8)) (w : World) (ha : RdE ET10 w a L) (hb : RdE ET10 w b L) (hl : L.length ≤ 1000000) :
    Calls Try.prog 13 #[a, b] w fun e w' => e = .returned (.bool true) ∧ Turn (fun _ => False) w w' := by
  have HA := Lib.hid ha; have HB := Lib.hid hb
  obtain ⟨A, c, rfl⟩ := ha.shape
  obtain ⟨B, d, rfl⟩ := hb.shape
  clear ha hb
  go_enter Try.func13, Try.ntmps13
  go_wp2_with fail
  go_loopw [5] (fun x5 wr => ∃ i : Nat, x5 = .int .i64 (i : Int) ∧ i ≤ L.length ∧ ∃ n, wr = w.drewN n) (fun x5 _ => L.length - (intOf x5).toNat)
  case atStart => exact ⟨0, rfl, Nat.zero_le _, 0, rfl⟩
  case round =>
    obtain ⟨i, rfl, hi, n, rfl⟩ := hrel
    by_cases hlt : i < L.length
    · obtain ⟨x, hx⟩ : ∃ x, L[i]? = some x := ⟨_, List.getElem?_eq_getElem hlt⟩
      obtain ⟨ad, rfl, hc⟩ := str_at10 HA.out hx
      obtain ⟨bd, rfl, hd⟩ := str_at10 HB.out hx
      have e0 := hc w (Turn.refl _ _)
      have e2 := hd w (Turn.refl _ _)
      unfold sv10 at e0 e2
      have hee : (x == x) = true := beq_self_eq_true x
      clear hc hd hx
      have hil : (i : Int) < L.length := by omega
      go_wp2_with fail
      go_quiet (fail)
      go_wp2
      go_roundw
      case rel => exact ⟨i + 1, by go_num, hlt, n + nq, by simp [World.drewN]⟩
      case measure => simp [intOf]; omega
    · obtain rfl : i = L.length := by omega
      go_wp2
      go_ret
      exact ⟨rfl, (Turn.refl _ w).drewN _⟩

end Go.Proofs.Ytnapeckpjnbcgaa
