
/-
  Stage 6: the two maps behind acts that came in.
-/
import Derived.Test.YtcepjmkhooahnaaHh
namespace Go.Proofs.Ytcepjmkhooahnaa
open Go.RowKit omi

/-- Behind 'made'. -/
def Made6 (w : World) (n : Nat) (e : Ending) (w' : World) : Prop := ∃ g1 g2, e = .returned (.tuple #[.pointer (some ⟨g1, 0, none⟩), .pointer (some ⟨g2, 0, none⟩), .bool true]) ∧ Run w g1 g2 n w'

set_option maxRecDepth 100000 in
set_option maxHeartbeats 2000000 in
theorem made_any (v : Value) (l : List AC) (w : World) (h : RdE EA w v l) (hlen : l.length ≤ 200) : Calls Try.prog 12 #[v] w fun e w' => Made6 w l.length e w' := by
  have HV := Lib.hid h
  obtain ⟨A, c, rfl⟩ := h.shape
  clear h
  go_enter Try.func12, Try.ntmps12
  go_wp2_with (go_at_call 9; refine (new_any _).mono ?_; rintro e w1 ⟨rfl, hm, ht⟩; have HR0 := Lib.hid (Run.start hm ht (Nat.le_refl _)); clear hm ht)
  go_loopw [7] (fun x7 wr => ∃ i : Nat, x7 = .int .i64 (i : Int) ∧ i ≤ l.length ∧ Run w w.heap.size w1.heap.size i wr) (fun x7 _ => l.length - (intOf x7).toNat)
  case atStart => exact ⟨0, rfl, Nat.zero_le _, HR0.out⟩
  case round =>
    obtain ⟨i, rfl, hi, hr⟩ := hrel
    have HR := Lib.hid hr
    have HT := Lib.hid hr.turn
    obtain ⟨L, sv, h2, hl, hn⟩ := hr.out
    have H2 := Lib.hid h2; have HN := Lib.hid hn
    clear hr h2 hn
    by_cases hlt : i < l.length
    · obtain ⟨a, ha⟩ : ∃ a, l[i]? = some a := ⟨_, List.getElem?_eq_getElem hlt⟩
      obtain ⟨ad, rfl, hc⟩ := ac_at HV.out ha
      obtain ⟨hc0, hc1, hc2⟩ := hc wr HT.out
      clear hc ha
      go_wp2_with (go_at_call 10; refine (act_any a w.heap.size w1.heap.size sv L _ H2.out (by omega)).mono ?_; rintro e w2 ⟨rfl, hac⟩; have HR2 := Lib.hid (HR.out.step H2.out hl HN.out hac); clear hac)
      go_roundw
      case rel => exact ⟨i + 1, by go_num, hlt, HR2.out⟩
      case measure => simp [intOf]; omega
    · obtain rfl : i = l.length := by omega
      go_wp2
      go_ret3
      exact ⟨_, _, rfl, HR.out⟩

/-- What a range has told: as far as a place of the list, one by one. -/
theorem pre_at {L pre : List (Int × List UInt8)} {y : Int × List UInt8} (hp : pre ++ [y] <+: L) : L[pre.length]? = some y ∧ pre.length < L.length := by
  obtain ⟨r, hr⟩ := hp
  have h : L[pre.length]? = some y := by
    rw [← hr, List.append_assoc, List.getElem?_append_right (Nat.le_refl _), Nat.sub_self]; rfl
  exact ⟨h, (List.getElem?_eq_some_iff.1 h).1⟩
theorem pair_at {w : World} {A : Option Addr} {n c : Nat} {L : List (Int × List UInt8)} (h : RdE EP w (.slice A n c) L) {j : Nat} {p : Int × List UInt8} (hj : L[j]? = some p) :
    ∃ ad, A = some ad ∧ w.cell? (ad.add (j * 2)) = some (.int .i64 p.1) ∧ w.cell? ⟨(ad.add (j * 2)).block, (ad.add (j * 2)).off + 1, none⟩ = some (.string ⟨p.2.toArray⟩) := by
  obtain ⟨ad, hA, hc⟩ := h.cells hj
  exact ⟨ad, hA, hc 0 _ rfl, by rw [show (⟨(ad.add (j * 2)).block, (ad.add (j * 2)).off + 1, none⟩ : Addr) = (ad.add (j * 2)).add 1 from rfl, eadd_add]; exact hc 1 _ rfl⟩

end Go.Proofs.Ytcepjmkhooahnaa
