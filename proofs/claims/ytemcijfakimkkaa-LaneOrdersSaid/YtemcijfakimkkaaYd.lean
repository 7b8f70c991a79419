
/-
  Stage 8: the program's lanes: Take, Drain; nil lanes.
-/
import Derived.Test.YtemcijfakimkkaaYc
namespace Go.Proofs.Ytemcijfakimkkaa
open Go.RowKit Go.Conc Go.ChangeShapes Go.WideShapes Go.Deep

set_option maxRecDepth 100000

/-- Some lanes looked at, all empty. -/
def Looked (w : World) (g ar : Nat) (cs : List Nat) (room : Nat) (LL : List (List Int)) (i : Nat) (W : World) : Prop := LP W g ar cs room LL ∧ (∀ k, k < i → LL[k]? = some []) ∧ Turn (fun k => k ∈ cs) w W
theorem fromV_empty {LL : List (List Int)} {i : Nat} (h : LL[i]? = some []) : fromX LL i = 0 ∧ fromB LL i = false ∧ fromL LL i = LL := by
  have e := at8_some h
  unfold fromX fromB fromL
  rw [e]
  exact ⟨rfl, rfl, rfl⟩
theorem fromV_some {LL : List (List Int)} {i : Nat} {x : Int} {r : List Int} (h : LL[i]? = some (x :: r)) : fromX LL i = x ∧ fromB LL i = true ∧ fromL LL i = LL.set i r := by
  have e := at8_some h
  unfold fromX fromB fromL
  rw [e]
  exact ⟨rfl, rfl, by rw [Int.toNat_natCast]⟩
/-- Behind a Take. -/
def Taken8 (w : World) (g ar : Nat) (cs : List Nat) (room : Nat) (LL : List (List Int)) (e : Ending) (w' : World) : Prop :=
  e = .returned (.tuple #[.int .i64 (takeI LL), .int .i64 (takeX LL), .bool (takeB LL)]) ∧ LP w' g ar cs room (takeL LL) ∧ Turn (fun k => k ∈ cs) w w'

set_option maxHeartbeats 4000000 in
theorem take_any {g ar room : Nat} {cs : List Nat} {LL : List (List Int)} {w : World} (h : LP w g ar cs room LL) : Calls Try.prog 13 #[.pointer (some ⟨g, 0, none⟩)] w fun e w' => Taken8 w g ar cs room LL e w' := by
  have c0 := h.obj.cell 0
  have HL0 : Hid (Looked w g ar cs room LL 0 w) := ⟨h, fun k hk => absurd hk (Nat.not_lt_zero k), Turn.refl _ w⟩
  have HLEN := Lib.hid h.len
  have hfew := h.few
  clear h
  go_enter Try.func13, Try.ntmps13
  go_wp2
  clear c0
  go_loopw [17] (fun x17 wr => ∃ i : Nat, x17 = .int .i64 (i : Int) ∧ i ≤ cs.length ∧ Looked w g ar cs room LL i wr) (fun x17 _ => cs.length - (intOf x17).toNat)
  case atStart => exact ⟨0, rfl, Nat.zero_le _, HL0.out⟩
  case round =>
    obtain ⟨i, rfl, hi, hm⟩ := hrel
    have HM := Lib.hid hm
    clear hm
    by_cases hlt : i < cs.length
    · have hli : (i : Int) < cs.length := by omega
      obtain ⟨l, hl⟩ : ∃ l, LL[i]? = some l := ⟨_, List.getElem?_eq_getElem (by rw [HLEN.out]; exact hlt)⟩
      have hfr := lp_from (i : Int) HM.out.1
      cases l with
      | nil =>
        obtain ⟨e1, e2, e3⟩ := fromV_empty hl
        rw [e1, e2, e3] at hfr
        have HF := Lib.hid hfr
        have HE := Lib.hid hl
        clear e1 e2 e3 hfr hl
        go_wp2_with fail
        refine HF.out.mono ?_
        rintro e w2 ⟨rfl, h2, t2⟩
        have HM2 : Hid (Looked w g ar cs room LL (i + 1) w2) := ⟨h2, fun k hk => by
          by_cases ek : k = i
          · rw [ek]; exact HE.out
          · exact HM.out.2.1 k (by omega), HM.out.2.2.trans t2 (fun _ _ h => h)⟩
        clear h2 t2
        go_wp2
        go_roundw
        case rel => exact ⟨i + 1, by go_num, hlt, HM2.out⟩
        case measure => simp [intOf]; omega
      | cons x r =>
        obtain ⟨e1, e2, e3⟩ := fromV_some hl
        rw [e1, e2, e3] at hfr
        have HF := Lib.hid hfr
        have HLOW := Lib.hid (low8_some hl HM.out.2.1)
        clear e1 e2 e3 hfr hl
        go_wp2_with fail
        refine HF.out.mono ?_
        rintro e w2 ⟨rfl, h2, t2⟩
        have H2 := Lib.hid h2
        have HT2 : Hid (Turn (fun k => k ∈ cs) w w2) := HM.out.2.2.trans t2 (fun _ _ h => h)
        clear h2 t2
        go_wp2
        go_ret3
        unfold Taken8 takeI takeX takeB takeL
        rw [HLOW.out]
        exact ⟨rfl, H2.out, HT2.out⟩
    · obtain rfl : i = cs.length := by omega
      have HLOW : Hid (low8 LL = none) := low8_none (fun l hl => by
        obtain ⟨k, hk, e⟩ := List.getElem_of_mem hl
        have := HM.out.2.1 k (by rw [← HLEN.out]; exact hk)
        rw [List.getElem?_eq_getElem hk, e] at this
        exact Option.some.inj this)
      go_wp2
      go_ret3
      unfold Taken8 takeI takeX takeB takeL
      rw [HLOW.out]
      exact ⟨rfl, HM.out.1, HM.out.2.2⟩

theorem take_nil8 (w : World) : Calls Try.prog 13 #[.pointer none] w fun e w' => e = .returned (.tuple #[.int .i64 0, .int .i64 0, .bool false]) ∧ w = w' := by
  go_enter Try.func13, Try.ntmps13
  go_wp2
  go_ret3
  exact ⟨rfl, rfl⟩

end Go.Proofs.Ytemcijfakimkkaa
