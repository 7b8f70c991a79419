
/-
  The document's map of numbers and texts, in memory.
-/
import Derived.Test.YtcepjmkhooahnaaGa
import Derived.Test.YtcepjmkhooahnaaNa
import Derived.Test.YtcepjmkhooahnaaBb
import Derived.BigQuiet
namespace Go.Proofs.Ytcepjmkhooahnaa
open Go.RowKit

/-- A number and a text, as a pair's cells. -/
def EP : El (Int × List UInt8) where
  sz := 2
  enc p := [.int .i64 p.1, .string ⟨p.2.toArray⟩]
  len _ := rfl
  one p u hu := by
    rcases List.mem_cons.1 hu with rfl | hu
    · rfl
    · rw [List.mem_singleton.1 hu]; rfl
def ltI (a b : Int) : Bool := decide (a < b)
theorem rises_ltI : Rises ltI := rises_int
/-- The document's map: its object at block g, its pairs. -/
structure RM (w : World) (g : Nat) (sv : Value) (L : List (Int × List UInt8)) : Prop where
  obj : Box w g 29 #[sv]
  row : RdE EP w sv L
  far : sv.ownBlock ≠ some g
theorem RM.turn {S : Nat → Prop} {w w' : World} {g : Nat} {sv : Value} {L : List (Int × List UInt8)} (h : RM w g sv L) (ht : Turn S w w') (h1 : ¬ S g) (h2 : ∀ k, sv.ownBlock = some k → ¬ S k) : RM w' g sv L :=
  ⟨h.obj.turn ht h1, h.row.turn ht h2, h.far⟩
theorem RM.later {w w' : World} {g : Nat} {sv : Value} {L : List (Int × List UInt8)} (h : RM w g sv L) (ht : Turn (fun _ => False) w w') : RM w' g sv L := h.turn ht (fun f => f) (fun _ _ f => f)
theorem RM.pair {w : World} {g n c : Nat} {A : Option Addr} {L : List (Int × List UInt8)} (h : RM w g (.slice A n c) L) {j : Nat} {p : Int × List UInt8} (hj : L[j]? = some p) :
    ∃ ad, A = some ad ∧ w.cell? (ad.add (j * 2)) = some (.int .i64 p.1) ∧ w.cell? ⟨(ad.add (j * 2)).block, (ad.add (j * 2)).off + 1, none⟩ = some (.string ⟨p.2.toArray⟩) := by
  obtain ⟨ad, hA, hc⟩ := h.row.cells hj
  exact ⟨ad, hA, hc 0 _ rfl, by rw [show (⟨(ad.add (j * 2)).block, (ad.add (j * 2)).off + 1, none⟩ : Addr) = (ad.add (j * 2)).add 1 from rfl, eadd_add]; exact hc 1 _ rfl⟩

theorem has_at {L : List (Int × List UInt8)} {k : Int} {i : Nat} {p : Int × List UInt8} (h : plc ltI L k = i) (hp : L[i]? = some p) : hasK ltI L k = decide (p.1 = k) := by
  unfold hasK
  rw [h, hp]
theorem has_not {L : List (Int × List UInt8)} {k : Int} {i : Nat} (h : plc ltI L k = i) (hi : L.length ≤ i) : hasK ltI L k = false := by
  unfold hasK
  rw [h, List.getElem?_eq_none hi]

set_option maxRecDepth 100000 in
set_option maxHeartbeats 2000000 in
theorem ref_place (g : Nat) (sv : Value) (L : List (Int × List UInt8)) (k : Int) (w : World) (hm : RM w g sv L) (hl : L.length ≤ 1000000) :
    Calls Try.prog 46 #[.pointer (some ⟨g, 0, none⟩), .int .i64 k] w fun e w' => e = .returned (.tuple #[.int .i64 (plc ltI L k), .bool (hasK ltI L k)]) ∧ ∃ n, w' = w.drewN n := by
  have HM := Lib.hid hm
  obtain ⟨A, c, rfl⟩ := hm.row.shape
  have hobj := hm.obj.cell 0
  have hplc := plc_le (lt := ltI) L k
  have hplc2 : Hid (∀ i, i < plc ltI L k → ∀ p, L[i]? = some p → decide (p.1 < k) = true) := fun i hi p hp => plc_below hi hp
  have hplc3 : Hid (∀ p, L[plc ltI L k]? = some p → decide (p.1 < k) = false) := fun p hp => plc_at hp
  generalize hP : plc ltI L k = P at *
  clear hm
  go_enter Try.func46, Try.ntmps46
  go_wp2_with fail
  go_loop [6] (fun x6 => ∃ i : Nat, x6 = .int .i64 i ∧ i ≤ P) (fun x6 => L.length - (intOf x6).toNat)
  case atStart => exact ⟨0, rfl, Nat.zero_le _⟩
  case round =>
    obtain ⟨i, rfl, hi⟩ := hrel
    by_cases hlt : i < L.length
    · obtain ⟨p, hp⟩ : ∃ p, L[i]? = some p := ⟨_, List.getElem?_eq_getElem hlt⟩
      obtain ⟨ad, rfl, h1, h2⟩ := HM.out.pair hp
      by_cases hb : i < P
      · have hd := hplc2.out i hb p hp
        have HP := Lib.hid hp; clear hp
        go_wp2
        go_round
        case rel => exact ⟨i + 1, by go_num, by omega⟩
        case measure => simp [intOf]; omega
      · have ei : i = P := by omega
        subst ei
        have hd := hplc3.out p hp
        have HK := Lib.hid (has_at (k := k) hP hp)
        clear hp
        by_cases he : p.1 = k
        · have heq : (p.1 == k) = true := by rw [beq_iff_eq]; exact he
          go_wp2
          go_quiet (fail)
          go_wp2
          go_ret2
          exact ⟨by rw [HK.out, decide_eq_true he]; rfl, _, rfl⟩
        · have heq : (p.1 == k) = false := by rw [beq_eq_false_iff_ne]; exact he
          go_wp2
          go_quiet (fail)
          go_wp2
          go_ret2
          exact ⟨by rw [HK.out, decide_eq_false he]; rfl, _, rfl⟩
    · have ei : i = P := by omega
      subst ei
      have HK := Lib.hid (has_not (k := k) hP (by omega))
      go_wp2
      go_quiet (fail)
      go_wp2
      go_ret2
      exact ⟨by rw [HK.out]; rfl, _, rfl⟩

theorem pair_info : (Try.prog.info? 42).map (fun i => (i.zero, i.size, i.bytes)) = some (some (.agg #[.int .i64 0, .string ⟨#[]⟩]), 2, 24) := by kernel_rfl

set_option maxRecDepth 100000 in
set_option maxHeartbeats 2000000 in
theorem ref_get6 (g : Nat) (sv : Value) (L : List (Int × List UInt8)) (k : Int) (w : World) (hm : RM w g sv L) (hl : L.length ≤ 1000000) :
    Calls Try.prog 28 #[.pointer (some ⟨g, 0, none⟩), .int .i64 k] w fun e w' => e = .returned (.tuple #[.string ⟨((getK ltI L k).getD []).toArray⟩, .bool (hasK ltI L k)]) ∧ ∃ n, w' = w.drewN n := by
  have HM := Lib.hid hm
  obtain ⟨A, c, rfl⟩ := hm.row.shape
  have HP := Lib.hid (ref_place g _ L k w hm hl)
  have hobj := hm.obj.cell 0
  clear hm
  cases hh : hasK ltI L k with
  | true =>
    obtain ⟨p, hp, he⟩ := hasK_iff.1 hh
    obtain ⟨ad, rfl, h1, h2⟩ := HM.out.pair hp
    have hlt : plc ltI L k < L.length := (List.getElem?_eq_some_iff.1 hp).1
    have HG : Hid (getK ltI L k = some p.2) := by show _ = _; unfold getK; rw [hp]; exact if_pos he
    rw [hh] at HP
    clear hh hp he
    generalize plc ltI L k = i at *
    go_enter Try.func28, Try.ntmps28
    go_wp2_with (go_at_call 46; refine HP.out.mono ?_; rintro e w' ⟨rfl, n, rfl⟩)
    go_ret2
    exact ⟨by rw [HG.out]; rfl, _, rfl⟩
  | false =>
    have HG : Hid (getK ltI L k = none) := by
      show _ = _
      unfold getK
      unfold hasK at hh
      cases h : L[plc ltI L k]? with
      | none => rfl
      | some p => rw [h] at hh; exact if_neg (by simpa using hh)
    rw [hh] at HP
    go_enter Try.func28, Try.ntmps28
    go_wp2_with (go_at_call 46; refine HP.out.mono ?_; rintro e w' ⟨rfl, n, rfl⟩)
    go_ret2
    exact ⟨by rw [HG.out]; rfl, _, rfl⟩

end Go.Proofs.Ytcepjmkhooahnaa
