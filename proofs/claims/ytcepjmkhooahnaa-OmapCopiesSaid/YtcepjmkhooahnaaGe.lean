
/-
  The document's map of numbers and texts: Floor, Range.
-/
import Derived.Test.YtcepjmkhooahnaaGd
import Derived.Laws.ResultCell
namespace Go.Proofs.Ytcepjmkhooahnaa
open Go.RowKit

/-- A pair, as a value. -/
def pv (p : Int × List UInt8) : Value := .agg #[.int .i64 p.1, .string ⟨p.2.toArray⟩]
/-- What Floor answers. -/
def floorV : Option (Int × List UInt8) → Value
  | some p => .tuple #[pv p, .bool true]
  | none => .tuple #[.agg #[.int .i64 0, .string ⟨#[]⟩], .bool false]
theorem floor_yes {L : List (Int × List UInt8)} {k : Int} {j : Nat} {p : Int × List UInt8} (hu : Up ltI L) (hj : upK ltI L k ≤ j + 1) (hp : L[j]? = some p) (hk : p.1 ≤ k) : floorK ltI L k = some p := by
  have h1 : j < upK ltI L k := by
    rcases Nat.lt_or_ge j (upK ltI L k) with c | c
    · exact c
    · have := upK_above rises_ltI hu c hp
      unfold ltI at this
      simp at this
      omega
  unfold floorK
  rw [if_neg (by omega), show upK ltI L k - 1 = j by omega]
  exact hp
theorem floor_go {L : List (Int × List UInt8)} {k : Int} {j : Nat} {p : Int × List UInt8} (_hj : upK ltI L k ≤ j + 1) (hp : L[j]? = some p) (hk : ¬ p.1 ≤ k) : upK ltI L k ≤ j := by
  rcases Nat.lt_or_ge j (upK ltI L k) with c | c
  · have := upK_below rises_ltI c hp
    unfold ltI at this
    simp at this
    omega
  · exact c
theorem floor_no {L : List (Int × List UInt8)} {k : Int} (hj : upK ltI L k ≤ 0) : floorK ltI L k = none := by
  unfold floorK
  rw [if_pos (by omega)]

set_option maxRecDepth 100000 in
set_option maxHeartbeats 4000000 in
theorem ref_floor6 (g : Nat) (sv : Value) (L : List (Int × List UInt8)) (k : Int) (w : World) (hm : RM w g sv L) (hl : L.length ≤ 1000000) (hu : Up ltI L) :
    Calls Try.prog 29 #[.pointer (some ⟨g, 0, none⟩), .int .i64 k] w fun e w' => e = .returned (floorV (floorK ltI L k)) ∧ Turn (fun _ => False) w w' := by
  have HM := Lib.hid hm
  have HU := Lib.hid hu
  obtain ⟨A, c, rfl⟩ := hm.row.shape
  have hobj := hm.obj.cell 0
  have hobj1 := (hm.obj.alloc (.cells #[.int .i64 0, .string ⟨#[]⟩] 42)).cell 0
  have HL := Lib.hid (upK_le (lt := ltI) L k)
  clear hm hu
  go_enter Try.func29, Try.ntmps29
  go_wp2_with fail
  go_loop [6] (fun x6 => ∃ j : Nat, x6 = .int .i64 ((j : Int) - 1) ∧ j ≤ L.length ∧ upK ltI L k ≤ j) (fun x6 => (intOf x6 + 1).toNat)
  case atStart => exact ⟨L.length, rfl, Nat.le_refl _, HL.out⟩
  case round =>
    obtain ⟨j, rfl, hj, hup⟩ := hrel
    have HUP := Lib.hid hup; clear hup
    cases j with
    | zero =>
      have HR := Lib.hid (show Ending.returned (floorV none) = .returned (floorV (floorK ltI L k)) by rw [floor_no HUP.out])
      go_wp2
      refine bodyPost_ret (v := .tuple #[.agg #[.int .i64 0, .string ⟨#[]⟩], .bool false]) ?_ rfl ⟨HR.out, by first | exact (Turn.refl _ w).alloc _ | exact Turn.setCell (Turn.setCell ((Turn.refl _ w).alloc _) (fun e => absurd e (Nat.lt_irrefl _)) _) (fun e => absurd e (Nat.lt_irrefl _)) _⟩
      rw [results_cell_tmp rfl]
      go_simp
    | succ j =>
      obtain ⟨p, hp⟩ : ∃ p, L[j]? = some p := ⟨_, List.getElem?_eq_getElem (by omega)⟩
      obtain ⟨ad, rfl, h1, h2⟩ := (HM.out.later ((Turn.refl _ w).alloc (.cells #[.int .i64 0, .string ⟨#[]⟩] 42))).pair hp
      have HP := Lib.hid hp; clear hp
      by_cases hk : p.1 ≤ k
      · have HR := Lib.hid (show Ending.returned (floorV (some p)) = .returned (floorV (floorK ltI L k)) by rw [floor_yes HU.out HUP.out HP.out hk])
        go_wp2
        refine bodyPost_ret (v := .tuple #[.agg #[.int .i64 p.1, .string ⟨p.2.toArray⟩], .bool true]) ?_ rfl ⟨HR.out, by first | exact (Turn.refl _ w).alloc _ | exact Turn.setCell (Turn.setCell ((Turn.refl _ w).alloc _) (fun e => absurd e (Nat.lt_irrefl _)) _) (fun e => absurd e (Nat.lt_irrefl _)) _⟩
        rw [results_cell_tmp rfl]
        go_simp
      · have HG := Lib.hid (floor_go HUP.out HP.out hk)
        go_wp2
        go_round
        case rel => exact ⟨j, by go_num, by omega, HG.out⟩
        case measure => simp [intOf]

theorem range_yes {L : List (Int × List UInt8)} {i : Nat} {p : Int × List UInt8} {a b : Int} (hp : L[i]? = some p) (ha : a ≤ p.1) (hb : p.1 < b) : rangeK ltI (L.take (i + 1)) a b = rangeK ltI (L.take i) a b ++ [p] := by
  obtain ⟨h, e⟩ := List.getElem?_eq_some_iff.1 hp
  unfold rangeK
  rw [List.take_succ_eq_append_getElem h, e, List.filter_append]
  congr 1
  unfold ltI
  simp
  omega
theorem range_not {L : List (Int × List UInt8)} {i : Nat} {p : Int × List UInt8} {a b : Int} (hp : L[i]? = some p) (h0 : ¬ (a ≤ p.1 ∧ p.1 < b)) : rangeK ltI (L.take (i + 1)) a b = rangeK ltI (L.take i) a b := by
  obtain ⟨h, e⟩ := List.getElem?_eq_some_iff.1 hp
  unfold rangeK
  rw [List.take_succ_eq_append_getElem h, e, List.filter_append]
  have : [p].filter (fun p => !ltI p.1 a && ltI p.1 b) = [] := by
    unfold ltI
    simp
    omega
  rw [this, List.append_nil]
theorem range_len (L : List (Int × List UInt8)) (a b : Int) (i : Nat) : (rangeK ltI (L.take i) a b).length ≤ L.length := by
  refine Nat.le_trans (List.length_filter_le _ _) ?_
  rw [List.length_take]
  omega

set_option maxRecDepth 100000 in
set_option maxHeartbeats 4000000 in
theorem ref_range6 (g : Nat) (sv : Value) (L : List (Int × List UInt8)) (a b : Int) (w : World) (hm : RM w g sv L) (hl : L.length ≤ 1000000) :
    Calls Try.prog 13 #[.pointer (some ⟨g, 0, none⟩), .int .i64 a, .int .i64 b] w fun e w' => ∃ v, e = .returned v ∧ New w w' v (rangeK ltI L a b) := by
  have HM := Lib.hid hm
  obtain ⟨A, c, rfl⟩ := hm.row.shape
  clear hm
  go_enter Try.func13, Try.ntmps13
  go_wp2_with fail
  go_loopw [7, 8] (fun x7 x8 wr => ∃ (i n c' : Nat) (A' : Option Addr), x8 = .int .i64 i ∧ i ≤ L.length ∧ x7 = .slice A' n c' ∧ New w wr (.slice A' n c') (rangeK ltI (L.take i) a b)) (fun _ x8 _ => L.length - (intOf x8).toNat)
  case atStart => exact ⟨0, 0, 0, none, rfl, Nat.zero_le _, rfl, New.start w 0⟩
  case round =>
    obtain ⟨i, n, c', A', rfl, hi, rfl, hnew⟩ := hrel
    have HN := Lib.hid hnew; clear hnew
    have hobj := (HM.out.obj.turn HN.out.turn (fun f => f)).cell 0
    by_cases hlt : i < L.length
    · obtain ⟨p, hp⟩ : ∃ p, L[i]? = some p := ⟨_, List.getElem?_eq_getElem hlt⟩
      obtain ⟨ad, rfl, h1, h2⟩ := (HM.out.later HN.out.turn).pair hp
      have HP := Lib.hid hp; clear hp
      by_cases ha : a ≤ p.1
      · by_cases hb : p.1 < b
        · have HR := Lib.hid (range_yes HP.out ha hb)
          have HLen := range_len L a b i
          go_wp2_with (at_builtin; go_must (refine wpList_pairs _ rfl _ _ rfl _ (rangeK ltI (L.take i) a b) rfl (HN.out.alloc _).own _ rfl [p] (pair_src wr p.1 p.2) (by simp only [List.length_singleton]; omega) ?_); intro A2 n2 c2 w2 ho ht hn; have HN2 := Lib.hid ((HN.out.alloc _).step ho ht hn); clear ho ht hn)
          go_roundw
          case rel => exact ⟨i + 1, n2, c2, A2, by go_num, by omega, rfl, by rw [HR.out]; exact HN2.out⟩
          case measure => simp [intOf]; omega
        · have HR := Lib.hid (range_not (a := a) (b := b) HP.out (by omega))
          go_wp2
          go_roundw
          case rel => exact ⟨i + 1, n, c', A', by go_num, by omega, rfl, by rw [HR.out]; exact HN.out⟩
          case measure => simp [intOf]; omega
      · have HR := Lib.hid (range_not (a := a) (b := b) HP.out (by omega))
        go_wp2
        go_roundw
        case rel => exact ⟨i + 1, n, c', A', by go_num, by omega, rfl, by rw [HR.out]; exact HN.out⟩
        case measure => simp [intOf]; omega
    · have HR := Lib.hid (show L.take i = L from List.take_of_length_le (by omega))
      rw [HR.out] at HN
      go_wp2
      go_ret
      exact ⟨_, rfl, HN.out⟩

end Go.Proofs.Ytcepjmkhooahnaa
