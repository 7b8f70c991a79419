/-
  Texts laid one behind the other: R2d Ex Zm Zp R2e R2f R2g Eh.
-/
import Derived.Test.YtkkgipieahhmbaaJocae
import Derived.Laws.ResultCell
import Derived.Test.YtkkgipieahhmbaaJocad
import Derived.Test.YtkkgipieahhmbaaJocab
import Derived.Test.YtkkgipieahhmbaaJocac
import Derived.Laws.Slices

/-
  Stage 18: the document's Read.
-/
namespace Go.Proofs.Ytkkgipieahhmbaa
open Go.RowKit

set_option maxRecDepth 100000

/-- The state behind some numbers; the number at a place; is one too great? -/
def iter18 : Nat → RS9 → RS9
  | 0, s => s
  | i + 1, s => sNum' (iter18 i s)
def numAt18 (s : RS9) (i : Nat) : Nat := sNum (iter18 i s)
def great18 (s : RS9) : Nat → Bool
  | 0 => false
  | i + 1 => great18 s i || decide (4611686018427387904 < numAt18 s i)
theorem great_not18 {s : RS9} : ∀ {n i : Nat}, great18 s n = false → i < n → numAt18 s i ≤ 4611686018427387904
  | 0, _, _, h => absurd h (by omega)
  | n + 1, i, h, hi => by
    unfold great18 at h
    rw [Bool.or_eq_false_iff, decide_eq_false_iff_not] at h
    rcases Nat.lt_or_ge i n with h1 | h1
    · exact great_not18 h.1 h1
    · obtain rfl : i = n := by omega
      omega
def polY (s : RS9) : Y18 := ⟨numAt18 s 0, numAt18 s 1, numAt18 s 2, numAt18 s 3, numAt18 s 4, numAt18 s 5, numAt18 s 6, numAt18 s 7, numAt18 s 8⟩
def readY (s : RS9) : Y18 × Int := if (iter18 9 s).2 ≠ 0 then (zeroY, ((iter18 9 s).2 : Int)) else if great18 s 9 = true then (zeroY, 2) else if chkY (polY s) ≠ 0 then (zeroY, chkY (polY s)) else (polY s, 0)
def ca18 (s : RS9) (i k : Nat) : Int := if k < i then (numAt18 s k : Int) else 0
abbrev arr18 (s : RS9) (i : Nat) : Array Value := #[.int .u64 (ca18 s i 0), .int .u64 (ca18 s i 1), .int .u64 (ca18 s i 2), .int .u64 (ca18 s i 3), .int .u64 (ca18 s i 4), .int .u64 (ca18 s i 5), .int .u64 (ca18 s i 6), .int .u64 (ca18 s i 7), .int .u64 (ca18 s i 8)]
theorem arr_at18 (s : RS9) {i : Nat} (h : i < 9) : (arr18 s i)[i]? = some (.int .u64 0) := by
  match i, h with
  | 0, _ => rfl
  | 1, _ => rfl
  | 2, _ => rfl
  | 3, _ => rfl
  | 4, _ => rfl
  | 5, _ => rfl
  | 6, _ => rfl
  | 7, _ => rfl
  | 8, _ => rfl
theorem arr_set18 (s : RS9) {i : Nat} (h : i < 9) : (arr18 s i).setIfInBounds i (.int .u64 (numAt18 s i : Int)) = arr18 s (i + 1) := by
  match i, h with
  | 0, _ => rfl
  | 1, _ => rfl
  | 2, _ => rfl
  | 3, _ => rfl
  | 4, _ => rfl
  | 5, _ => rfl
  | 6, _ => rfl
  | 7, _ => rfl
  | 8, _ => rfl
theorem arr_next18 (s : RS9) {i : Nat} (h : i < 9) : (arr18 s (i + 1))[i]? = some (.int .u64 (numAt18 s i : Int)) := by
  match i, h with
  | 0, _ => rfl
  | 1, _ => rfl
  | 2, _ => rfl
  | 3, _ => rfl
  | 4, _ => rfl
  | 5, _ => rfl
  | 6, _ => rfl
  | 7, _ => rfl
  | 8, _ => rfl
theorem box_arr18 {W : World} {g : Nat} {t : TypeId} {s : RS9} (h : Box W g t (arr18 s 9)) :
    W.cell? ⟨g, 0, none⟩ = some (.int .u64 (numAt18 s 0 : Int)) ∧ W.cell? ⟨g, 1, none⟩ = some (.int .u64 (numAt18 s 1 : Int)) ∧ W.cell? ⟨g, 2, none⟩ = some (.int .u64 (numAt18 s 2 : Int)) ∧ W.cell? ⟨g, 3, none⟩ = some (.int .u64 (numAt18 s 3 : Int)) ∧ W.cell? ⟨g, 4, none⟩ = some (.int .u64 (numAt18 s 4 : Int)) ∧ W.cell? ⟨g, 5, none⟩ = some (.int .u64 (numAt18 s 5 : Int)) ∧ W.cell? ⟨g, 6, none⟩ = some (.int .u64 (numAt18 s 6 : Int)) ∧ W.cell? ⟨g, 7, none⟩ = some (.int .u64 (numAt18 s 7 : Int)) ∧ W.cell? ⟨g, 8, none⟩ = some (.int .u64 (numAt18 s 8 : Int)) :=
  ⟨h.cell 0, h.cell 1, h.cell 2, h.cell 3, h.cell 4, h.cell 5, h.cell 6, h.cell 7, h.cell 8⟩
theorem one_cells18 (p : Y18) : (ycells18 p).all (·.oneCell') = true := by
  refine all_oneCell_toArray (fun u hu => ?_)
  simp only [List.mem_cons, List.not_mem_nil, or_false] at hu
  rcases hu with rfl | rfl | rfl | rfl | rfl | rfl | rfl | rfl | rfl <;> rfl

/-- What Read keeps: its result's box, its numbers, the reader. -/
structure IR18 (w : World) (q B r a : Nat) (s : RS9) (i : Nat) (W : World) : Prop where
  res : Box W r 23 (ycells18 zeroY)
  arr : Box W a 69 (arr18 s i)
  xs : XS W q B (iter18 i s)
  turn : Turn (fun g => g = q) w W
  nr : w.heap.size ≤ r
  na : w.heap.size ≤ a
  ne : r ≠ a
  hq : q < w.heap.size
  hB : B ≠ r ∧ B ≠ a
section
variable {w W W2 : World} {q B r a i : Nat} {s : RS9}
theorem IR18.later (h : IR18 w q B r a s i W) (ht : Turn (fun _ => False) W W2) : IR18 w q B r a s i W2 :=
  ⟨h.res.turn ht (fun f => f), h.arr.turn ht (fun f => f), h.xs.later ht, h.turn.trans ht (fun _ _ f => f.elim), h.nr, h.na, h.ne, h.hq, h.hB⟩
/-- One more number read and stored. -/
theorem IR18.next (h : IR18 w q B r a s i W) (hi : i < 9) (hx : XS W2 q B (sNum' (iter18 i s))) (ht : Turn (fun g => g = q) W W2) : IR18 w q B r a s (i + 1) (W2.setCell ⟨a, i, none⟩ (.int .u64 (numAt18 s i : Int))) := by
  have hs : Turn (fun g => g = a) W2 (W2.setCell ⟨a, i, none⟩ (.int .u64 (numAt18 s i : Int))) := Turn.setCell (S := fun g => g = a) (p := ⟨a, i, none⟩) (Turn.refl _ W2) (fun _ => rfl) _
  have hqn := h.hq; have hBn := h.hB; have hn := h.na; have hr := h.nr
  have hb := (h.arr.turn ht (fun e => by omega)).set i (.int .u64 (numAt18 s i : Int))
  rw [arr_set18 s hi] at hb
  exact ⟨(h.res.turn ht (fun e => by omega)).turn hs h.ne, hb, hx.turn hs (fun e => by omega) (fun e => hBn.2 e), (h.turn.trans ht (fun _ _ e => e)).trans hs (fun k hk e => by omega), h.nr, h.na, h.ne, h.hq, h.hB⟩
/-- The result stored. -/
theorem IR18.out (h : IR18 w q B r a s i W) (c : Y18) : Box (W.setCells r 0 (ycells18 c).toList) r 23 (ycells18 c) ∧ XS (W.setCells r 0 (ycells18 c).toList) q B (iter18 i s) ∧ Turn (fun g => g = q) w (W.setCells r 0 (ycells18 c).toList) ∧ Turn (fun g => g = r) W (W.setCells r 0 (ycells18 c).toList) := by
  have hs : Turn (fun g => g = r) W (W.setCells r 0 (ycells18 c).toList) := turn_setCells (S := fun g => g = r) rfl _ _ _
  have hqn := h.hq; have hBn := h.hB; have hr := h.nr
  exact ⟨h.res.all _ rfl, h.xs.turn hs (fun e => by omega) (fun e => hBn.1 e), h.turn.trans hs (fun k hk e => by omega), hs⟩
end
/-- Behind Read. -/
def Read18 (w : World) (q B : Nat) (s : RS9) (e : Ending) (w' : World) : Prop := e = .returned (.tuple #[yv18 (readY s).1, .int .i64 (readY s).2]) ∧ XS w' q B (iter18 9 s) ∧ Turn (fun g => g = q) w w'
theorem read_out18 {w w' : World} {q B : Nat} {s : RS9} {y : Y18} {c : Int} (h : readY s = (y, c)) (hx : XS w' q B (iter18 9 s)) (ht : Turn (fun g => g = q) w w') : Read18 w q B s (.returned (.tuple #[yv18 y, .int .i64 c])) w' := ⟨by rw [h], hx, ht⟩

set_option maxHeartbeats 16000000 in
theorem ref_read18 (s : RS9) (q B : Nat) (w : World) (hx : XS w q B s) (hq : q < w.heap.size) (hB : B ≠ w.heap.size ∧ B ≠ w.heap.size + 1) : Calls Try.prog 15 #[.pointer (some ⟨q, 0, none⟩)] w fun e w' => Read18 w q B s e w' := by
  obtain ⟨r, hr⟩ : ∃ r, r = w.heap.size := ⟨_, rfl⟩
  obtain ⟨a, ha⟩ : ∃ a, a = w.heap.size + 1 := ⟨_, rfl⟩
  obtain ⟨wb, hwb⟩ : ∃ wb, wb = (w.alloc (.cells (ycells18 zeroY) 23)).alloc (.cells (arr18 s 0) 69) := ⟨_, rfl⟩
  have HI0 : Hid (IR18 w q B r a s 0 wb) := by
    have h1 := (Box.new w 23 (ycells18 zeroY)).alloc (.cells (arr18 s 0) 69)
    have h2 := Box.new (w.alloc (.cells (ycells18 zeroY) 23)) 69 (arr18 s 0)
    rw [World.size_alloc] at h2
    have ht : Turn (fun _ => False) w wb := by rw [hwb]; exact ((Turn.refl _ w).alloc _).alloc _
    rw [← hwb] at h1 h2
    rw [← hr] at h1
    rw [← ha] at h2
    exact ⟨h1, h2, hx.later ht, ht.mono (fun _ _ f => f.elim), by omega, by omega, by omega, hq, by omega⟩
  have HWB := Lib.hid hwb
  have HR := Lib.hid hr; have HA := Lib.hid ha
  clear hwb hx hq hB hr ha
  go_enter Try.func15, Try.ntmps15
  go_wp2_with fail
  have hwe := HWB.out
  unfold zeroY ycells18 arr18 ca18 at hwe
  simp only [Nat.not_lt_zero, if_false] at hwe
  rw [← hwe, ← HA.out, ← HR.out]
  clear hwe HWB HA HR
  go_loopw [5, 6] (fun x5 x6 wr => ∃ i : Nat, x6 = .int .i64 (i : Int) ∧ i ≤ 9 ∧ x5 = .bool (great18 s i) ∧ IR18 w q B r a s i wr) (fun _ x6 _ => 9 - (intOf x6).toNat)
  case atStart => exact ⟨0, rfl, Nat.zero_le _, rfl, HI0.out⟩
  case round =>
    clear HI0
    obtain ⟨i, rfl, hi, rfl, hin⟩ := hrel
    have HI := Lib.hid hin
    clear hin
    by_cases hlt : i < 9
    · have hil : (i : Int) < 9 := by omega
      go_wp2_with fail
      refine (xs_num HI.out.xs).mono ?_
      rintro e w2 ⟨rfl, h2, t2⟩
      have HN := Lib.hid (HI.out.next hlt h2 t2)
      have hqn := HI.out.hq; have hna := HI.out.na
      have hb2 := HI.out.arr.turn t2 (fun e => by omega)
      have e1 := (hb2.cell i).trans (arr_at18 s hlt)
      have f1 := hb2.free i
      have e2 := (HN.out.arr.cell i).trans (arr_next18 s hlt)
      have HG : Hid (great18 s (i + 1) = (great18 s i || decide (4611686018427387904 < numAt18 s i))) := rfl
      have HNA : Hid (sNum (iter18 i s) = numAt18 s i) := rfl
      rw [HNA.out]
      generalize numAt18 s i = n at *
      clear h2 t2 hb2 HNA
      obtain ⟨w3, hw3⟩ : ∃ w3, w3 = w2.setCell ⟨a, i, none⟩ (.int .u64 (n : Int)) := ⟨_, rfl⟩
      rw [← hw3] at HN
      have HW3 := Lib.hid hw3
      clear hw3
      generalize great18 s i = g at *
      cases g with
      | true =>
        have HG2 : Hid (great18 s (i + 1) = true) := by show _ = _; rw [HG.out]; rfl
        go_wp2_with fail
        go_roundw
        case rel => exact ⟨i + 1, by go_num, hlt, by rw [HG2.out], by rw [← HW3.out]; exact HN.out⟩
        case measure => simp [intOf]; omega
      | false =>
        by_cases hg : 4611686018427387904 < n
        · have HG2 : Hid (great18 s (i + 1) = true) := by show _ = _; rw [HG.out, decide_eq_true hg]; rfl
          have hgi : (4611686018427387904 : Int) < n := by omega
          go_wp2_with fail
          go_roundw
          case rel => exact ⟨i + 1, by go_num, hlt, by first | (rw [HG2.out]; done) | (rw [HG2.out]; first | rfl | (simp; omega)), by rw [← HW3.out]; exact HN.out⟩
          case measure => simp [intOf]; omega
        · have HG2 : Hid (great18 s (i + 1) = false) := by show _ = _; rw [HG.out, decide_eq_false hg]; rfl
          have hgi : ¬ (4611686018427387904 : Int) < n := by omega
          go_wp2_with fail
          go_roundw
          case rel => exact ⟨i + 1, by go_num, hlt, by first | (rw [HG2.out]; done) | (rw [HG2.out]; first | rfl | (simp; omega)), by rw [← HW3.out]; exact HN.out⟩
          case measure => simp [intOf]; omega
    · obtain rfl : i = 9 := by omega
      have HSPEC : Hid (True → readY s = if (iter18 9 s).2 ≠ 0 then (zeroY, ((iter18 9 s).2 : Int)) else if great18 s 9 = true then (zeroY, 2) else if chkY (polY s) ≠ 0 then (zeroY, chkY (polY s)) else (polY s, 0)) := fun _ => rfl
      have e1 := HI.out.xs.fault
      obtain ⟨AL, cL, e0⟩ := HI.out.xs.left
      have HOUT0 := Lib.hid (HI.out.out zeroY)
      have hrq : r ≠ q := by have h1 := HI.out.hq; have h2 := HI.out.nr; omega
      by_cases hf : (iter18 9 s).2 = 0
      · rw [hf] at e1
        by_cases hg : great18 s 9 = true
        · have HND : Hid (True → readY s = (zeroY, 2)) := fun _ => by rw [HSPEC.out trivial, if_neg (by simp [hf]), if_pos hg]
          rw [hg]
          have d0 : wr.cell? ⟨r, 0, none⟩ = some (.int .i64 0) := (HI.out.res).cell 0
          have d1 : wr.cell? ⟨r, 1, none⟩ = some (.int .i64 0) := (HI.out.res).cell 1
          have d2 : wr.cell? ⟨r, 2, none⟩ = some (.int .i64 0) := (HI.out.res).cell 2
          have d3 : wr.cell? ⟨r, 3, none⟩ = some (.int .i64 0) := (HI.out.res).cell 3
          have d4 : wr.cell? ⟨r, 4, none⟩ = some (.int .i64 0) := (HI.out.res).cell 4
          have d5 : wr.cell? ⟨r, 5, none⟩ = some (.int .i64 0) := (HI.out.res).cell 5
          have d6 : wr.cell? ⟨r, 6, none⟩ = some (.int .i64 0) := (HI.out.res).cell 6
          have d7 : wr.cell? ⟨r, 7, none⟩ = some (.int .i64 0) := (HI.out.res).cell 7
          have d8 : wr.cell? ⟨r, 8, none⟩ = some (.int .i64 0) := (HI.out.res).cell 8
          have z0 := (HI.out.res).free 0
          have z1 := (HI.out.res).free 1
          have z2 := (HI.out.res).free 2
          have z3 := (HI.out.res).free 3
          have z4 := (HI.out.res).free 4
          have z5 := (HI.out.res).free 5
          have z6 := (HI.out.res).free 6
          have z7 := (HI.out.res).free 7
          have z8 := (HI.out.res).free 8
          clear hf hg HSPEC e0
          go_wp2_with fail
          refine bodyPost_ret (v := .tuple #[(.agg #[.int .i64 0, .int .i64 0, .int .i64 0, .int .i64 0, .int .i64 0, .int .i64 0, .int .i64 0, .int .i64 0, .int .i64 0]), .int .i64 2]) ?_ rfl (read_out18 (HND.out trivial) HOUT0.out.2.1 HOUT0.out.2.2.1)
          rw [results_cell_tmp rfl]
          go_simp
        · have hgf : great18 s 9 = false := by cases h : great18 s 9 with
            | true => exact absurd h hg
            | false => rfl
          have HSP2 : Hid (True → readY s = if chkY (polY s) ≠ 0 then (zeroY, chkY (polY s)) else (polY s, 0)) := fun _ => by rw [HSPEC.out trivial, if_neg (by simp [hf]), if_neg hg]
          have n0 := great_not18 hgf (show 0 < 9 by decide)
          have n1 := great_not18 hgf (show 1 < 9 by decide)
          have n2 := great_not18 hgf (show 2 < 9 by decide)
          have n3 := great_not18 hgf (show 3 < 9 by decide)
          have n4 := great_not18 hgf (show 4 < 9 by decide)
          have n5 := great_not18 hgf (show 5 < 9 by decide)
          have n6 := great_not18 hgf (show 6 < 9 by decide)
          have n7 := great_not18 hgf (show 7 < 9 by decide)
          have n8 := great_not18 hgf (show 8 < 9 by decide)
          have h0 : IntKind.i64.wrap (numAt18 s 0 : Int) = (numAt18 s 0 : Int) := IntWalk.i64_in _ (by omega)
          have h1 : IntKind.i64.wrap (numAt18 s 1 : Int) = (numAt18 s 1 : Int) := IntWalk.i64_in _ (by omega)
          have h2 : IntKind.i64.wrap (numAt18 s 2 : Int) = (numAt18 s 2 : Int) := IntWalk.i64_in _ (by omega)
          have h3 : IntKind.i64.wrap (numAt18 s 3 : Int) = (numAt18 s 3 : Int) := IntWalk.i64_in _ (by omega)
          have h4 : IntKind.i64.wrap (numAt18 s 4 : Int) = (numAt18 s 4 : Int) := IntWalk.i64_in _ (by omega)
          have h5 : IntKind.i64.wrap (numAt18 s 5 : Int) = (numAt18 s 5 : Int) := IntWalk.i64_in _ (by omega)
          have h6 : IntKind.i64.wrap (numAt18 s 6 : Int) = (numAt18 s 6 : Int) := IntWalk.i64_in _ (by omega)
          have h7 : IntKind.i64.wrap (numAt18 s 7 : Int) = (numAt18 s 7 : Int) := IntWalk.i64_in _ (by omega)
          have h8 : IntKind.i64.wrap (numAt18 s 8 : Int) = (numAt18 s 8 : Int) := IntWalk.i64_in _ (by omega)
          rw [hgf]
          obtain ⟨b0, b1, b2, b3, b4, b5, b6, b7, b8⟩ := box_arr18 HI.out.arr
          obtain ⟨P, hP⟩ : ∃ P, P = polY s := ⟨_, rfl⟩
          have HPP : Hid (P = ⟨numAt18 s 0, numAt18 s 1, numAt18 s 2, numAt18 s 3, numAt18 s 4, numAt18 s 5, numAt18 s 6, numAt18 s 7, numAt18 s 8⟩) := hP
          have HCK : Hid (∀ W, Calls Try.prog 10 #[yv18 P] W fun e w' => e = .returned (.int .i64 (chkY P)) ∧ Turn (fun _ => False) W w') := fun W => ref_check18 P W
          rw [← hP] at HSP2
          clear hf hg hgf HSPEC e0 hP HOUT0
          generalize numAt18 s 0 = X0 at *
          generalize numAt18 s 1 = X1 at *
          generalize numAt18 s 2 = X2 at *
          generalize numAt18 s 3 = X3 at *
          generalize numAt18 s 4 = X4 at *
          generalize numAt18 s 5 = X5 at *
          generalize numAt18 s 6 = X6 at *
          generalize numAt18 s 7 = X7 at *
          generalize numAt18 s 8 = X8 at *
          generalize hX0 : (X0 : Int) = x0 at *
          generalize hX1 : (X1 : Int) = x1 at *
          generalize hX2 : (X2 : Int) = x2 at *
          generalize hX3 : (X3 : Int) = x3 at *
          generalize hX4 : (X4 : Int) = x4 at *
          generalize hX5 : (X5 : Int) = x5 at *
          generalize hX6 : (X6 : Int) = x6 at *
          generalize hX7 : (X7 : Int) = x7 at *
          generalize hX8 : (X8 : Int) = x8 at *
          obtain ⟨k, hk⟩ : ∃ k, k = wr.heap.size := ⟨_, rfl⟩
          obtain ⟨w5, hw5⟩ : ∃ w5, w5 = wr.alloc (.cells (ycells18 P) 23) := ⟨_, rfl⟩
          have HK5 : Hid (Box w5 k 23 (ycells18 P)) := by rw [hw5, hk]; exact Box.new wr _ _
          have HI5 : Hid (IR18 w q B r a s 9 w5) := by rw [hw5]; exact HI.out.later ((Turn.refl _ wr).alloc _)
          have HW5 := Lib.hid hw5; have HKK := Lib.hid hk
          clear hw5 hk
          have y := HPP.out
          subst y
          go_wp2_with fail
          have hwe := HW5.out
          unfold ycells18 at hwe
          dsimp only at hwe
          rw [← hwe, ← HKK.out]
          refine (HCK.out w5).mono ?_
          rintro e w6 ⟨rfl, t6⟩
          have HK6 := Lib.hid (HK5.out.turn t6 (fun f => f))
          have HI6 := Lib.hid (HI5.out.later t6)
          clear t6 HCK HK5 HI5 hwe b0 b1 b2 b3 b4 b5 b6 b7 b8 e1 h0 n0 h1 n1 h2 n2 h3 n3 h4 n4 h5 n5 h6 n6 h7 n7 h8 n8
          obtain ⟨y0, y1, y2, y3, y4, y5, y6, y7, y8⟩ := box_y18 HK6.out
          have d0 : w6.cell? ⟨r, 0, none⟩ = some (.int .i64 0) := (HI6.out.res).cell 0
          have d1 : w6.cell? ⟨r, 1, none⟩ = some (.int .i64 0) := (HI6.out.res).cell 1
          have d2 : w6.cell? ⟨r, 2, none⟩ = some (.int .i64 0) := (HI6.out.res).cell 2
          have d3 : w6.cell? ⟨r, 3, none⟩ = some (.int .i64 0) := (HI6.out.res).cell 3
          have d4 : w6.cell? ⟨r, 4, none⟩ = some (.int .i64 0) := (HI6.out.res).cell 4
          have d5 : w6.cell? ⟨r, 5, none⟩ = some (.int .i64 0) := (HI6.out.res).cell 5
          have d6 : w6.cell? ⟨r, 6, none⟩ = some (.int .i64 0) := (HI6.out.res).cell 6
          have d7 : w6.cell? ⟨r, 7, none⟩ = some (.int .i64 0) := (HI6.out.res).cell 7
          have d8 : w6.cell? ⟨r, 8, none⟩ = some (.int .i64 0) := (HI6.out.res).cell 8
          have z0 := (HI6.out.res).free 0
          have z1 := (HI6.out.res).free 1
          have z2 := (HI6.out.res).free 2
          have z3 := (HI6.out.res).free 3
          have z4 := (HI6.out.res).free 4
          have z5 := (HI6.out.res).free 5
          have z6 := (HI6.out.res).free 6
          have z7 := (HI6.out.res).free 7
          have z8 := (HI6.out.res).free 8
          generalize chkY _ = c at *
          by_cases hc : c = 0
          · have HND := Lib.hid (fun _ : True => (HSP2.out trivial).trans (if_neg (by simp [hc])))
            have HOUT := Lib.hid (HI6.out.out ⟨x0, x1, x2, x3, x4, x5, x6, x7, x8⟩)
            subst hc
            clear HSP2
            go_wp2_with fail
            refine bodyPost_ret (v := .tuple #[yv18 ⟨x0, x1, x2, x3, x4, x5, x6, x7, x8⟩, .int .i64 0]) ?_ rfl (read_out18 (HND.out trivial) HOUT.out.2.1 HOUT.out.2.2.1)
            rw [results_cell_tmp rfl]
            go_simp
          · have HND := Lib.hid (fun _ : True => (HSP2.out trivial).trans (if_pos hc))
            have HOUT := Lib.hid (HI6.out.out zeroY)
            have hc1 : (c == 0) = false := by rw [beq_eq_false_iff_ne]; exact hc
            clear HSP2 hc
            go_wp2_with fail
            refine bodyPost_ret (v := .tuple #[(.agg #[.int .i64 0, .int .i64 0, .int .i64 0, .int .i64 0, .int .i64 0, .int .i64 0, .int .i64 0, .int .i64 0, .int .i64 0]), .int .i64 c]) ?_ rfl (read_out18 (HND.out trivial) HOUT.out.2.1 HOUT.out.2.2.1)
            rw [results_cell_tmp rfl]
            go_simp
      · have HND : Hid (True → readY s = (zeroY, ((iter18 9 s).2 : Int))) := fun _ => by rw [HSPEC.out trivial, if_pos hf]
        generalize hF : (iter18 9 s).2 = F at *
        have hf2 : ((F : Int) == 0) = false := by rw [beq_eq_false_iff_ne]; omega
        have HID : Hid (IR18 w q B r a s 9 (World.drew wr)) := HI.out.later (Turn.refl _ wr).drew
        have HSI : Hid ((Try.prog.info? 23).map (·.size) = some 9) := by show _ = _; kernel_rfl
        have HON := Lib.hid (one_cells18 zeroY)
        clear hf hF HSPEC e0 HOUT0 HI
        go_wp2_with fail
        have hS0 : (World.drew wr).cell? ⟨q, 1, none⟩ = some (.int .i64 (F : Int)) ∧ True := ⟨e1, trivial⟩
        refine drawn_region (fun W => W.cell? ⟨q, 1, none⟩ = some (.int .i64 (F : Int)) ∧ True) [] (by kernel_rfl) ?_
        generalize World.drew wr = wd at *
        refine drawn_take 0 29 (.agg #[.int .i64 0, .int .i64 0, .int .i64 0, .int .i64 0, .int .i64 0, .int .i64 0, .int .i64 0, .int .i64 0, .int .i64 0]) rfl rfl (by kernel_rfl) (by kernel_rfl) (by kernel_rfl) (by kernel_rfl) (fun _ _ _ h => h) (by rfl) (by assumption) (by intro w hSw; obtain ⟨b0, -⟩ := hSw; go_simp) ?_
        try simp only [List.setIfInBounds_toArray, List.set_cons_zero, List.set_cons_succ]
        refine drawn_take 1 30 (.pointer (some ⟨q, 0, none⟩)) rfl rfl (by kernel_rfl) (by kernel_rfl) (by kernel_rfl) (by kernel_rfl) (fun _ _ _ h => h) (by rfl) (by assumption) (by intro w hSw; obtain ⟨b0, -⟩ := hSw; go_simp) ?_
        try simp only [List.setIfInBounds_toArray, List.set_cons_zero, List.set_cons_succ]
        refine drawn_take 2 31 (.pointer (some ⟨q, 0, none⟩)) rfl rfl (by kernel_rfl) (by kernel_rfl) (by kernel_rfl) (by kernel_rfl) (fun _ _ _ h => h) (by rfl) (by assumption) (by intro w hSw; obtain ⟨b0, -⟩ := hSw; go_simp) ?_
        try simp only [List.setIfInBounds_toArray, List.set_cons_zero, List.set_cons_succ]
        refine drawn_take 3 32 (.pointer (some ⟨q, 1, none⟩)) rfl rfl (by kernel_rfl) (by kernel_rfl) (by kernel_rfl) (by kernel_rfl) (fun _ _ _ h => h) (by rfl) (by assumption) (by intro w hSw; obtain ⟨b0, -⟩ := hSw; go_simp) ?_
        try simp only [List.setIfInBounds_toArray, List.set_cons_zero, List.set_cons_succ]
        refine drawn_take 4 33 (.int .i64 (F : Int)) rfl rfl (by kernel_rfl) (by kernel_rfl) (by kernel_rfl) (by kernel_rfl) (fun _ _ _ h => h) (by rfl) (by assumption) (by intro w hSw; obtain ⟨b0, -⟩ := hSw; go_simp) ?_
        try simp only [List.setIfInBounds_toArray, List.set_cons_zero, List.set_cons_succ]
        obtain ⟨w9, hw9⟩ : ∃ w9, w9 = wd.setCells r 0 (ycells18 zeroY).toList := ⟨_, rfl⟩
        have HST := Lib.hid (HID.out.out zeroY)
        rw [← hw9] at HST
        have hS9 : w9.cell? ⟨q, 1, none⟩ = some (.int .i64 (F : Int)) ∧ True := by
          have hlt : q < wd.heap.size := by
            rcases Nat.lt_or_ge q wd.heap.size with h | h
            · exact h
            · have e := hS0.1
              unfold World.cell? at e
              rw [Array.getElem?_eq_none h] at e
              cases e
          exact ⟨(HST.out.2.2.2.cell (p := ⟨q, 1, none⟩) hlt (fun e => hrq e.symm)).trans hS0.1, trivial⟩
        have HTH : Hid (wd.there r 0 9) := HID.out.res.there (Nat.le_refl 9)
        have HW9 := Lib.hid hw9
        clear hw9
        refine drawn_any [5] (by kernel_rfl) (by simp) ?_
        refine drawn_cons rfl (fun K2 hK => ?_) drawn_nil
        refine put_box r 0 (ycells18 zeroY) HTH.out rfl rfl HSI.out HON.out ?_
        rw [← HW9.out]
        refine hK.out _ _ _ hS9 ?_
        clear hK K2 hS0
        try simp only [List.setIfInBounds_toArray, List.set_cons_zero, List.set_cons_succ]
        refine drawn_last1 6 3 (.int .i64 (F : Int)) rfl rfl (by kernel_rfl) (by kernel_rfl) (by rfl) (by intro w; go_simp) hS9 ?_
        try simp only [List.setIfInBounds_toArray, List.set_cons_zero, List.set_cons_succ]
        have d0 : w9.cell? ⟨r, 0, none⟩ = some (.int .i64 0) := (HST.out.1).cell 0
        have d1 : w9.cell? ⟨r, 1, none⟩ = some (.int .i64 0) := (HST.out.1).cell 1
        have d2 : w9.cell? ⟨r, 2, none⟩ = some (.int .i64 0) := (HST.out.1).cell 2
        have d3 : w9.cell? ⟨r, 3, none⟩ = some (.int .i64 0) := (HST.out.1).cell 3
        have d4 : w9.cell? ⟨r, 4, none⟩ = some (.int .i64 0) := (HST.out.1).cell 4
        have d5 : w9.cell? ⟨r, 5, none⟩ = some (.int .i64 0) := (HST.out.1).cell 5
        have d6 : w9.cell? ⟨r, 6, none⟩ = some (.int .i64 0) := (HST.out.1).cell 6
        have d7 : w9.cell? ⟨r, 7, none⟩ = some (.int .i64 0) := (HST.out.1).cell 7
        have d8 : w9.cell? ⟨r, 8, none⟩ = some (.int .i64 0) := (HST.out.1).cell 8
        have z0 := (HST.out.1).free 0
        have z1 := (HST.out.1).free 1
        have z2 := (HST.out.1).free 2
        have z3 := (HST.out.1).free 3
        have z4 := (HST.out.1).free 4
        have z5 := (HST.out.1).free 5
        have z6 := (HST.out.1).free 6
        have z7 := (HST.out.1).free 7
        have z8 := (HST.out.1).free 8
        go_wp2
        refine bodyPost_ret (v := .tuple #[(.agg #[.int .i64 0, .int .i64 0, .int .i64 0, .int .i64 0, .int .i64 0, .int .i64 0, .int .i64 0, .int .i64 0, .int .i64 0]), .int .i64 (F : Int)]) ?_ rfl (read_out18 (HND.out trivial) HST.out.2.1 HST.out.2.2.1)
        rw [results_cell_tmp rfl]
        go_simp

end Go.Proofs.Ytkkgipieahhmbaa

/-
  A reader of pack (the program's) by its state: the bytes that are left, the fault. For every stage whose code reads bytes so.
-/
namespace Go.Proofs.Ytkkgipieahhmbaa
open Go.RowKit

theorem rdF_zero : ∀ (k i acc : Nat) (l : List UInt8), (rdF k i acc l).2.1 ≠ 0 → (rdF k i acc l).1 = 0
  | 0, _, _, _, _ => rfl
  | _ + 1, _, _, [], _ => rfl
  | k + 1, i, acc, b :: l, h => by
    unfold rdF at h ⊢
    split
    · rename_i hb
      rw [if_pos hb] at h
      exact rdF_zero k _ _ l h
    · rename_i hb
      rw [if_neg hb] at h
      split
      · rfl
      · rename_i hc
        rw [if_neg hc] at h
        exact absurd rfl h
theorem rdNum_zero {l : List UInt8} (h : (rdNum l).2.1 ≠ 0) : (rdNum l).1 = 0 := rdF_zero 10 0 0 l h
theorem rdCount_zero {most : Nat} {l : List UInt8} (h : (rdCount most l).2.1 ≠ 0) : (rdCount most l).1 = 0 := by
  unfold rdCount at h ⊢
  split
  · rfl
  · rename_i h1
    split
    · rfl
    · rename_i h2
      rw [if_neg h1, if_neg h2] at h
      exact absurd rfl h
theorem rdText_zero {most : Nat} {l : List UInt8} (h : (rdText most l).2.1 ≠ 0) : (rdText most l).1 = [] := by
  unfold rdText at h ⊢
  generalize rdCount most l = r at *
  obtain ⟨n, f, m⟩ := r
  simp only at h ⊢
  split
  · rfl
  · rename_i h1
    split
    · rfl
    · rename_i h2
      rw [if_neg h1, if_neg h2] at h
      exact absurd rfl h

/-- What is read in a state, and the state behind it. -/
def gNum (s : List UInt8 × Nat) : Nat := if s.2 = 0 then (rdNum s.1).1 else 0
def gNum' (s : List UInt8 × Nat) : List UInt8 × Nat := if s.2 = 0 then (s.1.drop (rdNum s.1).2.2, (rdNum s.1).2.1) else s
def gInt (s : List UInt8 × Nat) : Int := if s.2 = 0 then zag (rdNum s.1).1 else 0
def gText (most : Nat) (s : List UInt8 × Nat) : List UInt8 := if s.2 = 0 then (rdText most s.1).1 else []
def gText' (most : Nat) (s : List UInt8 × Nat) : List UInt8 × Nat := if s.2 = 0 then (s.1.drop (rdText most s.1).2.2, (rdText most s.1).2.1) else s
def gCount (most : Nat) (s : List UInt8 × Nat) : Nat := if s.2 = 0 then (rdCount most s.1).1 else 0
def gCount' (most : Nat) (s : List UInt8 × Nat) : List UInt8 × Nat := if s.2 = 0 then (s.1.drop (rdCount most s.1).2.2, (rdCount most s.1).2.1) else s

/-- The program's reader in a state, new since a world (behind a fault what is left is of no account). -/
def PR (w : World) (p : Nat) (wr : World) (s : List UInt8 × Nat) : Prop :=
  w.heap.size ≤ p ∧ (∃ v l k, Rdr wr p v l k s.2 ∧ (s.2 = 0 → l.drop k = s.1) ∧ ∀ g, v.ownBlock = some g → w.heap.size ≤ g) ∧ Turn (fun _ => False) w wr
section
variable {w wr : World} {p : Nat} {s : List UInt8 × Nat}
theorem PR.turn (h : PR w p wr s) : Turn (fun _ => False) w wr := h.2.2
theorem PR.later {w' : World} (h : PR w p wr s) (ht : Turn (fun _ => False) wr w') : PR w p w' s := by
  obtain ⟨h0, ⟨v, l, k, h1, h2, h3⟩, h4⟩ := h
  exact ⟨h0, ⟨v, l, k, h1.turn ht (fun f => f) (fun _ _ f => f), h2, h3⟩, h4.trans ht (fun _ _ f => f)⟩
theorem PR.box (h : PR w p wr s) : ∃ cs, Box wr p 65 cs := by
  obtain ⟨_, ⟨v, l, k, h1, _⟩, _⟩ := h
  exact ⟨_, h1.1⟩
/-- A reader is kept where boxes of other types turn. -/
theorem PR.keep {S : Nat → Prop} {w' : World} (h : PR w p wr s) (ht : Turn S wr w') (h1 : ∀ g, S g → w.heap.size ≤ g) (h2 : ∀ g, S g → ∃ t cs, t ≠ 65 ∧ t ≠ 5 ∧ Box wr g t cs) : PR w p w' s := by
  obtain ⟨h0, ⟨v, l, k, g1, g2, g3⟩, h4⟩ := h
  refine ⟨h0, ⟨v, l, k, g1.turn ht (fun e => ?_) (fun g hg e => ?_), g2, g3⟩, h4.trans ht (fun g hg e => by have := h1 g e; omega)⟩
  · obtain ⟨t, cs, n1, _, hb⟩ := h2 p e
    have e2 := g1.1.symm.trans hb
    injection e2 with e2
    injection e2 with _ e3
    exact n1 e3.symm
  · obtain ⟨t, cs, _, n2, hb⟩ := h2 g e
    exact g1.2.1.ne_box hb (fun e => n2 e.symm) hg
theorem PR.step {none x : Value} {f1 d : Nat} {v : Value} {l : List UInt8} {k : Nat} {e : Ending} {w' : World} (h0 : w.heap.size ≤ p) (h2 : s.2 = 0 → l.drop k = s.1) (h3 : ∀ g, v.ownBlock = some g → w.heap.size ≤ g) (h4 : Turn (fun _ => False) w wr)
    (hg : Got p v l k s.2 wr none x (k + d) f1 e w') (hx : f1 ≠ 0 → x = none) :
    e = .returned (if s.2 = 0 then x else none) ∧ PR w p w' (if s.2 = 0 then (s.1.drop d, f1) else s) ∧ Turn (fun g => g = p) wr w' := by
  by_cases hs : s.2 = 0
  · rw [if_pos hs, if_pos hs]
    have ht := hg.1 hs
    by_cases hf : f1 = 0
    · obtain ⟨g1, g2⟩ := ht.1 hf
      refine ⟨g1, ⟨h0, ⟨v, l, k + d, ?_, fun _ => ?_, h3⟩, h4.trans g2.2 (fun g hg e => by omega)⟩, g2.2⟩
      · rw [hf]
        exact g2.1
      · show l.drop (k + d) = s.1.drop d
        rw [← h2 hs, List.drop_drop]
    · obtain ⟨g1, g2⟩ := ht.2 hf
      refine ⟨by rw [g1, hx hf], ⟨h0, ⟨v, l, k, g2.1, fun e => absurd e hf, h3⟩, h4.trans g2.2 (fun g hg e => by omega)⟩, g2.2⟩
  · rw [if_neg hs, if_neg hs]
    obtain ⟨g1, g2⟩ := hg.2 hs
    exact ⟨g1, ⟨h0, ⟨v, l, k, g2.1, fun e => absurd e hs, h3⟩, h4.trans g2.2 (fun g hg e => by omega)⟩, g2.2⟩
theorem pr_num (h : PR w p wr s) : Calls Try.prog 33 #[.pointer (some ⟨p, 0, none⟩)] wr fun e w' => e = .returned (.int .u64 (gNum s : Int)) ∧ PR w p w' (gNum' s) ∧ Turn (fun g => g = p) wr w' := by
  obtain ⟨h0, ⟨v, l, k, h1, h2, h3⟩, h4⟩ := h
  refine (rnum p v l k s.2 wr h1).mono fun e w' hg => ?_
  by_cases hs : s.2 = 0
  · rw [h2 hs] at hg
    obtain ⟨g1, g2, g3⟩ := PR.step h0 h2 h3 h4 hg (fun hf => by rw [rdNum_zero hf]; rfl)
    refine ⟨?_, g2, g3⟩
    rw [g1]
    unfold gNum
    rw [if_pos hs, if_pos hs]
  · obtain ⟨g1, g2⟩ := hg.2 hs
    refine ⟨by rw [g1]; unfold gNum; rw [if_neg hs]; rfl, ?_, g2.2⟩
    unfold gNum'
    rw [if_neg hs]
    exact ⟨h0, ⟨v, l, k, g2.1, h2, h3⟩, h4.trans g2.2 (fun g hg e => by omega)⟩
theorem pr_fault (h : PR w p wr s) : Calls Try.prog 34 #[.pointer (some ⟨p, 0, none⟩)] wr fun e w' => e = .returned (.int .i64 (s.2 : Int)) ∧ wr = w' := by
  obtain ⟨h0, ⟨v, l, k, h1, h2, h3⟩, h4⟩ := h
  exact fault_any p v l k s.2 wr h1
/-- Where nothing is wrong: how many bytes are left. -/
theorem pr_left (h : PR w p wr s) (h0 : s.2 = 0) : Calls Try.prog 16 #[.pointer (some ⟨p, 0, none⟩)] wr fun e w' => e = .returned (.int .i64 (s.1.length : Int)) ∧ ∃ n, w' = wr.drewN n := by
  obtain ⟨_, ⟨v, l, k, h1, h2, h3⟩, h4⟩ := h
  rw [← h2 h0, List.length_drop]
  exact left_any p v l k s.2 wr h1
theorem pr_new (v : Value) (l : List UInt8) (h : Turn (fun _ => False) w wr) (hv : Rd wr v l) (hl : l.length ≤ 1000000) : Calls Try.prog 13 #[v] wr fun e w' => ∃ p, e = .returned (.pointer (some ⟨p, 0, none⟩)) ∧ PR w p w' (l, 0) ∧ wr.heap.size ≤ p :=
  (new_reader v l wr hv hl).mono fun _ _ ⟨p, u, he, h1, h2, h3, h4⟩ => ⟨p, he, ⟨Nat.le_trans h.size h3, ⟨u, l, 0, h1, fun _ => rfl, fun g hg => Nat.le_trans h.size (h4 g hg)⟩, h.trans h2 (fun _ _ f => f)⟩, h3⟩
end

end Go.Proofs.Ytkkgipieahhmbaa

/-
  Stage 9: the document's Read.
-/
namespace Go.Proofs.Ytkkgipieahhmbaa
open Go.RowKit

set_option maxRecDepth 100000

/-- The texts that are read into a key; a fact; all facts. -/
def textsK (k0 : K9) (s : RS9) : Nat → K9 × RS9
  | 0 => (k0, s)
  | i + 1 => ((textsK k0 s i).1.put i (sText (textsK k0 s i).2), sText' (textsK k0 s i).2)
def oneF (n h : Nat) (s : RS9) : F9 × RS9 := (⟨(textsK ⟨h, [], [], [], []⟩ s n).1, sInt (textsK ⟨h, [], [], [], []⟩ s n).2⟩, sNum' (textsK ⟨h, [], [], [], []⟩ s n).2)
def readR (n : Nat) : Nat → RS9 → List F9 → Int × List F9
  | 0, s, out => if s.2 ≠ 0 then ((s.2 : Int), []) else if 0 < s.1.length then (4, []) else if (allB out n).1 ≠ 0 then ((allB out n).1, []) else (0, out)
  | i + 1, s, out => if 16777216 < sNum s then (2, []) else if (oneF n (sNum s) (sNum' s)).2.2 ≠ 0 then (((oneF n (sNum s) (sNum' s)).2.2 : Int), []) else readR n i (oneF n (sNum s) (sNum' s)).2 (out ++ [(oneF n (sNum s) (sNum' s)).1])
def readB (m : List UInt8) (n : Int) : Int × List F9 := if okDims n then readR n.toNat (sCount (m, 0)) (sCount' (m, 0)) [] else (1, [])
/-- Behind Read: the facts, or none. -/
def Readed (w : World) (m : List UInt8) (n : Int) (e : Ending) (w' : World) : Prop := ∃ v, e = .returned (.tuple #[v, .int .i64 (readB m n).1]) ∧ RdE EF w' v (readB m n).2 ∧ Turn (fun _ => False) w w'
/-- .. where they lie in memory that is new. -/
def ReadedN (w : World) (m : List UInt8) (n : Int) (e : Ending) (w' : World) : Prop := ∃ v, e = .returned (.tuple #[v, .int .i64 (readB m n).1]) ∧ RdE EF w' v (readB m n).2 ∧ Turn (fun _ => False) w w' ∧ ∀ k, v.ownBlock = some k → w.heap.size ≤ k
theorem ReadedN.old {w : World} {m : List UInt8} {n : Int} {e : Ending} {w' : World} (h : ReadedN w m n e w') : Readed w m n e w' := by
  obtain ⟨v, h1, h2, h3, _⟩ := h
  exact ⟨v, h1, h2, h3⟩

/-- A fact's cells, in the block that a round has made. -/
abbrev cells9 (k : K9) (v : Int) : Array Value := #[.int .i64 k.h, sv9 k.a, sv9 k.b, sv9 k.c, sv9 k.d, .int .i64 v]
section
variable {w W W2 : World} {q B b : Nat} {x8 : Value} {out : List F9} {k : K9} {v : Int} {s s2 : RS9}
theorem put_cells9 (k : K9) (v : Int) {i : Nat} (hi : i < 4) (t : List UInt8) : (cells9 k v).setIfInBounds (1 + i) (sv9 t) = cells9 (k.put i t) v := by
  match i, hi with
  | 0, _ => rfl
  | 1, _ => rfl
  | 2, _ => rfl
  | 3, _ => rfl
end

end Go.Proofs.Ytkkgipieahhmbaa

/-
  Stage 9, plain: there and back.
-/
namespace Go.Proofs.Ytkkgipieahhmbaa
open Go.RowKit

theorem zig_zag9 (n : Nat) : zig (zag n) = n := by
  unfold zig zag
  by_cases h : n % 2 = 0
  · rw [if_pos h, if_pos (by omega)]
    omega
  · rw [if_neg h, if_neg (by omega)]
    omega
theorem mid_of (b : UInt8) (q : Nat) (hb : 128 ≤ b.toNat) : mid (b.toNat - 128 + q * 128) = b := by
  have hlt : b.toNat < 256 := UInt8.toNat_lt b
  apply UInt8.toNat_inj.1
  unfold mid
  rw [UInt8.toNat_ofNat']
  omega
theorem low_of (b : UInt8) : low b.toNat = b := by
  apply UInt8.toNat_inj.1
  exact low_toNat _ (UInt8.toNat_lt b)
/-- What is read as a number is just what would be put, and what is left. -/
theorem rdF_exact : ∀ (g i acc : Nat) (l : List UInt8), (rdF g i acc l).2.1 = 0 →
    ∃ q, (rdF g i acc l).1 = acc + q * 128 ^ i ∧ i ≤ (rdF g i acc l).2.2 ∧ l = encF (g - 1) q ++ l.drop ((rdF g i acc l).2.2 - i) ∧ (0 < i → 0 < q)
  | 0, _, _, _, h => by cases h
  | _ + 1, _, _, [], h => by cases h
  | g + 1, i, acc, b :: l, h => by
    have e : rdF (g + 1) i acc (b :: l) = if 128 ≤ b.toNat then rdF g (i + 1) (acc + (b.toNat - 128) * 128 ^ i) l
      else if (0 < i ∧ b.toNat = 0) ∨ (i = 9 ∧ 1 < b.toNat) then (0, 4, i + 1) else (acc + b.toNat * 128 ^ i, 0, i + 1) := rfl
    rw [e] at h ⊢
    by_cases hb : 128 ≤ b.toNat
    · rw [if_pos hb] at h ⊢
      obtain ⟨q, h1, h2, h3, h4⟩ := rdF_exact g (i + 1) _ l h
      have hq := h4 (by omega)
      have hlt : b.toNat < 256 := UInt8.toNat_lt b
      cases g with
      | zero => cases h
      | succ g =>
        refine ⟨b.toNat - 128 + q * 128, ?_, by omega, ?_, fun _ => by omega⟩
        · rw [h1, Nat.pow_succ, Nat.add_mul, Nat.mul_assoc q 128, Nat.mul_comm 128 (128 ^ i)]
          omega
        · have e2 : encF (g + 1) (b.toNat - 128 + q * 128) = b :: encF g q := by
            show (if _ < 128 then _ else _) = _
            rw [if_neg (by omega), mid_of b q hb, show (b.toNat - 128 + q * 128) / 128 = q by omega]
          show b :: l = encF (g + 1) _ ++ _
          rw [e2]
          generalize (rdF (g + 1) (i + 1) (acc + (b.toNat - 128) * 128 ^ i) l).2.2 = n at *
          rw [show n - i = (n - (i + 1)) + 1 by omega, List.drop_succ_cons, List.cons_append]
          congr 1
    · rw [if_neg hb] at h ⊢
      by_cases hz : (0 < i ∧ b.toNat = 0) ∨ (i = 9 ∧ 1 < b.toNat)
      · rw [if_pos hz] at h
        cases h
      · rw [if_neg hz]
        refine ⟨b.toNat, rfl, by show i ≤ i + 1; omega, ?_, fun hi => by omega⟩
        have e2 : encF g b.toNat = [b] := by
          cases g with
          | zero => show [low b.toNat] = [b]; rw [low_of]
          | succ g =>
            show (if _ < 128 then _ else _) = _
            rw [if_pos (by omega), low_of]
        show b :: l = encF g b.toNat ++ _
        rw [e2, show i + 1 - i = 1 by omega]
        rfl
theorem rdNum_exact {l : List UInt8} (h : (rdNum l).2.1 = 0) : l = enc (rdNum l).1 ++ l.drop (rdNum l).2.2 := by
  obtain ⟨q, h1, _, h2, _⟩ := rdF_exact 10 0 0 l h
  have e : (rdNum l).1 = q := by
    show (rdF 10 0 0 l).1 = q
    rw [h1]
    simp
  rw [e]
  exact h2
theorem num_there {s : RS9} (h : (sNum' s).2 = 0) : s.2 = 0 ∧ s.1 = enc (sNum s) ++ (sNum' s).1 := by
  unfold sNum sNum' at *
  by_cases hs : s.2 = 0
  · rw [if_pos hs] at h
    rw [if_pos hs, if_pos hs]
    exact ⟨hs, rdNum_exact h⟩
  · rw [if_neg hs] at h
    exact absurd h hs
theorem text_there {s : RS9} (h : (sText' s).2 = 0) : s.2 = 0 ∧ s.1 = textB (sText s) ++ (sText' s).1 ∧ (sText s).length ≤ 16 := by
  unfold sText sText' at *
  by_cases hs : s.2 = 0
  · rw [if_pos hs] at h
    rw [if_pos hs, if_pos hs]
    refine ⟨hs, ?_⟩
    unfold rdText rdCount at h ⊢
    by_cases h1 : (rdNum s.1).2.1 = 0
    · by_cases h2 : 16 < (rdNum s.1).1
      · simp [h1, h2] at h
      · by_cases h3 : (s.1.drop (rdNum s.1).2.2).length < (rdNum s.1).1
        · simp only [h1, h2, ne_eq, not_true_eq_false, if_false, h3, if_true] at h
          cases h
        · simp only [h1, h2, ne_eq, not_true_eq_false, if_false, h3]
          have hl : ((s.1.drop (rdNum s.1).2.2).take (rdNum s.1).1).length = (rdNum s.1).1 := by rw [List.length_take]; omega
          refine ⟨?_, by omega⟩
          unfold textB
          rw [hl]
          have e := rdNum_exact h1
          conv => lhs; rw [e]
          rw [List.append_assoc, ← List.drop_drop, List.take_append_drop]
    · simp only [ne_eq, h1, not_false_eq_true, if_true] at h
  · rw [if_neg hs] at h
    exact absurd h hs
theorem count_there {s : RS9} (h : (sCount' s).2 = 0) : s.2 = 0 ∧ s.1 = enc (sCount s) ++ (sCount' s).1 ∧ sCount s ≤ 50 := by
  unfold sCount sCount' at *
  by_cases hs : s.2 = 0
  · rw [if_pos hs] at h
    rw [if_pos hs, if_pos hs]
    refine ⟨hs, ?_⟩
    unfold rdCount at h ⊢
    by_cases h1 : (rdNum s.1).2.1 = 0
    · by_cases h2 : 50 < (rdNum s.1).1
      · simp [h1, h2] at h
      · simp only [h1, h2, ne_eq, not_true_eq_false, if_false]
        exact ⟨rdNum_exact h1, by omega⟩
    · simp only [ne_eq, h1, not_false_eq_true, if_true] at h
  · rw [if_neg hs] at h
    exact absurd h hs


theorem dim_put {k : K9} {i j : Nat} (hi : i < 4) (hj : j < 4) (t : List UInt8) : (k.put i t).dim j = if i = j then t else k.dim j := by
  match i, hi, j, hj with
  | 0, _, 0, _ => rfl
  | 0, _, 1, _ => rfl
  | 0, _, 2, _ => rfl
  | 0, _, 3, _ => rfl
  | 1, _, 0, _ => rfl
  | 1, _, 1, _ => rfl
  | 1, _, 2, _ => rfl
  | 1, _, 3, _ => rfl
  | 2, _, 0, _ => rfl
  | 2, _, 1, _ => rfl
  | 2, _, 2, _ => rfl
  | 2, _, 3, _ => rfl
  | 3, _, 0, _ => rfl
  | 3, _, 1, _ => rfl
  | 3, _, 2, _ => rfl
  | 3, _, 3, _ => rfl
theorem put_h {k : K9} {i : Nat} (t : List UInt8) : (k.put i t).h = k.h := by
  unfold K9.put
  split <;> rfl
theorem texts_same {k k' : K9} : ∀ n, (∀ j, j < n → k.dim j = k'.dim j) → textsB k n = textsB k' n
  | 0, _ => rfl
  | n + 1, h => by
    show textsB k n ++ textB (k.dim n) = textsB k' n ++ textB (k'.dim n)
    rw [texts_same n (fun j hj => h j (by omega)), h n (by omega)]
theorem textsK_h (k0 : K9) (s : RS9) : ∀ n, (textsK k0 s n).1.h = k0.h
  | 0 => rfl
  | n + 1 => by
    show ((textsK k0 s n).1.put n _).h = k0.h
    rw [put_h, textsK_h k0 s n]
theorem texts_there (k0 : K9) (s : RS9) : ∀ n, n ≤ 4 → (textsK k0 s n).2.2 = 0 → s.2 = 0 ∧ s.1 = textsB (textsK k0 s n).1 n ++ (textsK k0 s n).2.1
  | 0, _, h => ⟨h, rfl⟩
  | n + 1, hn, h => by
    obtain ⟨h1, h2, _⟩ := text_there (s := (textsK k0 s n).2) h
    obtain ⟨g1, g2⟩ := texts_there k0 s n (by omega) h1
    refine ⟨g1, ?_⟩
    have e1 : textsB (textsK k0 s (n + 1)).1 (n + 1) = textsB (textsK k0 s n).1 n ++ textB (sText (textsK k0 s n).2) := by
      show textsB ((textsK k0 s n).1.put n _) n ++ textB (((textsK k0 s n).1.put n _).dim n) = _
      rw [dim_put (by omega) (by omega), if_pos rfl, texts_same n (k' := (textsK k0 s n).1) (fun j hj => by rw [dim_put (by omega) (by omega), if_neg (by omega)])]
    have e2 : (textsK k0 s (n + 1)).2.1 = (sText' (textsK k0 s n).2).1 := rfl
    rw [e1, e2, List.append_assoc, ← h2]
    exact g2
theorem one_there {n h : Nat} {s : RS9} (hn : n ≤ 4) (hf : (oneF n h s).2.2 = 0) : s.2 = 0 ∧ enc h ++ s.1 = factB n (oneF n h s).1 ++ (oneF n h s).2.1 := by
  obtain ⟨h1, h2⟩ := num_there (s := (textsK ⟨h, [], [], [], []⟩ s n).2) hf
  obtain ⟨g1, g2⟩ := texts_there _ s n hn h1
  refine ⟨g1, ?_⟩
  have e1 : (oneF n h s).1.k.h.toNat = h := by
    show (textsK _ s n).1.h.toNat = h
    rw [textsK_h]
    simp
  have e2 : zig (oneF n h s).1.v = sNum (textsK ⟨h, [], [], [], []⟩ s n).2 := by
    show zig (sInt _) = _
    unfold sInt sNum
    rw [if_pos h1, if_pos h1, zig_zag9]
  unfold factB
  rw [e1, e2, g2]
  have e3 : (oneF n h s).2.1 = (sNum' (textsK ⟨h, [], [], [], []⟩ s n).2).1 := rfl
  rw [e3]
  conv => lhs; rw [h2]
  simp only [List.append_assoc]
  rfl
theorem readR_there {n : Nat} (hn : n ≤ 4) : ∀ (i : Nat) (s : RS9) (out res : List F9), readR n i s out = (0, res) → s.2 = 0 ∧ ∃ new, res = out ++ new ∧ new.length = i ∧ s.1 = new.flatMap (factB n) ∧ (allB res n).1 = 0
  | 0, s, out, res, h => by
    unfold readR at h
    split at h
    · rename_i hs
      have := congrArg Prod.fst h
      simp at this
      exact absurd this hs
    · rename_i hs
      split at h
      · cases congrArg Prod.fst h
      · rename_i hl
        split at h
        · rename_i ha
          exact absurd (congrArg Prod.fst h) ha
        · rename_i ha
          have e : out = res := congrArg Prod.snd h
          subst e
          exact ⟨by omega, [], by simp, rfl, List.eq_nil_of_length_eq_zero (by omega), by omega⟩
  | i + 1, s, out, res, h => by
    unfold readR at h
    split at h
    · cases congrArg Prod.fst h
    · rename_i hb
      split at h
      · rename_i hf
        have := congrArg Prod.fst h
        simp at this
        exact absurd this hf
      · rename_i hf
        have hf0 : (oneF n (sNum s) (sNum' s)).2.2 = 0 := by omega
        obtain ⟨h1, new, h2, h3, h4, h5⟩ := readR_there hn i _ _ res h
        obtain ⟨g1, g2⟩ := one_there hn hf0
        obtain ⟨k1, k2⟩ := num_there g1
        refine ⟨k1, (oneF n (sNum s) (sNum' s)).1 :: new, by rw [h2]; simp, by rw [List.length_cons, h3], ?_, h5⟩
        rw [k2, g2, h4]
        rfl
theorem readB_there {m : List UInt8} {n : Int} {res : List F9} (h : readB m n = (0, res)) : m = batchB res n.toNat ∧ (allB res n).1 = 0 := by
  unfold readB at h
  split at h
  · rename_i hd
    unfold okDims at hd
    simp only [Bool.and_eq_true, decide_eq_true_iff] at hd
    obtain ⟨N, rfl⟩ := Int.eq_ofNat_of_zero_le (show 0 ≤ n by omega)
    rw [Int.toNat_natCast] at h ⊢
    obtain ⟨h1, new, h2, h3, h4, h5⟩ := readR_there (by omega) _ _ _ _ h
    rw [List.nil_append] at h2
    subst h2
    obtain ⟨_, g2, _⟩ := count_there h1
    refine ⟨?_, h5⟩
    unfold batchB
    rw [h3, ← h4]
    exact g2
  · cases congrArg Prod.fst h
theorem readB_none {m : List UInt8} {n : Int} (h : (readB m n).1 ≠ 0) : (readB m n).2 = [] := by
  have key : ∀ (N i : Nat) (s : RS9) (out : List F9), (readR N i s out).1 ≠ 0 → (readR N i s out).2 = [] := by
    intro N i
    induction i with
    | zero =>
      intro s out h
      unfold readR at h ⊢
      split
      · rfl
      · rename_i h1
        rw [if_neg h1] at h
        split
        · rfl
        · rename_i h2
          rw [if_neg h2] at h
          split
          · rfl
          · rename_i h3
            rw [if_neg h3] at h
            exact absurd rfl h
    | succ i ih =>
      intro s out h
      unfold readR at h ⊢
      split
      · rfl
      · rename_i h1
        rw [if_neg h1] at h
        split
        · rfl
        · rename_i h2
          rw [if_neg h2] at h
          exact ih _ _ h
  unfold readB at h ⊢
  split
  · rename_i h1
    rw [if_pos h1] at h
    exact key _ _ _ _ h
  · rfl

theorem num_back {n : Nat} (hn : Hid (n < 18446744073709551616)) (r : List UInt8) : sNum (enc n ++ r, 0) = n ∧ sNum' (enc n ++ r, 0) = (r, 0) := by
  unfold sNum sNum'
  simp only [if_true]
  rw [rdNum_enc n r hn]
  exact ⟨rfl, by simp⟩
theorem int_back {v : Int} (h1 : Hid (-9223372036854775808 ≤ v)) (h2 : Hid (v ≤ 9223372036854775807)) (r : List UInt8) : sInt (enc (zig v) ++ r, 0) = v ∧ sNum' (enc (zig v) ++ r, 0) = (r, 0) := by
  have hz := zig_lt v h1 h2
  refine ⟨?_, (num_back hz r).2⟩
  unfold sInt
  simp only [if_true]
  rw [rdNum_enc _ r hz, zag_zig]
theorem text_back {t : List UInt8} (ht : t.length ≤ 16) (r : List UInt8) : sText (textB t ++ r, 0) = t ∧ sText' (textB t ++ r, 0) = (r, 0) := by
  have hn : Hid (t.length < 18446744073709551616) := by show _ < _; omega
  have e : rdNum (textB t ++ r) = (t.length, 0, (enc t.length).length) := by
    unfold textB
    rw [List.append_assoc]
    exact rdNum_enc t.length (t ++ r) hn
  have ed : (textB t ++ r).drop (enc t.length).length = t ++ r := by
    unfold textB
    rw [List.append_assoc, List.drop_left]
  have e2 : rdText 16 (textB t ++ r) = (t, 0, (enc t.length).length + t.length) := by
    unfold rdText rdCount
    rw [e]
    have h16 : ¬ 16 < t.length := by omega
    simp only [ne_eq, not_true_eq_false, if_false, h16, ed]
    rw [if_neg (by rw [List.length_append]; omega), List.take_left]
  unfold sText sText'
  simp only [if_true]
  rw [e2]
  refine ⟨rfl, ?_⟩
  show ((textB t ++ r).drop ((enc t.length).length + t.length), 0) = _
  rw [← List.drop_drop, ed, List.drop_left]
theorem count_back {n : Nat} (hn : n ≤ 50) (r : List UInt8) : sCount (enc n ++ r, 0) = n ∧ sCount' (enc n ++ r, 0) = (r, 0) := by
  have e := rdNum_enc n r (by show _ < _; omega)
  have e2 : rdCount 50 (enc n ++ r) = (n, 0, (enc n).length) := by
    unfold rdCount
    rw [e]
    have h50 : ¬ 50 < n := by omega
    simp [h50]
  unfold sCount sCount'
  simp only [if_true]
  rw [e2]
  exact ⟨rfl, by simp⟩
/-- A key's first texts put into another. -/
def putN (k0 k : K9) : Nat → K9
  | 0 => k0
  | i + 1 => (putN k0 k i).put i (k.dim i)
theorem texts_back (k0 k : K9) (hk : ∀ i, i < 4 → (k.dim i).length ≤ 16) : ∀ (n : Nat) (r : List UInt8), n ≤ 4 → textsK k0 (textsB k n ++ r, 0) n = (putN k0 k n, (r, 0))
  | 0, _, _ => rfl
  | n + 1, r, hn => by
    have ih := texts_back k0 k hk n (textB (k.dim n) ++ r) (by omega)
    have e : textsB k (n + 1) ++ r = textsB k n ++ (textB (k.dim n) ++ r) := by
      show textsB k n ++ textB (k.dim n) ++ r = _
      rw [List.append_assoc]
    rw [e]
    show ((textsK k0 (textsB k n ++ (textB (k.dim n) ++ r), 0) n).1.put n (sText (textsK k0 (textsB k n ++ (textB (k.dim n) ++ r), 0) n).2), sText' (textsK k0 (textsB k n ++ (textB (k.dim n) ++ r), 0) n).2) = _
    rw [ih]
    obtain ⟨t1, t2⟩ := text_back (hk n (by omega)) r
    rw [t1, t2]
    rfl
theorem putN_all {k : K9} {n : Nat} (hn1 : 1 ≤ n) (hn : n ≤ 4) (hk : ∀ i, i < 4 → n ≤ i → k.dim i = []) : putN ⟨k.h, [], [], [], []⟩ k n = k := by
  obtain ⟨h, a, b, c, d⟩ := k
  match n, hn1, hn with
  | 1, _, _ =>
    have e1 := hk 1 (by omega) (by omega)
    have e2 := hk 2 (by omega) (by omega)
    have e3 := hk 3 (by omega) (by omega)
    simp only [K9.dim] at e1 e2 e3
    subst e1 e2 e3
    rfl
  | 2, _, _ =>
    have e2 := hk 2 (by omega) (by omega)
    have e3 := hk 3 (by omega) (by omega)
    simp only [K9.dim] at e2 e3
    subst e2 e3
    rfl
  | 3, _, _ =>
    have e3 := hk 3 (by omega) (by omega)
    simp only [K9.dim] at e3
    subst e3
    rfl
  | 4, _, _ => rfl
theorem chk_empty {f : F9} {n : Nat} (h : chkF f (n : Int) = 0) : ∀ i, i < 4 → n ≤ i → f.k.dim i = [] := by
  unfold chkF at h
  split at h
  · split at h
    · split at h
      · rename_i ht
        simp only [okTexts, okText, Bool.and_eq_true, Bool.or_eq_true, decide_eq_true_iff, List.isEmpty_iff] at ht
        intro i hi hn
        match i, hi with
        | 0, _ => rcases ht.1.1.1.2 with g | g; · omega
                  · exact g
        | 1, _ => rcases ht.1.1.2.2 with g | g; · omega
                  · exact g
        | 2, _ => rcases ht.1.2.2 with g | g; · omega
                  · exact g
        | 3, _ => rcases ht.2.2 with g | g; · omega
                  · exact g
      · cases h
    · cases h
  · cases h
theorem one_back {f : F9} {n : Nat} (hn1 : 1 ≤ n) (hn : n ≤ 4) (h : chkF f (n : Int) = 0) (r : List UInt8) : sNum (factB n f ++ r, 0) = f.k.h.toNat ∧ oneF n f.k.h.toNat (sNum' (factB n f ++ r, 0)) = (f, (r, 0)) := by
  have hg := good_chk h
  have hh : Hid (f.k.h.toNat < 18446744073709551616) := by have := hg.h1; show _ < _; omega
  have e : factB n f ++ r = enc f.k.h.toNat ++ (textsB f.k n ++ (enc (zig f.v) ++ r)) := by
    unfold factB
    simp only [List.append_assoc]
  obtain ⟨a1, a2⟩ := num_back hh (textsB f.k n ++ (enc (zig f.v) ++ r))
  rw [e, a1, a2]
  refine ⟨rfl, ?_⟩
  have et := texts_back ⟨(f.k.h.toNat : Int), [], [], [], []⟩ f.k hg.t n (enc (zig f.v) ++ r) hn
  obtain ⟨i1, i2⟩ := int_back (v := f.v) (by have := hg.v0; show _ ≤ _; omega) (by have := hg.v1; show _ ≤ _; omega) r
  unfold oneF
  rw [et]
  show ((⟨putN _ f.k n, sInt (enc (zig f.v) ++ r, 0)⟩ : F9), sNum' (enc (zig f.v) ++ r, 0)) = _
  rw [i1, i2, Int.toNat_of_nonneg hg.h0, putN_all hn1 hn (chk_empty h)]
theorem readR_back {n : Nat} (hn1 : 1 ≤ n) (hn : n ≤ 4) : ∀ (fs out : List F9), (∀ f ∈ fs, chkF f (n : Int) = 0) → (allB (out ++ fs) n).1 = 0 → readR n fs.length (fs.flatMap (factB n), 0) out = (0, out ++ fs)
  | [], out, _, ha => by
    rw [List.append_nil] at ha ⊢
    show (if (0 : Nat) ≠ 0 then _ else if 0 < ([] : List UInt8).length then _ else if (allB out n).1 ≠ 0 then _ else (0, out)) = _
    simp [ha]
  | f :: fs, out, hc, ha => by
    have hf := hc f (by simp)
    obtain ⟨h1, h2⟩ := one_back hn1 hn hf (fs.flatMap (factB n))
    have hg := good_chk hf
    have ih := readR_back hn1 hn fs (out ++ [f]) (fun g hg => hc g (by simp [hg])) (by simpa using ha)
    show readR n (fs.length + 1) (factB n f ++ fs.flatMap (factB n), 0) out = _
    unfold readR
    rw [h1, h2, if_neg (by have := hg.h1; omega), if_neg (by simp), ih]
    simp
theorem readB_back {l : List F9} {n : Int} (h : (allB l n).1 = 0) : readB (batchB l n.toNat) n = (0, l) := by
  obtain ⟨⟨n1, n4⟩, ⟨l1, l50⟩, hc, _⟩ := all_good h
  obtain ⟨N, rfl⟩ := Int.eq_ofNat_of_zero_le (show 0 ≤ n by omega)
  have hd : okDims (N : Int) = true := by unfold okDims; simp [n1, n4]
  unfold readB
  rw [if_pos hd, Int.toNat_natCast]
  obtain ⟨c1, c2⟩ := count_back l50 (l.flatMap (factB N))
  have e : batchB l N = enc l.length ++ l.flatMap (factB N) := rfl
  rw [e, c1, c2]
  have := readR_back (by omega) (by omega) l [] hc (by simpa using h)
  simpa using this

end Go.Proofs.Ytkkgipieahhmbaa

/-
  Stage 18: a policy there and back, plain; what is asked of the program's policy; alive.
-/
namespace Go.Proofs.Ytkkgipieahhmbaa
open Go.RowKit

set_option maxRecDepth 100000

theorem iter_form18 {l : List Nat} (h : ∀ n ∈ l, n ≤ 4611686018427387904) : ∀ i, i ≤ l.length → iter18 i (l.flatMap enc, 0) = ((l.drop i).flatMap enc, 0)
  | 0, _ => rfl
  | i + 1, hi => by
    have ih := iter_form18 h i (by omega)
    have hd := List.drop_eq_getElem_cons (l := l) (i := i) (by omega)
    have hb := (num_back (n := l[i]) (by show _ < _; have := h l[i] (List.getElem_mem (by omega)); omega) ((l.drop (i + 1)).flatMap enc)).2
    show sNum' (iter18 i _) = _
    rw [ih, hd, List.flatMap_cons]
    exact hb
theorem num_form18 {l : List Nat} (h : ∀ n ∈ l, n ≤ 4611686018427387904) {i : Nat} (hi : i < l.length) : numAt18 (l.flatMap enc, 0) i = l[i] := by
  have hd := List.drop_eq_getElem_cons (l := l) (i := i) hi
  have hb := (num_back (n := l[i]) (by show _ < _; have := h l[i] (List.getElem_mem hi); omega) ((l.drop (i + 1)).flatMap enc)).1
  show sNum (iter18 i _) = _
  rw [iter_form18 h i (by omega), hd, List.flatMap_cons]
  exact hb
theorem great_form18 {l : List Nat} (h : ∀ n ∈ l, n ≤ 4611686018427387904) : ∀ i, i ≤ l.length → great18 (l.flatMap enc, 0) i = false
  | 0, _ => rfl
  | i + 1, hi => by
    unfold great18
    rw [great_form18 h i (by omega), num_form18 h (by omega), decide_eq_false (by have := h l[i] (List.getElem_mem (by omega)); omega)]
    rfl
def natsY (p : Y18) : List Nat := (numsY p).map Int.toNat
theorem form_nats18 (p : Y18) : formY p = (natsY p).flatMap enc := by
  unfold formY natsY
  rw [List.flatMap_map]
theorem read_form18 {p : Y18} (hp : OkY p) : readY (formY p, 0) = (p, 0) ∧ iter18 9 (formY p, 0) = ([], 0) := by
  have hn : ∀ n ∈ natsY p, n ≤ 4611686018427387904 := fun n h => by
    obtain ⟨m, hm, rfl⟩ := List.mem_map.1 h
    have := nums_nat18 hp m hm
    omega
  have hl : (natsY p).length = 9 := rfl
  have h9 : iter18 9 (formY p, 0) = ([], 0) := by
    rw [form_nats18, iter_form18 hn 9 (by omega), List.drop_of_length_le (by omega)]
    rfl
  have hg : great18 (formY p, 0) 9 = false := by rw [form_nats18]; exact great_form18 hn 9 (by omega)
  have key : ∀ k (hk : k < 9), (numAt18 (formY p, 0) k : Int) = (numsY p)[k]'hk := fun k hk => by
    rw [form_nats18, num_form18 hn (by rw [hl]; exact hk)]
    have := (nums_nat18 hp _ (List.getElem_mem (l := numsY p) (n := k) hk)).1
    have e : (natsY p)[k]'(by rw [hl]; exact hk) = ((numsY p)[k]'hk).toNat := by
      simp [natsY]
      rfl
    rw [e]
    omega
  have hpol : polY (formY p, 0) = p := by
    unfold polY
    rw [key 0 (by decide), key 1 (by decide), key 2 (by decide), key 3 (by decide), key 4 (by decide), key 5 (by decide), key 6 (by decide), key 7 (by decide), key 8 (by decide)]
    rfl
  have hc : chkY p = 0 := by unfold chkY; rw [ok_iff18.2 hp]; rfl
  refine ⟨?_, h9⟩
  unfold readY
  rw [h9, hg, hpol, hc, if_neg (by simp), if_neg (by decide), if_neg (by simp)]

/-- Behind a call that gives bytes and what is wrong. -/
def RecP18 (w : World) (r : List UInt8 × Int) (e : Ending) (w' : World) : Prop := ∃ v, e = .returned (.tuple #[v, .int .i64 r.2]) ∧ Rd w' v r.1 ∧ Turn (fun _ => False) w w'
/-- What is asked of the program. -/
structure Prog18 : Prop where
  plain : ∀ (w : World), Calls Try.prog 30 #[] w fun e w' => e = .returned (yv18 plainY) ∧ Turn (fun _ => False) w w'
  check : ∀ (p : Y18) (w : World), Calls Try.prog 9 #[yv18 p] w fun e w' => e = .returned (.int .i64 (chkY p)) ∧ Turn (fun _ => False) w w'
  encode : ∀ (p : Y18) (w : World), Calls Try.prog 7 #[yv18 p] w fun e w' => RecP18 w (encY p) e w'
  read : ∀ (w wr : World) (p : Nat) (s : RS9), PR w p wr s → Calls Try.prog 14 #[.pointer (some ⟨p, 0, none⟩)] wr fun e w' => e = .returned (.tuple #[yv18 (readY s).1, .int .i64 (readY s).2]) ∧ PR w p w' (iter18 9 s) ∧ Turn (fun g => g = p) wr w'
  readnil : ∀ (w : World), Calls Try.prog 14 #[.pointer none] w fun e w' => e = .returned (.tuple #[yv18 zeroY, .int .i64 1]) ∧ Turn (fun _ => False) w w'
  lag : ∀ (p : Y18) (t : Int) (w : World), OkY p → Calls Try.prog 17 #[yv18 p, .int .i64 t] w fun e w' => e = .returned (.tuple #[.int .i64 (lagY p t).1, .bool (lagY p t).2]) ∧ Turn (fun _ => False) w w'
  cut : ∀ (p : Y18) (h : Int) (w : World), OkY p → 0 ≤ h ∧ h ≤ 4611686018427387904 → Calls Try.prog 19 #[yv18 p, .int .i64 h] w fun e w' => e = .returned (.int .i64 (cutY p h)) ∧ Turn (fun _ => False) w w'
  delay : ∀ (p : Y18) (t : Int) (w : World), OkY p → (Lit.int .i64 t).wf = true → Calls Try.prog 21 #[yv18 p, .int .i64 t] w fun e w' => e = .returned (.int .i64 (delayY p t)) ∧ Turn (fun _ => False) w w'

theorem plain_ok18 : OkY plainY := ok_iff18.1 (by decide)
theorem plain_delays18 : delayY plainY 0 = 2 ∧ delayY plainY 5 = 60 ∧ delayY plainY 100 = 60 := by decide

set_option maxHeartbeats 16000000 in
theorem alive_any18 (P : Prog18) (w : World) : Calls Try.prog 12 #[] w fun e w' => e = .returned (.bool true) ∧ Turn (fun _ => False) w w' := by
  have HRP : Hid (∀ W, Calls Try.prog 31 #[] W fun e w' => e = .returned (yv18 plainY) ∧ Turn (fun _ => False) W w') := fun W => ref_plain18 W
  have HCK : Hid (∀ W, Calls Try.prog 9 #[yv18 plainY] W fun e w' => e = .returned (.int .i64 0) ∧ Turn (fun _ => False) W w') := fun W => by
    have h := P.check plainY W
    rwa [show chkY plainY = 0 from by decide] at h
  have HD0 : Hid (∀ W, Calls Try.prog 21 #[yv18 plainY, .int .i64 0] W fun e w' => e = .returned (.int .i64 2) ∧ Turn (fun _ => False) W w') := fun W => by
    have h := P.delay plainY 0 W plain_ok18 (by decide)
    rwa [plain_delays18.1] at h
  have HD5 : Hid (∀ W, Calls Try.prog 21 #[yv18 plainY, .int .i64 5] W fun e w' => e = .returned (.int .i64 60) ∧ Turn (fun _ => False) W w') := fun W => by
    have h := P.delay plainY 5 W plain_ok18 (by decide)
    rwa [plain_delays18.2.1] at h
  have HD9 : Hid (∀ W, Calls Try.prog 21 #[yv18 plainY, .int .i64 100] W fun e w' => e = .returned (.int .i64 60) ∧ Turn (fun _ => False) W w') := fun W => by
    have h := P.delay plainY 100 W plain_ok18 (by decide)
    rwa [plain_delays18.2.2] at h
  have HPL := Lib.hid (P.plain w)
  have ep : yv18 plainY = .agg #[.int .i64 2000, .int .i64 1, .int .i64 2, .int .i64 24, .int .i64 48, .int .i64 2, .int .i64 60, .int .i64 16, .int .i64 4000] := rfl
  rw [ep] at HRP HCK HD0 HD5 HD9 HPL
  clear ep
  go_enter Try.func12, Try.ntmps12
  go_wp2_with fail
  refine HPL.out.mono ?_
  rintro e w1 ⟨rfl, t1⟩
  obtain ⟨g, hg⟩ : ∃ g, g = w1.heap.size := ⟨_, rfl⟩
  obtain ⟨w2, hw2⟩ : ∃ w2, w2 = w1.alloc (.cells #[.int .i64 2000, .int .i64 1, .int .i64 2, .int .i64 24, .int .i64 48, .int .i64 2, .int .i64 60, .int .i64 16, .int .i64 4000] 23) := ⟨_, rfl⟩
  have HBX : Hid (Box w2 g 23 (ycells18 plainY)) := by rw [hw2, hg]; exact Box.new w1 _ _
  have HT2 : Hid (Turn (fun _ => False) w w2) := by rw [hw2]; exact t1.alloc _
  have HW2 := Lib.hid hw2; have HG := Lib.hid hg
  clear hw2 hg t1 HPL
  go_wp2_with fail
  rw [← HW2.out, ← HG.out]
  have HLD : Hid (∀ W, Turn (fun _ => False) w2 W → W.cell? ⟨g, 0, none⟩ = some (.int .i64 2000) ∧ W.cell? ⟨g, 1, none⟩ = some (.int .i64 1) ∧ W.cell? ⟨g, 2, none⟩ = some (.int .i64 2) ∧ W.cell? ⟨g, 3, none⟩ = some (.int .i64 24) ∧ W.cell? ⟨g, 4, none⟩ = some (.int .i64 48) ∧ W.cell? ⟨g, 5, none⟩ = some (.int .i64 2) ∧ W.cell? ⟨g, 6, none⟩ = some (.int .i64 60) ∧ W.cell? ⟨g, 7, none⟩ = some (.int .i64 16) ∧ W.cell? ⟨g, 8, none⟩ = some (.int .i64 4000)) := fun W hW => box_y18 (HBX.out.turn hW (fun f => f))
  refine drawn_region (fun W => Turn (fun _ => False) w2 W) [] (by kernel_rfl) ?_
  have hS0 : Turn (fun _ => False) w2 (World.drew w2) := (Turn.refl _ w2).drew
  generalize World.drew w2 = wd at *
  refine drawn_take 0 3 (.agg #[.int .i64 2000, .int .i64 1, .int .i64 2, .int .i64 24, .int .i64 48, .int .i64 2, .int .i64 60, .int .i64 16, .int .i64 4000]) rfl rfl (by kernel_rfl) (by kernel_rfl) (by kernel_rfl) (by kernel_rfl) (fun _ _ _ h => h) (by rfl) (by assumption) (by intro w hSw; obtain ⟨b0, b1, b2, b3, b4, b5, b6, b7, b8⟩ := HLD.out _ hSw; clear hSw; go_simp) ?_
  try simp only [List.setIfInBounds_toArray, List.set_cons_zero, List.set_cons_succ]
  refine drawn_any [1] (by kernel_rfl) (by simp) ?_
  refine drawn_cons rfl (fun K1 hK => ?_) drawn_nil
  go_simp
  refine (HRP.out _).mono ?_
  rintro e wn ⟨rfl, tn⟩
  have hSn := hS0.trans tn (fun _ _ f => f)
  refine hK.out _ _ _ hSn ?_
  clear hK K1 tn hS0
  have hS0 := hSn
  clear hSn
  try simp only [List.setIfInBounds_toArray, List.set_cons_zero, List.set_cons_succ]
  refine drawn_take 2 5 (.bool true) rfl rfl (by kernel_rfl) (by kernel_rfl) (by kernel_rfl) (by kernel_rfl) (fun _ _ _ h => h) (by rfl) (by assumption) (by intro w hSw; obtain hS1 := hSw; go_simp) ?_
  try simp only [List.setIfInBounds_toArray, List.set_cons_zero, List.set_cons_succ]
  refine drawn_take 3 6 (.bool true) rfl rfl (by kernel_rfl) (by kernel_rfl) (by kernel_rfl) (by kernel_rfl) (fun _ _ _ h => h) (by rfl) (by assumption) (by intro w hSw; obtain hS1 := hSw; go_simp) ?_
  try simp only [List.setIfInBounds_toArray, List.set_cons_zero, List.set_cons_succ]
  refine drawn_take 4 7 (.agg #[.int .i64 2000, .int .i64 1, .int .i64 2, .int .i64 24, .int .i64 48, .int .i64 2, .int .i64 60, .int .i64 16, .int .i64 4000]) rfl rfl (by kernel_rfl) (by kernel_rfl) (by kernel_rfl) (by kernel_rfl) (fun _ _ _ h => h) (by rfl) (by assumption) (by intro w hSw; obtain ⟨b0, b1, b2, b3, b4, b5, b6, b7, b8⟩ := HLD.out _ hSw; clear hSw; go_simp) ?_
  try simp only [List.setIfInBounds_toArray, List.set_cons_zero, List.set_cons_succ]
  refine drawn_any [5] (by kernel_rfl) (by simp) ?_
  refine drawn_cons rfl (fun K1 hK => ?_) drawn_nil
  go_simp
  refine (HCK.out _).mono ?_
  rintro e wn ⟨rfl, tn⟩
  have hSn := hS0.trans tn (fun _ _ f => f)
  refine hK.out _ _ _ hSn ?_
  clear hK K1 tn hS0
  have hS0 := hSn
  clear hSn
  try simp only [List.setIfInBounds_toArray, List.set_cons_zero, List.set_cons_succ]
  refine drawn_take 6 9 (.bool true) rfl rfl (by kernel_rfl) (by kernel_rfl) (by kernel_rfl) (by kernel_rfl) (fun _ _ _ h => h) (by rfl) (by assumption) (by intro w hSw; obtain hS1 := hSw; go_simp) ?_
  try simp only [List.setIfInBounds_toArray, List.set_cons_zero, List.set_cons_succ]
  refine drawn_take 7 10 (.bool true) rfl rfl (by kernel_rfl) (by kernel_rfl) (by kernel_rfl) (by kernel_rfl) (fun _ _ _ h => h) (by rfl) (by assumption) (by intro w hSw; obtain hS1 := hSw; go_simp) ?_
  try simp only [List.setIfInBounds_toArray, List.set_cons_zero, List.set_cons_succ]
  refine drawn_take 8 11 (.bool true) rfl rfl (by kernel_rfl) (by kernel_rfl) (by kernel_rfl) (by kernel_rfl) (fun _ _ _ h => h) (by rfl) (by assumption) (by intro w hSw; obtain hS1 := hSw; go_simp) ?_
  try simp only [List.setIfInBounds_toArray, List.set_cons_zero, List.set_cons_succ]
  refine drawn_take 9 12 (.agg #[.int .i64 2000, .int .i64 1, .int .i64 2, .int .i64 24, .int .i64 48, .int .i64 2, .int .i64 60, .int .i64 16, .int .i64 4000]) rfl rfl (by kernel_rfl) (by kernel_rfl) (by kernel_rfl) (by kernel_rfl) (fun _ _ _ h => h) (by rfl) (by assumption) (by intro w hSw; obtain ⟨b0, b1, b2, b3, b4, b5, b6, b7, b8⟩ := HLD.out _ hSw; clear hSw; go_simp) ?_
  try simp only [List.setIfInBounds_toArray, List.set_cons_zero, List.set_cons_succ]
  refine drawn_any [10] (by kernel_rfl) (by simp) ?_
  refine drawn_cons rfl (fun K1 hK => ?_) drawn_nil
  go_simp
  refine (HD0.out _).mono ?_
  rintro e wn ⟨rfl, tn⟩
  have hSn := hS0.trans tn (fun _ _ f => f)
  refine hK.out _ _ _ hSn ?_
  clear hK K1 tn hS0
  have hS0 := hSn
  clear hSn
  try simp only [List.setIfInBounds_toArray, List.set_cons_zero, List.set_cons_succ]
  refine drawn_take 11 14 (.bool true) rfl rfl (by kernel_rfl) (by kernel_rfl) (by kernel_rfl) (by kernel_rfl) (fun _ _ _ h => h) (by rfl) (by assumption) (by intro w hSw; obtain hS1 := hSw; go_simp) ?_
  try simp only [List.setIfInBounds_toArray, List.set_cons_zero, List.set_cons_succ]
  refine drawn_take 12 15 (.bool true) rfl rfl (by kernel_rfl) (by kernel_rfl) (by kernel_rfl) (by kernel_rfl) (fun _ _ _ h => h) (by rfl) (by assumption) (by intro w hSw; obtain hS1 := hSw; go_simp) ?_
  try simp only [List.setIfInBounds_toArray, List.set_cons_zero, List.set_cons_succ]
  refine drawn_take 13 16 (.bool true) rfl rfl (by kernel_rfl) (by kernel_rfl) (by kernel_rfl) (by kernel_rfl) (fun _ _ _ h => h) (by rfl) (by assumption) (by intro w hSw; obtain hS1 := hSw; go_simp) ?_
  try simp only [List.setIfInBounds_toArray, List.set_cons_zero, List.set_cons_succ]
  refine drawn_take 14 17 (.agg #[.int .i64 2000, .int .i64 1, .int .i64 2, .int .i64 24, .int .i64 48, .int .i64 2, .int .i64 60, .int .i64 16, .int .i64 4000]) rfl rfl (by kernel_rfl) (by kernel_rfl) (by kernel_rfl) (by kernel_rfl) (fun _ _ _ h => h) (by rfl) (by assumption) (by intro w hSw; obtain ⟨b0, b1, b2, b3, b4, b5, b6, b7, b8⟩ := HLD.out _ hSw; clear hSw; go_simp) ?_
  try simp only [List.setIfInBounds_toArray, List.set_cons_zero, List.set_cons_succ]
  refine drawn_any [15] (by kernel_rfl) (by simp) ?_
  refine drawn_cons rfl (fun K1 hK => ?_) drawn_nil
  go_simp
  refine (HD5.out _).mono ?_
  rintro e wn ⟨rfl, tn⟩
  have hSn := hS0.trans tn (fun _ _ f => f)
  refine hK.out _ _ _ hSn ?_
  clear hK K1 tn hS0
  have hS0 := hSn
  clear hSn
  try simp only [List.setIfInBounds_toArray, List.set_cons_zero, List.set_cons_succ]
  refine drawn_take 16 19 (.bool true) rfl rfl (by kernel_rfl) (by kernel_rfl) (by kernel_rfl) (by kernel_rfl) (fun _ _ _ h => h) (by rfl) (by assumption) (by intro w hSw; obtain hS1 := hSw; go_simp) ?_
  try simp only [List.setIfInBounds_toArray, List.set_cons_zero, List.set_cons_succ]
  refine drawn_take 17 20 (.bool true) rfl rfl (by kernel_rfl) (by kernel_rfl) (by kernel_rfl) (by kernel_rfl) (fun _ _ _ h => h) (by rfl) (by assumption) (by intro w hSw; obtain hS1 := hSw; go_simp) ?_
  try simp only [List.setIfInBounds_toArray, List.set_cons_zero, List.set_cons_succ]
  refine drawn_take 18 21 (.bool true) rfl rfl (by kernel_rfl) (by kernel_rfl) (by kernel_rfl) (by kernel_rfl) (fun _ _ _ h => h) (by rfl) (by assumption) (by intro w hSw; obtain hS1 := hSw; go_simp) ?_
  try simp only [List.setIfInBounds_toArray, List.set_cons_zero, List.set_cons_succ]
  refine drawn_take 19 22 (.agg #[.int .i64 2000, .int .i64 1, .int .i64 2, .int .i64 24, .int .i64 48, .int .i64 2, .int .i64 60, .int .i64 16, .int .i64 4000]) rfl rfl (by kernel_rfl) (by kernel_rfl) (by kernel_rfl) (by kernel_rfl) (fun _ _ _ h => h) (by rfl) (by assumption) (by intro w hSw; obtain ⟨b0, b1, b2, b3, b4, b5, b6, b7, b8⟩ := HLD.out _ hSw; clear hSw; go_simp) ?_
  try simp only [List.setIfInBounds_toArray, List.set_cons_zero, List.set_cons_succ]
  refine drawn_any [20] (by kernel_rfl) (by simp) ?_
  refine drawn_cons rfl (fun K1 hK => ?_) drawn_nil
  go_simp
  refine (HD9.out _).mono ?_
  rintro e wn ⟨rfl, tn⟩
  have hSn := hS0.trans tn (fun _ _ f => f)
  refine hK.out _ _ _ hSn ?_
  clear hK K1 tn hS0
  have hS0 := hSn
  clear hSn
  try simp only [List.setIfInBounds_toArray, List.set_cons_zero, List.set_cons_succ]
  refine drawn_take 21 24 (.bool true) rfl rfl (by kernel_rfl) (by kernel_rfl) (by kernel_rfl) (by kernel_rfl) (fun _ _ _ h => h) (by rfl) (by assumption) (by intro w hSw; obtain hS1 := hSw; go_simp) ?_
  try simp only [List.setIfInBounds_toArray, List.set_cons_zero, List.set_cons_succ]
  refine drawn_take 22 25 (.bool true) rfl rfl (by kernel_rfl) (by kernel_rfl) (by kernel_rfl) (by kernel_rfl) (fun _ _ _ h => h) (by rfl) (by assumption) (by intro w hSw; obtain hS1 := hSw; go_simp) ?_
  try simp only [List.setIfInBounds_toArray, List.set_cons_zero, List.set_cons_succ]
  refine drawn_last1 23 0 (.bool true) rfl rfl (by kernel_rfl) (by kernel_rfl) (by rfl) (by intro w; go_simp) hS0 ?_
  try simp only [List.setIfInBounds_toArray, List.set_cons_zero]
  have HTE := Lib.hid hS0
  clear hS0
  go_wp2
  go_ret
  exact ⟨rfl, HT2.out.trans HTE.out (fun _ _ f => f)⟩

end Go.Proofs.Ytkkgipieahhmbaa

/-
  Stage 18: PolicyChecks, PolicyTimes, PolicyBack over any program that answers as is asked.
-/
namespace Go.Proofs.Ytkkgipieahhmbaa
open Go.RowKit

set_option maxRecDepth 100000

set_option maxHeartbeats 16000000 in
theorem checks_any18 (P : Prog18) (p : Y18) (w : World) : Calls Try.prog 3 #[yv18 p] w fun e w' => e = .returned (.bool true) ∧ Turn (fun _ => False) w w' := by
  obtain ⟨wb, hwb⟩ : ∃ wb, wb = w.alloc (.cells (ycells18 p) 23) := ⟨_, rfl⟩
  obtain ⟨g, hg⟩ : ∃ g, g = w.heap.size := ⟨_, rfl⟩
  have HTB : Hid (Turn (fun _ => False) w wb) := by rw [hwb]; exact (Turn.refl _ w).alloc _
  have HBX : Hid (Box wb g 23 (ycells18 p)) := by rw [hwb, hg]; exact Box.new w _ _
  obtain ⟨z0, z1, z2, z3, z4, z5, z6, z7, z8⟩ := box_y18 (Box.new w 23 (ycells18 p))
  have HEN := Lib.hid (P.encode p wb)
  have HRE : Hid (∀ W, Calls Try.prog 8 #[yv18 p] W fun e w' => Enc18 W (encY p) e w') := fun W => ref_encode18 p W
  have HCK : Hid (∀ W, Calls Try.prog 9 #[yv18 p] W fun e w' => e = .returned (.int .i64 (chkY p)) ∧ Turn (fun _ => False) W w') := fun W => P.check p W
  have HRC : Hid (∀ W, Calls Try.prog 10 #[yv18 p] W fun e w' => e = .returned (.int .i64 (chkY p)) ∧ Turn (fun _ => False) W w') := fun W => ref_check18 p W
  have HAL : Hid (∀ W, Calls Try.prog 12 #[] W fun e w' => e = .returned (.bool true) ∧ Turn (fun _ => False) W w') := fun W => alive_any18 P W
  have HWB := Lib.hid hwb; have HG := Lib.hid hg
  unfold RecP18 at HEN
  unfold Enc18 at HRE
  generalize encY p = E at *
  obtain ⟨l, f⟩ := E
  dsimp only at HEN HRE
  generalize chkY p = c at *
  clear hwb hg
  go_enter Try.func3, Try.ntmps3
  go_wp2_with fail
  rw [← HWB.out, ← HG.out]
  refine HEN.out.mono ?_
  rintro e w1 ⟨v1, rfl, r1, t1⟩
  obtain ⟨A1, c1, rfl⟩ := r1.shape
  have HT1 := Lib.hid t1; have HR1 := Lib.hid r1
  obtain ⟨y0, y1, y2, y3, y4, y5, y6, y7, y8⟩ := box_y18 (HBX.out.turn t1 (fun f => f))
  clear r1 t1 HEN z0 z1 z2 z3 z4 z5 z6 z7 z8
  go_wp2_with fail
  refine (HRE.out w1).mono ?_
  rintro e w2 ⟨v2, rfl, m2⟩
  obtain ⟨A2, c2, rfl⟩ := m2.1.shape
  have HT2 := Lib.hid (HT1.out.trans m2.2.1 (fun _ _ f => f)); have HR2 := Lib.hid m2.1.rd
  have HRA := Lib.hid (HR1.out.later m2.2.1)
  clear m2 HRE y0 y1 y2 y3 y4 y5 y6 y7 y8 HR1
  have HLD : Hid (∀ W, Turn (fun _ => False) w2 W → _) := fun W hW => box_y18 (HBX.out.turn (HT2.out.trans hW (fun _ _ f => f)) (fun f => f))
  have HSM : Hid (∀ W, Turn (fun _ => False) w2 W → Calls Try.prog 11 #[.slice A1 l.length c1, .slice A2 l.length c2] W fun e w' => e = .returned (.bool true) ∧ Turn (fun _ => False) W w') := fun W hW => (same_any _ _ l l W (HRA.out.later hW) (HR2.out.later hW)).mono (by rintro e w' ⟨rfl, rfl⟩; exact ⟨by rw [beq_self_eq_true], Turn.refl _ _⟩)
  go_wp2_with fail
  refine drawn_region (fun W => Turn (fun _ => False) w2 W) [] (by kernel_rfl) ?_
  have hS0 : Turn (fun _ => False) w2 (World.drew w2) := (Turn.refl _ w2).drew
  generalize World.drew w2 = wd at *
  refine drawn_take 0 17 (.agg #[.int .i64 p.rt, .int .i64 p.sl, .int .i64 p.dl, .int .i64 p.ml, .int .i64 p.cl, .int .i64 p.ba, .int .i64 p.ca, .int .i64 p.qu, .int .i64 p.wa]) rfl rfl (by kernel_rfl) (by kernel_rfl) (by kernel_rfl) (by kernel_rfl) (fun _ _ _ h => h) (by rfl) (by assumption) (by intro w hSw; obtain ⟨b0, b1, b2, b3, b4, b5, b6, b7, b8⟩ := HLD.out _ hSw; clear hSw; go_simp) ?_
  try simp only [List.setIfInBounds_toArray, List.set_cons_zero, List.set_cons_succ]
  refine drawn_take 2 19 (.agg #[.int .i64 p.rt, .int .i64 p.sl, .int .i64 p.dl, .int .i64 p.ml, .int .i64 p.cl, .int .i64 p.ba, .int .i64 p.ca, .int .i64 p.qu, .int .i64 p.wa]) rfl rfl (by kernel_rfl) (by kernel_rfl) (by kernel_rfl) (by kernel_rfl) (fun _ _ _ h => h) (by rfl) (by assumption) (by intro w hSw; obtain ⟨b0, b1, b2, b3, b4, b5, b6, b7, b8⟩ := HLD.out _ hSw; clear hSw; go_simp) ?_
  try simp only [List.setIfInBounds_toArray, List.set_cons_zero, List.set_cons_succ]
  refine drawn_any [1] (by kernel_rfl) (by simp) ?_
  refine drawn_cons rfl (fun K1 hK => ?_) drawn_nil
  go_simp
  refine (HCK.out _).mono ?_
  rintro e wn ⟨rfl, tn⟩
  have hSn := hS0.trans tn (fun _ _ f => f)
  refine hK.out _ _ _ hSn ?_
  clear hK K1 tn hS0
  have hS0 := hSn
  clear hSn
  try simp only [List.setIfInBounds_toArray, List.set_cons_zero, List.set_cons_succ]
  refine drawn_any [3] (by kernel_rfl) (by simp) ?_
  refine drawn_cons rfl (fun K1 hK => ?_) drawn_nil
  go_simp
  refine (HRC.out _).mono ?_
  rintro e wn ⟨rfl, tn⟩
  have hSn := hS0.trans tn (fun _ _ f => f)
  refine hK.out _ _ _ hSn ?_
  clear hK K1 tn hS0
  have hS0 := hSn
  clear hSn
  try simp only [List.setIfInBounds_toArray, List.set_cons_zero, List.set_cons_succ]
  refine drawn_take 4 21 (.bool true) rfl rfl (by kernel_rfl) (by kernel_rfl) (by kernel_rfl) (by kernel_rfl) (fun _ _ _ h => h) (by rfl) (by assumption) (by intro w hSw; obtain hS1 := hSw; go_simp) ?_
  try simp only [List.setIfInBounds_toArray, List.set_cons_zero, List.set_cons_succ]
  refine drawn_take 5 22 (.bool true) rfl rfl (by kernel_rfl) (by kernel_rfl) (by kernel_rfl) (by kernel_rfl) (fun _ _ _ h => h) (by rfl) (by assumption) (by intro w hSw; obtain hS1 := hSw; go_simp) ?_
  try simp only [List.setIfInBounds_toArray, List.set_cons_zero, List.set_cons_succ]
  refine drawn_take 6 23 (.slice A1 l.length c1) rfl rfl (by kernel_rfl) (by kernel_rfl) (by kernel_rfl) (by kernel_rfl) (fun _ _ _ h => h) (by rfl) (by assumption) (by intro w hSw; obtain hS1 := hSw; go_simp) ?_
  try simp only [List.setIfInBounds_toArray, List.set_cons_zero, List.set_cons_succ]
  refine drawn_take 7 24 (.slice A2 l.length c2) rfl rfl (by kernel_rfl) (by kernel_rfl) (by kernel_rfl) (by kernel_rfl) (fun _ _ _ h => h) (by rfl) (by assumption) (by intro w hSw; obtain hS1 := hSw; go_simp) ?_
  try simp only [List.setIfInBounds_toArray, List.set_cons_zero, List.set_cons_succ]
  refine drawn_any [8] (by kernel_rfl) (by simp) ?_
  refine drawn_cons rfl (fun K1 hK => ?_) drawn_nil
  go_simp
  refine (HSM.out _ hS0).mono ?_
  rintro e wn ⟨rfl, tn⟩
  have hSn := hS0.trans tn (fun _ _ f => f)
  refine hK.out _ _ _ hSn ?_
  clear hK K1 tn hS0
  have hS0 := hSn
  clear hSn
  try simp only [List.setIfInBounds_toArray, List.set_cons_zero, List.set_cons_succ]
  refine drawn_take 9 26 (.bool true) rfl rfl (by kernel_rfl) (by kernel_rfl) (by kernel_rfl) (by kernel_rfl) (fun _ _ _ h => h) (by rfl) (by assumption) (by intro w hSw; obtain hS1 := hSw; go_simp) ?_
  try simp only [List.setIfInBounds_toArray, List.set_cons_zero, List.set_cons_succ]
  refine drawn_take 10 27 (.bool true) rfl rfl (by kernel_rfl) (by kernel_rfl) (by kernel_rfl) (by kernel_rfl) (fun _ _ _ h => h) (by rfl) (by assumption) (by intro w hSw; obtain hS1 := hSw; go_simp) ?_
  try simp only [List.setIfInBounds_toArray, List.set_cons_zero, List.set_cons_succ]
  refine drawn_take 11 28 (.int .i64 f) rfl rfl (by kernel_rfl) (by kernel_rfl) (by kernel_rfl) (by kernel_rfl) (fun _ _ _ h => h) (by rfl) (by assumption) (by intro w hSw; obtain hS1 := hSw; go_simp) ?_
  try simp only [List.setIfInBounds_toArray, List.set_cons_zero, List.set_cons_succ]
  refine drawn_take 12 29 (.int .i64 f) rfl rfl (by kernel_rfl) (by kernel_rfl) (by kernel_rfl) (by kernel_rfl) (fun _ _ _ h => h) (by rfl) (by assumption) (by intro w hSw; obtain hS1 := hSw; go_simp) ?_
  try simp only [List.setIfInBounds_toArray, List.set_cons_zero, List.set_cons_succ]
  refine drawn_take 13 30 (.bool true) rfl rfl (by kernel_rfl) (by kernel_rfl) (by kernel_rfl) (by kernel_rfl) (fun _ _ _ h => h) (by rfl) (by assumption) (by intro w hSw; obtain hS1 := hSw; go_simp) ?_
  try simp only [List.setIfInBounds_toArray, List.set_cons_zero, List.set_cons_succ]
  refine drawn_take 14 31 (.bool true) rfl rfl (by kernel_rfl) (by kernel_rfl) (by kernel_rfl) (by kernel_rfl) (fun _ _ _ h => h) (by rfl) (by assumption) (by intro w hSw; obtain hS1 := hSw; go_simp) ?_
  try simp only [List.setIfInBounds_toArray, List.set_cons_zero, List.set_cons_succ]
  refine drawn_take 15 32 (.bool true) rfl rfl (by kernel_rfl) (by kernel_rfl) (by kernel_rfl) (by kernel_rfl) (fun _ _ _ h => h) (by rfl) (by assumption) (by intro w hSw; obtain hS1 := hSw; go_simp) ?_
  try simp only [List.setIfInBounds_toArray, List.set_cons_zero, List.set_cons_succ]
  refine drawn_any [16] (by kernel_rfl) (by simp) ?_
  refine drawn_cons rfl (fun K1 hK => ?_) drawn_nil
  go_simp
  refine (HAL.out _).mono ?_
  rintro e wn ⟨rfl, tn⟩
  have hSn := hS0.trans tn (fun _ _ f => f)
  refine hK.out _ _ _ hSn ?_
  clear hK K1 tn hS0
  have hS0 := hSn
  clear hSn
  try simp only [List.setIfInBounds_toArray, List.set_cons_zero, List.set_cons_succ]
  refine drawn_take 17 34 (.bool true) rfl rfl (by kernel_rfl) (by kernel_rfl) (by kernel_rfl) (by kernel_rfl) (fun _ _ _ h => h) (by rfl) (by assumption) (by intro w hSw; obtain hS1 := hSw; go_simp) ?_
  try simp only [List.setIfInBounds_toArray, List.set_cons_zero, List.set_cons_succ]
  refine drawn_last1 18 2 (.bool true) rfl rfl (by kernel_rfl) (by kernel_rfl) (by rfl) (by intro w; go_simp) hS0 ?_
  try simp only [List.setIfInBounds_toArray, List.set_cons_zero, List.set_cons_succ]
  have HTE := Lib.hid hS0
  clear hS0
  go_wp2
  go_ret
  exact ⟨rfl, (HTB.out.trans HT2.out (fun _ _ f => f)).trans HTE.out (fun _ _ f => f)⟩

set_option maxHeartbeats 16000000 in
theorem times_any18 (P : Prog18) (p : Y18) (t h y : Int) (wy : (Lit.int .i64 y).wf = true) (w : World) : Calls Try.prog 5 #[yv18 p, .int .i64 t, .int .i64 h, .int .i64 y] w fun e w' => e = .returned (.bool true) ∧ Turn (fun _ => False) w w' := by
  obtain ⟨wb, hwb⟩ : ∃ wb, wb = w.alloc (.cells (ycells18 p) 23) := ⟨_, rfl⟩
  obtain ⟨g, hg⟩ : ∃ g, g = w.heap.size := ⟨_, rfl⟩
  have HTB : Hid (Turn (fun _ => False) w wb) := by rw [hwb]; exact (Turn.refl _ w).alloc _
  have HBX : Hid (Box wb g 23 (ycells18 p)) := by rw [hwb, hg]; exact Box.new w _ _
  obtain ⟨z0, z1, z2, z3, z4, z5, z6, z7, z8⟩ := box_y18 (Box.new w 23 (ycells18 p))
  have HRC := Lib.hid (ref_check18 p wb)
  have HAL : Hid (∀ W, Calls Try.prog 12 #[] W fun e w' => e = .returned (.bool true) ∧ Turn (fun _ => False) W w') := fun W => alive_any18 P W
  have HWB := Lib.hid hwb; have HG := Lib.hid hg
  have HY := Lib.hid wy
  clear hwb hg wy
  cases ho : okY p with
  | false =>
    have hc : chkY p = 2 := by unfold chkY; rw [ho]; rfl
    rw [hc] at HRC
    clear hc ho
    go_enter Try.func5, Try.ntmps5
    go_wp2_with fail
    rw [← HWB.out, ← HG.out]
    refine HRC.out.mono ?_
    rintro e w1 ⟨rfl, t1⟩
    have HT1 := Lib.hid (HTB.out.trans t1 (fun _ _ f => f))
    have HBY := Lib.hid (HBX.out.turn t1 (fun f => f))
    clear t1 HRC z0 z1 z2 z3 z4 z5 z6 z7 z8
    go_wp2_with fail
    refine (HAL.out _).mono ?_
    rintro e w9 ⟨rfl, t9⟩
    have HT9 := Lib.hid (HT1.out.trans t9 (fun _ _ f => f))
    clear t9
    go_wp2
    go_ret
    exact ⟨rfl, HT9.out⟩
  | true =>
    have hc : chkY p = 0 := by unfold chkY; rw [ho]; rfl
    rw [hc] at HRC
    have HOK := Lib.hid (ok_iff18.1 ho)
    clear hc ho
    by_cases h0 : h < 0
    · have HDUM : Hid True := trivial
      go_enter Try.func5, Try.ntmps5
      go_wp2_with fail
      rw [← HWB.out, ← HG.out]
      refine HRC.out.mono ?_
      rintro e w1 ⟨rfl, t1⟩
      have HT1 := Lib.hid (HTB.out.trans t1 (fun _ _ f => f))
      have HBY := Lib.hid (HBX.out.turn t1 (fun f => f))
      clear t1 HRC z0 z1 z2 z3 z4 z5 z6 z7 z8
      go_wp2_with fail
      refine (HAL.out _).mono ?_
      rintro e w9 ⟨rfl, t9⟩
      have HT9 := Lib.hid (HT1.out.trans t9 (fun _ _ f => f))
      clear t9
      go_wp2
      go_ret
      exact ⟨rfl, HT9.out⟩
    · by_cases h1 : 4611686018427387904 < h
      · have HDUM : Hid True := trivial
        go_enter Try.func5, Try.ntmps5
        go_wp2_with fail
        rw [← HWB.out, ← HG.out]
        refine HRC.out.mono ?_
        rintro e w1 ⟨rfl, t1⟩
        have HT1 := Lib.hid (HTB.out.trans t1 (fun _ _ f => f))
        have HBY := Lib.hid (HBX.out.turn t1 (fun f => f))
        clear t1 HRC z0 z1 z2 z3 z4 z5 z6 z7 z8
        go_wp2_with fail
        refine (HAL.out _).mono ?_
        rintro e w9 ⟨rfl, t9⟩
        have HT9 := Lib.hid (HT1.out.trans t9 (fun _ _ f => f))
        clear t9
        go_wp2
        go_ret
        exact ⟨rfl, HT9.out⟩
      · have hh : 0 ≤ h ∧ h ≤ 4611686018427387904 := ⟨by omega, by omega⟩
        have HPL : Hid (∀ W, Calls Try.prog 17 #[yv18 p, .int .i64 t] W fun e w' => e = .returned (.tuple #[.int .i64 (lagY p t).1, .bool (lagY p t).2]) ∧ Turn (fun _ => False) W w') := fun W => P.lag p t W HOK.out
        have HRL : Hid (∀ W, Calls Try.prog 18 #[yv18 p, .int .i64 t] W fun e w' => e = .returned (.tuple #[.int .i64 (lagY p t).1, .bool (lagY p t).2]) ∧ Turn (fun _ => False) W w') := fun W => ref_lag18 p t W
        have HPC : Hid (∀ W, Calls Try.prog 19 #[yv18 p, .int .i64 h] W fun e w' => e = .returned (.int .i64 (cutY p h)) ∧ Turn (fun _ => False) W w') := fun W => P.cut p h W HOK.out hh
        have HRT : Hid (∀ W, Calls Try.prog 20 #[yv18 p, .int .i64 h] W fun e w' => e = .returned (.int .i64 (cutY p h)) ∧ Turn (fun _ => False) W w') := fun W => ref_cut18 p h W ⟨HOK.out.rt.2, by have := HOK.out.rt.1; omega⟩ hh
        have HPD : Hid (∀ W, Calls Try.prog 21 #[yv18 p, .int .i64 y] W fun e w' => e = .returned (.int .i64 (delayY p y)) ∧ Turn (fun _ => False) W w') := fun W => P.delay p y W HOK.out HY.out
        have HRD : Hid (∀ W, Calls Try.prog 22 #[yv18 p, .int .i64 y] W fun e w' => e = .returned (.int .i64 (delayY p y)) ∧ Turn (fun _ => False) W w') := fun W => ref_delay18 p y W HOK.out
        generalize lagY p t = LG at *
        obtain ⟨ln, lb⟩ := LG
        dsimp only at HPL HRL
        generalize cutY p h = CT at *
        generalize delayY p y = DL at *
        clear hh HOK
        go_enter Try.func5, Try.ntmps5
        go_wp2_with fail
        rw [← HWB.out, ← HG.out]
        refine HRC.out.mono ?_
        rintro e w1 ⟨rfl, t1⟩
        have HT1 := Lib.hid (HTB.out.trans t1 (fun _ _ f => f))
        have HBY := Lib.hid (HBX.out.turn t1 (fun f => f))
        clear t1 HRC z0 z1 z2 z3 z4 z5 z6 z7 z8
        obtain ⟨y0, y1, y2, y3, y4, y5, y6, y7, y8⟩ := box_y18 HBY.out
        go_wp2_with fail
        refine (HPL.out w1).mono ?_
        rintro e w2 ⟨rfl, t2⟩
        have HT2 := Lib.hid (HT1.out.trans t2 (fun _ _ f => f))
        have HB2 := Lib.hid (HBY.out.turn t2 (fun f => f))
        clear t2 HPL y0 y1 y2 y3 y4 y5 y6 y7 y8
        obtain ⟨y0, y1, y2, y3, y4, y5, y6, y7, y8⟩ := box_y18 HB2.out
        go_wp2_with fail
        refine (HRL.out w2).mono ?_
        rintro e w3 ⟨rfl, t3⟩
        have HT3 := Lib.hid (HT2.out.trans t3 (fun _ _ f => f))
        have HB3 := Lib.hid (HB2.out.turn t3 (fun f => f))
        clear t3 HRL y0 y1 y2 y3 y4 y5 y6 y7 y8
        have HLD : Hid (∀ W, Turn (fun _ => False) w3 W → _) := fun W hW => box_y18 (HB3.out.turn hW (fun f => f))
        go_wp2_with fail
        refine drawn_region (fun W => Turn (fun _ => False) w3 W) [] (by kernel_rfl) ?_
        have hS0 : Turn (fun _ => False) w3 (World.drew w3) := (Turn.refl _ w3).drew
        generalize World.drew w3 = wd at *
        refine drawn_take 0 37 (.int .i64 ln) rfl rfl (by kernel_rfl) (by kernel_rfl) (by kernel_rfl) (by kernel_rfl) (fun _ _ _ h => h) (by rfl) (by assumption) (by intro w hSw; obtain hS1 := hSw; go_simp) ?_
        try simp only [List.setIfInBounds_toArray, List.set_cons_zero, List.set_cons_succ]
        refine drawn_take 1 38 (.int .i64 ln) rfl rfl (by kernel_rfl) (by kernel_rfl) (by kernel_rfl) (by kernel_rfl) (fun _ _ _ h => h) (by rfl) (by assumption) (by intro w hSw; obtain hS1 := hSw; go_simp) ?_
        try simp only [List.setIfInBounds_toArray, List.set_cons_zero, List.set_cons_succ]
        refine drawn_take 2 39 (.bool true) rfl rfl (by kernel_rfl) (by kernel_rfl) (by kernel_rfl) (by kernel_rfl) (fun _ _ _ h => h) (by rfl) (by assumption) (by intro w hSw; obtain hS1 := hSw; go_simp) ?_
        try simp only [List.setIfInBounds_toArray, List.set_cons_zero, List.set_cons_succ]
        refine drawn_take 3 40 (.bool true) rfl rfl (by kernel_rfl) (by kernel_rfl) (by kernel_rfl) (by kernel_rfl) (fun _ _ _ h => h) (by rfl) (by assumption) (by intro w hSw; obtain hS1 := hSw; go_simp) ?_
        try simp only [List.setIfInBounds_toArray, List.set_cons_zero, List.set_cons_succ]
        refine drawn_take 4 41 (.bool lb) rfl rfl (by kernel_rfl) (by kernel_rfl) (by kernel_rfl) (by kernel_rfl) (fun _ _ _ h => h) (by rfl) (by assumption) (by intro w hSw; obtain hS1 := hSw; go_simp) ?_
        try simp only [List.setIfInBounds_toArray, List.set_cons_zero, List.set_cons_succ]
        refine drawn_take 5 42 (.bool lb) rfl rfl (by kernel_rfl) (by kernel_rfl) (by kernel_rfl) (by kernel_rfl) (fun _ _ _ h => h) (by rfl) (by assumption) (by intro w hSw; obtain hS1 := hSw; go_simp) ?_
        try simp only [List.setIfInBounds_toArray, List.set_cons_zero, List.set_cons_succ]
        refine drawn_take 6 43 (.bool true) rfl rfl (by kernel_rfl) (by kernel_rfl) (by kernel_rfl) (by kernel_rfl) (fun _ _ _ h => h) (by rfl) (by assumption) (by intro w hSw; obtain hS1 := hSw; go_simp) ?_
        try simp only [List.setIfInBounds_toArray, List.set_cons_zero, List.set_cons_succ]
        refine drawn_take 7 44 (.bool true) rfl rfl (by kernel_rfl) (by kernel_rfl) (by kernel_rfl) (by kernel_rfl) (fun _ _ _ h => h) (by rfl) (by assumption) (by intro w hSw; obtain hS1 := hSw; go_simp) ?_
        try simp only [List.setIfInBounds_toArray, List.set_cons_zero, List.set_cons_succ]
        refine drawn_take 8 45 (.bool true) rfl rfl (by kernel_rfl) (by kernel_rfl) (by kernel_rfl) (by kernel_rfl) (fun _ _ _ h => h) (by rfl) (by assumption) (by intro w hSw; obtain hS1 := hSw; go_simp) ?_
        try simp only [List.setIfInBounds_toArray, List.set_cons_zero, List.set_cons_succ]
        refine drawn_take 9 46 (.agg #[.int .i64 p.rt, .int .i64 p.sl, .int .i64 p.dl, .int .i64 p.ml, .int .i64 p.cl, .int .i64 p.ba, .int .i64 p.ca, .int .i64 p.qu, .int .i64 p.wa]) rfl rfl (by kernel_rfl) (by kernel_rfl) (by kernel_rfl) (by kernel_rfl) (fun _ _ _ h => h) (by rfl) (by assumption) (by intro w hSw; obtain ⟨b0, b1, b2, b3, b4, b5, b6, b7, b8⟩ := HLD.out _ hSw; clear hSw; go_simp) ?_
        try simp only [List.setIfInBounds_toArray, List.set_cons_zero, List.set_cons_succ]
        refine drawn_take 10 47 (.int .i64 h) rfl rfl (by kernel_rfl) (by kernel_rfl) (by kernel_rfl) (by kernel_rfl) (fun _ _ _ h => h) (by rfl) (by assumption) (by intro w hSw; obtain hS1 := hSw; go_simp) ?_
        try simp only [List.setIfInBounds_toArray, List.set_cons_zero, List.set_cons_succ]
        refine drawn_take 12 49 (.agg #[.int .i64 p.rt, .int .i64 p.sl, .int .i64 p.dl, .int .i64 p.ml, .int .i64 p.cl, .int .i64 p.ba, .int .i64 p.ca, .int .i64 p.qu, .int .i64 p.wa]) rfl rfl (by kernel_rfl) (by kernel_rfl) (by kernel_rfl) (by kernel_rfl) (fun _ _ _ h => h) (by rfl) (by assumption) (by intro w hSw; obtain ⟨b0, b1, b2, b3, b4, b5, b6, b7, b8⟩ := HLD.out _ hSw; clear hSw; go_simp) ?_
        try simp only [List.setIfInBounds_toArray, List.set_cons_zero, List.set_cons_succ]
        refine drawn_take 13 50 (.int .i64 h) rfl rfl (by kernel_rfl) (by kernel_rfl) (by kernel_rfl) (by kernel_rfl) (fun _ _ _ h => h) (by rfl) (by assumption) (by intro w hSw; obtain hS1 := hSw; go_simp) ?_
        try simp only [List.setIfInBounds_toArray, List.set_cons_zero, List.set_cons_succ]
        refine drawn_any [11] (by kernel_rfl) (by simp) ?_
        refine drawn_cons rfl (fun K1 hK => ?_) drawn_nil
        go_simp
        refine (HPC.out _).mono ?_
        rintro e wn ⟨rfl, tn⟩
        have hSn := hS0.trans tn (fun _ _ f => f)
        refine hK.out _ _ _ hSn ?_
        clear hK K1 tn hS0
        have hS0 := hSn
        clear hSn
        try simp only [List.setIfInBounds_toArray, List.set_cons_zero, List.set_cons_succ]
        refine drawn_any [14] (by kernel_rfl) (by simp) ?_
        refine drawn_cons rfl (fun K1 hK => ?_) drawn_nil
        go_simp
        refine (HRT.out _).mono ?_
        rintro e wn ⟨rfl, tn⟩
        have hSn := hS0.trans tn (fun _ _ f => f)
        refine hK.out _ _ _ hSn ?_
        clear hK K1 tn hS0
        have hS0 := hSn
        clear hSn
        try simp only [List.setIfInBounds_toArray, List.set_cons_zero, List.set_cons_succ]
        refine drawn_take 15 52 (.bool true) rfl rfl (by kernel_rfl) (by kernel_rfl) (by kernel_rfl) (by kernel_rfl) (fun _ _ _ h => h) (by rfl) (by assumption) (by intro w hSw; obtain hS1 := hSw; go_simp) ?_
        try simp only [List.setIfInBounds_toArray, List.set_cons_zero, List.set_cons_succ]
        refine drawn_take 16 53 (.bool true) rfl rfl (by kernel_rfl) (by kernel_rfl) (by kernel_rfl) (by kernel_rfl) (fun _ _ _ h => h) (by rfl) (by assumption) (by intro w hSw; obtain hS1 := hSw; go_simp) ?_
        try simp only [List.setIfInBounds_toArray, List.set_cons_zero, List.set_cons_succ]
        refine drawn_take 17 54 (.bool true) rfl rfl (by kernel_rfl) (by kernel_rfl) (by kernel_rfl) (by kernel_rfl) (fun _ _ _ h => h) (by rfl) (by assumption) (by intro w hSw; obtain hS1 := hSw; go_simp) ?_
        try simp only [List.setIfInBounds_toArray, List.set_cons_zero, List.set_cons_succ]
        refine drawn_take 18 55 (.agg #[.int .i64 p.rt, .int .i64 p.sl, .int .i64 p.dl, .int .i64 p.ml, .int .i64 p.cl, .int .i64 p.ba, .int .i64 p.ca, .int .i64 p.qu, .int .i64 p.wa]) rfl rfl (by kernel_rfl) (by kernel_rfl) (by kernel_rfl) (by kernel_rfl) (fun _ _ _ h => h) (by rfl) (by assumption) (by intro w hSw; obtain ⟨b0, b1, b2, b3, b4, b5, b6, b7, b8⟩ := HLD.out _ hSw; clear hSw; go_simp) ?_
        try simp only [List.setIfInBounds_toArray, List.set_cons_zero, List.set_cons_succ]
        refine drawn_take 19 56 (.int .i64 y) rfl rfl (by kernel_rfl) (by kernel_rfl) (by kernel_rfl) (by kernel_rfl) (fun _ _ _ h => h) (by rfl) (by assumption) (by intro w hSw; obtain hS1 := hSw; go_simp) ?_
        try simp only [List.setIfInBounds_toArray, List.set_cons_zero, List.set_cons_succ]
        refine drawn_take 21 58 (.agg #[.int .i64 p.rt, .int .i64 p.sl, .int .i64 p.dl, .int .i64 p.ml, .int .i64 p.cl, .int .i64 p.ba, .int .i64 p.ca, .int .i64 p.qu, .int .i64 p.wa]) rfl rfl (by kernel_rfl) (by kernel_rfl) (by kernel_rfl) (by kernel_rfl) (fun _ _ _ h => h) (by rfl) (by assumption) (by intro w hSw; obtain ⟨b0, b1, b2, b3, b4, b5, b6, b7, b8⟩ := HLD.out _ hSw; clear hSw; go_simp) ?_
        try simp only [List.setIfInBounds_toArray, List.set_cons_zero, List.set_cons_succ]
        refine drawn_take 22 59 (.int .i64 y) rfl rfl (by kernel_rfl) (by kernel_rfl) (by kernel_rfl) (by kernel_rfl) (fun _ _ _ h => h) (by rfl) (by assumption) (by intro w hSw; obtain hS1 := hSw; go_simp) ?_
        try simp only [List.setIfInBounds_toArray, List.set_cons_zero, List.set_cons_succ]
        refine drawn_any [20] (by kernel_rfl) (by simp) ?_
        refine drawn_cons rfl (fun K1 hK => ?_) drawn_nil
        go_simp
        refine (HPD.out _).mono ?_
        rintro e wn ⟨rfl, tn⟩
        have hSn := hS0.trans tn (fun _ _ f => f)
        refine hK.out _ _ _ hSn ?_
        clear hK K1 tn hS0
        have hS0 := hSn
        clear hSn
        try simp only [List.setIfInBounds_toArray, List.set_cons_zero, List.set_cons_succ]
        refine drawn_any [23] (by kernel_rfl) (by simp) ?_
        refine drawn_cons rfl (fun K1 hK => ?_) drawn_nil
        go_simp
        refine (HRD.out _).mono ?_
        rintro e wn ⟨rfl, tn⟩
        have hSn := hS0.trans tn (fun _ _ f => f)
        refine hK.out _ _ _ hSn ?_
        clear hK K1 tn hS0
        have hS0 := hSn
        clear hSn
        try simp only [List.setIfInBounds_toArray, List.set_cons_zero, List.set_cons_succ]
        refine drawn_take 24 61 (.bool true) rfl rfl (by kernel_rfl) (by kernel_rfl) (by kernel_rfl) (by kernel_rfl) (fun _ _ _ h => h) (by rfl) (by assumption) (by intro w hSw; obtain hS1 := hSw; go_simp) ?_
        try simp only [List.setIfInBounds_toArray, List.set_cons_zero, List.set_cons_succ]
        refine drawn_take 25 62 (.bool true) rfl rfl (by kernel_rfl) (by kernel_rfl) (by kernel_rfl) (by kernel_rfl) (fun _ _ _ h => h) (by rfl) (by assumption) (by intro w hSw; obtain hS1 := hSw; go_simp) ?_
        try simp only [List.setIfInBounds_toArray, List.set_cons_zero, List.set_cons_succ]
        refine drawn_take 26 63 (.bool true) rfl rfl (by kernel_rfl) (by kernel_rfl) (by kernel_rfl) (by kernel_rfl) (fun _ _ _ h => h) (by rfl) (by assumption) (by intro w hSw; obtain hS1 := hSw; go_simp) ?_
        try simp only [List.setIfInBounds_toArray, List.set_cons_zero, List.set_cons_succ]
        refine drawn_any [27] (by kernel_rfl) (by simp) ?_
        refine drawn_cons rfl (fun K1 hK => ?_) drawn_nil
        go_simp
        refine (HAL.out _).mono ?_
        rintro e wn ⟨rfl, tn⟩
        have hSn := hS0.trans tn (fun _ _ f => f)
        refine hK.out _ _ _ hSn ?_
        clear hK K1 tn hS0
        have hS0 := hSn
        clear hSn
        try simp only [List.setIfInBounds_toArray, List.set_cons_zero, List.set_cons_succ]
        refine drawn_take 28 65 (.bool true) rfl rfl (by kernel_rfl) (by kernel_rfl) (by kernel_rfl) (by kernel_rfl) (fun _ _ _ h => h) (by rfl) (by assumption) (by intro w hSw; obtain hS1 := hSw; go_simp) ?_
        try simp only [List.setIfInBounds_toArray, List.set_cons_zero, List.set_cons_succ]
        refine drawn_last1 29 8 (.bool true) rfl rfl (by kernel_rfl) (by kernel_rfl) (by rfl) (by intro w; go_simp) hS0 ?_
        try simp only [List.setIfInBounds_toArray, List.set_cons_zero, List.set_cons_succ]
        have HTE := Lib.hid hS0
        clear hS0
        go_wp2
        go_ret
        exact ⟨rfl, HT3.out.trans HTE.out (fun _ _ f => f)⟩

end Go.Proofs.Ytkkgipieahhmbaa

/-
  Stage 18: PolicyBack over any program that answers as is asked.
-/
namespace Go.Proofs.Ytkkgipieahhmbaa
open Go.RowKit

set_option maxRecDepth 100000

set_option maxHeartbeats 16000000 in
theorem back_any18 (P : Prog18) (p : Y18) (a b : Int) (wfa : (Lit.int .i64 a).wf = true) (wfb : (Lit.int .i64 b).wf = true) (w : World) : Calls Try.prog 6 #[yv18 p, .int .i64 a, .int .i64 b] w fun e w' => e = .returned (.bool true) ∧ Turn (fun _ => False) w w' := by
  obtain ⟨wb, hwb⟩ : ∃ wb, wb = w.alloc (.cells (ycells18 p) 23) := ⟨_, rfl⟩
  obtain ⟨g, hg⟩ : ∃ g, g = w.heap.size := ⟨_, rfl⟩
  have HTB : Hid (Turn (fun _ => False) w wb) := by rw [hwb]; exact (Turn.refl _ w).alloc _
  have HBX : Hid (Box wb g 23 (ycells18 p)) := by rw [hwb, hg]; exact Box.new w _ _
  obtain ⟨z0, z1, z2, z3, z4, z5, z6, z7, z8⟩ := box_y18 (Box.new w 23 (ycells18 p))
  have HEN := Lib.hid (P.encode p wb)
  have HAL : Hid (∀ W, Calls Try.prog 12 #[] W fun e w' => e = .returned (.bool true) ∧ Turn (fun _ => False) W w') := fun W => alive_any18 P W
  have HWB := Lib.hid hwb; have HG := Lib.hid hg
  unfold RecP18 at HEN
  clear hwb hg
  cases ho : okY p with
  | false =>
    have hE : encY p = ([], 2) := by unfold encY; rw [ho]; rfl
    have hc : chkY p = 2 := by unfold chkY; rw [ho]; rfl
    have HCK := P.check p
    rw [hE] at HEN
    rw [hc] at HCK
    have HCK := Lib.hid HCK
    clear hE hc ho
    go_enter Try.func6, Try.ntmps6
    go_wp2_with fail
    rw [← HWB.out, ← HG.out]
    refine HEN.out.mono ?_
    rintro e w1 ⟨v1, rfl, r1, t1⟩
    obtain ⟨A1, c1, rfl⟩ := r1.shape
    have HT1 := Lib.hid (HTB.out.trans t1 (fun _ _ f => f))
    obtain ⟨y0, y1, y2, y3, y4, y5, y6, y7, y8⟩ := box_y18 (HBX.out.turn t1 (fun f => f))
    clear r1 t1 HEN z0 z1 z2 z3 z4 z5 z6 z7 z8
    go_wp2_with fail
    refine (HCK.out w1).mono ?_
    rintro e w2 ⟨rfl, t2⟩
    have HT2 := Lib.hid (HT1.out.trans t2 (fun _ _ f => f))
    clear t2 y0 y1 y2 y3 y4 y5 y6 y7 y8
    go_wp2_with fail
    refine (HAL.out _).mono ?_
    rintro e w9 ⟨rfl, t9⟩
    have HT9 := Lib.hid (HT2.out.trans t9 (fun _ _ f => f))
    clear t9
    go_wp2
    go_ret
    exact ⟨rfl, HT9.out⟩
  | true =>
    have hE : encY p = (formY p, 0) := by unfold encY; rw [ho]; rfl
    rw [hE] at HEN
    have hok := ok_iff18.1 ho
    have hrd := read_form18 hok
    have hfl := form_len18 p 9
    rw [form_all18] at hfl
    obtain ⟨mn, hmn⟩ : ∃ mn, min a b = mn := ⟨_, rfl⟩
    obtain ⟨mx, hmx⟩ : ∃ mx, max a b = mx := ⟨_, rfl⟩
    have hlaw := delay_laws18 hok (show mn ≤ mx by omega)
    have hwn : (Lit.int .i64 mn).wf = true := by
      rcases (show mn = a ∨ mn = b by omega) with e | e
      · rw [e]; exact wfa
      · rw [e]; exact wfb
    have hwx : (Lit.int .i64 mx).wf = true := by
      rcases (show mx = a ∨ mx = b by omega) with e | e
      · rw [e]; exact wfa
      · rw [e]; exact wfb
    have HDN : Hid (∀ W, Calls Try.prog 21 #[yv18 p, .int .i64 mn] W fun e w' => e = .returned (.int .i64 (delayY p mn)) ∧ Turn (fun _ => False) W w') := fun W => P.delay p mn W hok hwn
    have HDX : Hid (∀ W, Calls Try.prog 21 #[yv18 p, .int .i64 mx] W fun e w' => e = .returned (.int .i64 (delayY p mx)) ∧ Turn (fun _ => False) W w') := fun W => P.delay p mx W hok hwx
    have HPR : Hid (∀ (w0 W : World) (q : Nat), PR w0 q W (formY p, 0) → Calls Try.prog 14 #[.pointer (some ⟨q, 0, none⟩)] W fun e w' => e = .returned (.tuple #[yv18 p, .int .i64 0]) ∧ PR w0 q w' ([], 0) ∧ Turn (fun g => g = q) W w') := fun w0 W q hx => by
      have h := P.read w0 W q (formY p, 0) hx
      rwa [hrd.1, hrd.2] at h
    generalize formY p = F at *
    generalize delayY p mn = dn at *
    generalize delayY p mx = dx at *
    have HMN := Lib.hid hmn; have HMX := Lib.hid hmx; have HLW := Lib.hid hlaw; have HFL := Lib.hid hfl
    clear hE ho hok hrd hlaw hwn hwx wfa wfb hmn hmx hfl
    dsimp only at HEN
    go_enter Try.func6, Try.ntmps6
    go_wp2_with fail
    rw [← HWB.out, ← HG.out]
    refine HEN.out.mono ?_
    rintro e w1 ⟨v1, rfl, r1, t1⟩
    obtain ⟨A1, c1, rfl⟩ := r1.shape
    have HT1 := Lib.hid (HTB.out.trans t1 (fun _ _ f => f))
    have HB1 := Lib.hid (HBX.out.turn t1 (fun f => f))
    have HNR := Lib.hid (pr_new (w := w1) _ F (Turn.refl _ w1) r1 (by have := HFL.out; omega))
    clear r1 t1 HEN z0 z1 z2 z3 z4 z5 z6 z7 z8
    go_wp2_with fail
    refine HNR.out.mono ?_
    rintro e w2 ⟨q, rfl, h2, l2⟩
    have HR2 := Lib.hid (HPR.out w1 w2 q h2)
    have HQ : Hid (w1.heap.size ≤ q) := l2
    have HB2 := Lib.hid (HB1.out.turn h2.turn (fun f => f))
    have hgq : g ≠ q := by have h1 := HB1.out.lt; omega
    clear h2 l2 HNR HPR
    go_wp2_with fail
    refine HR2.out.mono ?_
    rintro e w3 ⟨rfl, h3, t3⟩
    have HB3 := Lib.hid ((HB2.out.turn t3 hgq).alloc (.cells (ycells18 p) 23))
    have HP3 := Lib.hid (h3.later ((Turn.refl (fun _ => False) w3).alloc (.cells (ycells18 p) 23)))
    obtain ⟨k, hk⟩ : ∃ k, k = w3.heap.size := ⟨_, rfl⟩
    obtain ⟨w4, hw4⟩ : ∃ w4, w4 = w3.alloc (.cells (ycells18 p) 23) := ⟨_, rfl⟩
    have HK4 : Hid (Box w4 k 23 (ycells18 p)) := by rw [hw4, hk]; exact Box.new w3 _ _
    rw [← hw4] at HB3 HP3
    have HT4 := Lib.hid (HT1.out.trans HP3.out.turn (fun _ _ f => f))
    have HW4 := Lib.hid hw4; have HK := Lib.hid hk
    obtain ⟨y0, y1, y2, y3, y4, y5, y6, y7, y8⟩ := box_y18 ((HB2.out.turn t3 hgq).alloc (.cells (ycells18 p) 23))
    obtain ⟨x0, x1, x2, x3, x4, x5, x6, x7, x8⟩ := box_y18 (Box.new w3 23 (ycells18 p))
    have hbe : ∀ n : Int, (n == n) = true := fun n => beq_self_eq_true n
    clear h3 t3 hw4 hk HR2 HB2
    go_wp2_with fail
    rw [← HW4.out, ← HK.out]
    clear y0 y1 y2 y3 y4 y5 y6 y7 y8 x0 x1 x2 x3 x4 x5 x6 x7 x8
    refine (pr_left HP3.out rfl).mono ?_
    rintro e w5 ⟨rfl, nn, rfl⟩
    have HT5 : Hid (Turn (fun _ => False) w (w4.drewN nn)) := HT4.out.drewN _
    have HB5 : Hid (Box (w4.drewN nn) g 23 (ycells18 p)) := HB3.out.turn ((Turn.refl (fun _ => False) w4).drewN _) (fun f => f)
    generalize w4.drewN nn = w5 at *
    clear HP3 HB3 HK4
    go_wp2_with fail
    have HLD : Hid (∀ W, Turn (fun _ => False) w5 W → _) := fun W hW => box_y18 (HB5.out.turn hW (fun f => f))
    refine drawn_region (fun W => Turn (fun _ => False) w5 W) [] (by kernel_rfl) ?_
    have hS0 : Turn (fun _ => False) w5 (World.drew w5) := (Turn.refl _ w5).drew
    generalize World.drew w5 = wd at *
    refine drawn_take 0 52 (.agg #[.int .i64 p.rt, .int .i64 p.sl, .int .i64 p.dl, .int .i64 p.ml, .int .i64 p.cl, .int .i64 p.ba, .int .i64 p.ca, .int .i64 p.qu, .int .i64 p.wa]) rfl rfl (by kernel_rfl) (by kernel_rfl) (by kernel_rfl) (by kernel_rfl) (fun _ _ _ h => h) (by rfl) (by assumption) (by intro w hSw; obtain ⟨b0, b1, b2, b3, b4, b5, b6, b7, b8⟩ := HLD.out _ hSw; clear hSw; go_simp) ?_
    try simp only [List.setIfInBounds_toArray, List.set_cons_zero, List.set_cons_succ]
    refine drawn_take 1 53 (.int .i64 a) rfl rfl (by kernel_rfl) (by kernel_rfl) (by kernel_rfl) (by kernel_rfl) (fun _ _ _ h => h) (by rfl) (by assumption) (by intro w hSw; obtain hS1 := hSw; go_simp) ?_
    try simp only [List.setIfInBounds_toArray, List.set_cons_zero, List.set_cons_succ]
    refine drawn_take 2 54 (.int .i64 b) rfl rfl (by kernel_rfl) (by kernel_rfl) (by kernel_rfl) (by kernel_rfl) (fun _ _ _ h => h) (by rfl) (by assumption) (by intro w hSw; obtain hS1 := hSw; go_simp) ?_
    try simp only [List.setIfInBounds_toArray, List.set_cons_zero, List.set_cons_succ]
    refine drawn_take 3 55 (.int .i64 mn) rfl rfl (by kernel_rfl) (by kernel_rfl) (by kernel_rfl) (by kernel_rfl) (fun _ _ _ h => h) (by rfl) (by assumption) (by intro w hSw; have hmn := HMN.out; clear hSw; go_simp) ?_
    try simp only [List.setIfInBounds_toArray, List.set_cons_zero, List.set_cons_succ]
    refine drawn_take 5 57 (.agg #[.int .i64 p.rt, .int .i64 p.sl, .int .i64 p.dl, .int .i64 p.ml, .int .i64 p.cl, .int .i64 p.ba, .int .i64 p.ca, .int .i64 p.qu, .int .i64 p.wa]) rfl rfl (by kernel_rfl) (by kernel_rfl) (by kernel_rfl) (by kernel_rfl) (fun _ _ _ h => h) (by rfl) (by assumption) (by intro w hSw; obtain ⟨b0, b1, b2, b3, b4, b5, b6, b7, b8⟩ := HLD.out _ hSw; clear hSw; go_simp) ?_
    try simp only [List.setIfInBounds_toArray, List.set_cons_zero, List.set_cons_succ]
    refine drawn_take 6 58 (.int .i64 a) rfl rfl (by kernel_rfl) (by kernel_rfl) (by kernel_rfl) (by kernel_rfl) (fun _ _ _ h => h) (by rfl) (by assumption) (by intro w hSw; obtain hS1 := hSw; go_simp) ?_
    try simp only [List.setIfInBounds_toArray, List.set_cons_zero, List.set_cons_succ]
    refine drawn_take 7 59 (.int .i64 b) rfl rfl (by kernel_rfl) (by kernel_rfl) (by kernel_rfl) (by kernel_rfl) (fun _ _ _ h => h) (by rfl) (by assumption) (by intro w hSw; obtain hS1 := hSw; go_simp) ?_
    try simp only [List.setIfInBounds_toArray, List.set_cons_zero, List.set_cons_succ]
    refine drawn_take 8 60 (.int .i64 mx) rfl rfl (by kernel_rfl) (by kernel_rfl) (by kernel_rfl) (by kernel_rfl) (fun _ _ _ h => h) (by rfl) (by assumption) (by intro w hSw; have hmx := HMX.out; clear hSw; go_simp) ?_
    try simp only [List.setIfInBounds_toArray, List.set_cons_zero, List.set_cons_succ]
    refine drawn_any [4] (by kernel_rfl) (by simp) ?_
    refine drawn_cons rfl (fun K1 hK => ?_) drawn_nil
    go_simp
    refine (HDN.out _).mono ?_
    rintro e wn ⟨rfl, tn⟩
    have hSn := hS0.trans tn (fun _ _ f => f)
    refine hK.out _ _ _ hSn ?_
    clear hK K1 tn hS0
    have hS0 := hSn
    clear hSn
    try simp only [List.setIfInBounds_toArray, List.set_cons_zero, List.set_cons_succ]
    refine drawn_any [9] (by kernel_rfl) (by simp) ?_
    refine drawn_cons rfl (fun K1 hK => ?_) drawn_nil
    go_simp
    refine (HDX.out _).mono ?_
    rintro e wn ⟨rfl, tn⟩
    have hSn := hS0.trans tn (fun _ _ f => f)
    refine hK.out _ _ _ hSn ?_
    clear hK K1 tn hS0
    have hS0 := hSn
    clear hSn
    try simp only [List.setIfInBounds_toArray, List.set_cons_zero, List.set_cons_succ]
    refine drawn_take 10 12 (.int .i64 dn) rfl rfl (by kernel_rfl) (by kernel_rfl) (by kernel_rfl) (by kernel_rfl) (fun _ _ _ h => h) (by rfl) (by assumption) (by intro w hSw; obtain hS1 := hSw; go_simp) ?_
    try simp only [List.setIfInBounds_toArray, List.set_cons_zero, List.set_cons_succ]
    refine drawn_last1 11 13 (.int .i64 dx) rfl rfl (by kernel_rfl) (by kernel_rfl) (by rfl) (by intro w; go_simp) hS0 ?_
    try simp only [List.setIfInBounds_toArray, List.set_cons_zero, List.set_cons_succ]
    have HT6 := Lib.hid hS0
    clear hS0
    obtain ⟨l1, l2, l3⟩ := HLW.out
    obtain ⟨y0, y1, y2, y3, y4, y5, y6, y7, y8⟩ := HLD.out _ HT6.out
    go_wp2_with fail
    refine (HAL.out _).mono ?_
    rintro e w9 ⟨rfl, t9⟩
    have HT9 := Lib.hid ((HT5.out.trans HT6.out (fun _ _ f => f)).trans t9 (fun _ _ f => f))
    clear t9
    go_wp2
    go_ret
    exact ⟨rfl, HT9.out⟩

end Go.Proofs.Ytkkgipieahhmbaa

/-
  In a region that draws its order: 'append(append(append([]T{}, a...), x), b...)', whatever order its parts come in; slices cut at their front and tail. No type is named here.
-/
namespace Go.Proofs.Ytkkgipieahhmbaa
open Go.RowKit

section
variable {P : Program} {T : Type} {E : El T} {tS e : TypeId}
/-- A slice's tail, as it is cut. -/
def tailV (E : El T) (A : Option Addr) (n c i : Nat) : Value := .slice (if c = i then A else A.map (fun a => a.add (i * E.sz))) (n - i) (c - i)
theorem rd_tailV {w : World} {A : Option Addr} {n c i : Nat} {L : List T} (h : RdE E w (.slice A n c) L) (hi : i ≤ n) : RdE E w (tailV E A n c i) (L.drop i) := by
  have hf := h.fits
  unfold tailV
  by_cases hc : c = i
  · rw [if_pos hc]
    have e : L.drop i = [] := List.eq_nil_of_length_eq_zero (by rw [List.length_drop]; omega)
    rw [e, show n - i = 0 by omega, show c - i = 0 by omega]
    cases A with
    | none => exact RdE.nil w
    | some ad => exact RdE.none_left _ (by simp) w 0 (Nat.zero_le _)
  · rw [if_neg hc]
    cases A with
    | none => have := (hf.2.2.2 rfl); omega
    | some ad => exact h.back i hi
theorem run_tailV (ht : P.underlying tS = some (.slice e)) (hz : (P.info? e).map (·.size) = some E.sz) (A : Option Addr) (n c i : Nat) (hi : i ≤ n) (w : World) :
    (Instr.slice tS (.slice A n c) (some (.int .i64 (i : Int))) none none).run P w = .ok (tailV E A n c i) w := by
  obtain ⟨j, hj, hz⟩ := Option.map_eq_some_iff.1 hz
  unfold tailV
  rw [← hz]
  simp [Instr.slice, Instr.sliceBounds, Instr.sliceBound, asIntOf, run_underlying ht, sizeOf, typeInfo, hj]
  intro h
  omega
theorem run_frontV (ht : P.underlying tS = some (.slice e)) (hz : (P.info? e).map (·.size) = some E.sz) (A : Option Addr) (n c i : Nat) (hi : i ≤ c) (w : World) :
    (Instr.slice tS (.slice A n c) none (some (.int .i64 (i : Int))) none).run P w = .ok (.slice A i c) w := by
  obtain ⟨j, hj, hz⟩ := Option.map_eq_some_iff.1 hz
  cases A
  all_goals
    simp [Instr.slice, Instr.sliceBounds, Instr.sliceBound, asIntOf, run_underlying ht, sizeOf, typeInfo, hj, Addr.add]
    intro h
    omega
theorem exec_tail {o : Oper} {a : Act} {xo ko : Operand} {A : Option Addr} {n c i : Nat} (ho : o.op = .slice tS xo (some ko) none none) (hx : a.eval xo = .slice A n c) (hk : a.eval ko = .int .i64 (i : Int)) (ht : P.underlying tS = some (.slice e)) (hz : (P.info? e).map (·.size) = some E.sz) (hi : i ≤ n) (w : World) :
    (execOp a.eval o).run P w = .ok (.value (tailV E A n c i)) w := by
  unfold execOp
  simp [ho, hx, hk, Instr.sliceAt, run_underlying ht, run_tailV (E := E) ht hz A n c i hi w]
theorem exec_front {o : Oper} {a : Act} {xo ko : Operand} {A : Option Addr} {n c i : Nat} (ho : o.op = .slice tS xo none (some ko) none) (hx : a.eval xo = .slice A n c) (hk : a.eval ko = .int .i64 (i : Int)) (ht : P.underlying tS = some (.slice e)) (hz : (P.info? e).map (·.size) = some E.sz) (hi : i ≤ c) (w : World) :
    (execOp a.eval o).run P w = .ok (.value (.slice A i c)) w := by
  unfold execOp
  simp [ho, hx, hk, Instr.sliceAt, run_underlying ht, run_frontV (E := E) ht hz A n c i hi w]
/-- append onto a row of one's own. -/
theorem run_appE {z : Value} {by' : Nat} (ht : P.underlying tS = some (.slice e)) (hi0 : (P.info? e).map (fun i => (i.zero, i.size, i.bytes)) = some (some z, E.sz, by')) (hz : z.cells.size = E.sz) (hby : by' ≤ 1000) (w : World) (ty : TypeId) (v : Value) (l : List T) (hown : OwE E e w v l)
    (y : Value) (m : List T) (hy : RdE E w y m) (hl : l.length + m.length ≤ 3000000) :
    ∃ A n c w', (Builtin.append_ #[tS, tS] ty #[v, y]).run P w = .ok (.slice A n c) w' ∧ OwE E e w' (.slice A n c) (l ++ m) ∧ Turn (fun k => v.ownBlock = some k) w w' ∧ ((Value.slice A n c).ownBlock = v.ownBlock ∨ (Value.slice A n c).ownBlock = some w.heap.size) := by
  obtain ⟨i, hi, hz0, h1, h2⟩ := info_parts hi0
  have hsrc := hy.src (P := P) ht
  unfold OwE at hown
  rw [← h1] at hown hsrc
  obtain ⟨A, n, c, w', hr, g1, g2, g3⟩ := run_app (P := P) w tS tS ty e i z ht hi hz0 (by rw [h1]; exact hz) v l.length _ hown y m.length _ hsrc (by simp only [maxLen]; omega) (by rw [h2]; exact Nat.le_trans (Nat.mul_le_mul hl hby) (by omega))
  refine ⟨A, n, c, w', hr, ?_, (Turn.refl _ w).grown g2 (fun k _ e => e), g3⟩
  unfold OwE
  rw [List.length_append, E.flat_append, ← h1]
  exact g1
end

section
variable {P : Program} {ops : Array Oper} {Q : Exit → Act → World → Prop} {S : World → Prop} {zs : List Nat}
theorem slot_ne {ts : Array Value} {d k : Nat} {v : Value} (h : d ≠ k) : (ts.setIfInBounds d v).getD k undef = ts.getD k undef := by
  simp [Array.getD_eq_getD_getElem?, Array.getElem?_setIfInBounds_ne h]
theorem slot_eq {ts : Array Value} {d : Nat} {v : Value} (h : d < ts.size) : (ts.setIfInBounds d v).getD d undef = v := by
  simp [Array.getD_eq_getD_getElem?, h]
/-- One that yields a value, in some world. -/
theorem drawn_does {fuel : Nat} {listed : Array Bool} {ts : Array Value} {ds : List Deferred} {w : World} {i d : Nat} {o : Oper} {rs : List Nat} (R : Value → World → Prop) (ho : nthL ops.toList i = some o) (hg : o.guard = none) (hd : o.dst = some d)
    (hr : ∃ v w', (execOp ({ tmps := ts, defers := ds } : Act).eval o).run P w = .ok (.value v) w' ∧ R v w')
    (h : ∀ v w', R v w' → S w' ∧ Drawn P ops Q S zs fuel (listed.setIfInBounds i true) (ts.setIfInBounds d v) ds w')
    (hs : DrawnAll P ops Q S zs fuel listed ts ds w rs) : DrawnAll P ops Q S zs fuel listed ts ds w (i :: rs) :=
  drawn_cons ho (fun K hK => by
    rw [if_pos (by simp [Region.wanted, hg])]
    obtain ⟨v, w', hrun, hR⟩ := hr
    unfold Oper.wp
    rw [hrun]
    show K (({ tmps := ts, defers := ds } : Act).put o.dst v) w'
    rw [hd]
    obtain ⟨h1, h2⟩ := h v w' hR
    exact hK.out _ _ _ h1 h2) hs
variable {T : Type} {E : El T} {tS e : TypeId}
theorem app_does {z : Value} {by' : Nat} (ht : P.underlying tS = some (.slice e)) (hi0 : (P.info? e).map (fun i => (i.zero, i.size, i.bytes)) = some (some z, E.sz, by')) (hz : z.cells.size = E.sz) (hby : by' ≤ 1000)
    {w0 w : World} {a : Act} {o : Oper} {s x : Operand} (ho : o.op = .call { callee := .builtin .append, args := #[s, x], argTypes := #[tS, tS] }) {v y : Value} {l m : List T} (hs : a.eval s = v) (hx : a.eval x = y) (hn : NewE E e w0 w v l) (hy : RdE E w y m) (hl : l.length + m.length ≤ 3000000) :
    ∃ u w', (execOp a.eval o).run P w = .ok (.value u) w' ∧ NewE E e w0 w' u (l ++ m) ∧ Turn (fun k => v.ownBlock = some k) w w' := by
  obtain ⟨A, n, c, w', hr, g1, g2, g3⟩ := run_appE (P := P) ht hi0 hz hby w o.type v l hn.own y m hy hl
  refine ⟨_, w', ?_, hn.step g1 g2 g3, g2⟩
  unfold execOp
  simp only [ho, resolve, invoke, builtin, Sem.run_bind, Sem.run_pure, Result.andThen_ok, List.map_toArray, List.map_cons, List.map_nil, hs, hx, hr]

/-- append(append(append([]T{}, a...), x), b...): all that is read lies in slots; whatever order the rest comes in. -/
theorem drawn_ins {z : Value} {by' : Nat} (ht : P.underlying tS = some (.slice e)) (hi0 : (P.info? e).map (fun i => (i.zero, i.size, i.bytes)) = some (some z, E.sz, by')) (hz : z.cells.size = E.sz) (hby : by' ≤ 1000)
    {w0 : World} (HS : ∀ W, Turn (fun _ => False) w0 W → S W) (ie i1 ix i2 i3 de d1 dx d2 d3 kf kx kt : Nat) {oe o1 ox o2 o3 : Oper}
    (he : nthL ops.toList ie = some oe) (ge : oe.guard = none) (te : oe.dst = some de) (pe : oe.op = .buildSlice tS 0 #[])
    (h1 : nthL ops.toList i1 = some o1) (g1 : o1.guard = none) (t1 : o1.dst = some d1) (p1 : o1.op = .call { callee := .builtin .append, args := #[.tmp de, .tmp kf], argTypes := #[tS, tS] })
    (hx : nthL ops.toList ix = some ox) (gx : ox.guard = none) (tx : ox.dst = some dx) (px : ox.op = .buildSlice tS 1 #[(0, .tmp kx)])
    (h2 : nthL ops.toList i2 = some o2) (g2 : o2.guard = none) (t2 : o2.dst = some d2) (p2 : o2.op = .call { callee := .builtin .append, args := #[.tmp d1, .tmp dx], argTypes := #[tS, tS] })
    (h3 : nthL ops.toList i3 = some o3) (g3 : o3.guard = none) (t3 : o3.dst = some d3) (p3 : o3.op = .call { callee := .builtin .append, args := #[.tmp d2, .tmp kt], argTypes := #[tS, tS] })
    {fuel : Nat} {listed : Array Bool} {ts : Array Value} {ds : List Deferred} {w : World}
    (r0 : Region.ready .any ops listed = [ie, ix]) (re : Region.ready .any ops (listed.setIfInBounds ie true) = [i1, ix]) (re1 : Region.ready .any ops ((listed.setIfInBounds ie true).setIfInBounds i1 true) = [ix])
    (rex : Region.ready .any ops ((listed.setIfInBounds ie true).setIfInBounds ix true) = [i1]) (rx : Region.ready .any ops (listed.setIfInBounds ix true) = [ie])
    (r3 : Region.ready .any ops (((listed.setIfInBounds ie true).setIfInBounds i1 true).setIfInBounds ix true) = [i2]) (r4 : Region.ready .any ops ((((listed.setIfInBounds ie true).setIfInBounds i1 true).setIfInBounds ix true).setIfInBounds i2 true) = [i3])
    (hd : (ie ≠ i1 ∧ ie ≠ ix ∧ i1 ≠ ix) ∧ (de ≠ d1 ∧ de ≠ dx ∧ d1 ≠ dx ∧ de ≠ kf ∧ de ≠ kx ∧ dx ≠ kf ∧ d1 ≠ kx) ∧ (de ≠ kt ∧ d1 ≠ kt ∧ dx ≠ kt ∧ d2 ≠ kt) ∧ de < ts.size ∧ d1 < ts.size ∧ dx < ts.size ∧ d2 < ts.size)
    {vf vt xv : Value} {l1 l3 : List T} {x : T} (kf' : ts.getD kf undef = vf) (kt' : ts.getD kt undef = vt) (kx' : ts.getD kx undef = xv)
    (HF : ∀ W, Turn (fun _ => False) w0 W → RdE E W vf l1) (HT : ∀ W, Turn (fun _ => False) w0 W → RdE E W vt l3) (hl : l1.length + l3.length ≤ 2000000)
    (hE : ∀ W, (Instr.buildSlice tS 0 #[]).run P W = .ok (.slice (some ⟨W.heap.size, 0, none⟩) 0 0) (W.alloc (.cells #[] e)))
    (hX : ∀ W, (Instr.buildSlice tS 1 #[(0, xv)]).run P W = .ok (.slice (some ⟨W.heap.size, 0, none⟩) 1 1) (W.alloc (.cells (E.enc x).toArray e)))
    (hw : Turn (fun _ => False) w0 w)
    (h : ∀ W v a b c d, NewE E e w0 W v (l1 ++ x :: l3) → Drawn P ops Q S zs fuel (((((listed.setIfInBounds ie true).setIfInBounds i1 true).setIfInBounds ix true).setIfInBounds i2 true).setIfInBounds i3 true) (((((ts.setIfInBounds de a).setIfInBounds d1 b).setIfInBounds dx c).setIfInBounds d2 d).setIfInBounds d3 v) ds W) :
    Drawn P ops Q S zs (fuel + 5) listed ts ds w := by
  obtain ⟨⟨n1, n2, n3⟩, ⟨m1, m2, m3, m4, m5, m6, m7⟩, ⟨q1, q2, q3, q4⟩, s1, s2, s3, s4⟩ := hd
  have EE : ∀ (ts : Array Value) W, ∃ v w', (execOp ({ tmps := ts, defers := ds } : Act).eval oe).run P W = .ok (.value v) w' ∧ (v = .slice (some ⟨W.heap.size, 0, none⟩) 0 0 ∧ w' = W.alloc (.cells #[] e)) := fun ts W =>
    ⟨_, _, by unfold execOp; simp [pe, hE], rfl, rfl⟩
  have EX : ∀ (ts : Array Value) W, ts.getD kx undef = xv → ∃ v w', (execOp ({ tmps := ts, defers := ds } : Act).eval ox).run P W = .ok (.value v) w' ∧ (v = .slice (some ⟨W.heap.size, 0, none⟩) 1 1 ∧ w' = W.alloc (.cells (E.enc x).toArray e)) := fun ts W hk =>
    ⟨_, _, by rw [Array.getD_eq_getD_getElem?] at hk; unfold execOp; simp [px, Act.eval, hk, hX], rfl, rfl⟩
  have tail : ∀ (W : World) (a b c : Value), NewE E e w0 W b l1 → RdE E W c [x] →
      Drawn P ops Q S zs (fuel + 2) (((listed.setIfInBounds ie true).setIfInBounds i1 true).setIfInBounds ix true) (((ts.setIfInBounds de a).setIfInBounds d1 b).setIfInBounds dx c) ds W := fun W a b c hn hc => by
    refine drawn_any [i2] r3 (by simp) (drawn_does (fun u w' => NewE E e w0 w' u (l1 ++ [x])) h2 g2 t2 ?_ (fun u w' hu => ⟨HS _ hu.turn, ?_⟩) drawn_nil)
    · obtain ⟨u, w', e1, e2, -⟩ := app_does (P := P) ht hi0 hz hby (a := ({ tmps := ((ts.setIfInBounds de a).setIfInBounds d1 b).setIfInBounds dx c, defers := ds } : Act)) p2 (v := b) (y := c) (by simp only [Act.eval]; rw [slot_ne (Ne.symm m3), slot_eq (by simpa using s2)]) (by simp only [Act.eval]; rw [slot_eq (by simpa using s3)]) hn hc (by simp; omega)
      exact ⟨u, w', e1, e2⟩
    · refine drawn_any [i3] r4 (by simp) (drawn_does (fun v w' => NewE E e w0 w' v (l1 ++ x :: l3)) h3 g3 t3 ?_ (fun v w' hv => ⟨HS _ hv.turn, h w' v a b c u hv⟩) drawn_nil)
      obtain ⟨v, w'', e1, e2, -⟩ := app_does (P := P) ht hi0 hz hby (a := ({ tmps := (((ts.setIfInBounds de a).setIfInBounds d1 b).setIfInBounds dx c).setIfInBounds d2 u, defers := ds } : Act)) p3 (v := u) (y := vt) (by simp only [Act.eval]; rw [slot_eq (by simpa using s4)]) (by simp only [Act.eval]; rw [slot_ne q4, slot_ne q3, slot_ne q2, slot_ne q1, kt']) hu (HT _ hu.turn) (by simp; omega)
      exact ⟨v, w'', e1, by simpa using e2⟩
  refine drawn_any [ie, ix] r0 (by simp) (drawn_does (fun v w' => v = .slice (some ⟨w.heap.size, 0, none⟩) 0 0 ∧ w' = w.alloc (.cells #[] e)) he ge te (EE ts w) ?_ (drawn_does (fun v w' => v = .slice (some ⟨w.heap.size, 0, none⟩) 1 1 ∧ w' = w.alloc (.cells (E.enc x).toArray e)) hx gx tx (EX ts w kx') ?_ drawn_nil))
  · rintro v w' ⟨rfl, rfl⟩
    have hn := NewE.empty (E := E) (e := e) w0 w hw
    refine ⟨HS _ hn.turn, drawn_any [i1, ix] re (by simp) (drawn_does (fun u w' => NewE E e w0 w' u l1) h1 g1 t1 ?_ (fun u w' hu => ⟨HS _ hu.turn, ?_⟩) (drawn_does (fun v w' => v = .slice (some ⟨(w.alloc (.cells #[] e)).heap.size, 0, none⟩) 1 1 ∧ w' = (w.alloc (.cells #[] e)).alloc (.cells (E.enc x).toArray e)) hx gx tx (EX _ _ (by rw [slot_ne m5, kx'])) ?_ drawn_nil))⟩
    · obtain ⟨u, w', e1, e2, -⟩ := app_does (P := P) ht hi0 hz hby (a := ({ tmps := ts.setIfInBounds de (.slice (some ⟨w.heap.size, 0, none⟩) 0 0), defers := ds } : Act)) p1 (y := vf) (by simp only [Act.eval]; rw [slot_eq s1]) (by simp only [Act.eval]; rw [slot_ne m4, kf']) hn (HF _ hn.turn) (by simp; omega)
      exact ⟨u, w', e1, by simpa using e2⟩
    · refine drawn_any [ix] re1 (by simp) (drawn_does (fun v w2 => v = .slice (some ⟨w'.heap.size, 0, none⟩) 1 1 ∧ w2 = w'.alloc (.cells (E.enc x).toArray e)) hx gx tx (EX _ _ (by rw [slot_ne m7, slot_ne m5, kx'])) ?_ drawn_nil)
      rintro v w2 ⟨rfl, rfl⟩
      exact ⟨HS _ (hu.alloc _).turn, tail _ _ _ _ (hu.alloc _) (one_row E e w' x)⟩
    · rintro v w2 ⟨rfl, rfl⟩
      have hn2 := hn.alloc (.cells (E.enc x).toArray e)
      have hr := one_row E e (w.alloc (.cells #[] e)) x
      refine ⟨HS _ hn2.turn, drawn_any [i1] rex (by simp) (drawn_does (fun u w3 => NewE E e w0 w3 u l1 ∧ RdE E w3 (.slice (some ⟨(w.alloc (.cells #[] e)).heap.size, 0, none⟩) 1 1) [x]) h1 g1 t1 ?_ (fun u w3 hu => ⟨HS _ hu.1.turn, ?_⟩) drawn_nil)⟩
      · obtain ⟨u, w3, e1, e2, e3⟩ := app_does (P := P) ht hi0 hz hby (a := ({ tmps := (ts.setIfInBounds de (.slice (some ⟨w.heap.size, 0, none⟩) 0 0)).setIfInBounds dx (.slice (some ⟨(w.alloc (.cells #[] e)).heap.size, 0, none⟩) 1 1), defers := ds } : Act)) p1 (v := .slice (some ⟨w.heap.size, 0, none⟩) 0 0) (y := vf) (by simp only [Act.eval]; rw [slot_ne (Ne.symm m2), slot_eq s1]) (by simp only [Act.eval]; rw [slot_ne m6, slot_ne m4, kf']) hn2 (HF _ hn2.turn) (by simp; omega)
        refine ⟨u, w3, e1, by simpa using e2, hr.turn e3 (fun k h1 h2 => ?_)⟩
        rw [World.size_alloc] at h1
        simp [Value.ownBlock] at h1 h2
        omega
      · rw [Array.setIfInBounds_comm _ _ (Ne.symm n3), Array.setIfInBounds_comm _ _ (Ne.symm m3)]
        exact tail _ _ _ _ hu.1 hu.2
  · rintro v w' ⟨rfl, rfl⟩
    have hr := one_row E e w x
    have hw1 : Turn (fun _ => False) w0 (w.alloc (.cells (E.enc x).toArray e)) := hw.alloc _
    refine ⟨HS _ hw1, drawn_any [ie] rx (by simp) (drawn_does (fun v w' => v = .slice (some ⟨(w.alloc (.cells (E.enc x).toArray e)).heap.size, 0, none⟩) 0 0 ∧ w' = (w.alloc (.cells (E.enc x).toArray e)).alloc (.cells #[] e)) he ge te (EE _ _) ?_ drawn_nil)⟩
    rintro v w2 ⟨rfl, rfl⟩
    have hn := NewE.empty (E := E) (e := e) w0 _ hw1
    have hr2 := hr.later ((Turn.refl _ (w.alloc (.cells (E.enc x).toArray e))).alloc (.cells #[] e))
    rw [Array.setIfInBounds_comm _ _ (Ne.symm n2), Array.setIfInBounds_comm _ _ (Ne.symm m2)]
    refine ⟨HS _ hn.turn, drawn_any [i1] rex (by simp) (drawn_does (fun u w3 => NewE E e w0 w3 u l1 ∧ RdE E w3 (.slice (some ⟨w.heap.size, 0, none⟩) 1 1) [x]) h1 g1 t1 ?_ (fun u w3 hu => ⟨HS _ hu.1.turn, ?_⟩) drawn_nil)⟩
    · obtain ⟨u, w3, e1, e2, e3⟩ := app_does (P := P) ht hi0 hz hby (a := ({ tmps := (ts.setIfInBounds de (.slice (some ⟨(w.alloc (.cells (E.enc x).toArray e)).heap.size, 0, none⟩) 0 0)).setIfInBounds dx (.slice (some ⟨w.heap.size, 0, none⟩) 1 1), defers := ds } : Act)) p1 (v := .slice (some ⟨(w.alloc (.cells (E.enc x).toArray e)).heap.size, 0, none⟩) 0 0) (y := vf) (by simp only [Act.eval]; rw [slot_ne (Ne.symm m2), slot_eq s1]) (by simp only [Act.eval]; rw [slot_ne m6, slot_ne m4, kf']) hn (HF _ hn.turn) (by simp; omega)
      refine ⟨u, w3, e1, by simpa using e2, hr2.turn e3 (fun k h1 h2 => ?_)⟩
      rw [World.size_alloc] at h2
      simp [Value.ownBlock] at h1 h2
      omega
    · rw [Array.setIfInBounds_comm _ _ (Ne.symm n3), Array.setIfInBounds_comm _ _ (Ne.symm m3)]
      exact tail _ _ _ _ hu.1 hu.2
end

end Go.Proofs.Ytkkgipieahhmbaa
