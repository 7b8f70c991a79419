/-
  Texts laid one behind the other: R3d R2c R2d R2q R2q1 R2r Ex Zm.
-/
import Derived.Test.YtmpgfipfijbbkaaJocag
import Derived.Test.YtmpgfipfijbbkaaJocae
import Derived.Test.YtmpgfipfijbbkaaJocaf
import Derived.Laws.ResultCell
import Derived.Laws.Rows
import Derived.Test.YtmpgfipfijbbkaaJocad
import Derived.Test.YtmpgfipfijbbkaaJocab

/-
  Stage 19: the document's Due, Best.
-/
namespace Go.Proofs.Ytmpgfipfijbbkaa
open Go.RowKit

set_option maxRecDepth 100000

theorem lag_le19 {y : Y18} (h : OkY y) (t : Int) : 0 ≤ (lagY y t).1 ∧ (lagY y t).1 ≤ 1048576 := by
  have h1 := h.sl; have h2 := h.dl; have h3 := h.ml
  unfold lagY
  split
  · exact h1
  · split
    · exact h2
    · split
      · exact h3
      · decide

set_option maxHeartbeats 8000000 in
theorem ref_due19 (p : T19) (y : Y18) (h : Int) (w : World) : Calls Try.prog 23 #[tv19 p, yv18 y, .int .i64 h] w fun e w' => e = .returned (.bool (due19 p y h)) ∧ Turn (fun _ => False) w w' := by
  obtain ⟨g, hg⟩ : ∃ g, g = w.heap.size := ⟨_, rfl⟩
  obtain ⟨k, hk⟩ : ∃ k, k = w.heap.size + 1 := ⟨_, rfl⟩
  obtain ⟨wb, hwb⟩ : ∃ wb, wb = (w.alloc (.cells (tcells19 p) 23)).alloc (.cells (ycells18 y) 34) := ⟨_, rfl⟩
  have HT : Hid (Turn (fun _ => False) w wb) := by rw [hwb]; exact ((Turn.refl _ w).alloc _).alloc _
  have HA : Hid (Box wb g 23 (tcells19 p)) := by rw [hwb, hg]; exact (Box.new w _ _).alloc _
  have HB : Hid (Box wb k 34 (ycells18 y)) := by
    have h := Box.new (w.alloc (.cells (tcells19 p) 23)) 34 (ycells18 y)
    rw [World.size_alloc] at h
    rw [hwb, hk]
    exact h
  obtain ⟨z0, z1⟩ := box_t19 HA.out
  obtain ⟨y0, y1, y2, y3, y4, y5, y6, y7, y8⟩ := box_y18 HB.out
  rw [hwb, hg] at z0 z1
  rw [hwb, hk] at y0 y1 y2 y3 y4 y5 y6 y7 y8
  have HLG := Lib.hid (ref_lag18 y p.t wb)
  have HSP : Hid (∀ W, Calls Try.prog 8 #[tv19 p] W fun e w' => e = .returned (.tuple #[.int .i64 (span19 p).1, .int .i64 (span19 p).2]) ∧ Turn (fun _ => False) W w') := fun W => ref_span19 p W
  have HRT : Hid (∀ W, Calls Try.prog 12 #[tv19 p] W fun e w' => e = .returned (.bool (right19 p)) ∧ Turn (fun _ => False) W w') := fun W => ref_right19 p W
  have HCK : Hid (∀ W, Calls Try.prog 34 #[yv18 y] W fun e w' => e = .returned (.int .i64 (if okY y then 0 else 2)) ∧ Turn (fun _ => False) W w') := fun W => ref_check18 y W
  have HX : Hid (True → due19 p y h = (right19 p && (okY y && decide ((span19 p).2 + (lagY y p.t).1 ≤ h)))) := fun _ => rfl
  have HBD : Hid (okY y = true → 0 ≤ (lagY y p.t).1 ∧ (lagY y p.t).1 ≤ 1048576) := fun e => lag_le19 (ok_iff18.1 e) _
  have HSB := Lib.hid (span_bounds19 p)
  have HWB := Lib.hid hwb; have HG := Lib.hid hg; have HK := Lib.hid hk
  generalize due19 p y h = z at *
  generalize right19 p = ra at *
  generalize okY y = rb at *
  generalize (span19 p).1 = s1 at *
  generalize (span19 p).2 = s2 at *
  generalize (lagY y p.t).1 = l1 at *
  generalize (lagY y p.t).2 = l2 at *
  clear hwb hg hk
  go_enter Try.func23, Try.ntmps23
  go_wp2_with fail
  rw [← HWB.out, ← HK.out, ← HG.out]
  refine HLG.out.mono ?_
  rintro e w1 ⟨rfl, t1⟩
  have HT1 := Lib.hid t1
  clear t1 z0 z1 HLG y0 y1 y2 y3 y4 y5 y6 y7 y8
  obtain ⟨x0, x1⟩ := box_t19 (HA.out.turn HT1.out (fun f => f))
  go_wp2_with fail
  refine (HSP.out w1).mono ?_
  rintro e w2 ⟨rfl, t2⟩
  have HT2 := Lib.hid (HT1.out.trans t2 (fun _ _ f => f))
  clear t2 x0 x1 HSP
  obtain ⟨x0, x1⟩ := box_t19 (HA.out.turn HT2.out (fun f => f))
  go_wp2_with fail
  refine (HRT.out w2).mono ?_
  rintro e w3 ⟨rfl, t3⟩
  have HT3 := Lib.hid (HT2.out.trans t3 (fun _ _ f => f))
  clear t3 x0 x1 HRT
  cases ra with
  | false =>
    have HE : Hid (True → z = false) := HX.out
    clear HX
    go_wp2
    go_ret
    exact ⟨by rw [HE.out trivial]; rfl, HT.out.trans HT3.out (fun _ _ f => f)⟩
  | true =>
    obtain ⟨y0, y1, y2, y3, y4, y5, y6, y7, y8⟩ := box_y18 (HB.out.turn HT3.out (fun f => f))
    cases rb with
    | false =>
      have HE : Hid (True → z = false) := HX.out
      clear HX
      go_wp2_with fail
      refine (HCK.out w3).mono ?_
      rintro e w4 ⟨rfl, t4⟩
      have HT4 := Lib.hid (HT3.out.trans t4 (fun _ _ f => f))
      clear t4 HCK y0 y1 y2 y3 y4 y5 y6 y7 y8
      rw [if_neg (by decide)]
      go_wp2
      go_ret
      exact ⟨by rw [HE.out trivial]; rfl, HT.out.trans HT4.out (fun _ _ f => f)⟩
    | true =>
      have HX2 : Hid (True → z = decide (s2 + l1 ≤ h)) := HX.out
      obtain ⟨b1, b2⟩ := HBD.out rfl
      obtain ⟨b3, b4, b5, b6⟩ := HSB.out
      have hw : IntKind.i64.wrap (s2 + l1) = s2 + l1 := IntWalk.i64_in _ (by omega)
      clear HX
      go_wp2_with fail
      refine (HCK.out w3).mono ?_
      rintro e w4 ⟨rfl, t4⟩
      have HT4 := Lib.hid (HT3.out.trans t4 (fun _ _ f => f))
      clear t4 HCK y0 y1 y2 y3 y4 y5 y6 y7 y8
      rw [if_pos trivial]
      by_cases hh : s2 + l1 ≤ h
      · have HE : Hid (True → z = true) := fun _ => by rw [HX2.out trivial, decide_eq_true hh]
        go_wp2
        go_ret
        exact ⟨by rw [HE.out trivial]; first | rfl | exact ret_bool (decide_eq_true (by omega)), HT.out.trans HT4.out (fun _ _ f => f)⟩
      · have HE : Hid (True → z = false) := fun _ => by rw [HX2.out trivial, decide_eq_false hh]
        go_wp2
        go_ret
        exact ⟨by rw [HE.out trivial]; first | rfl | exact ret_bool (decide_eq_false (by omega)), HT.out.trans HT4.out (fun _ _ f => f)⟩

set_option maxHeartbeats 8000000 in
theorem ref_best19 (f : Int) (y : Y18) (h : Int) (w : World) : Calls Try.prog 25 #[.int .i64 f, yv18 y, .int .i64 h] w fun e w' => e = .returned (.int .i64 (best19 f y h 3)) ∧ Turn (fun _ => False) w w' := by
  obtain ⟨g, hg⟩ : ∃ g, g = w.heap.size := ⟨_, rfl⟩
  obtain ⟨wb, hwb⟩ : ∃ wb, wb = w.alloc (.cells (ycells18 y) 34) := ⟨_, rfl⟩
  have HT : Hid (Turn (fun _ => False) w wb) := by rw [hwb]; exact (Turn.refl _ w).alloc _
  have HB : Hid (Box wb g 34 (ycells18 y)) := by rw [hwb, hg]; exact Box.new w _ _
  have HOF : Hid (∀ (t : Int) W, Calls Try.prog 10 #[.int .i64 t, .int .i64 f] W fun e w' => OfP19 t f W e w') := fun t W => ref_of19 t f W
  have HDU : Hid (∀ (p : T19) W, Calls Try.prog 23 #[tv19 p, yv18 y, .int .i64 h] W fun e w' => e = .returned (.bool (due19 p y h)) ∧ Turn (fun _ => False) W w') := fun p W => ref_due19 p y h W
  have HWB := Lib.hid hwb; have HG := Lib.hid hg
  unfold OfP19 at HOF
  clear hwb hg
  go_enter Try.func25, Try.ntmps25
  go_wp2_with fail
  rw [← HWB.out, ← HG.out]
  go_loopw [7, 8] (fun x7 x8 wr => ∃ k : Nat, x8 = .int .i64 ((k : Int) + 1) ∧ k ≤ 3 ∧ x7 = .int .i64 (best19 f y h k) ∧ Turn (fun _ => False) wb wr) (fun _ x8 _ => 4 - (intOf x8).toNat)
  case atStart => exact ⟨0, rfl, Nat.zero_le _, rfl, Turn.refl _ _⟩
  case round =>
    obtain ⟨k, rfl, hk, rfl, ht⟩ := hrel
    have HTR := Lib.hid ht
    clear ht
    by_cases hlt : k < 3
    · have hkl : (k : Int) + 1 ≤ 3 := by omega
      have hwk : IntKind.i64.wrap ((k : Int) + 1 + 1) = (k : Int) + 1 + 1 := IntWalk.i64_in _ (by omega)
      have HN : Hid (True → best19 f y h (k + 1) = if (of19 ((k : Int) + 1) f).2 && due19 (of19 ((k : Int) + 1) f).1 y h then (k : Int) + 1 else best19 f y h k) := fun _ => rfl
      have HO1 := Lib.hid (HOF.out ((k : Int) + 1) wr)
      generalize of19 ((k : Int) + 1) f = o at *
      obtain ⟨p, is⟩ := o
      dsimp only at HN HO1
      have HD1 := Lib.hid (HDU.out p)
      generalize due19 p y h = du at *
      generalize best19 f y h k = bk at *
      obtain ⟨z0, z1, z2, z3, z4, z5, z6, z7, z8⟩ := box_y18 (HB.out.turn HTR.out (fun f => f))
      go_wp2_with fail
      refine HO1.out.mono ?_
      rintro e w2 ⟨rfl, t2⟩
      have HT2 := Lib.hid ((HTR.out.trans t2 (fun _ _ f => f)).alloc (.cells (tcells19 p) 23))
      obtain ⟨q, hq⟩ : ∃ q, q = w2.heap.size := ⟨_, rfl⟩
      obtain ⟨w3, hw3⟩ : ∃ w3, w3 = w2.alloc (.cells (tcells19 p) 23) := ⟨_, rfl⟩
      rw [← hw3] at HT2
      have HQ3 : Hid (Box w3 q 23 (tcells19 p)) := by rw [hw3, hq]; exact Box.new w2 _ _
      obtain ⟨x0, x1⟩ := box_t19 HQ3.out
      obtain ⟨u0, u1, u2, u3, u4, u5, u6, u7, u8⟩ := box_y18 (HB.out.turn HT2.out (fun f => f))
      rw [hw3, hq] at x0 x1
      rw [hw3] at u0 u1 u2 u3 u4 u5 u6 u7 u8
      have HW3 := Lib.hid hw3; have HQ := Lib.hid hq
      clear t2 hw3 hq HO1 z0 z1 z2 z3 z4 z5 z6 z7 z8
      cases is with
      | false =>
        have HE : Hid (True → best19 f y h (k + 1) = bk) := HN.out
        clear HN
        go_wp2_with fail
        go_roundw
        case rel => exact ⟨k + 1, by go_num, hlt, by rw [HE.out trivial], by rw [← HW3.out]; exact HT2.out⟩
        case measure => simp [intOf]; omega
      | true =>
        go_wp2_with fail
        rw [← HW3.out, ← HQ.out]
        refine (HD1.out w3).mono ?_
        rintro e w4 ⟨rfl, t4⟩
        have HT4 := Lib.hid (HT2.out.trans t4 (fun _ _ f => f))
        clear t4 x0 x1 u0 u1 u2 u3 u4 u5 u6 u7 u8
        cases du with
        | false =>
          have HE : Hid (True → best19 f y h (k + 1) = bk) := HN.out
          clear HN
          go_wp2_with fail
          go_roundw
          case rel => exact ⟨k + 1, by go_num, hlt, by rw [HE.out trivial], HT4.out⟩
          case measure => simp [intOf]; omega
        | true =>
          have HE : Hid (True → best19 f y h (k + 1) = (k : Int) + 1) := HN.out
          clear HN
          go_wp2_with fail
          go_roundw
          case rel => exact ⟨k + 1, by go_num, hlt, by rw [HE.out trivial], HT4.out⟩
          case measure => simp [intOf]; omega
    · obtain rfl : k = 3 := by omega
      go_wp2
      go_ret
      exact ⟨rfl, HT.out.trans HTR.out (fun _ _ f => f)⟩

end Go.Proofs.Ytmpgfipfijbbkaa

/-
  Stage 18: the document's Form, Encode.
-/
namespace Go.Proofs.Ytmpgfipfijbbkaa
open Go.RowKit

set_option maxRecDepth 100000

theorem made_more18 {w wr w2 w3 : World} {A A3 : Option Addr} {n c n3 c3 : Nat} {acc m : List UInt8} (h : Made w wr (.slice A n c) acc) (ht : Turn (fun _ => False) wr w2) (hb : By w3 (.slice A3 n3 c3) (acc ++ m))
    (hg : w2.grownBy w3 (Value.slice A n c).ownBlock) (ha : (Value.slice A3 n3 c3).ownBlock = (Value.slice A n c).ownBlock ∨ (Value.slice A3 n3 c3).ownBlock = some w2.heap.size) : Made w w3 (.slice A3 n3 c3) (acc ++ m) := made_app h ht hb hg ha rfl
theorem made_none18 {w w' : World} (h : Turn (fun _ => False) w w') : Made w w' (.slice none 0 0) [] := ⟨By.nil w', h, fun k hk => by cases hk⟩
/-- The bytes of the first numbers. -/
def formTo18 (p : Y18) (i : Nat) : List UInt8 := ((numsY p).take i).flatMap fun n => enc n.toNat
theorem form_next18 {p : Y18} {i : Nat} {n : Int} (h : (numsY p)[i]? = some n) : formTo18 p (i + 1) = formTo18 p i ++ enc n.toNat := by
  obtain ⟨h0, e⟩ := List.getElem?_eq_some_iff.1 h
  unfold formTo18
  rw [List.take_succ_eq_append_getElem h0, e, List.flatMap_append]
  simp
theorem form_all18 (p : Y18) : formTo18 p 9 = formY p := rfl
theorem nums_nat18 {p : Y18} (hp : OkY p) : ∀ n ∈ numsY p, 0 ≤ n ∧ n ≤ 1048576 := fun n hn => by
  unfold numsY at hn
  simp only [List.mem_cons, List.not_mem_nil, or_false] at hn
  have h1 := hp.rt; have h2 := hp.sl; have h3 := hp.dl; have h4 := hp.ml; have h5 := hp.cl; have h6 := hp.ba; have h7 := hp.ca; have h8 := hp.qu; have h9 := hp.wa
  rcases hn with rfl | rfl | rfl | rfl | rfl | rfl | rfl | rfl | rfl <;> omega
theorem form_len18 (p : Y18) : ∀ i, (formTo18 p i).length ≤ 10 * i
  | 0 => Nat.le_refl _
  | i + 1 => by
    have ih := form_len18 p i
    cases h : (numsY p)[i]? with
    | none =>
      have e : formTo18 p (i + 1) = formTo18 p i := by
        unfold formTo18
        have := List.getElem?_eq_none_iff.1 h
        rw [List.take_of_length_le (by omega), List.take_of_length_le (by omega)]
      rw [e]
      omega
    | some n =>
      rw [form_next18 h, List.length_append]
      have := enc_len n.toNat
      omega

/-- Behind Encode: bytes in new memory, and what is wrong. -/
def Enc18 (w : World) (r : List UInt8 × Int) (e : Ending) (w' : World) : Prop := ∃ v, e = .returned (.tuple #[v, .int .i64 r.2]) ∧ Made w w' v r.1
end Go.Proofs.Ytmpgfipfijbbkaa

/-
  Stage 18: the document's Read.
-/
namespace Go.Proofs.Ytmpgfipfijbbkaa
open Go.RowKit

set_option maxRecDepth 100000

/-- The state behind some numbers; the number at a place; is one too great? -/
def iter18 : Nat → RS9 → RS9
  | 0, s => s
  | i + 1, s => sNum' (iter18 i s)
def numAt18 (s : RS9) (i : Nat) : Nat := sNum (iter18 i s)
def great18 (s : RS9) : Nat → Bool
  | 0 => false
  | i + 1 => great18 s i || decide (4611686018427387904 < numAt18 s i)
theorem great_not18 {s : RS9} : ∀ {n i : Nat}, great18 s n = false → i < n → numAt18 s i ≤ 4611686018427387904
  | 0, _, _, h => absurd h (by omega)
  | n + 1, i, h, hi => by
    unfold great18 at h
    rw [Bool.or_eq_false_iff, decide_eq_false_iff_not] at h
    rcases Nat.lt_or_ge i n with h1 | h1
    · exact great_not18 h.1 h1
    · obtain rfl : i = n := by omega
      omega
def polY (s : RS9) : Y18 := ⟨numAt18 s 0, numAt18 s 1, numAt18 s 2, numAt18 s 3, numAt18 s 4, numAt18 s 5, numAt18 s 6, numAt18 s 7, numAt18 s 8⟩
def readY (s : RS9) : Y18 × Int := if (iter18 9 s).2 ≠ 0 then (zeroY, ((iter18 9 s).2 : Int)) else if great18 s 9 = true then (zeroY, 2) else if chkY (polY s) ≠ 0 then (zeroY, chkY (polY s)) else (polY s, 0)
def ca18 (s : RS9) (i k : Nat) : Int := if k < i then (numAt18 s k : Int) else 0
abbrev arr18 (s : RS9) (i : Nat) : Array Value := #[.int .u64 (ca18 s i 0), .int .u64 (ca18 s i 1), .int .u64 (ca18 s i 2), .int .u64 (ca18 s i 3), .int .u64 (ca18 s i 4), .int .u64 (ca18 s i 5), .int .u64 (ca18 s i 6), .int .u64 (ca18 s i 7), .int .u64 (ca18 s i 8)]
theorem arr_at18 (s : RS9) {i : Nat} (h : i < 9) : (arr18 s i)[i]? = some (.int .u64 0) := by
  match i, h with
  | 0, _ => rfl
  | 1, _ => rfl
  | 2, _ => rfl
  | 3, _ => rfl
  | 4, _ => rfl
  | 5, _ => rfl
  | 6, _ => rfl
  | 7, _ => rfl
  | 8, _ => rfl
theorem arr_set18 (s : RS9) {i : Nat} (h : i < 9) : (arr18 s i).setIfInBounds i (.int .u64 (numAt18 s i : Int)) = arr18 s (i + 1) := by
  match i, h with
  | 0, _ => rfl
  | 1, _ => rfl
  | 2, _ => rfl
  | 3, _ => rfl
  | 4, _ => rfl
  | 5, _ => rfl
  | 6, _ => rfl
  | 7, _ => rfl
  | 8, _ => rfl
theorem arr_next18 (s : RS9) {i : Nat} (h : i < 9) : (arr18 s (i + 1))[i]? = some (.int .u64 (numAt18 s i : Int)) := by
  match i, h with
  | 0, _ => rfl
  | 1, _ => rfl
  | 2, _ => rfl
  | 3, _ => rfl
  | 4, _ => rfl
  | 5, _ => rfl
  | 6, _ => rfl
  | 7, _ => rfl
  | 8, _ => rfl
theorem box_arr18 {W : World} {g : Nat} {t : TypeId} {s : RS9} (h : Box W g t (arr18 s 9)) :
    W.cell? ⟨g, 0, none⟩ = some (.int .u64 (numAt18 s 0 : Int)) ∧ W.cell? ⟨g, 1, none⟩ = some (.int .u64 (numAt18 s 1 : Int)) ∧ W.cell? ⟨g, 2, none⟩ = some (.int .u64 (numAt18 s 2 : Int)) ∧ W.cell? ⟨g, 3, none⟩ = some (.int .u64 (numAt18 s 3 : Int)) ∧ W.cell? ⟨g, 4, none⟩ = some (.int .u64 (numAt18 s 4 : Int)) ∧ W.cell? ⟨g, 5, none⟩ = some (.int .u64 (numAt18 s 5 : Int)) ∧ W.cell? ⟨g, 6, none⟩ = some (.int .u64 (numAt18 s 6 : Int)) ∧ W.cell? ⟨g, 7, none⟩ = some (.int .u64 (numAt18 s 7 : Int)) ∧ W.cell? ⟨g, 8, none⟩ = some (.int .u64 (numAt18 s 8 : Int)) :=
  ⟨h.cell 0, h.cell 1, h.cell 2, h.cell 3, h.cell 4, h.cell 5, h.cell 6, h.cell 7, h.cell 8⟩
theorem one_cells18 (p : Y18) : (ycells18 p).all (·.oneCell') = true := by
  refine all_oneCell_toArray (fun u hu => ?_)
  simp only [List.mem_cons, List.not_mem_nil, or_false] at hu
  rcases hu with rfl | rfl | rfl | rfl | rfl | rfl | rfl | rfl | rfl <;> rfl

section
variable {w W W2 : World} {q B r a i : Nat} {s : RS9}
end
end Go.Proofs.Ytmpgfipfijbbkaa

/-
  Stage 18: the program's wide policies: fields, bounds, widened, narrowed, checked.
-/
namespace Go.Proofs.Ytmpgfipfijbbkaa
open Go.RowKit

set_option maxRecDepth 100000

/-- A wide policy's cells: the policy's own, with whatever Queue, and the wide one behind. -/
abbrev wcells18 (p : Y18) (u : Int) : Array Value := #[.int .i64 p.rt, .int .i64 p.sl, .int .i64 p.dl, .int .i64 p.ml, .int .i64 p.cl, .int .i64 p.ba, .int .i64 p.ca, .int .i64 u, .int .i64 p.wa, .int .i64 p.qu]
abbrev fp18 (g k : Nat) : Value := .pointer (some ⟨g, k, none⟩)
/-- The fields' pointers. -/
abbrev fv18 (g : Nat) : Value := .agg #[fp18 g 0, fp18 g 1, fp18 g 2, fp18 g 3, fp18 g 4, fp18 g 5, fp18 g 6, fp18 g 9, fp18 g 8]

abbrev bnd18 (a b : Int) : List Value := [.int .i64 a, .int .i64 b]
abbrev bcells18 : Array Value := #[.int .i64 1, .int .i64 1048576, .int .i64 0, .int .i64 1048576, .int .i64 0, .int .i64 1048576, .int .i64 0, .int .i64 1048576, .int .i64 0, .int .i64 1048576, .int .i64 1, .int .i64 1048576, .int .i64 1, .int .i64 1048576, .int .i64 1, .int .i64 64, .int .i64 100, .int .i64 1048576]

theorem ptrs_one18 (g : Nat) : (#[fp18 g 0, fp18 g 1, fp18 g 2, fp18 g 3, fp18 g 4, fp18 g 5, fp18 g 6, fp18 g 9, fp18 g 8] : Array Value).all (·.oneCell') = true := by
  refine all_oneCell_toArray (fun u hu => ?_)
  simp only [List.mem_cons, List.not_mem_nil, or_false] at hu
  rcases hu with rfl | rfl | rfl | rfl | rfl | rfl | rfl | rfl | rfl <;> rfl

set_option maxHeartbeats 8000000 in
theorem fields_any18 (g : Nat) (w : World) : Calls Try.prog 52 #[.pointer (some ⟨g, 0, none⟩)] w fun e w' => e = .returned (fv18 g) ∧ Turn (fun _ => False) w w' := by
  obtain ⟨r, hr⟩ : ∃ r, r = w.heap.size := ⟨_, rfl⟩
  obtain ⟨wb, hwb⟩ : ∃ wb, wb = w.alloc (.cells #[.pointer none, .pointer none, .pointer none, .pointer none, .pointer none, .pointer none, .pointer none, .pointer none, .pointer none] 65) := ⟨_, rfl⟩
  have HT : Hid (Turn (fun _ => False) w wb) := by rw [hwb]; exact (Turn.refl _ w).alloc _
  have HBX : Hid (Box wb r 65 #[.pointer none, .pointer none, .pointer none, .pointer none, .pointer none, .pointer none, .pointer none, .pointer none, .pointer none]) := by rw [hwb, hr]; exact Box.new w _ _
  have HSI : Hid ((Try.prog.info? 65).map (·.size) = some 9) := by show _ = _; kernel_rfl
  have HON : Hid ((#[fp18 g 0, fp18 g 1, fp18 g 2, fp18 g 3, fp18 g 4, fp18 g 5, fp18 g 6, fp18 g 9, fp18 g 8] : Array Value).all (·.oneCell') = true) := ptrs_one18 g
  have HWB := Lib.hid hwb; have HR := Lib.hid hr
  clear hwb hr
  go_enter Try.func52, Try.ntmps52
  go_wp2_with fail
  rw [← HWB.out, ← HR.out]
  refine drawn_region (fun _ => True) [36] (by kernel_rfl) ?_
  have hS0 : True := trivial
  have HBD := Lib.hid (HBX.out.turn ((Turn.refl (fun _ => False) wb).drew) (fun f => f))
  have HLE : Hid (w.heap.size ≤ r) := Nat.le_of_eq HR.out.symm
  have HTD : Hid (Turn (fun _ => False) w (World.drew wb)) := HT.out.trans (Turn.refl _ wb).drew (fun _ _ f => f)
  clear HBX HT HWB HR
  generalize World.drew wb = wd at *
  refine drawn_take 0 3 (.pointer (some ⟨g, 0, none⟩)) rfl rfl (by kernel_rfl) (by kernel_rfl) (by kernel_rfl) (by kernel_rfl) (fun _ _ _ h => h) (by rfl) (by assumption) (by intro w hSw; go_simp) ?_
  try simp only [List.setIfInBounds_toArray, List.set_cons_zero, List.set_cons_succ]
  refine drawn_take 1 4 (.pointer (some ⟨g, 0, none⟩)) rfl rfl (by kernel_rfl) (by kernel_rfl) (by kernel_rfl) (by kernel_rfl) (fun _ _ _ h => h) (by rfl) (by assumption) (by intro w hSw; go_simp) ?_
  try simp only [List.setIfInBounds_toArray, List.set_cons_zero, List.set_cons_succ]
  refine drawn_take 2 5 (.pointer (some ⟨g, 0, none⟩)) rfl rfl (by kernel_rfl) (by kernel_rfl) (by kernel_rfl) (by kernel_rfl) (fun _ _ _ h => h) (by rfl) (by assumption) (by intro w hSw; go_simp) ?_
  try simp only [List.setIfInBounds_toArray, List.set_cons_zero, List.set_cons_succ]
  refine drawn_take 3 6 (.pointer (some ⟨g, 0, none⟩)) rfl rfl (by kernel_rfl) (by kernel_rfl) (by kernel_rfl) (by kernel_rfl) (fun _ _ _ h => h) (by rfl) (by assumption) (by intro w hSw; go_simp) ?_
  try simp only [List.setIfInBounds_toArray, List.set_cons_zero, List.set_cons_succ]
  refine drawn_take 4 7 (.pointer (some ⟨g, 0, none⟩)) rfl rfl (by kernel_rfl) (by kernel_rfl) (by kernel_rfl) (by kernel_rfl) (fun _ _ _ h => h) (by rfl) (by assumption) (by intro w hSw; go_simp) ?_
  try simp only [List.setIfInBounds_toArray, List.set_cons_zero, List.set_cons_succ]
  refine drawn_take 5 8 (.pointer (some ⟨g, 0, none⟩)) rfl rfl (by kernel_rfl) (by kernel_rfl) (by kernel_rfl) (by kernel_rfl) (fun _ _ _ h => h) (by rfl) (by assumption) (by intro w hSw; go_simp) ?_
  try simp only [List.setIfInBounds_toArray, List.set_cons_zero, List.set_cons_succ]
  refine drawn_take 6 9 (.pointer (some ⟨g, 0, none⟩)) rfl rfl (by kernel_rfl) (by kernel_rfl) (by kernel_rfl) (by kernel_rfl) (fun _ _ _ h => h) (by rfl) (by assumption) (by intro w hSw; go_simp) ?_
  try simp only [List.setIfInBounds_toArray, List.set_cons_zero, List.set_cons_succ]
  refine drawn_take 7 10 (.pointer (some ⟨g, 1, none⟩)) rfl rfl (by kernel_rfl) (by kernel_rfl) (by kernel_rfl) (by kernel_rfl) (fun _ _ _ h => h) (by rfl) (by assumption) (by intro w hSw; go_simp) ?_
  try simp only [List.setIfInBounds_toArray, List.set_cons_zero, List.set_cons_succ]
  refine drawn_take 8 11 (.pointer (some ⟨g, 0, none⟩)) rfl rfl (by kernel_rfl) (by kernel_rfl) (by kernel_rfl) (by kernel_rfl) (fun _ _ _ h => h) (by rfl) (by assumption) (by intro w hSw; go_simp) ?_
  try simp only [List.setIfInBounds_toArray, List.set_cons_zero, List.set_cons_succ]
  refine drawn_take 9 12 (.pointer (some ⟨g, 0, none⟩)) rfl rfl (by kernel_rfl) (by kernel_rfl) (by kernel_rfl) (by kernel_rfl) (fun _ _ _ h => h) (by rfl) (by assumption) (by intro w hSw; go_simp) ?_
  try simp only [List.setIfInBounds_toArray, List.set_cons_zero, List.set_cons_succ]
  refine drawn_take 10 13 (.pointer (some ⟨g, 0, none⟩)) rfl rfl (by kernel_rfl) (by kernel_rfl) (by kernel_rfl) (by kernel_rfl) (fun _ _ _ h => h) (by rfl) (by assumption) (by intro w hSw; go_simp) ?_
  try simp only [List.setIfInBounds_toArray, List.set_cons_zero, List.set_cons_succ]
  refine drawn_take 11 14 (.pointer (some ⟨g, 2, none⟩)) rfl rfl (by kernel_rfl) (by kernel_rfl) (by kernel_rfl) (by kernel_rfl) (fun _ _ _ h => h) (by rfl) (by assumption) (by intro w hSw; go_simp) ?_
  try simp only [List.setIfInBounds_toArray, List.set_cons_zero, List.set_cons_succ]
  refine drawn_take 12 15 (.pointer (some ⟨g, 0, none⟩)) rfl rfl (by kernel_rfl) (by kernel_rfl) (by kernel_rfl) (by kernel_rfl) (fun _ _ _ h => h) (by rfl) (by assumption) (by intro w hSw; go_simp) ?_
  try simp only [List.setIfInBounds_toArray, List.set_cons_zero, List.set_cons_succ]
  refine drawn_take 13 16 (.pointer (some ⟨g, 0, none⟩)) rfl rfl (by kernel_rfl) (by kernel_rfl) (by kernel_rfl) (by kernel_rfl) (fun _ _ _ h => h) (by rfl) (by assumption) (by intro w hSw; go_simp) ?_
  try simp only [List.setIfInBounds_toArray, List.set_cons_zero, List.set_cons_succ]
  refine drawn_take 14 17 (.pointer (some ⟨g, 0, none⟩)) rfl rfl (by kernel_rfl) (by kernel_rfl) (by kernel_rfl) (by kernel_rfl) (fun _ _ _ h => h) (by rfl) (by assumption) (by intro w hSw; go_simp) ?_
  try simp only [List.setIfInBounds_toArray, List.set_cons_zero, List.set_cons_succ]
  refine drawn_take 15 18 (.pointer (some ⟨g, 3, none⟩)) rfl rfl (by kernel_rfl) (by kernel_rfl) (by kernel_rfl) (by kernel_rfl) (fun _ _ _ h => h) (by rfl) (by assumption) (by intro w hSw; go_simp) ?_
  try simp only [List.setIfInBounds_toArray, List.set_cons_zero, List.set_cons_succ]
  refine drawn_take 16 19 (.pointer (some ⟨g, 0, none⟩)) rfl rfl (by kernel_rfl) (by kernel_rfl) (by kernel_rfl) (by kernel_rfl) (fun _ _ _ h => h) (by rfl) (by assumption) (by intro w hSw; go_simp) ?_
  try simp only [List.setIfInBounds_toArray, List.set_cons_zero, List.set_cons_succ]
  refine drawn_take 17 20 (.pointer (some ⟨g, 0, none⟩)) rfl rfl (by kernel_rfl) (by kernel_rfl) (by kernel_rfl) (by kernel_rfl) (fun _ _ _ h => h) (by rfl) (by assumption) (by intro w hSw; go_simp) ?_
  try simp only [List.setIfInBounds_toArray, List.set_cons_zero, List.set_cons_succ]
  refine drawn_take 18 21 (.pointer (some ⟨g, 0, none⟩)) rfl rfl (by kernel_rfl) (by kernel_rfl) (by kernel_rfl) (by kernel_rfl) (fun _ _ _ h => h) (by rfl) (by assumption) (by intro w hSw; go_simp) ?_
  try simp only [List.setIfInBounds_toArray, List.set_cons_zero, List.set_cons_succ]
  refine drawn_take 19 22 (.pointer (some ⟨g, 4, none⟩)) rfl rfl (by kernel_rfl) (by kernel_rfl) (by kernel_rfl) (by kernel_rfl) (fun _ _ _ h => h) (by rfl) (by assumption) (by intro w hSw; go_simp) ?_
  try simp only [List.setIfInBounds_toArray, List.set_cons_zero, List.set_cons_succ]
  refine drawn_take 20 23 (.pointer (some ⟨g, 0, none⟩)) rfl rfl (by kernel_rfl) (by kernel_rfl) (by kernel_rfl) (by kernel_rfl) (fun _ _ _ h => h) (by rfl) (by assumption) (by intro w hSw; go_simp) ?_
  try simp only [List.setIfInBounds_toArray, List.set_cons_zero, List.set_cons_succ]
  refine drawn_take 21 24 (.pointer (some ⟨g, 0, none⟩)) rfl rfl (by kernel_rfl) (by kernel_rfl) (by kernel_rfl) (by kernel_rfl) (fun _ _ _ h => h) (by rfl) (by assumption) (by intro w hSw; go_simp) ?_
  try simp only [List.setIfInBounds_toArray, List.set_cons_zero, List.set_cons_succ]
  refine drawn_take 22 25 (.pointer (some ⟨g, 0, none⟩)) rfl rfl (by kernel_rfl) (by kernel_rfl) (by kernel_rfl) (by kernel_rfl) (fun _ _ _ h => h) (by rfl) (by assumption) (by intro w hSw; go_simp) ?_
  try simp only [List.setIfInBounds_toArray, List.set_cons_zero, List.set_cons_succ]
  refine drawn_take 23 26 (.pointer (some ⟨g, 5, none⟩)) rfl rfl (by kernel_rfl) (by kernel_rfl) (by kernel_rfl) (by kernel_rfl) (fun _ _ _ h => h) (by rfl) (by assumption) (by intro w hSw; go_simp) ?_
  try simp only [List.setIfInBounds_toArray, List.set_cons_zero, List.set_cons_succ]
  refine drawn_take 24 27 (.pointer (some ⟨g, 0, none⟩)) rfl rfl (by kernel_rfl) (by kernel_rfl) (by kernel_rfl) (by kernel_rfl) (fun _ _ _ h => h) (by rfl) (by assumption) (by intro w hSw; go_simp) ?_
  try simp only [List.setIfInBounds_toArray, List.set_cons_zero, List.set_cons_succ]
  refine drawn_take 25 28 (.pointer (some ⟨g, 0, none⟩)) rfl rfl (by kernel_rfl) (by kernel_rfl) (by kernel_rfl) (by kernel_rfl) (fun _ _ _ h => h) (by rfl) (by assumption) (by intro w hSw; go_simp) ?_
  try simp only [List.setIfInBounds_toArray, List.set_cons_zero, List.set_cons_succ]
  refine drawn_take 26 29 (.pointer (some ⟨g, 0, none⟩)) rfl rfl (by kernel_rfl) (by kernel_rfl) (by kernel_rfl) (by kernel_rfl) (fun _ _ _ h => h) (by rfl) (by assumption) (by intro w hSw; go_simp) ?_
  try simp only [List.setIfInBounds_toArray, List.set_cons_zero, List.set_cons_succ]
  refine drawn_take 27 30 (.pointer (some ⟨g, 6, none⟩)) rfl rfl (by kernel_rfl) (by kernel_rfl) (by kernel_rfl) (by kernel_rfl) (fun _ _ _ h => h) (by rfl) (by assumption) (by intro w hSw; go_simp) ?_
  try simp only [List.setIfInBounds_toArray, List.set_cons_zero, List.set_cons_succ]
  refine drawn_take 28 31 (.pointer (some ⟨g, 0, none⟩)) rfl rfl (by kernel_rfl) (by kernel_rfl) (by kernel_rfl) (by kernel_rfl) (fun _ _ _ h => h) (by rfl) (by assumption) (by intro w hSw; go_simp) ?_
  try simp only [List.setIfInBounds_toArray, List.set_cons_zero, List.set_cons_succ]
  refine drawn_take 29 32 (.pointer (some ⟨g, 0, none⟩)) rfl rfl (by kernel_rfl) (by kernel_rfl) (by kernel_rfl) (by kernel_rfl) (fun _ _ _ h => h) (by rfl) (by assumption) (by intro w hSw; go_simp) ?_
  try simp only [List.setIfInBounds_toArray, List.set_cons_zero, List.set_cons_succ]
  refine drawn_take 30 33 (.pointer (some ⟨g, 9, none⟩)) rfl rfl (by kernel_rfl) (by kernel_rfl) (by kernel_rfl) (by kernel_rfl) (fun _ _ _ h => h) (by rfl) (by assumption) (by intro w hSw; go_simp) ?_
  try simp only [List.setIfInBounds_toArray, List.set_cons_zero, List.set_cons_succ]
  refine drawn_take 31 34 (.pointer (some ⟨g, 0, none⟩)) rfl rfl (by kernel_rfl) (by kernel_rfl) (by kernel_rfl) (by kernel_rfl) (fun _ _ _ h => h) (by rfl) (by assumption) (by intro w hSw; go_simp) ?_
  try simp only [List.setIfInBounds_toArray, List.set_cons_zero, List.set_cons_succ]
  refine drawn_take 32 35 (.pointer (some ⟨g, 0, none⟩)) rfl rfl (by kernel_rfl) (by kernel_rfl) (by kernel_rfl) (by kernel_rfl) (fun _ _ _ h => h) (by rfl) (by assumption) (by intro w hSw; go_simp) ?_
  try simp only [List.setIfInBounds_toArray, List.set_cons_zero, List.set_cons_succ]
  refine drawn_take 33 36 (.pointer (some ⟨g, 0, none⟩)) rfl rfl (by kernel_rfl) (by kernel_rfl) (by kernel_rfl) (by kernel_rfl) (fun _ _ _ h => h) (by rfl) (by assumption) (by intro w hSw; go_simp) ?_
  try simp only [List.setIfInBounds_toArray, List.set_cons_zero, List.set_cons_succ]
  refine drawn_take 34 37 (.pointer (some ⟨g, 8, none⟩)) rfl rfl (by kernel_rfl) (by kernel_rfl) (by kernel_rfl) (by kernel_rfl) (fun _ _ _ h => h) (by rfl) (by assumption) (by intro w hSw; go_simp) ?_
  try simp only [List.setIfInBounds_toArray, List.set_cons_zero, List.set_cons_succ]
  refine drawn_take 35 38 (.agg #[fp18 g 0, fp18 g 1, fp18 g 2, fp18 g 3, fp18 g 4, fp18 g 5, fp18 g 6, fp18 g 9, fp18 g 8]) rfl rfl (by kernel_rfl) (by kernel_rfl) (by kernel_rfl) (by kernel_rfl) (fun _ _ _ h => h) (by rfl) (by assumption) (by intro w hSw; go_simp) ?_
  try simp only [List.setIfInBounds_toArray, List.set_cons_zero, List.set_cons_succ]
  refine drawn_last (z := 36) rfl (by kernel_rfl) (by kernel_rfl) (by kernel_rfl) (fun K1 hK => ?_)
  refine put_box r 0 #[fp18 g 0, fp18 g 1, fp18 g 2, fp18 g 3, fp18 g 4, fp18 g 5, fp18 g 6, fp18 g 9, fp18 g 8] (HBD.out.there (Nat.le_refl 9)) rfl rfl HSI.out HON.out ?_
  refine hK.out _ _ ?_
  clear hK K1
  have HB9 := Lib.hid (HBD.out.all #[fp18 g 0, fp18 g 1, fp18 g 2, fp18 g 3, fp18 g 4, fp18 g 5, fp18 g 6, fp18 g 9, fp18 g 8] rfl)
  have HT9 : Hid (Turn (fun _ => False) w (wd.setCells r 0 (Array.toList #[fp18 g 0, fp18 g 1, fp18 g 2, fp18 g 3, fp18 g 4, fp18 g 5, fp18 g 6, fp18 g 9, fp18 g 8]))) := HTD.out.trans (turn_setCells (S := fun k => k = r) rfl _ _ _) (fun k hk e => by have := HLE.out; omega)
  generalize wd.setCells r 0 _ = w9 at *
  go_wp2
  refine bodyPost_ret (v := fv18 g) ?_ rfl ⟨rfl, HT9.out⟩
  rw [results_cell rfl]
  obtain ⟨d0, d1, d2, d3, d4, d5, d6, d7, d8⟩ : w9.cell? ⟨r, 0, none⟩ = some (fp18 g 0) ∧ w9.cell? ⟨r, 1, none⟩ = some (fp18 g 1) ∧ w9.cell? ⟨r, 2, none⟩ = some (fp18 g 2) ∧ w9.cell? ⟨r, 3, none⟩ = some (fp18 g 3) ∧ w9.cell? ⟨r, 4, none⟩ = some (fp18 g 4) ∧ w9.cell? ⟨r, 5, none⟩ = some (fp18 g 5) ∧ w9.cell? ⟨r, 6, none⟩ = some (fp18 g 6) ∧ w9.cell? ⟨r, 7, none⟩ = some (fp18 g 9) ∧ w9.cell? ⟨r, 8, none⟩ = some (fp18 g 8) := ⟨HB9.out.cell 0, HB9.out.cell 1, HB9.out.cell 2, HB9.out.cell 3, HB9.out.cell 4, HB9.out.cell 5, HB9.out.cell 6, HB9.out.cell 7, HB9.out.cell 8⟩
  go_simp

end Go.Proofs.Ytmpgfipfijbbkaa

/-
  Stage 18: the program's bounds.
-/
namespace Go.Proofs.Ytmpgfipfijbbkaa
open Go.RowKit

set_option maxRecDepth 100000

set_option maxHeartbeats 4000000 in
theorem bounds_any18 (w : World) : Calls Try.prog 51 #[] w fun e w' => e = .returned (.agg bcells18) ∧ Turn (fun _ => False) w w' := by
  go_enter Try.func51, Try.ntmps51
  go_wp2_with fail
  obtain ⟨w9, hw9⟩ : ∃ w9, w9 = ((w.alloc (.cells bcells18 62)).alloc (.cells #[.int .i64 1, .int .i64 1048576] 61)).alloc (.cells #[.int .i64 0, .int .i64 1048576] 61) := ⟨_, rfl⟩
  have HB : Hid (Box w9 w.heap.size 62 bcells18) := by rw [hw9]; exact ((Box.new w _ _).alloc _).alloc _
  have HT : Hid (Turn (fun _ => False) w w9) := by rw [hw9]; exact (((Turn.refl _ w).alloc _).alloc _).alloc _
  unfold bcells18 at hw9
  rw [← hw9]
  clear hw9
  refine bodyPost_ret (v := .agg bcells18) ?_ rfl ⟨rfl, HT.out⟩
  exact results_cell_row rfl _ w9 w.heap.size 62 bcells18 _ (.array 9 61) rfl HB.out (by kernel_rfl) rfl (by kernel_rfl)

end Go.Proofs.Ytmpgfipfijbbkaa

/-
  Stage 18: the program's check of a wide policy; widened; Check.
-/
namespace Go.Proofs.Ytmpgfipfijbbkaa
open Go.RowKit

set_option maxRecDepth 100000

def off18 (i : Nat) : Nat := if i = 7 then 9 else i
def num18 (p : Y18) (i : Nat) : Int := (numsY p).getD i 0
def least18 (i : Nat) : Int := [1, 0, 0, 0, 0, 1, 1, 1, 100].getD i 0
def most18 (i : Nat) : Int := if i = 7 then 64 else 1048576
theorem ptrs_at18 (g : Nat) {i : Nat} (h : i < 9) : (#[fp18 g 0, fp18 g 1, fp18 g 2, fp18 g 3, fp18 g 4, fp18 g 5, fp18 g 6, fp18 g 9, fp18 g 8] : Array Value)[i]? = some (fp18 g (off18 i)) := by
  match i, h with
  | 0, _ => rfl
  | 1, _ => rfl
  | 2, _ => rfl
  | 3, _ => rfl
  | 4, _ => rfl
  | 5, _ => rfl
  | 6, _ => rfl
  | 7, _ => rfl
  | 8, _ => rfl
theorem run_ptr18 (g : Nat) {i : Nat} (h : i < 9) (W : World) : Sem.run Try.prog (Instr.index 65 (fv18 g) (.int .i64 (i : Int))) W = .ok (fp18 g (off18 i)) W := by
  match i, h with
  | 0, _ => rfl
  | 1, _ => rfl
  | 2, _ => rfl
  | 3, _ => rfl
  | 4, _ => rfl
  | 5, _ => rfl
  | 6, _ => rfl
  | 7, _ => rfl
  | 8, _ => rfl
theorem wide_at18 {w : World} {g : Nat} {t : TypeId} {p : Y18} {x : Int} (hb : Box w g t (wcells18 p x)) {i : Nat} (h : i < 9) : w.cell? ⟨g, off18 i, none⟩ = some (.int .i64 (num18 p i)) := by
  match i, h with
  | 0, _ => exact hb.cell 0
  | 1, _ => exact hb.cell 1
  | 2, _ => exact hb.cell 2
  | 3, _ => exact hb.cell 3
  | 4, _ => exact hb.cell 4
  | 5, _ => exact hb.cell 5
  | 6, _ => exact hb.cell 6
  | 7, _ => exact hb.cell 9
  | 8, _ => exact hb.cell 8
theorem bound_at18 {w : World} {g : Nat} {t : TypeId} (hb : Box w g t bcells18) {i : Nat} (h : i < 9) : w.cell? ⟨g, 2 * i, none⟩ = some (.int .i64 (least18 i)) ∧ w.cell? ⟨g, 2 * i + 1, none⟩ = some (.int .i64 (most18 i)) := by
  match i, h with
  | 0, _ => exact ⟨hb.cell 0, hb.cell 1⟩
  | 1, _ => exact ⟨hb.cell 2, hb.cell 3⟩
  | 2, _ => exact ⟨hb.cell 4, hb.cell 5⟩
  | 3, _ => exact ⟨hb.cell 6, hb.cell 7⟩
  | 4, _ => exact ⟨hb.cell 8, hb.cell 9⟩
  | 5, _ => exact ⟨hb.cell 10, hb.cell 11⟩
  | 6, _ => exact ⟨hb.cell 12, hb.cell 13⟩
  | 7, _ => exact ⟨hb.cell 14, hb.cell 15⟩
  | 8, _ => exact ⟨hb.cell 16, hb.cell 17⟩
/-- The first so many fields are right. -/
def okTo18 (p : Y18) : Nat → Bool
  | 0 => true
  | i + 1 => okTo18 p i && in18 (num18 p i) (least18 i) (most18 i)
theorem ok_all18 (p : Y18) : okTo18 p 9 = okY p := by
  show (((((((((true && in18 p.rt 1 1048576) && in18 p.sl 0 1048576) && in18 p.dl 0 1048576) && in18 p.ml 0 1048576) && in18 p.cl 0 1048576) && in18 p.ba 1 1048576) && in18 p.ca 1 1048576) && in18 p.qu 1 64) && in18 p.wa 100 1048576) = _
  unfold okY
  simp only [Bool.true_and, Bool.and_assoc]
theorem ok_to18 {p : Y18} : ∀ {n i : Nat}, okTo18 p n = true → i < n → in18 (num18 p i) (least18 i) (most18 i) = true
  | 0, _, _, h => absurd h (by omega)
  | n + 1, i, h, hi => by
    unfold okTo18 at h
    rw [Bool.and_eq_true] at h
    rcases Nat.lt_or_ge i n with h1 | h1
    · exact ok_to18 h.1 h1
    · obtain rfl : i = n := by omega
      exact h.2
theorem chk_bad18 {p : Y18} {i : Nat} (hi : i < 9) (h : in18 (num18 p i) (least18 i) (most18 i) = false) : chkY p = 2 := by
  unfold chkY
  cases ho : okY p with
  | false => rfl
  | true =>
    rw [← ok_all18] at ho
    rw [ok_to18 ho hi] at h
    cases h
theorem chk_good18 {p : Y18} (h : okTo18 p 9 = true) : chkY p = 0 := by
  rw [ok_all18] at h
  unfold chkY
  rw [h]
  rfl

set_option maxHeartbeats 8000000 in
theorem wcheck_any18 (p : Y18) (x : Int) (g : Nat) (w : World) (hb : Box w g 59 (wcells18 p x)) : Calls Try.prog 44 #[.pointer (some ⟨g, 0, none⟩)] w fun e w' => e = .returned (.int .i64 (chkY p)) ∧ Turn (fun _ => False) w w' := by
  have HB := Lib.hid hb
  have HBN := Lib.hid (bounds_any18 w)
  clear hb
  go_enter Try.func44, Try.ntmps44
  go_wp2_with fail
  refine HBN.out.mono ?_
  rintro e w1 ⟨rfl, t1⟩
  clear HBN
  obtain ⟨b, hb⟩ : ∃ b, b = w1.heap.size := ⟨_, rfl⟩
  obtain ⟨w2, hw2⟩ : ∃ w2, w2 = w1.alloc (.cells bcells18 62) := ⟨_, rfl⟩
  have HBB : Hid (Box w2 b 62 bcells18) := by rw [hw2, hb]; exact Box.new _ _ _
  have HT2 : Hid (Turn (fun _ => False) w w2) := by rw [hw2]; exact t1.alloc _
  have HB2 : Hid (Box w2 g 59 (wcells18 p x)) := HB.out.turn HT2.out (fun f => f)
  have HW2 := Lib.hid hw2; have HBE := Lib.hid hb
  clear t1 HB hw2 hb
  go_wp2_with fail
  have hwe := HW2.out
  unfold bcells18 at hwe
  rw [← hwe, ← HBE.out]
  clear hwe HW2 HBE
  refine (fields_any18 g w2).mono ?_
  rintro e w3 ⟨rfl, t3⟩
  have HBB3 : Hid (Box w3 b 62 bcells18) := HBB.out.turn t3 (fun f => f)
  have HT3 : Hid (Turn (fun _ => False) w w3) := HT2.out.trans t3 (fun _ _ f => f)
  have HB3 : Hid (Box w3 g 59 (wcells18 p x)) := HB2.out.turn t3 (fun f => f)
  clear t3 HBB HT2 HB2
  go_wp2_with fail
  go_loopw [9] (fun x9 wr => ∃ i : Nat, x9 = .int .i64 (i : Int) ∧ i ≤ 9 ∧ okTo18 p i = true ∧ Turn (fun _ => False) w3 wr) (fun x9 _ => 9 - (intOf x9).toNat)
  case atStart => exact ⟨0, rfl, Nat.zero_le _, rfl, Turn.refl _ w3⟩
  case round =>
    obtain ⟨i, rfl, hi, hok, ht⟩ := hrel
    have HOK := Lib.hid hok; have HTR := Lib.hid ht
    clear hok ht
    by_cases hlt : i < 9
    · have hil : (i : Int) < 9 := by omega
      have hpt := run_ptr18 g hlt
      have a0 := wide_at18 (HB3.out.turn HTR.out (fun f => f)) hlt
      obtain ⟨a1, a2⟩ := bound_at18 (HBB3.out.turn HTR.out (fun f => f)) hlt
      have HIN : Hid (okTo18 p (i + 1) = (okTo18 p i && in18 (num18 p i) (least18 i) (most18 i))) := rfl
      have HBAD : Hid (in18 (num18 p i) (least18 i) (most18 i) = false → chkY p = 2) := chk_bad18 hlt
      generalize num18 p i = n at *
      generalize least18 i = lo at *
      generalize most18 i = hi2 at *
      have HWR : Hid (Turn (fun _ => False) w (World.drew wr)) := (HT3.out.trans HTR.out (fun _ _ f => f)).trans (Turn.refl _ wr).drew (fun _ _ f => f)
      have HWD : Hid (Turn (fun _ => False) w3 (World.drew wr)) := HTR.out.trans (Turn.refl _ wr).drew (fun _ _ f => f)
      go_wp2_with fail
      refine drawn_region (fun W => W.cell? ⟨g, off18 i, none⟩ = some (.int .i64 n) ∧ W.cell? ⟨b, 2 * i, none⟩ = some (.int .i64 lo) ∧ W.cell? ⟨b, 2 * i + 1, none⟩ = some (.int .i64 hi2)) [] (by kernel_rfl) ?_
      have hS0 : (World.drew wr).cell? ⟨g, off18 i, none⟩ = some (.int .i64 n) ∧ (World.drew wr).cell? ⟨b, 2 * i, none⟩ = some (.int .i64 lo) ∧ (World.drew wr).cell? ⟨b, 2 * i + 1, none⟩ = some (.int .i64 hi2) := ⟨a0, a1, a2⟩
      clear a0 a1 a2
      generalize World.drew wr = wd at *
      refine drawn_take 0 13 (fp18 g (off18 i)) rfl rfl (by kernel_rfl) (by kernel_rfl) (by kernel_rfl) (by kernel_rfl) (fun _ _ _ h => h) (by rfl) (by assumption) (by intro w hSw; obtain ⟨q0, q1, q2⟩ := hSw; go_simp) ?_
      try simp only [List.setIfInBounds_toArray, List.set_cons_zero, List.set_cons_succ]
      refine drawn_take 1 14 (fp18 g (off18 i)) rfl rfl (by kernel_rfl) (by kernel_rfl) (by kernel_rfl) (by kernel_rfl) (fun _ _ _ h => h) (by rfl) (by assumption) (by intro w hSw; obtain ⟨q0, q1, q2⟩ := hSw; go_simp) ?_
      try simp only [List.setIfInBounds_toArray, List.set_cons_zero, List.set_cons_succ]
      refine drawn_take 2 15 (.int .i64 n) rfl rfl (by kernel_rfl) (by kernel_rfl) (by kernel_rfl) (by kernel_rfl) (fun _ _ _ h => h) (by rfl) (by assumption) (by intro w hSw; obtain ⟨q0, q1, q2⟩ := hSw; go_simp) ?_
      try simp only [List.setIfInBounds_toArray, List.set_cons_zero, List.set_cons_succ]
      refine drawn_take 3 16 (.int .i64 (i : Int)) rfl rfl (by kernel_rfl) (by kernel_rfl) (by kernel_rfl) (by kernel_rfl) (fun _ _ _ h => h) (by rfl) (by assumption) (by intro w hSw; obtain ⟨q0, q1, q2⟩ := hSw; go_simp) ?_
      try simp only [List.setIfInBounds_toArray, List.set_cons_zero, List.set_cons_succ]
      refine drawn_take 4 17 (fp18 b (2 * i)) rfl rfl (by kernel_rfl) (by kernel_rfl) (by kernel_rfl) (by kernel_rfl) (fun _ _ _ h => h) (by rfl) (by assumption) (by intro w hSw; obtain ⟨q0, q1, q2⟩ := hSw; go_simp) ?_
      try simp only [List.setIfInBounds_toArray, List.set_cons_zero, List.set_cons_succ]
      refine drawn_take 5 18 (fp18 b (2 * i)) rfl rfl (by kernel_rfl) (by kernel_rfl) (by kernel_rfl) (by kernel_rfl) (fun _ _ _ h => h) (by rfl) (by assumption) (by intro w hSw; obtain ⟨q0, q1, q2⟩ := hSw; go_simp) ?_
      try simp only [List.setIfInBounds_toArray, List.set_cons_zero, List.set_cons_succ]
      refine drawn_take 6 19 (.int .i64 lo) rfl rfl (by kernel_rfl) (by kernel_rfl) (by kernel_rfl) (by kernel_rfl) (fun _ _ _ h => h) (by rfl) (by assumption) (by intro w hSw; obtain ⟨q0, q1, q2⟩ := hSw; go_simp) ?_
      try simp only [List.setIfInBounds_toArray, List.set_cons_zero, List.set_cons_succ]
      by_cases h1 : n < lo
      · have HC := Lib.hid (HBAD.out (by unfold in18; rw [decide_eq_false (by omega), Bool.false_and]))
        refine drawn_take 7 20 (.bool true) rfl rfl (by kernel_rfl) (by kernel_rfl) (by kernel_rfl) (by kernel_rfl) (fun _ _ _ h => h) (by rfl) (by assumption) (by intro w hSw; obtain ⟨q0, q1, q2⟩ := hSw; go_simp) ?_
        try simp only [List.setIfInBounds_toArray, List.set_cons_zero, List.set_cons_succ]
        refine drawn_take 8 21 (.bool true) rfl rfl (by kernel_rfl) (by kernel_rfl) (by kernel_rfl) (by kernel_rfl) (fun _ _ _ h => h) (by rfl) (by assumption) (by intro w hSw; obtain ⟨q0, q1, q2⟩ := hSw; go_simp) ?_
        try simp only [List.setIfInBounds_toArray, List.set_cons_zero, List.set_cons_succ]
        refine drawn_skip 9 22 rfl rfl (by kernel_rfl) (by kernel_rfl) (by kernel_rfl) (by kernel_rfl) (fun _ _ _ h => h) (by rfl) (fun _ => by assumption) ?_
        try simp only [List.setIfInBounds_toArray, List.set_cons_zero, List.set_cons_succ]
        refine drawn_skip 10 23 rfl rfl (by kernel_rfl) (by kernel_rfl) (by kernel_rfl) (by kernel_rfl) (fun _ _ _ h => h) (by rfl) (fun _ => by assumption) ?_
        try simp only [List.setIfInBounds_toArray, List.set_cons_zero, List.set_cons_succ]
        refine drawn_skip 11 24 rfl rfl (by kernel_rfl) (by kernel_rfl) (by kernel_rfl) (by kernel_rfl) (fun _ _ _ h => h) (by rfl) (fun _ => by assumption) ?_
        try simp only [List.setIfInBounds_toArray, List.set_cons_zero, List.set_cons_succ]
        refine drawn_skip 12 25 rfl rfl (by kernel_rfl) (by kernel_rfl) (by kernel_rfl) (by kernel_rfl) (fun _ _ _ h => h) (by rfl) (fun _ => by assumption) ?_
        try simp only [List.setIfInBounds_toArray, List.set_cons_zero, List.set_cons_succ]
        refine drawn_skip 13 26 rfl rfl (by kernel_rfl) (by kernel_rfl) (by kernel_rfl) (by kernel_rfl) (fun _ _ _ h => h) (by rfl) (fun _ => by assumption) ?_
        try simp only [List.setIfInBounds_toArray, List.set_cons_zero, List.set_cons_succ]
        refine drawn_skip 14 27 rfl rfl (by kernel_rfl) (by kernel_rfl) (by kernel_rfl) (by kernel_rfl) (fun _ _ _ h => h) (by rfl) (fun _ => by assumption) ?_
        try simp only [List.setIfInBounds_toArray, List.set_cons_zero, List.set_cons_succ]
        refine drawn_skip 15 28 rfl rfl (by kernel_rfl) (by kernel_rfl) (by kernel_rfl) (by kernel_rfl) (fun _ _ _ h => h) (by rfl) (fun _ => by assumption) ?_
        try simp only [List.setIfInBounds_toArray, List.set_cons_zero, List.set_cons_succ]
        refine drawn_skip 16 29 rfl rfl (by kernel_rfl) (by kernel_rfl) (by kernel_rfl) (by kernel_rfl) (fun _ _ _ h => h) (by rfl) (fun _ => by assumption) ?_
        try simp only [List.setIfInBounds_toArray, List.set_cons_zero, List.set_cons_succ]
        refine drawn_last1 17 30 (.bool true) rfl rfl (by kernel_rfl) (by kernel_rfl) (by rfl) (by intro w; go_simp) hS0 ?_
        try simp only [List.setIfInBounds_toArray, List.set_cons_zero, List.set_cons_succ]
        go_wp2
        go_ret
        exact ⟨by rw [HC.out]; rfl, HWR.out⟩
      · skip
        refine drawn_take 7 20 (.bool false) rfl rfl (by kernel_rfl) (by kernel_rfl) (by kernel_rfl) (by kernel_rfl) (fun _ _ _ h => h) (by rfl) (by assumption) (by intro w hSw; obtain ⟨q0, q1, q2⟩ := hSw; go_simp) ?_
        try simp only [List.setIfInBounds_toArray, List.set_cons_zero, List.set_cons_succ]
        refine drawn_take 8 21 (.bool false) rfl rfl (by kernel_rfl) (by kernel_rfl) (by kernel_rfl) (by kernel_rfl) (fun _ _ _ h => h) (by rfl) (by assumption) (by intro w hSw; obtain ⟨q0, q1, q2⟩ := hSw; go_simp) ?_
        try simp only [List.setIfInBounds_toArray, List.set_cons_zero, List.set_cons_succ]
        refine drawn_take 9 22 (fp18 g (off18 i)) rfl rfl (by kernel_rfl) (by kernel_rfl) (by kernel_rfl) (by kernel_rfl) (fun _ _ _ h => h) (by rfl) (by assumption) (by intro w hSw; obtain ⟨q0, q1, q2⟩ := hSw; go_simp) ?_
        try simp only [List.setIfInBounds_toArray, List.set_cons_zero, List.set_cons_succ]
        refine drawn_take 10 23 (fp18 g (off18 i)) rfl rfl (by kernel_rfl) (by kernel_rfl) (by kernel_rfl) (by kernel_rfl) (fun _ _ _ h => h) (by rfl) (by assumption) (by intro w hSw; obtain ⟨q0, q1, q2⟩ := hSw; go_simp) ?_
        try simp only [List.setIfInBounds_toArray, List.set_cons_zero, List.set_cons_succ]
        refine drawn_take 11 24 (.int .i64 n) rfl rfl (by kernel_rfl) (by kernel_rfl) (by kernel_rfl) (by kernel_rfl) (fun _ _ _ h => h) (by rfl) (by assumption) (by intro w hSw; obtain ⟨q0, q1, q2⟩ := hSw; go_simp) ?_
        try simp only [List.setIfInBounds_toArray, List.set_cons_zero, List.set_cons_succ]
        refine drawn_take 12 25 (.int .i64 (i : Int)) rfl rfl (by kernel_rfl) (by kernel_rfl) (by kernel_rfl) (by kernel_rfl) (fun _ _ _ h => h) (by rfl) (by assumption) (by intro w hSw; obtain ⟨q0, q1, q2⟩ := hSw; go_simp) ?_
        try simp only [List.setIfInBounds_toArray, List.set_cons_zero, List.set_cons_succ]
        refine drawn_take 13 26 (fp18 b (2 * i)) rfl rfl (by kernel_rfl) (by kernel_rfl) (by kernel_rfl) (by kernel_rfl) (fun _ _ _ h => h) (by rfl) (by assumption) (by intro w hSw; obtain ⟨q0, q1, q2⟩ := hSw; go_simp) ?_
        try simp only [List.setIfInBounds_toArray, List.set_cons_zero, List.set_cons_succ]
        refine drawn_take 14 27 (fp18 b (2 * i + 1)) rfl rfl (by kernel_rfl) (by kernel_rfl) (by kernel_rfl) (by kernel_rfl) (fun _ _ _ h => h) (by rfl) (by assumption) (by intro w hSw; obtain ⟨q0, q1, q2⟩ := hSw; go_simp) ?_
        try simp only [List.setIfInBounds_toArray, List.set_cons_zero, List.set_cons_succ]
        refine drawn_take 15 28 (.int .i64 hi2) rfl rfl (by kernel_rfl) (by kernel_rfl) (by kernel_rfl) (by kernel_rfl) (fun _ _ _ h => h) (by rfl) (by assumption) (by intro w hSw; obtain ⟨q0, q1, q2⟩ := hSw; go_simp) ?_
        try simp only [List.setIfInBounds_toArray, List.set_cons_zero, List.set_cons_succ]
        by_cases h2 : hi2 < n
        · have HC := Lib.hid (HBAD.out (by unfold in18; rw [decide_eq_false (show ¬ n ≤ hi2 by omega), Bool.and_false]))
          refine drawn_take 16 29 (.bool true) rfl rfl (by kernel_rfl) (by kernel_rfl) (by kernel_rfl) (by kernel_rfl) (fun _ _ _ h => h) (by rfl) (by assumption) (by intro w hSw; obtain ⟨q0, q1, q2⟩ := hSw; go_simp) ?_
          try simp only [List.setIfInBounds_toArray, List.set_cons_zero, List.set_cons_succ]
          refine drawn_last1 17 30 (.bool true) rfl rfl (by kernel_rfl) (by kernel_rfl) (by rfl) (by intro w; go_simp) hS0 ?_
          try simp only [List.setIfInBounds_toArray, List.set_cons_zero, List.set_cons_succ]
          go_wp2
          go_ret
          exact ⟨by rw [HC.out]; rfl, HWR.out⟩
        · have HN : Hid (okTo18 p (i + 1) = true) := by show _ = _; rw [HIN.out, HOK.out, in_iff18.2 ⟨by omega, by omega⟩]; rfl
          have HTD : Hid (Turn (fun _ => False) w3 wd) := HWD.out
          refine drawn_take 16 29 (.bool false) rfl rfl (by kernel_rfl) (by kernel_rfl) (by kernel_rfl) (by kernel_rfl) (fun _ _ _ h => h) (by rfl) (by assumption) (by intro w hSw; obtain ⟨q0, q1, q2⟩ := hSw; go_simp) ?_
          try simp only [List.setIfInBounds_toArray, List.set_cons_zero, List.set_cons_succ]
          refine drawn_last1 17 30 (.bool false) rfl rfl (by kernel_rfl) (by kernel_rfl) (by rfl) (by intro w; go_simp) hS0 ?_
          try simp only [List.setIfInBounds_toArray, List.set_cons_zero, List.set_cons_succ]
          go_wp2
          go_roundw
          case rel => exact ⟨i + 1, by go_num, hlt, HN.out, HTD.out⟩
          case measure => simp [intOf]; omega
    · obtain rfl : i = 9 := by omega
      have HCK := Lib.hid (chk_good18 HOK.out)
      go_wp2
      go_ret
      exact ⟨by rw [HCK.out]; rfl, HT3.out.trans HTR.out (fun _ _ f => f)⟩

end Go.Proofs.Ytmpgfipfijbbkaa

/-
  A reader of pack (the program's) by its state: the bytes that are left, the fault. For every stage whose code reads bytes so.
-/
namespace Go.Proofs.Ytmpgfipfijbbkaa
open Go.RowKit

theorem rdF_zero : ∀ (k i acc : Nat) (l : List UInt8), (rdF k i acc l).2.1 ≠ 0 → (rdF k i acc l).1 = 0
  | 0, _, _, _, _ => rfl
  | _ + 1, _, _, [], _ => rfl
  | k + 1, i, acc, b :: l, h => by
    unfold rdF at h ⊢
    split
    · rename_i hb
      rw [if_pos hb] at h
      exact rdF_zero k _ _ l h
    · rename_i hb
      rw [if_neg hb] at h
      split
      · rfl
      · rename_i hc
        rw [if_neg hc] at h
        exact absurd rfl h
theorem rdNum_zero {l : List UInt8} (h : (rdNum l).2.1 ≠ 0) : (rdNum l).1 = 0 := rdF_zero 10 0 0 l h
theorem rdCount_zero {most : Nat} {l : List UInt8} (h : (rdCount most l).2.1 ≠ 0) : (rdCount most l).1 = 0 := by
  unfold rdCount at h ⊢
  split
  · rfl
  · rename_i h1
    split
    · rfl
    · rename_i h2
      rw [if_neg h1, if_neg h2] at h
      exact absurd rfl h
theorem rdText_zero {most : Nat} {l : List UInt8} (h : (rdText most l).2.1 ≠ 0) : (rdText most l).1 = [] := by
  unfold rdText at h ⊢
  generalize rdCount most l = r at *
  obtain ⟨n, f, m⟩ := r
  simp only at h ⊢
  split
  · rfl
  · rename_i h1
    split
    · rfl
    · rename_i h2
      rw [if_neg h1, if_neg h2] at h
      exact absurd rfl h

/-- What is read in a state, and the state behind it. -/
def gNum (s : List UInt8 × Nat) : Nat := if s.2 = 0 then (rdNum s.1).1 else 0
def gNum' (s : List UInt8 × Nat) : List UInt8 × Nat := if s.2 = 0 then (s.1.drop (rdNum s.1).2.2, (rdNum s.1).2.1) else s
def gInt (s : List UInt8 × Nat) : Int := if s.2 = 0 then zag (rdNum s.1).1 else 0
def gText (most : Nat) (s : List UInt8 × Nat) : List UInt8 := if s.2 = 0 then (rdText most s.1).1 else []
def gText' (most : Nat) (s : List UInt8 × Nat) : List UInt8 × Nat := if s.2 = 0 then (s.1.drop (rdText most s.1).2.2, (rdText most s.1).2.1) else s
def gCount (most : Nat) (s : List UInt8 × Nat) : Nat := if s.2 = 0 then (rdCount most s.1).1 else 0
def gCount' (most : Nat) (s : List UInt8 × Nat) : List UInt8 × Nat := if s.2 = 0 then (s.1.drop (rdCount most s.1).2.2, (rdCount most s.1).2.1) else s

section
variable {w wr : World} {p : Nat} {s : List UInt8 × Nat}
end

end Go.Proofs.Ytmpgfipfijbbkaa

/-
  Stage 9: the document's Read.
-/
namespace Go.Proofs.Ytmpgfipfijbbkaa
open Go.RowKit

set_option maxRecDepth 100000

/-- The texts that are read into a key; a fact; all facts. -/
def textsK (k0 : K9) (s : RS9) : Nat → K9 × RS9
  | 0 => (k0, s)
  | i + 1 => ((textsK k0 s i).1.put i (sText (textsK k0 s i).2), sText' (textsK k0 s i).2)
def oneF (n h : Nat) (s : RS9) : F9 × RS9 := (⟨(textsK ⟨h, [], [], [], []⟩ s n).1, sInt (textsK ⟨h, [], [], [], []⟩ s n).2⟩, sNum' (textsK ⟨h, [], [], [], []⟩ s n).2)
def readR (n : Nat) : Nat → RS9 → List F9 → Int × List F9
  | 0, s, out => if s.2 ≠ 0 then ((s.2 : Int), []) else if 0 < s.1.length then (4, []) else if (allB out n).1 ≠ 0 then ((allB out n).1, []) else (0, out)
  | i + 1, s, out => if 16777216 < sNum s then (2, []) else if (oneF n (sNum s) (sNum' s)).2.2 ≠ 0 then (((oneF n (sNum s) (sNum' s)).2.2 : Int), []) else readR n i (oneF n (sNum s) (sNum' s)).2 (out ++ [(oneF n (sNum s) (sNum' s)).1])
def readB (m : List UInt8) (n : Int) : Int × List F9 := if okDims n then readR n.toNat (sCount (m, 0)) (sCount' (m, 0)) [] else (1, [])
/-- Behind Read: the facts, or none. -/
def Readed (w : World) (m : List UInt8) (n : Int) (e : Ending) (w' : World) : Prop := ∃ v, e = .returned (.tuple #[v, .int .i64 (readB m n).1]) ∧ RdE EF w' v (readB m n).2 ∧ Turn (fun _ => False) w w'
/-- .. where they lie in memory that is new. -/
def ReadedN (w : World) (m : List UInt8) (n : Int) (e : Ending) (w' : World) : Prop := ∃ v, e = .returned (.tuple #[v, .int .i64 (readB m n).1]) ∧ RdE EF w' v (readB m n).2 ∧ Turn (fun _ => False) w w' ∧ ∀ k, v.ownBlock = some k → w.heap.size ≤ k
theorem ReadedN.old {w : World} {m : List UInt8} {n : Int} {e : Ending} {w' : World} (h : ReadedN w m n e w') : Readed w m n e w' := by
  obtain ⟨v, h1, h2, h3, _⟩ := h
  exact ⟨v, h1, h2, h3⟩

/-- A fact's cells, in the block that a round has made. -/
abbrev cells9 (k : K9) (v : Int) : Array Value := #[.int .i64 k.h, sv9 k.a, sv9 k.b, sv9 k.c, sv9 k.d, .int .i64 v]
section
variable {w W W2 : World} {q B b : Nat} {x8 : Value} {out : List F9} {k : K9} {v : Int} {s s2 : RS9}
theorem put_cells9 (k : K9) (v : Int) {i : Nat} (hi : i < 4) (t : List UInt8) : (cells9 k v).setIfInBounds (1 + i) (sv9 t) = cells9 (k.put i t) v := by
  match i, hi with
  | 0, _ => rfl
  | 1, _ => rfl
  | 2, _ => rfl
  | 3, _ => rfl
end

end Go.Proofs.Ytmpgfipfijbbkaa
