/-
  Texts laid one behind the other: R2t R2u R2v R2o.
-/
import Derived.Test.YtkkgipieahhmbaaJocag
import Derived.Test.YtkkgipieahhmbaaJocaf
import Derived.Test.YtkkgipieahhmbaaJocae
import Derived.Laws.ResultCell
import Derived.Deep.Strs

/-
  Stage 18: the program's Encode.
-/
namespace Go.Proofs.Ytkkgipieahhmbaa
open Go.RowKit

set_option maxRecDepth 100000

theorem rec_out18 {w w' : World} {r : List UInt8 × Int} {v : Value} {l : List UInt8} {c : Int} (h : r = (l, c)) (hv : Rd w' v l) (ht : Turn (fun _ => False) w w') : RecP18 w r (.returned (.tuple #[v, .int .i64 c])) w' := by
  subst h
  exact ⟨v, rfl, hv, ht⟩
theorem num_nth18 {p : Y18} {i : Nat} (h : i < 9) : (numsY p)[i]? = some (num18 p i) := by
  have hl : (numsY p).length = 9 := rfl
  unfold num18
  rw [List.getD_eq_getElem?_getD, List.getElem?_eq_getElem (by omega)]
  rfl

set_option maxHeartbeats 8000000 in
theorem encode_any18 (p : Y18) (w : World) : Calls Try.prog 7 #[yv18 p] w fun e w' => RecP18 w (encY p) e w' := by
  obtain ⟨wb, hwb⟩ : ∃ wb, wb = w.alloc (.cells (ycells18 p) 23) := ⟨_, rfl⟩
  have HTB : Hid (Turn (fun _ => False) w wb) := by rw [hwb]; exact (Turn.refl _ w).alloc _
  have HBX : Hid (Box wb w.heap.size 23 (ycells18 p)) := by rw [hwb]; exact Box.new w _ _
  obtain ⟨z0, z1, z2, z3, z4, z5, z6, z7, z8⟩ := box_y18 (Box.new w 23 (ycells18 p))
  have HCK := Lib.hid (check_any18 p wb)
  have HWB := Lib.hid hwb
  clear hwb
  cases ho : okY p with
  | false =>
    have HE : Hid (encY p = ([], 2)) := by show _ = _; unfold encY; rw [ho]; rfl
    have HX : Hid (chkY p = 2) := by show _ = _; unfold chkY; rw [ho]; rfl
    rw [HX.out] at HCK
    clear ho
    go_enter Try.func7, Try.ntmps7
    go_wp2_with fail
    rw [← HWB.out]
    refine HCK.out.mono ?_
    rintro e w1 ⟨rfl, t1⟩
    have HT1 := Lib.hid (HTB.out.trans t1 (fun _ _ f => f))
    clear t1 HCK z0 z1 z2 z3 z4 z5 z6 z7 z8
    go_wp2
    go_ret2
    exact rec_out18 HE.out (By.nil _).rd HT1.out
  | true =>
    have HE : Hid (encY p = (formY p, 0)) := by show _ = _; unfold encY; rw [ho]; rfl
    have HX : Hid (chkY p = 0) := by show _ = _; unfold chkY; rw [ho]; rfl
    have HNN := Lib.hid (nums_nat18 (ok_iff18.1 ho))
    rw [HX.out] at HCK
    clear ho
    go_enter Try.func7, Try.ntmps7
    go_wp2_with fail
    rw [← HWB.out]
    refine HCK.out.mono ?_
    rintro e w1 ⟨rfl, t1⟩
    have HT1 := Lib.hid (HTB.out.trans t1 (fun _ _ f => f))
    obtain ⟨y0, y1, y2, y3, y4, y5, y6, y7, y8⟩ := box_y18 ((HBX.out.turn t1 (fun f => f)).alloc (.cells #[.slice none 0 0] 49))
    obtain ⟨k, hk⟩ : ∃ k, k = w1.heap.size := ⟨_, rfl⟩
    obtain ⟨w2, hw2⟩ : ∃ w2, w2 = w1.alloc (.cells #[.slice none 0 0] 49) := ⟨_, rfl⟩
    have HWT : Hid (Wt w k w2 []) := by rw [hw2, hk]; exact Wt.new w HT1.out
    have HW2 := Lib.hid hw2; have HK := Lib.hid hk
    clear t1 HCK z0 z1 z2 z3 z4 z5 z6 z7 z8 hw2 hk
    go_wp2_with fail
    rw [← HW2.out, ← HK.out]
    refine (widen_any18 p w2).mono ?_
    rintro e w3 ⟨g, rfl, hb, t3, hg3⟩
    have HB3 := Lib.hid hb; have HWT3 := Lib.hid (HWT.out.later t3)
    clear hb t3 HWT y0 y1 y2 y3 y4 y5 y6 y7 y8 HW2 HK
    go_wp2_with fail
    refine (fields_any18 g w3).mono ?_
    rintro e w4 ⟨rfl, t4⟩
    have HB4 : Hid (Box w4 g 67 (wcells18 p p.qu)) := HB3.out.turn t4 (fun f => f)
    have HWT4 := Lib.hid (HWT3.out.later t4)
    clear t4 HB3 HWT3
    go_wp2_with fail
    go_loopw [18] (fun x18 wr => ∃ i : Nat, x18 = .int .i64 (i : Int) ∧ i ≤ 9 ∧ Wt w k wr (formTo18 p i) ∧ Box wr g 67 (wcells18 p p.qu)) (fun x18 _ => 9 - (intOf x18).toNat)
    case atStart => exact ⟨0, rfl, Nat.zero_le _, HWT4.out, HB4.out⟩
    case round =>
      clear HWT4 HB4
      obtain ⟨i, rfl, hi, hwt, hbx⟩ := hrel
      have HW := Lib.hid hwt; have HB := Lib.hid hbx
      clear hwt hbx
      by_cases hlt : i < 9
      · have hil : (i : Int) < 9 := by omega
        have hpt := run_ptr18 g hlt
        have a0 := wide_at18 HB.out hlt
        have hnth := num_nth18 (p := p) hlt
        obtain ⟨N, hN⟩ := Int.eq_ofNat_of_zero_le (HNN.out _ (List.mem_of_getElem? hnth)).1
        have hNb := (HNN.out _ (List.mem_of_getElem? hnth)).2
        rw [hN] at hNb a0 hnth
        have hwr : IntKind.u64.wrap (N : Int) = (N : Int) := by rw [IntKind.wrap_u64]; omega
        have HNX : Hid (formTo18 p (i + 1) = formTo18 p i ++ enc N) := by show _ = _; rw [form_next18 hnth, Int.toNat_natCast]
        have HN1 : Hid (N < 18446744073709551616) := by show _ < _; omega
        have HLE : Hid ((formTo18 p i).length ≤ 1000000) := by show _ ≤ _; have := form_len18 p i; omega
        clear hN hnth
        go_wp2_with fail
        refine (wt_num HW.out N HN1 HLE.out).mono ?_
        rintro e w5 ⟨rfl, h5, k5⟩
        have HB5 : Hid (Box w5 g 67 (wcells18 p p.qu)) := k5 _ _ _ (by decide) (by decide) HB.out
        have HW5 : Hid (Wt w k w5 (formTo18 p (i + 1))) := by show Wt _ _ _ _; rw [HNX.out]; exact h5
        clear h5 k5 a0 hpt
        go_wp2
        go_roundw
        case rel => exact ⟨i + 1, by go_num, hlt, HW5.out, HB5.out⟩
        case measure => simp [intOf]; omega
      · obtain rfl : i = 9 := by omega
        have HLE : Hid ((formTo18 p 9).length ≤ 1000000) := by show _ ≤ _; have := form_len18 p 9; omega
        go_wp2_with fail
        refine (wt_bytes HW.out HLE.out).mono ?_
        rintro e w6 ⟨v, rfl, hm⟩
        obtain ⟨A, c, rfl⟩ := hm.1.shape
        have HM := Lib.hid hm
        clear hm
        go_wp2
        go_ret2
        have hm := HM.out
        rw [form_all18] at hm
        exact rec_out18 HE.out hm.rd hm.2.1

end Go.Proofs.Ytkkgipieahhmbaa

/-
  Stage 18: the program's Read.
-/
namespace Go.Proofs.Ytkkgipieahhmbaa
open Go.RowKit

set_option maxRecDepth 100000

def wc18 (s : RS9) (i k : Nat) : Int := if k < i then IntKind.i64.wrap (numAt18 s k : Int) else 0
/-- The fields behind so many numbers. -/
def pw18 (s : RS9) (i : Nat) : Y18 := ⟨wc18 s i 0, wc18 s i 1, wc18 s i 2, wc18 s i 3, wc18 s i 4, wc18 s i 5, wc18 s i 6, wc18 s i 7, wc18 s i 8⟩
theorem wc_ne18 (s : RS9) {i k : Nat} (h : k ≠ i) : wc18 s (i + 1) k = wc18 s i k := by
  unfold wc18
  by_cases h1 : k < i
  · rw [if_pos h1, if_pos (by omega)]
  · rw [if_neg h1, if_neg (by omega)]
theorem wc_eq18 (s : RS9) (i : Nat) : wc18 s (i + 1) i = IntKind.i64.wrap (numAt18 s i : Int) := if_pos (by omega)
theorem pw_next18 (s : RS9) {i : Nat} (h : i < 9) : (wcells18 (pw18 s i) 0).setIfInBounds (off18 i) (.int .i64 (IntKind.i64.wrap (numAt18 s i : Int))) = wcells18 (pw18 s (i + 1)) 0 := by
  match i, h with
  | 0, _ => unfold wcells18 pw18; dsimp only; rw [wc_eq18 s 0, wc_ne18 s (show 1 ≠ 0 by decide), wc_ne18 s (show 2 ≠ 0 by decide), wc_ne18 s (show 3 ≠ 0 by decide), wc_ne18 s (show 4 ≠ 0 by decide), wc_ne18 s (show 5 ≠ 0 by decide), wc_ne18 s (show 6 ≠ 0 by decide), wc_ne18 s (show 7 ≠ 0 by decide), wc_ne18 s (show 8 ≠ 0 by decide)]; rfl
  | 1, _ => unfold wcells18 pw18; dsimp only; rw [wc_eq18 s 1, wc_ne18 s (show 0 ≠ 1 by decide), wc_ne18 s (show 2 ≠ 1 by decide), wc_ne18 s (show 3 ≠ 1 by decide), wc_ne18 s (show 4 ≠ 1 by decide), wc_ne18 s (show 5 ≠ 1 by decide), wc_ne18 s (show 6 ≠ 1 by decide), wc_ne18 s (show 7 ≠ 1 by decide), wc_ne18 s (show 8 ≠ 1 by decide)]; rfl
  | 2, _ => unfold wcells18 pw18; dsimp only; rw [wc_eq18 s 2, wc_ne18 s (show 0 ≠ 2 by decide), wc_ne18 s (show 1 ≠ 2 by decide), wc_ne18 s (show 3 ≠ 2 by decide), wc_ne18 s (show 4 ≠ 2 by decide), wc_ne18 s (show 5 ≠ 2 by decide), wc_ne18 s (show 6 ≠ 2 by decide), wc_ne18 s (show 7 ≠ 2 by decide), wc_ne18 s (show 8 ≠ 2 by decide)]; rfl
  | 3, _ => unfold wcells18 pw18; dsimp only; rw [wc_eq18 s 3, wc_ne18 s (show 0 ≠ 3 by decide), wc_ne18 s (show 1 ≠ 3 by decide), wc_ne18 s (show 2 ≠ 3 by decide), wc_ne18 s (show 4 ≠ 3 by decide), wc_ne18 s (show 5 ≠ 3 by decide), wc_ne18 s (show 6 ≠ 3 by decide), wc_ne18 s (show 7 ≠ 3 by decide), wc_ne18 s (show 8 ≠ 3 by decide)]; rfl
  | 4, _ => unfold wcells18 pw18; dsimp only; rw [wc_eq18 s 4, wc_ne18 s (show 0 ≠ 4 by decide), wc_ne18 s (show 1 ≠ 4 by decide), wc_ne18 s (show 2 ≠ 4 by decide), wc_ne18 s (show 3 ≠ 4 by decide), wc_ne18 s (show 5 ≠ 4 by decide), wc_ne18 s (show 6 ≠ 4 by decide), wc_ne18 s (show 7 ≠ 4 by decide), wc_ne18 s (show 8 ≠ 4 by decide)]; rfl
  | 5, _ => unfold wcells18 pw18; dsimp only; rw [wc_eq18 s 5, wc_ne18 s (show 0 ≠ 5 by decide), wc_ne18 s (show 1 ≠ 5 by decide), wc_ne18 s (show 2 ≠ 5 by decide), wc_ne18 s (show 3 ≠ 5 by decide), wc_ne18 s (show 4 ≠ 5 by decide), wc_ne18 s (show 6 ≠ 5 by decide), wc_ne18 s (show 7 ≠ 5 by decide), wc_ne18 s (show 8 ≠ 5 by decide)]; rfl
  | 6, _ => unfold wcells18 pw18; dsimp only; rw [wc_eq18 s 6, wc_ne18 s (show 0 ≠ 6 by decide), wc_ne18 s (show 1 ≠ 6 by decide), wc_ne18 s (show 2 ≠ 6 by decide), wc_ne18 s (show 3 ≠ 6 by decide), wc_ne18 s (show 4 ≠ 6 by decide), wc_ne18 s (show 5 ≠ 6 by decide), wc_ne18 s (show 7 ≠ 6 by decide), wc_ne18 s (show 8 ≠ 6 by decide)]; rfl
  | 7, _ => unfold wcells18 pw18; dsimp only; rw [wc_eq18 s 7, wc_ne18 s (show 0 ≠ 7 by decide), wc_ne18 s (show 1 ≠ 7 by decide), wc_ne18 s (show 2 ≠ 7 by decide), wc_ne18 s (show 3 ≠ 7 by decide), wc_ne18 s (show 4 ≠ 7 by decide), wc_ne18 s (show 5 ≠ 7 by decide), wc_ne18 s (show 6 ≠ 7 by decide), wc_ne18 s (show 8 ≠ 7 by decide)]; rfl
  | 8, _ => unfold wcells18 pw18; dsimp only; rw [wc_eq18 s 8, wc_ne18 s (show 0 ≠ 8 by decide), wc_ne18 s (show 1 ≠ 8 by decide), wc_ne18 s (show 2 ≠ 8 by decide), wc_ne18 s (show 3 ≠ 8 by decide), wc_ne18 s (show 4 ≠ 8 by decide), wc_ne18 s (show 5 ≠ 8 by decide), wc_ne18 s (show 6 ≠ 8 by decide), wc_ne18 s (show 7 ≠ 8 by decide)]; rfl
theorem pw_none18 (s : RS9) : pw18 s 0 = zeroY := rfl
theorem pw_all18 {s : RS9} (h : great18 s 9 = false) : pw18 s 9 = polY s := by
  have key : ∀ k, k < 9 → wc18 s 9 k = (numAt18 s k : Int) := fun k hk => by
    unfold wc18
    rw [if_pos hk]
    have := great_not18 h hk
    exact IntWalk.i64_in _ (by omega)
  unfold pw18 polY
  rw [key 0 (by decide), key 1 (by decide), key 2 (by decide), key 3 (by decide), key 4 (by decide), key 5 (by decide), key 6 (by decide), key 7 (by decide), key 8 (by decide)]
theorem off_lt18 {i : Nat} (h : i < 9) : off18 i < 10 := by unfold off18; split <;> omega

/-- What Read keeps: its result's box, its wide policy, the reader. -/
structure IP18 (w w0 : World) (p r g : Nat) (s : RS9) (i : Nat) (W : World) : Prop where
  res : Box W r 23 (ycells18 zeroY)
  arr : Box W g 67 (wcells18 (pw18 s i) 0)
  pr : PR w p W (iter18 i s)
  turn : Turn (fun k => k = p) w0 W
  nr : w0.heap.size ≤ r
  ng : w0.heap.size ≤ g
  nw : w.heap.size ≤ w0.heap.size
  ne : r ≠ g
  hp : p < w0.heap.size
section
variable {w w0 W W2 : World} {p r g i : Nat} {s : RS9}
theorem IP18.later (h : IP18 w w0 p r g s i W) (ht : Turn (fun _ => False) W W2) : IP18 w w0 p r g s i W2 :=
  ⟨h.res.turn ht (fun f => f), h.arr.turn ht (fun f => f), h.pr.later ht, h.turn.trans ht (fun _ _ f => f.elim), h.nr, h.ng, h.nw, h.ne, h.hp⟩
/-- One more number read and stored. -/
theorem IP18.next (h : IP18 w w0 p r g s i W) (hi : i < 9) (hx : PR w p W2 (gNum' (iter18 i s))) (ht : Turn (fun k => k = p) W W2) : IP18 w w0 p r g s (i + 1) (W2.setCell ⟨g, off18 i, none⟩ (.int .i64 (IntKind.i64.wrap (numAt18 s i : Int)))) := by
  have hs : Turn (fun k => k = g) W2 (W2.setCell ⟨g, off18 i, none⟩ (.int .i64 (IntKind.i64.wrap (numAt18 s i : Int)))) := Turn.setCell (S := fun k => k = g) (p := ⟨g, off18 i, none⟩) (Turn.refl _ W2) (fun _ => rfl) _
  have hpn := h.hp; have hn := h.ng; have hr := h.nr; have hw := h.nw
  have hb2 := h.arr.turn ht (fun e => by omega)
  have hb := hb2.set (off18 i) (.int .i64 (IntKind.i64.wrap (numAt18 s i : Int)))
  rw [pw_next18 s hi] at hb
  exact ⟨(h.res.turn ht (fun e => by omega)).turn hs h.ne, hb, hx.keep hs (fun k e => by omega) (fun k e => ⟨67, wcells18 (pw18 s i) 0, by decide, by decide, by rw [e]; exact hb2⟩), (h.turn.trans ht (fun _ _ e => e)).trans hs (fun k hk e => by omega), h.nr, h.ng, h.nw, h.ne, h.hp⟩
/-- The result stored. -/
theorem IP18.out (h : IP18 w w0 p r g s i W) (c : Y18) : Box (W.setCells r 0 (ycells18 c).toList) r 23 (ycells18 c) ∧ PR w p (W.setCells r 0 (ycells18 c).toList) (iter18 i s) ∧ Turn (fun k => k = p) w0 (W.setCells r 0 (ycells18 c).toList) := by
  have hs : Turn (fun k => k = r) W (W.setCells r 0 (ycells18 c).toList) := turn_setCells (S := fun k => k = r) rfl _ _ _
  have hpn := h.hp; have hr := h.nr; have hw := h.nw
  exact ⟨h.res.all _ rfl, h.pr.keep hs (fun k e => by omega) (fun k e => ⟨23, ycells18 zeroY, by decide, by decide, by rw [e]; exact h.res⟩), h.turn.trans hs (fun k hk e => by omega)⟩
end
/-- Behind Read. -/
def ReadP18 (w w0 : World) (p : Nat) (s : RS9) (e : Ending) (w' : World) : Prop := e = .returned (.tuple #[yv18 (readY s).1, .int .i64 (readY s).2]) ∧ PR w p w' (iter18 9 s) ∧ Turn (fun g => g = p) w0 w'
theorem readp_out18 {w w0 w' : World} {p : Nat} {s : RS9} {y : Y18} {c : Int} (h : readY s = (y, c)) (hx : PR w p w' (iter18 9 s)) (ht : Turn (fun g => g = p) w0 w') : ReadP18 w w0 p s (.returned (.tuple #[yv18 y, .int .i64 c])) w' := ⟨by rw [h], hx, ht⟩

set_option maxHeartbeats 4000000 in
theorem readnil_any18 (w : World) : Calls Try.prog 14 #[.pointer none] w fun e w' => e = .returned (.tuple #[yv18 zeroY, .int .i64 1]) ∧ Turn (fun _ => False) w w' := by
  go_enter Try.func14, Try.ntmps14
  go_wp2_with fail
  refine bodyPost_ret (v := .tuple #[yv18 zeroY, .int .i64 1]) ?_ rfl ⟨rfl, (Turn.refl _ w).alloc _⟩
  rw [results_cell_tmp rfl]
  unfold zeroY yv18 ycells18
  dsimp only
  go_simp

set_option maxHeartbeats 16000000 in
theorem read_any18 (s : RS9) (p : Nat) (w w0 : World) (hx : PR w p w0 s) : Calls Try.prog 14 #[.pointer (some ⟨p, 0, none⟩)] w0 fun e w' => ReadP18 w w0 p s e w' := by
  obtain ⟨r, hr⟩ : ∃ r, r = w0.heap.size := ⟨_, rfl⟩
  obtain ⟨g, hg⟩ : ∃ g, g = w0.heap.size + 1 := ⟨_, rfl⟩
  obtain ⟨wb, hwb⟩ : ∃ wb, wb = (w0.alloc (.cells (ycells18 zeroY) 23)).alloc (.cells (wcells18 zeroY 0) 67) := ⟨_, rfl⟩
  have HI0 : Hid (IP18 w w0 p r g s 0 wb) := by
    have h1 := (Box.new w0 23 (ycells18 zeroY)).alloc (.cells (wcells18 zeroY 0) 67)
    have h2 := Box.new (w0.alloc (.cells (ycells18 zeroY) 23)) 67 (wcells18 zeroY 0)
    rw [World.size_alloc] at h2
    have ht : Turn (fun _ => False) w0 wb := by rw [hwb]; exact ((Turn.refl _ w0).alloc _).alloc _
    obtain ⟨cs, hbp⟩ := hx.box
    rw [← hwb] at h1 h2
    rw [← hr] at h1
    rw [← hg] at h2
    rw [← pw_none18 s] at h2
    exact ⟨h1, h2, hx.later ht, ht.mono (fun _ _ f => f.elim), by omega, by omega, hx.turn.size, by omega, hbp.lt⟩
  have HWB := Lib.hid hwb
  have HR := Lib.hid hr; have HG := Lib.hid hg
  clear hwb hx hr hg
  go_enter Try.func14, Try.ntmps14
  go_wp2_with fail
  have hwe := HWB.out
  unfold zeroY ycells18 wcells18 at hwe
  dsimp only at hwe
  rw [← hwe, ← HG.out]
  refine (fields_any18 g wb).mono ?_
  rintro e w1 ⟨rfl, t1⟩
  have HI1 := Lib.hid (HI0.out.later t1)
  clear t1 HI0 hwe HWB
  rw [← HR.out]
  clear HG HR
  go_wp2_with fail
  go_loopw [5, 15] (fun x5 x15 wr => ∃ i : Nat, x15 = .int .i64 (i : Int) ∧ i ≤ 9 ∧ x5 = .bool (great18 s i) ∧ IP18 w w0 p r g s i wr) (fun _ x15 _ => 9 - (intOf x15).toNat)
  case atStart => exact ⟨0, rfl, Nat.zero_le _, rfl, HI1.out⟩
  case round =>
    clear HI1
    obtain ⟨i, rfl, hi, rfl, hin⟩ := hrel
    have HI := Lib.hid hin
    clear hin
    by_cases hlt : i < 9
    · have hil : (i : Int) < 9 := by omega
      have hpt := run_ptr18 g hlt
      go_wp2_with fail
      refine (pr_num HI.out.pr).mono ?_
      rintro e w2 ⟨rfl, h2, t2⟩
      have HN := Lib.hid (HI.out.next hlt h2 t2)
      have hpn := HI.out.hp; have hna := HI.out.ng
      have hb2 := HI.out.arr.turn t2 (fun e => by omega)
      have e1 : ∃ x, w2.cell? ⟨g, off18 i, none⟩ = some x := ⟨_, wide_at18 hb2 hlt⟩
      obtain ⟨x1, e1⟩ := e1
      have f1 := hb2.free (off18 i)
      have HG : Hid (great18 s (i + 1) = (great18 s i || decide (4611686018427387904 < numAt18 s i))) := rfl
      have HNA : Hid (gNum (iter18 i s) = numAt18 s i) := rfl
      rw [HNA.out]
      generalize numAt18 s i = n at *
      clear h2 t2 hb2 HNA
      generalize hv : IntKind.i64.wrap (n : Int) = v at *
      obtain ⟨w3, hw3⟩ : ∃ w3, w3 = w2.setCell ⟨g, off18 i, none⟩ (.int .i64 v) := ⟨_, rfl⟩
      rw [← hw3] at HN
      have HW3 := Lib.hid hw3
      clear hw3 hpt
      generalize great18 s i = q at *
      cases q with
      | true =>
        have HG2 : Hid (great18 s (i + 1) = true) := by show _ = _; rw [HG.out]; rfl
        go_wp2_with fail
        go_roundw
        case rel => exact ⟨i + 1, by go_num, hlt, by rw [HG2.out], by rw [← HW3.out]; exact HN.out⟩
        case measure => simp [intOf]; omega
      | false =>
        by_cases hgn : 4611686018427387904 < n
        · have HG2 : Hid (great18 s (i + 1) = true) := by show _ = _; rw [HG.out, decide_eq_true hgn]; rfl
          have hgi : (4611686018427387904 : Int) < n := by omega
          go_wp2_with fail
          go_roundw
          case rel => exact ⟨i + 1, by go_num, hlt, by first | (rw [HG2.out]; done) | (rw [HG2.out]; first | rfl | (simp; omega)), by rw [← HW3.out]; exact HN.out⟩
          case measure => simp [intOf]; omega
        · have HG2 : Hid (great18 s (i + 1) = false) := by show _ = _; rw [HG.out, decide_eq_false hgn]; rfl
          have hgi : ¬ (4611686018427387904 : Int) < n := by omega
          go_wp2_with fail
          go_roundw
          case rel => exact ⟨i + 1, by go_num, hlt, by first | (rw [HG2.out]; done) | (rw [HG2.out]; first | rfl | (simp; omega)), by rw [← HW3.out]; exact HN.out⟩
          case measure => simp [intOf]; omega
    · obtain rfl : i = 9 := by omega
      have HSPEC : Hid (True → readY s = if (iter18 9 s).2 ≠ 0 then (zeroY, ((iter18 9 s).2 : Int)) else if great18 s 9 = true then (zeroY, 2) else if chkY (polY s) ≠ 0 then (zeroY, chkY (polY s)) else (polY s, 0)) := fun _ => rfl
      have HOUT0 := Lib.hid (HI.out.out zeroY)
      have HFT := Lib.hid (pr_fault HI.out.pr)
      have d0 : wr.cell? ⟨r, 0, none⟩ = some (.int .i64 0) := (HI.out.res).cell 0
      have d1 : wr.cell? ⟨r, 1, none⟩ = some (.int .i64 0) := (HI.out.res).cell 1
      have d2 : wr.cell? ⟨r, 2, none⟩ = some (.int .i64 0) := (HI.out.res).cell 2
      have d3 : wr.cell? ⟨r, 3, none⟩ = some (.int .i64 0) := (HI.out.res).cell 3
      have d4 : wr.cell? ⟨r, 4, none⟩ = some (.int .i64 0) := (HI.out.res).cell 4
      have d5 : wr.cell? ⟨r, 5, none⟩ = some (.int .i64 0) := (HI.out.res).cell 5
      have d6 : wr.cell? ⟨r, 6, none⟩ = some (.int .i64 0) := (HI.out.res).cell 6
      have d7 : wr.cell? ⟨r, 7, none⟩ = some (.int .i64 0) := (HI.out.res).cell 7
      have d8 : wr.cell? ⟨r, 8, none⟩ = some (.int .i64 0) := (HI.out.res).cell 8
      have z0 := (HI.out.res).free 0
      have z1 := (HI.out.res).free 1
      have z2 := (HI.out.res).free 2
      have z3 := (HI.out.res).free 3
      have z4 := (HI.out.res).free 4
      have z5 := (HI.out.res).free 5
      have z6 := (HI.out.res).free 6
      have z7 := (HI.out.res).free 7
      have z8 := (HI.out.res).free 8
      by_cases hf : (iter18 9 s).2 = 0
      · rw [hf] at HFT
        by_cases hg : great18 s 9 = true
        · have HND : Hid (True → readY s = (zeroY, 2)) := fun _ => by rw [HSPEC.out trivial, if_neg (by simp [hf]), if_pos hg]
          rw [hg]
          clear hf hg HSPEC
          go_wp2_with fail
          refine HFT.out.mono ?_
          rintro e w2 ⟨rfl, rfl⟩
          clear HFT
          go_wp2_with fail
          refine bodyPost_ret (v := .tuple #[(.agg #[.int .i64 0, .int .i64 0, .int .i64 0, .int .i64 0, .int .i64 0, .int .i64 0, .int .i64 0, .int .i64 0, .int .i64 0]), .int .i64 2]) ?_ rfl (readp_out18 (HND.out trivial) HOUT0.out.2.1 HOUT0.out.2.2)
          rw [results_cell_tmp rfl]
          go_simp
        · have hgf : great18 s 9 = false := by cases h : great18 s 9 with
            | true => exact absurd h hg
            | false => rfl
          have HSP2 : Hid (True → readY s = if chkY (polY s) ≠ 0 then (zeroY, chkY (polY s)) else (polY s, 0)) := fun _ => by rw [HSPEC.out trivial, if_neg (by simp [hf]), if_neg hg]
          have HAR : Hid (Box wr g 67 (wcells18 (polY s) 0)) := by
            have h := HI.out.arr
            rw [pw_all18 hgf] at h
            exact h
          rw [hgf]
          clear hf hg hgf HSPEC HOUT0 d0 d1 d2 d3 d4 d5 d6 d7 d8 z0 z1 z2 z3 z4 z5 z6 z7 z8
          generalize polY s = P at *
          go_wp2_with fail
          refine HFT.out.mono ?_
          rintro e w2 ⟨rfl, rfl⟩
          clear HFT
          go_wp2_with fail
          refine (wcheck_any18 P 0 g wr HAR.out).mono ?_
          rintro e w6 ⟨rfl, t6⟩
          have HI6 := Lib.hid (HI.out.later t6)
          have HAR6 : Hid (Box w6 g 67 (wcells18 P 0)) := HAR.out.turn t6 (fun f => f)
          clear t6 HAR HI
          by_cases hc : chkY P = 0
          · have HND := Lib.hid (fun _ : True => (HSP2.out trivial).trans (if_neg (by simp [hc])))
            rw [hc]
            clear HSP2 hc
            go_wp2_with fail
            refine (narrow_any18 P 0 g w6 HAR6.out).mono ?_
            rintro e w7 ⟨rfl, t7⟩
            have HI7 := Lib.hid (HI6.out.later t7)
            clear t7 HI6 HAR6
            have HOUT := Lib.hid (HI7.out.out P)
            have d0 : w7.cell? ⟨r, 0, none⟩ = some (.int .i64 0) := (HI7.out.res).cell 0
            have d1 : w7.cell? ⟨r, 1, none⟩ = some (.int .i64 0) := (HI7.out.res).cell 1
            have d2 : w7.cell? ⟨r, 2, none⟩ = some (.int .i64 0) := (HI7.out.res).cell 2
            have d3 : w7.cell? ⟨r, 3, none⟩ = some (.int .i64 0) := (HI7.out.res).cell 3
            have d4 : w7.cell? ⟨r, 4, none⟩ = some (.int .i64 0) := (HI7.out.res).cell 4
            have d5 : w7.cell? ⟨r, 5, none⟩ = some (.int .i64 0) := (HI7.out.res).cell 5
            have d6 : w7.cell? ⟨r, 6, none⟩ = some (.int .i64 0) := (HI7.out.res).cell 6
            have d7 : w7.cell? ⟨r, 7, none⟩ = some (.int .i64 0) := (HI7.out.res).cell 7
            have d8 : w7.cell? ⟨r, 8, none⟩ = some (.int .i64 0) := (HI7.out.res).cell 8
            have z0 := (HI7.out.res).free 0
            have z1 := (HI7.out.res).free 1
            have z2 := (HI7.out.res).free 2
            have z3 := (HI7.out.res).free 3
            have z4 := (HI7.out.res).free 4
            have z5 := (HI7.out.res).free 5
            have z6 := (HI7.out.res).free 6
            have z7 := (HI7.out.res).free 7
            have z8 := (HI7.out.res).free 8
            go_wp2_with fail
            refine bodyPost_ret (v := .tuple #[yv18 P, .int .i64 0]) ?_ rfl (readp_out18 (HND.out trivial) HOUT.out.2.1 HOUT.out.2.2)
            rw [results_cell_tmp rfl]
            go_simp
          · have HND := Lib.hid (fun _ : True => (HSP2.out trivial).trans (if_pos hc))
            have HOUT := Lib.hid (HI6.out.out zeroY)
            generalize chkY P = c at *
            have hc1 : (c == 0) = false := by rw [beq_eq_false_iff_ne]; exact hc
            have d0 : w6.cell? ⟨r, 0, none⟩ = some (.int .i64 0) := (HI6.out.res).cell 0
            have d1 : w6.cell? ⟨r, 1, none⟩ = some (.int .i64 0) := (HI6.out.res).cell 1
            have d2 : w6.cell? ⟨r, 2, none⟩ = some (.int .i64 0) := (HI6.out.res).cell 2
            have d3 : w6.cell? ⟨r, 3, none⟩ = some (.int .i64 0) := (HI6.out.res).cell 3
            have d4 : w6.cell? ⟨r, 4, none⟩ = some (.int .i64 0) := (HI6.out.res).cell 4
            have d5 : w6.cell? ⟨r, 5, none⟩ = some (.int .i64 0) := (HI6.out.res).cell 5
            have d6 : w6.cell? ⟨r, 6, none⟩ = some (.int .i64 0) := (HI6.out.res).cell 6
            have d7 : w6.cell? ⟨r, 7, none⟩ = some (.int .i64 0) := (HI6.out.res).cell 7
            have d8 : w6.cell? ⟨r, 8, none⟩ = some (.int .i64 0) := (HI6.out.res).cell 8
            have z0 := (HI6.out.res).free 0
            have z1 := (HI6.out.res).free 1
            have z2 := (HI6.out.res).free 2
            have z3 := (HI6.out.res).free 3
            have z4 := (HI6.out.res).free 4
            have z5 := (HI6.out.res).free 5
            have z6 := (HI6.out.res).free 6
            have z7 := (HI6.out.res).free 7
            have z8 := (HI6.out.res).free 8
            clear HSP2 hc
            go_wp2_with fail
            refine bodyPost_ret (v := .tuple #[(.agg #[.int .i64 0, .int .i64 0, .int .i64 0, .int .i64 0, .int .i64 0, .int .i64 0, .int .i64 0, .int .i64 0, .int .i64 0]), .int .i64 c]) ?_ rfl (readp_out18 (HND.out trivial) HOUT.out.2.1 HOUT.out.2.2)
            rw [results_cell_tmp rfl]
            go_simp
      · have HND : Hid (True → readY s = (zeroY, ((iter18 9 s).2 : Int))) := fun _ => by rw [HSPEC.out trivial, if_pos hf]
        generalize hF : (iter18 9 s).2 = F at *
        have hf2 : ((F : Int) == 0) = false := by rw [beq_eq_false_iff_ne]; omega
        clear hf hF HSPEC
        go_wp2_with fail
        refine HFT.out.mono ?_
        rintro e w2 ⟨rfl, rfl⟩
        clear HFT
        go_wp2_with fail
        refine bodyPost_ret (v := .tuple #[(.agg #[.int .i64 0, .int .i64 0, .int .i64 0, .int .i64 0, .int .i64 0, .int .i64 0, .int .i64 0, .int .i64 0, .int .i64 0]), .int .i64 (F : Int)]) ?_ rfl (readp_out18 (HND.out trivial) HOUT0.out.2.1 HOUT0.out.2.2)
        rw [results_cell_tmp rfl]
        go_simp

end Go.Proofs.Ytkkgipieahhmbaa

/-
  Stage 18: the program's policy answers as is asked of it.
-/
namespace Go.Proofs.Ytkkgipieahhmbaa
theorem prog18 : Prog18 where
  plain := plain_any18
  check := check_any18
  encode := encode_any18
  read := fun w wr p s h => read_any18 s p w wr h
  readnil := readnil_any18
  lag := fun p t w _ => lag_any18 p t w
  cut := fun p h w hp hh => cut_any18 p h w ⟨hp.rt.2, by have := hp.rt.1; omega⟩ hh
  delay := fun p t w hp _ => delay_any18 p t w hp
end Go.Proofs.Ytkkgipieahhmbaa

/-
  Stage 18: policies that came in.
-/
namespace Go.Proofs.Ytkkgipieahhmbaa
open Go.RowKit Go.ChangeShapes Go.WideShapes Go.Deep

set_option maxRecDepth 100000

theorem open_polc18 {H : Type} {enc : TypeId × Value → H} {W : World} {n : Nat} {cs : List Value} {y : DataW H × List MemPlace} (hl : cs.length = 9) (h : DataW.trod enc Try.prog W 0 (fun _ => true) true n 23 cs = some y) :
    ∃ p : Y18, cs = (ycells18 p).toList := by
  obtain ⟨xs, n', _, rfl, _, hlen, hf⟩ := DataW.trod_struct Try.underlying23 h
  have e1 : Try.prog.cellsOf 2 = 1 := by kernel_rfl
  have e2 : Try.prog.cellsOf 3 = 1 := by kernel_rfl
  match xs, hlen, cs, hl with
  | [y0, y1, y2, y3, y4, y5, y6, y7, y8], _, [c0, c1, c2, c3, c4, c5, c6, c7, c8], _ =>
    have g0 := hf 0 _ rfl
    have g1 := hf 1 _ rfl
    have g2 := hf 2 _ rfl
    have g3 := hf 3 _ rfl
    have g4 := hf 4 _ rfl
    have g5 := hf 5 _ rfl
    have g6 := hf 6 _ rfl
    have g7 := hf 7 _ rfl
    have g8 := hf 8 _ rfl
    simp [e1, e2] at g0 g1 g2 g3 g4 g5 g6 g7 g8
    obtain ⟨K0, k0, _, _⟩ := DataW.trod_int Try.underlying2 g0
    obtain ⟨K1, k1, _, _⟩ := DataW.trod_int Try.underlying2 g1
    obtain ⟨K2, k2, _, _⟩ := DataW.trod_int Try.underlying2 g2
    obtain ⟨K3, k3, _, _⟩ := DataW.trod_int Try.underlying2 g3
    obtain ⟨K4, k4, _, _⟩ := DataW.trod_int Try.underlying2 g4
    obtain ⟨K5, k5, _, _⟩ := DataW.trod_int Try.underlying2 g5
    obtain ⟨K6, k6, _, _⟩ := DataW.trod_int Try.underlying2 g6
    obtain ⟨K7, k7, _, _⟩ := DataW.trod_int Try.underlying3 g7
    obtain ⟨K8, k8, _, _⟩ := DataW.trod_int Try.underlying2 g8
    simp only [List.cons.injEq, and_true] at k0 k1 k2 k3 k4 k5 k6 k7 k8
    subst k0 k1 k2 k3 k4 k5 k6 k7 k8
    exact ⟨⟨K0, K1, K2, K3, K4, K5, K6, K7, K8⟩, rfl⟩
theorem open_pol18 {H : Type} {enc : TypeId × Value → H} {W : World} {b0 : Nat} {v : Value} {d : DataW H} {p : List MemPlace} (hv : Value.okWide Try.prog W .any b0 23 v) (h : DataW.Trod enc Try.prog W 0 (fun _ => true) true 23 v d p) : ∃ q : Y18, v = yv18 q := by
  simp only [Value.okWide, Try.underlying23] at hv
  obtain ⟨cs, rfl, hsz, _⟩ := hv
  obtain ⟨fuel, hf⟩ := h
  have e5 : Try.prog.cellsOf 23 = 9 := by kernel_rfl
  obtain ⟨q, hq⟩ := open_polc18 (by show (Value.cells (.agg cs)).toList.length = 9; simp [Value.cells]; omega) hf
  refine ⟨q, ?_⟩
  have hq2 : cs.toList = (ycells18 q).toList := hq
  have hq3 : cs = ycells18 q := by rw [← Array.toList_inj]; exact hq2
  rw [hq3]

end Go.Proofs.Ytkkgipieahhmbaa
