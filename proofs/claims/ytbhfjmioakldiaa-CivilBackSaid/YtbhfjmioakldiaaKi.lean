
/-
  A row of bytes, some digits put into it; the program's text of an hour.
-/
import Derived.Test.YtbhfjmioakldiaaKd
import Derived.Test.YtbhfjmioakldiaaKh
import Derived.Lib.SlBytesConst
namespace Go.Proofs.Ytbhfjmioakldiaa
open Go.RowKit

/-- Block g is just the bytes l, none frozen. -/
def Row8 (w : World) (g : Nat) (l : List UInt8) : Prop := ∃ fr, w.heap[g]? = some (.cells (l.map bv).toArray 5 fr) ∧ l.length ≤ fr.1
section
variable {w w' : World} {g : Nat} {l : List UInt8}
theorem Row8.lt (h : Row8 w g l) : g < w.heap.size := by
  obtain ⟨fr, h, _⟩ := h
  exact (Array.getElem?_eq_some_iff.1 h).1
theorem Row8.cell (h : Row8 w g l) {i : Nat} {x : UInt8} (hx : l[i]? = some x) : w.cell? ⟨g, i, none⟩ = some (.int .u8 (x.toNat : Int)) := by
  obtain ⟨fr, h, _⟩ := h
  rw [cell_of_row w g i _ _ fr h, List.getElem?_toArray, List.getElem?_map, hx]
  rfl
theorem Row8.free (h : Row8 w g l) {i : Nat} (hi : i < l.length) : w.frozen? ⟨g, i, none⟩ = false := by
  obtain ⟨⟨lo, hi'⟩, h, h1⟩ := h
  have h1 : l.length ≤ lo := h1
  simp [World.frozen?, h]
  omega
theorem Row8.turn {S : Nat → Prop} (h : Row8 w g l) (ht : Turn S w w') (hn : ¬ S g) : Row8 w' g l := by
  have hl := h.lt
  obtain ⟨fr, h, h1⟩ := h
  exact ⟨fr, (ht.block g hl hn).trans h, h1⟩
theorem Row8.set (h : Row8 w g l) (i : Nat) (y : UInt8) : Row8 (w.setCell ⟨g, i, none⟩ (.int .u8 (y.toNat : Int))) g (l.set i y) := by
  obtain ⟨fr, h, h1⟩ := h
  refine ⟨fr, ?_, by rw [List.length_set]; exact h1⟩
  simp [World.setCell, Array.getElem?_modify, h]
  rfl
theorem Row8.rd (h : Row8 w g l) (hl : l.length ≤ maxLen) : Rd w (.slice (some ⟨g, 0, none⟩) l.length l.length) l := by
  refine ⟨_, _, rfl, ⟨Nat.le_refl _, hl⟩, (fun e => by cases e), fun ad e j b hj => ?_⟩
  cases e
  have e1 : (⟨g, 0, none⟩ : Addr).add j = ⟨g, j, none⟩ := by unfold Addr.add; split <;> simp_all
  rw [e1]
  exact h.cell hj
end

theorem put_at (a b t : List UInt8) (j : Nat) : (a ++ (List.replicate (j + 1) 48 ++ (t ++ b)))[a.length + j]? = some 48 := by
  rw [List.getElem?_append_right (by omega), Nat.add_sub_cancel_left, List.getElem?_append_left (by rw [List.length_replicate]; omega), List.getElem?_replicate, if_pos (by omega)]
theorem put_set (a b t : List UInt8) (j : Nat) (x : UInt8) : (a ++ (List.replicate (j + 1) 48 ++ (t ++ b))).set (a.length + j) x = a ++ (List.replicate j 48 ++ ((x :: t) ++ b)) := by
  rw [List.set_append_right _ _ (by omega), Nat.add_sub_cancel_left, List.replicate_succ', List.append_assoc, List.set_append_right _ _ (by rw [List.length_replicate]; omega), List.length_replicate, Nat.sub_self]
  rfl

set_option maxRecDepth 100000 in
set_option maxHeartbeats 1000000 in
theorem put_any (p g L F B n k : Nat) (a b : List UInt8) (w : World) (hp : Box w p 44 #[.slice (some ⟨g, 0, none⟩) L L]) (hr : Row8 w g (a ++ (List.replicate k 48 ++ b))) (hne : p ≠ g)
    (hF : F = a.length) (hB : B = a.length + k) (hL : a.length + k ≤ L) (hL2 : L ≤ 1000) (hn : n ≤ 1000000) :
    Calls Try.prog 33 #[.int .i64 n, .int .i64 F, .int .i64 B, .pointer (some ⟨p, 0, none⟩)] w fun e w' => e = .returned (.tuple #[]) ∧ Row8 w' g (a ++ (dg n k ++ b)) ∧ Turn (fun x => x = g) w w' := by
  have HP := Lib.hid hp
  have hsl : w.cell? ⟨p, 0, none⟩ = some (.slice (some ⟨g, 0, none⟩) L L) := hp.cell 0
  have HR := Lib.hid hr
  have HA := Lib.hid hF
  have HBB := Lib.hid hB
  have HLL : Hid (F + k ≤ L) := by rw [hF]; exact hL
  have bF : F ≤ 1000 := by omega
  have bB : B ≤ 1000 := by omega
  have hFB : B = F + k := by omega
  subst hFB
  clear hp hr hF hB hL
  go_enter Try.func33, Try.ntmps33
  go_wp2
  go_loopw [0, 7] (fun x0 x7 wr => ∃ (i x : Nat) (t : List UInt8), x0 = .int .i64 x ∧ x7 = .int .i64 (((F + i : Nat) : Int) - 1) ∧ i ≤ k ∧ x ≤ 1000000 ∧ dg x i ++ t = dg n k ∧ Row8 wr g (a ++ (List.replicate i 48 ++ (t ++ b))) ∧ Turn (fun x => x = g) w wr) (fun _ x7 _ => (intOf x7 + 1).toNat)
  case atStart => exact ⟨k, n, [], rfl, rfl, Nat.le_refl _, hn, List.append_nil _, HR.out, Turn.refl _ w⟩
  case round =>
    obtain ⟨i, x, t, rfl, rfl, hik, hx, hd, hr, ht⟩ := hrel
    have hs2 : wr.cell? ⟨p, 0, none⟩ = some (.slice (some ⟨g, 0, none⟩) L L) := (HP.out.turn ht hne).cell 0
    have HD := Lib.hid hd
    have HT := Lib.hid ht
    have HW := Lib.hid hr
    clear hd ht hr
    cases i with
    | zero =>
      go_wp2
      go_end0
      exact ⟨rfl, by have := HW.out; have h2 := HD.out; rw [show dg x 0 ++ t = t from rfl] at h2; rw [← h2]; exact this, HT.out⟩
    | succ j =>
      have e1 : ((F + (j + 1) : Nat) : Int) - 1 = ((F + j : Nat) : Int) := by omega
      rw [e1]
      have hlt : F + j < L := by have := HLL.out; omega
      have hcell : wr.cell? ⟨g, F + j, none⟩ = some (.int .u8 48) := by have := HW.out.cell (put_at a b t j); rw [← HA.out] at this; exact this
      have hfree : wr.frozen? ⟨g, F + j, none⟩ = false := by have := HW.out.free (i := a.length + j) (by simp; omega); rw [← HA.out] at this; exact this
      go_wp2
      go_roundw
      case rel =>
        refine ⟨j, x / 10, dgt x :: t, i64_eq (by omega), i64_eq (by omega), by omega, by omega, ?_, ?_, HT.out.setCell (fun _ => rfl) _⟩
        · rw [← HD.out]
          show _ = (dg (x / 10) j ++ [dgt x]) ++ t
          rw [List.append_assoc]
          rfl
        · have e : 48 + (x : Int) % 10 = ((dgt x).toNat : Int) := by rw [dgt_nat]; omega
          rw [← put_set a b t j (dgt x), e, HA.out]
          exact HW.out.set _ _
      case measure => simp [intOf]; omega

theorem form_row (w : World) : Row8 (w.alloc (.cells (formL.map bv).toArray 5 (13, 14))) w.heap.size formL := ⟨(13, 14), heap_alloc_new w _, Nat.le_refl _⟩

/-- A call's text under way: its row, the pointer to it. -/
def Txt (w0 w : World) (l : List UInt8) : Prop := Box w (w0.heap.size + 1) 44 #[.slice (some ⟨w0.heap.size, 0, none⟩) 13 13] ∧ Row8 w w0.heap.size l ∧ Turn (fun _ => False) w0 w
theorem txt_start (w : World) (k : Nat) : Txt w (((w.alloc (.cells (formL.map bv).toArray 5 (13, 14))).alloc (.cells #[.slice (some ⟨w.heap.size, 0, none⟩) 13 13] 44)).drewN k) formL := by
  refine ⟨?_, ?_, (((Turn.refl _ w).alloc _).alloc _).drewN k⟩
  · have h := Box.new (w.alloc (.cells (formL.map bv).toArray 5 (13, 14))) 44 #[.slice (some ⟨w.heap.size, 0, none⟩) 13 13]
    rw [show (w.alloc (.cells (formL.map bv).toArray 5 (13, 14))).heap.size = w.heap.size + 1 by simp] at h
    exact h
  · exact (form_row w).turn (((Turn.refl (fun _ => False) _).alloc _).drewN k) (fun f => f)
theorem txt_begin (w : World) (k : Nat) : Txt w (((w.alloc (.cells #[.int .u8 48, .int .u8 48, .int .u8 48, .int .u8 48, .int .u8 45, .int .u8 48, .int .u8 48, .int .u8 45, .int .u8 48, .int .u8 48, .int .u8 84, .int .u8 48, .int .u8 48] 5 (13, 14))).alloc (.cells #[.slice (some ⟨w.heap.size, 0, none⟩) 13 13] 44)).drewN k) formL := txt_start w k
theorem txt_put {w0 w : World} {l l' a b : List UInt8} {n k : Nat} {F B : Int} (h : Txt w0 w l) (hl : l = a ++ (List.replicate k 48 ++ b)) (hl' : l' = a ++ (dg n k ++ b)) (hF : F = (a.length : Nat)) (hB : B = (a.length + k : Nat)) (hk : a.length + k ≤ 13) (hn : n ≤ 1000000) :
    Calls Try.prog 33 #[.int .i64 n, .int .i64 F, .int .i64 B, .pointer (some ⟨w0.heap.size + 1, 0, none⟩)] w fun e w' => e = .returned (.tuple #[]) ∧ Txt w0 w' l' := by
  subst hl hl' hF hB
  refine (put_any (w0.heap.size + 1) w0.heap.size 13 a.length (a.length + k) n k a b w h.1 h.2.1 (by omega) rfl rfl hk (by omega) hn).mono ?_
  rintro e w' ⟨rfl, hr, ht⟩
  exact ⟨rfl, h.1.turn ht (fun e => by omega), hr, h.2.2.fresh ht (fun k e => by omega)⟩

def l1 (y : Nat) : List UInt8 := dg y 4 ++ [45, 48, 48, 45, 48, 48, 84, 48, 48]
def l2 (y m : Nat) : List UInt8 := dg y 4 ++ (45 :: dg m 2 ++ [45, 48, 48, 84, 48, 48])
def l3 (y m d : Nat) : List UInt8 := dg y 4 ++ (45 :: dg m 2 ++ (45 :: dg d 2 ++ [84, 48, 48]))
theorem txt1 (w0 : World) (y : Nat) (h : y ≤ 100000) (w : World) (ht : Txt w0 w formL) :
    Calls Try.prog 33 #[.int .i64 y, .int .i64 0, .int .i64 4, .pointer (some ⟨w0.heap.size + 1, 0, none⟩)] w fun e w' => e = .returned (.tuple #[]) ∧ Txt w0 w' (l1 y) :=
  txt_put (a := []) (b := [45, 48, 48, 45, 48, 48, 84, 48, 48]) (k := 4) ht rfl rfl rfl rfl (by decide) (by omega)
theorem txt2 (w0 : World) (y m : Nat) (h : m ≤ 100000) (w : World) (ht : Txt w0 w (l1 y)) :
    Calls Try.prog 33 #[.int .i64 m, .int .i64 5, .int .i64 7, .pointer (some ⟨w0.heap.size + 1, 0, none⟩)] w fun e w' => e = .returned (.tuple #[]) ∧ Txt w0 w' (l2 y m) :=
  txt_put (a := dg y 4 ++ [45]) (b := [45, 48, 48, 84, 48, 48]) (k := 2) ht (by simp [l1, List.replicate]) (by simp [l2]) (by simp [dg_len]) (by simp [dg_len]) (by simp [dg_len]) (by omega)
theorem txt3 (w0 : World) (y m d : Nat) (h : d ≤ 100000) (w : World) (ht : Txt w0 w (l2 y m)) :
    Calls Try.prog 33 #[.int .i64 d, .int .i64 8, .int .i64 10, .pointer (some ⟨w0.heap.size + 1, 0, none⟩)] w fun e w' => e = .returned (.tuple #[]) ∧ Txt w0 w' (l3 y m d) :=
  txt_put (a := dg y 4 ++ (45 :: dg m 2 ++ [45])) (b := [84, 48, 48]) (k := 2) ht (by simp [l2, List.replicate]) (by simp [l3]) (by simp [dg_len]) (by simp [dg_len]) (by simp [dg_len]) (by omega)
theorem txt4 (w0 : World) (y m d r : Nat) (h : r ≤ 100000) (w : World) (ht : Txt w0 w (l3 y m d)) :
    Calls Try.prog 33 #[.int .i64 r, .int .i64 11, .int .i64 13, .pointer (some ⟨w0.heap.size + 1, 0, none⟩)] w fun e w' => e = .returned (.tuple #[]) ∧ Txt w0 w' (laidT y m d r) :=
  txt_put (a := dg y 4 ++ (45 :: dg m 2 ++ (45 :: dg d 2 ++ [84]))) (b := []) (k := 2) ht (by simp [l3, List.replicate]) (by simp [laidT]) (by simp [dg_len]) (by simp [dg_len]) (by simp [dg_len]) (by omega)
theorem txt_end {w0 w : World} {y m d r : Nat} (h : Txt w0 w (laidT y m d r)) : w.cell? ⟨w0.heap.size + 1, 0, none⟩ = some (.slice (some ⟨w0.heap.size, 0, none⟩) 13 13) ∧
    (convert 44 9 (.slice (some ⟨w0.heap.size, 0, none⟩) 13 13)).run Try.prog w = .ok (.string ⟨(laidT y m d r).toArray⟩) w := by
  refine ⟨h.1.cell 0, ?_⟩
  have := (h.2.1.rd (by rw [laidT_len]; decide)).string
  rw [laidT_len] at this
  exact this

set_option maxRecDepth 100000 in
set_option maxHeartbeats 1000000 in
theorem text_any (h : Nat) (w : World) (hh : h ≤ 16777216) :
    Calls Try.prog 25 #[.int .i64 h] w fun e w' => e = .returned (.string ⟨(textL h).toArray⟩) ∧ Turn (fun _ => False) w w' := by
  have kc := fun (w : World) (C : Array Value) (n c : Nat) => Lib.run_convert_bytes_const (P := Try.prog) w 44 5 C n c Try.underlying44 Try.underlying5
  have HS := Lib.hid (split_at (h : Int) 24 h 24 rfl rfl (by omega) (by omega) (by omega))
  have HD := Lib.hid (date_any (h / 24) · (by omega))
  obtain ⟨_, _, a1, a2, a3⟩ := hour_date hh
  have a4 : h % 24 ≤ 23 := by omega
  have HX : Hid (textL h = laidT (dateOf (h / 24)).1 (dateOf (h / 24)).2.1 (dateOf (h / 24)).2.2 (h % 24)) := rfl
  unfold dateV at HD
  generalize (dateOf (h / 24)).1 = y at *
  generalize (dateOf (h / 24)).2.1 = m at *
  generalize (dateOf (h / 24)).2.2 = d at *
  generalize h / 24 = q at *
  generalize h % 24 = r at *
  have H1 := Lib.hid (txt1 w y (by omega))
  have H2 := Lib.hid (txt2 w y m (by omega))
  have H3 := Lib.hid (txt3 w y m d (by omega))
  have H4 := Lib.hid (txt4 w y m d r (by omega))
  go_enter Try.func25, Try.ntmps25
  go_wp2_with (first
    | (go_at_call 27; refine (HS.out _).mono ?_; rintro e w' ⟨rfl, k, rfl⟩)
    | (go_at_call 14; refine (HD.out _).mono ?_; rintro e w' ⟨rfl, k2, rfl⟩)
    | (go_at_call 33; (with_reducible refine (H1.out _ (txt_begin w _)).mono ?_); rintro e w1 ⟨rfl, ht⟩; have T1 := Lib.hid ht; clear ht)
    | (go_at_call 33; (with_reducible refine (H2.out _ T1.out).mono ?_); rintro e w2 ⟨rfl, ht⟩; have T2 := Lib.hid ht; clear ht)
    | (go_at_call 33; (with_reducible refine (H3.out _ T2.out).mono ?_); rintro e w3 ⟨rfl, ht⟩; have T3 := Lib.hid ht; clear ht)
    | (go_at_call 33; (with_reducible refine (H4.out _ T3.out).mono ?_); rintro e w4 ⟨rfl, ht⟩; obtain ⟨hcell, hconv⟩ := txt_end ht; have T4 := Lib.hid ht; clear ht))
  go_ret
  exact ⟨ret_eq (by rw [HX.out]; rfl), T4.out.2.2⟩

end Go.Proofs.Ytbhfjmioakldiaa
