
/-
  A tree in which a key has a value (keys int64, values int).
-/
import Derived.Test.YtnapeckpjnbcgaaHcj
namespace Go.Proofs.Ytnapeckpjnbcgaa.omj
open Go.RowKit

/-- A tree whose list is L. -/
def Has (w w' : World) (e : Ending) (L : List (Int × Int)) : Prop := ∃ y : Tr Int Int, y.flat = L ∧ Tree w w' e y
theorem same_has {w w' : World} {e : Ending} {x : Tr Int Int} (h : Same' w w' e x) : Has w w' e x.flat := h
theorem cnt_of {y : Tr Int Int} {L : List (Int × Int)} (h : y.flat = L) : y.cnt = L.length := by rw [← h, Tr.cnt_flat]
theorem cnt_put {x y : Tr Int Int} {k : Int} {v : Int} (h : y.flat = putK ltI x.flat k v) : y.cnt ≤ x.cnt + 1 := by
  rw [cnt_of h, put_size, Tr.cnt_flat]
  split <;> omega
theorem cnt_drop {x y : Tr Int Int} {k : Int} (h : y.flat = dropK ltI x.flat k) : y.cnt ≤ x.cnt := by
  have := drop_size (lt := ltI) x.flat k
  rw [cnt_of h, ← Tr.cnt_flat x]
  omega
theorem keep_call {w : World} {x : Tr Int Int} {p : Value} (h : Nd w x p) : ∃ A, p = .pointer A := h.shape

set_option maxRecDepth 100000 in
set_option maxHeartbeats 4000000 in
theorem with_any (k : Int) (v : Int) (x : Tr Int Int) : ∀ (w : World) (p : Value), Nd w x p → x.cnt ≤ 999999 → Up ltI x.flat →
    Calls Try.prog 47 #[p, (.int .i64 k), (.int .i64 v)] w fun e w' => Has w w' e (putK ltI x.flat k v) := by
  induction x with
  | nil =>
    intro w p h _ _
    obtain rfl : p = .pointer none := h
    go_enter Try.func47, Try.ntmps47
    go_wp2
    go_ret
    exact ⟨.node .nil k v .nil, rfl, w.heap.size, rfl, ⟨w.heap.size, .pointer none, .pointer none, rfl, Box.new w 100 #[(.int .i64 k), (.int .i64 v), .pointer none, .pointer none, .int .i64 1], rfl, rfl⟩, (Turn.refl _ w).alloc _⟩
  | node l k0 v0 r ihl ihr =>
    intro w p h hs hu
    obtain ⟨g, pl, pr, rfl, hg, hl, hr⟩ := nd_node h
    have HG := keep1 hg; have HL := keeps hl; have HR := keeps hr
    obtain ⟨pl, rfl⟩ := hl.shape
    obtain ⟨pr, rfl⟩ := hr.shape
    obtain ⟨c0, -, -, -, -⟩ := hg.cells
    obtain ⟨hu1, hu2, hu3⟩ := up_parts hu
    rw [cnt_node] at hs
    clear h hg hl hr hu
    have HK : Hid (∀ W, Turn (fun _ => False) w W → (W.cell? ⟨g, 2, none⟩ = some (.pointer pl) ∧ W.cell? ⟨g, 3, none⟩ = some (.pointer pr)) ∧ Turn (fun _ => False) w W) :=
      fun W ht => ⟨⟨(HG.out W ht).cells.2.2.1, (HG.out W ht).cells.2.2.2.1⟩, ht⟩
    by_cases h1 : ltI k k0 = true
    · have hp : putK ltI (Tr.node l k0 v0 r).flat k v = putK ltI l.flat k v ++ (k0, v0) :: r.flat := put_left rises_ltI (p := (k0, v0)) h1 v r.flat l.flat
      rw [hp]
      have HC : Hid (∀ W, Calls Try.prog 60 #[(.int .i64 k), (.int .i64 k0)] W fun e w' => e = .returned (.int .i64 (-1)) ∧ W = w') := fun W => by have := compare_any k k0 W; rw [ord_lt h1] at this; exact this
      have HI : Hid (∀ W, Turn (fun _ => False) w W → Calls Try.prog 47 #[.pointer pl, (.int .i64 k), (.int .i64 v)] W fun e w' => Has W w' e (putK ltI l.flat k v)) := fun W ht => ihl W _ (HL.out W ht) (by omega) hu1
      clear ihl ihr hu1 hu2 hu3 hp h1
      go_enter Try.func47, Try.ntmps47
      go_wp2_with (go_at_call 60; refine (HC.out _).mono ?_; rintro e w' ⟨rfl, rfl⟩)
      go_region_held3 (fun W => (W.cell? ⟨g, 2, none⟩ = some (.pointer pl) ∧ W.cell? ⟨g, 3, none⟩ = some (.pointer pr)) ∧ Turn (fun _ => False) w W)
        ((refine HK.out _ ?_; repeat (first | with_reducible exact Turn.refl _ w | with_reducible exact HTC.out | with_reducible exact HTB.out | with_reducible exact HTA.out | with_reducible refine Turn.drew ?_ | with_reducible refine Turn.drewN ?_ _)))
        (first
          | (go_at_call 47; (with_reducible refine (HI.out _ ?_).mono ?_); exact (Turn.refl _ w).drew; rintro e w2 ⟨y, hy, q, rfl, hn, ht⟩; have HTA := Lib.hid ((Turn.refl _ w).drew.trans ht (fun _ _ f => f)); have HNA := Lib.hid hn; have HY := Lib.hid hy; clear hn ht hy)
          | (go_at_call 61; (with_reducible refine (over_any (g := g) (pr := .pointer pr) (HG.out _ ?_) HNA.out (HR.out _ ?_) ?_).mono ?_); exact HTA.out; exact HTA.out; (focus (have := cnt_put HY.out; omega)); rintro e w3 ⟨q2, rfl, hn2, ht2⟩; have HTB := Lib.hid (HTA.out.trans ht2 (fun _ _ f => f)); have HNB := Lib.hid hn2; clear hn2 ht2)
          | (go_at_call 62; (with_reducible refine (even_any HNB.out ?_).mono ?_); (focus (have := cnt_put HY.out; omega)); rintro e w4 ⟨z, hz, q3, rfl, hn3, ht3⟩; have HTC := Lib.hid (HTB.out.trans ht3 (fun _ _ f => f)); have HNC := Lib.hid hn3; have HZ := Lib.hid hz; clear hn3 ht3 hz)
          | fail)
      all_goals go_wp2
      all_goals go_ret
      all_goals exact ⟨z, by rw [HZ.out, flat_node, HY.out], q3, rfl, HNC.out, HTC.out⟩
    · by_cases h2 : ltI k0 k = true
      · have hp : putK ltI (Tr.node l k0 v0 r).flat k v = l.flat ++ (k0, v0) :: putK ltI r.flat k v := put_right (p := (k0, v0)) h2 v r.flat l.flat (hu3.tr rises_ltI h2)
        rw [hp]
        have HC : Hid (∀ W, Calls Try.prog 60 #[(.int .i64 k), (.int .i64 k0)] W fun e w' => e = .returned (.int .i64 1) ∧ W = w') := fun W => by have := compare_any k k0 W; rw [ord_gt h2] at this; exact this
        have HI : Hid (∀ W, Turn (fun _ => False) w W → Calls Try.prog 47 #[.pointer pr, (.int .i64 k), (.int .i64 v)] W fun e w' => Has W w' e (putK ltI r.flat k v)) := fun W ht => ihr W _ (HR.out W ht) (by omega) hu2
        clear ihl ihr hu1 hu2 hu3 hp h1 h2
        go_enter Try.func47, Try.ntmps47
        go_wp2_with (go_at_call 60; refine (HC.out _).mono ?_; rintro e w' ⟨rfl, rfl⟩)
        go_region_held3 (fun W => (W.cell? ⟨g, 2, none⟩ = some (.pointer pl) ∧ W.cell? ⟨g, 3, none⟩ = some (.pointer pr)) ∧ Turn (fun _ => False) w W)
          ((refine HK.out _ ?_; repeat (first | with_reducible exact Turn.refl _ w | with_reducible exact HTC.out | with_reducible exact HTB.out | with_reducible exact HTA.out | with_reducible refine Turn.drew ?_ | with_reducible refine Turn.drewN ?_ _)))
          (first
            | (go_at_call 47; (with_reducible refine (HI.out _ ?_).mono ?_); exact (Turn.refl _ w).drew; rintro e w2 ⟨y, hy, q, rfl, hn, ht⟩; have HTA := Lib.hid ((Turn.refl _ w).drew.trans ht (fun _ _ f => f)); have HNA := Lib.hid hn; have HY := Lib.hid hy; clear hn ht hy)
            | (go_at_call 61; (with_reducible refine (over_any (g := g) (pl := .pointer pl) (HG.out _ ?_) (HL.out _ ?_) HNA.out ?_).mono ?_); exact HTA.out; exact HTA.out; (focus (have := cnt_put HY.out; omega)); rintro e w3 ⟨q2, rfl, hn2, ht2⟩; have HTB := Lib.hid (HTA.out.trans ht2 (fun _ _ f => f)); have HNB := Lib.hid hn2; clear hn2 ht2)
            | (go_at_call 62; (with_reducible refine (even_any HNB.out ?_).mono ?_); (focus (have := cnt_put HY.out; omega)); rintro e w4 ⟨z, hz, q3, rfl, hn3, ht3⟩; have HTC := Lib.hid (HTB.out.trans ht3 (fun _ _ f => f)); have HNC := Lib.hid hn3; have HZ := Lib.hid hz; clear hn3 ht3 hz)
            | fail)
        all_goals go_wp2
        all_goals go_ret
        all_goals exact ⟨z, by rw [HZ.out, flat_node, HY.out], q3, rfl, HNC.out, HTC.out⟩
      · have he : k0 = k := by
          by_cases e : k0 = k
          · exact e
          · exact absurd (rises_ltI.tot _ _ e (by simpa using h2)) h1
        subst he
        have hp : putK ltI (Tr.node l k0 v0 r).flat k0 v = l.flat ++ (k0, v) :: r.flat := put_same rises_ltI (p := (k0, v0)) v r.flat l.flat hu3
        rw [hp]
        have HC : Hid (∀ W, Calls Try.prog 60 #[(.int .i64 k0), (.int .i64 k0)] W fun e w' => e = .returned (.int .i64 0) ∧ W = w') := fun W => by have := compare_any k0 k0 W; rw [ord_eq] at this; exact this
        clear ihl ihr hu1 hu2 hu3 hp h1 h2
        have HSZ : Hid (∀ W, Turn (fun _ => False) w W → W.cell? ⟨g, 4, none⟩ = some (.int .i64 ((l.cnt + r.cnt + 1 : Nat) : Int))) := fun W ht => (HG.out W ht).cells.2.2.2.2
        obtain ⟨m, hm⟩ : ∃ m, m = l.cnt + r.cnt + 1 := ⟨_, rfl⟩
        rw [← hm] at HSZ
        have HM := Lib.hid hm; clear hm
        have c2 := (HK.out _ (Turn.refl _ w).drew).1.1
        have c3 := (HK.out _ (Turn.refl _ w).drew).1.2
        have c4 := HSZ.out _ (Turn.refl _ w).drew
        go_enter Try.func47, Try.ntmps47
        go_wp2_with (go_at_call 60; refine (HC.out _).mono ?_; rintro e w' ⟨rfl, rfl⟩)
        go_region
        all_goals go_wp2
        all_goals go_ret
        all_goals exact ⟨.node l k0 v r, rfl, w.heap.size, rfl, ⟨w.heap.size, .pointer pl, .pointer pr, rfl, by rw [← HM.out]; exact Box.new w.drew 100 #[(.int .i64 k0), (.int .i64 v), .pointer pl, .pointer pr, .int .i64 (m : Int)], HL.out _ ((Turn.refl _ w).drew.alloc _), HR.out _ ((Turn.refl _ w).drew.alloc _)⟩, (Turn.refl _ w).drew.alloc _⟩

end Go.Proofs.Ytnapeckpjnbcgaa.omj
