/-
  Texts laid one behind the other: Hfe R3r R3s R3t R5b R5c R5d R5e.
-/
import Derived.Test.YtgbphkbbedkepaaGreatJocak
import Derived.Test.YtgbphkbbedkepaaGreatJocah
import Derived.Test.YtgbphkbbedkepaaGreatJocab
import Derived.Test.YtgbphkbbedkepaaGreatJocaf
import Derived.Laws.ResultCell
import Derived.Test.YtgbphkbbedkepaaGreatJocag
import Derived.Test.YtgbphkbbedkepaaGreatJocai

/-
  The greatest key of a tree that is not above one; the map: New, Len, Put, Drop, Floor, Get, Copy (keys int64, values api.Entry).
-/
namespace Go.Proofs.YtgbphkbbedkepaaGreat.ome
open Go.RowKit

/-- What a search has found. -/
def Fnd (w : World) (u : Value) : Option (Int × N20) → Prop
  | none => u = .pointer none
  | some p => ∃ g pl pr n, u = .pointer (some ⟨g, 0, none⟩) ∧ One w g p.1 p.2 pl pr n
theorem Fnd.later {w w' : World} {u : Value} {f : Option (Int × N20)} (h : Fnd w u f) (ht : Turn (fun _ => False) w w') : Fnd w' u f := by
  cases f with
  | none => exact h
  | some p => obtain ⟨g, pl, pr, n, e, ho⟩ := h; exact ⟨g, pl, pr, n, e, ho.later ht⟩
theorem Fnd.shape {w : World} {u : Value} {f : Option (Int × N20)} (h : Fnd w u f) : ∃ A, u = .pointer A := by
  cases f with
  | none => exact ⟨none, h⟩
  | some p => obtain ⟨g, pl, pr, n, e, ho⟩ := h; exact ⟨_, e⟩

set_option maxRecDepth 100000 in
theorem in_any (q : Nat) (k key : Int) (w : World) (hq : w.cell? ⟨q, 0, none⟩ = some (.int .i64 k)) :
    Calls Tryz.prog 52 #[(.int .i64 key), .pointer (some ⟨q, 0, none⟩)] w fun e w' => e = .returned (.bool (!ltI k key)) ∧ w = w' := by
  go_enter Tryz.func52, Tryz.ntmps52
  go_wp2_with (go_at_call 53; refine (less_any _ _ _).mono ?_; rintro e w' ⟨rfl, rfl⟩)
  go_ret
  exact ⟨rfl, rfl⟩

structure LastRel (w : World) (k : Int) (ans : Option (Int × N20)) (x0 x5 : Value) (y : Tr Int N20) (f : Option (Int × N20)) : Prop where
  tr : Nd w y x0
  up : Up ltI y.flat
  fd : Fnd w x5 f
  is : Fl ltI y.flat k f = ans
theorem last_right {w : World} {k : Int} {ans : Option (Int × N20)} {x5 : Value} {l r : Tr Int N20} {k0 : Int} {v0 : N20} {f : Option (Int × N20)} {g n : Nat} {pl pr : Value} (h : LastRel w k ans (.pointer (some ⟨g, 0, none⟩)) x5 (.node l k0 v0 r) f)
    (ho : One w g k0 v0 pl pr n) (hr : Nd w r pr) (hk : ltI k k0 = false) : LastRel w k ans pr (.pointer (some ⟨g, 0, none⟩)) r (some (k0, v0)) := by
  obtain ⟨h1, h2, h3⟩ := up_parts h.up
  refine ⟨hr, h2, ⟨g, pl, pr, n, rfl, ho⟩, ?_⟩
  rw [← h.is]
  have h4 := (up_cons.1 (up_append.1 h.up).2.1).1
  unfold Fl
  rw [flat_node, fl_below rises_ltI (p := (k0, v0)) hk r.flat (fun q hq => ?_) l.flat h3]
  · cases floorK ltI r.flat k <;> rfl
  · obtain ⟨i, hi, e⟩ := List.mem_iff_getElem.1 hq
    exact h4 i q (by rw [List.getElem?_eq_getElem hi, e])
theorem last_left {w : World} {k : Int} {ans : Option (Int × N20)} {x0 x5 pl : Value} {l r : Tr Int N20} {k0 : Int} {v0 : N20} {f : Option (Int × N20)} (h : LastRel w k ans x0 x5 (.node l k0 v0 r) f) (hl : Nd w l pl) (hk : ltI k k0 = true) : LastRel w k ans pl x5 l f := by
  obtain ⟨h1, h2, h3⟩ := up_parts h.up
  refine ⟨hl, h1, h.fd, ?_⟩
  rw [← h.is]
  unfold Fl
  rw [flat_node, fl_above rises_ltI (p := (k0, v0)) hk r.flat l.flat]
theorem last_end {w : World} {k : Int} {ans : Option (Int × N20)} {x0 x5 : Value} {f : Option (Int × N20)} (h : LastRel w k ans x0 x5 .nil f) : Fnd w x5 ans := by rw [← h.is]; exact h.fd

set_option maxRecDepth 100000 in
set_option maxHeartbeats 2000000 in
theorem last_any (q : Nat) (k : Int) {x : Tr Int N20} {w : World} {p : Value} (h : Nd w x p) (hu : Up ltI x.flat) (hq : Box w q 2 #[(.int .i64 k)]) :
    Calls Tryz.prog 51 #[p, .func (.func 52) #[] #[.pointer (some ⟨q, 0, none⟩)]] w fun e w' => (∃ u, e = .returned u ∧ Fnd w u (floorK ltI x.flat k)) ∧ ∃ n, w' = w.drewN n := by
  have HQ := Lib.hid hq
  have HR : Hid (LastRel w k (floorK ltI x.flat k) p (.pointer none) x none) := ⟨h, hu, rfl, by unfold Fl; cases floorK ltI x.flat k <;> rfl⟩
  generalize floorK ltI x.flat k = ans at *
  clear h hu hq
  go_enter Tryz.func51, Tryz.ntmps51
  go_wp2
  go_loopw [0, 5] (fun x0 x5 wr => (∃ y f, LastRel w k ans x0 x5 y f) ∧ ∃ n, wr = w.drewN n) (fun x0 _ _ => szAt w x0)
  case atStart => exact ⟨⟨x, none, HR.out⟩, 0, rfl⟩
  case round =>
    obtain ⟨⟨y, f, hrl⟩, n, rfl⟩ := hrel
    have HRL := Lib.hid hrl
    have HSZ := Lib.hid (sz_is hrl.tr)
    obtain ⟨A5, rfl⟩ := hrl.fd.shape
    cases y with
    | nil =>
      obtain rfl : _ = Value.pointer none := hrl.tr
      clear hrl
      go_wp2
      go_ret
      exact ⟨⟨_, rfl, last_end HRL.out⟩, n, rfl⟩
    | node l k0 v0 r =>
      obtain ⟨g, pl, pr, rfl, hg, hl, hr⟩ := nd_node hrl.tr
      obtain ⟨c0, -, c2, c3, -⟩ := hg.cells
      have HG := Lib.hid hg; have HL := Lib.hid hl; have HR2 := Lib.hid hr
      have HSL := Lib.hid (sz_is hl); have HSR := Lib.hid (sz_is hr)
      obtain ⟨pl, rfl⟩ := hl.shape
      obtain ⟨pr, rfl⟩ := hr.shape
      have HI := Lib.hid (in_any q k k0 (w.drewN n) ((HQ.out.turn ((Turn.refl (fun _ => False) w).drewN n) (fun f => f)).cell 0))
      clear hrl hg hl hr
      cases hk : ltI k k0 with
      | false =>
        rw [hk] at HI
        have HX := Lib.hid (last_right HRL.out HG.out HR2.out hk)
        clear hk
        go_wp2_with (go_at_call 52; refine HI.out.mono ?_; rintro e w' ⟨rfl, rfl⟩)
        go_quiet (fail)
        go_wp2
        go_roundw
        case rel => exact ⟨⟨r, _, HX.out⟩, n + nq, by simp [World.drewN, Nat.add_assoc]⟩
        case measure => have h1 := HSZ.out; have h2 := HSR.out; rw [cnt_node] at h1; show szAt w _ < szAt w _; rw [h1, h2]; omega
      | true =>
        rw [hk] at HI
        have HX := Lib.hid (last_left HRL.out HL.out hk)
        clear hk
        go_wp2_with (go_at_call 52; refine HI.out.mono ?_; rintro e w' ⟨rfl, rfl⟩)
        go_roundw
        case rel => exact ⟨⟨l, _, HX.out⟩, _, rfl⟩
        case measure => have h1 := HSZ.out; have h2 := HSL.out; rw [cnt_node] at h1; show szAt w _ < szAt w _; rw [h1, h2]; omega

/-- The map at block g: its keys and values, in order. -/
structure MP (w : World) (g : Nat) (L : List (Int × N20)) : Prop where
  out : ∃ (t0 : TypeId) (x : Tr Int N20) (A : Option Addr), t0 ≠ 92 ∧ Box w g t0 #[.pointer A] ∧ Nd w x (.pointer A) ∧ x.flat = L
  up : Up ltI L
theorem MP.turn {S : Nat → Prop} {w w' : World} {g : Nat} {L : List (Int × N20)} (h : MP w g L) (ht : Turn S w w') (h1 : ¬ S g) (h2 : ∀ i cs, Box w i 92 cs → ¬ S i) : MP w' g L := by
  obtain ⟨t0, x, A, hne0, hb, hx, e⟩ := h.out
  exact ⟨⟨t0, x, A, hne0, hb.turn ht h1, Nd.turn ht h2 hx, e⟩, h.up⟩
theorem MP.later {w w' : World} {g : Nat} {L : List (Int × N20)} (h : MP w g L) (ht : Turn (fun _ => False) w w') : MP w' g L := h.turn ht (fun f => f) (fun _ _ _ f => f)
/-- A map, and its block turned. -/
theorem MP.set {w w' : World} {g : Nat} {L M : List (Int × N20)} {y : Tr Int N20} {A : Option Addr} (h : MP w g L) (ht : Turn (fun _ => False) w w') (hn : Nd w' y (.pointer A)) (hf : y.flat = M) (hu : Up ltI M) :
    MP (w'.setCell ⟨g, 0, none⟩ (.pointer A)) g M ∧ Turn (fun j => j = g) w (w'.setCell ⟨g, 0, none⟩ (.pointer A)) := by
  obtain ⟨t0, x, A0, hne0, hb, hx, e⟩ := h.out
  have hb' := hb.turn ht (fun f => f)
  have htt : Turn (fun j => j = g) w' (w'.setCell ⟨g, 0, none⟩ (.pointer A)) := Turn.setCell (S := fun j => j = g) (p := ⟨g, 0, none⟩) (Turn.refl _ w') (fun _ => rfl) _
  refine ⟨⟨⟨t0, y, A, hne0, hb'.set 0 _, Nd.turn htt (fun i cs hi e => ?_) hn, hf⟩, hu⟩, (ht.mono (fun _ _ f => f.elim)).trans htt (fun k hk e => e)⟩
  subst e
  have e2 := (show w'.heap[i]? = _ from hi).symm.trans hb'
  injection e2 with e2
  injection e2 with _ e3
  exact absurd e3.symm hne0

set_option maxRecDepth 100000 in
theorem len_any {w : World} {g : Nat} {L : List (Int × N20)} (h : MP w g L) : Calls Tryz.prog 26 #[.pointer (some ⟨g, 0, none⟩)] w fun e w' => e = .returned (.int .i64 (L.length : Int)) ∧ w = w' := by
  obtain ⟨t0, x, A, hne0, hb, hx, rfl⟩ := h.out
  have hc := hb.cell 0
  rw [Tr.cnt_flat]
  have HX := Lib.hid hx
  clear h hb hx
  go_enter Tryz.func26, Tryz.ntmps26
  go_wp2_with (go_at_call 44; refine (count_any HX.out).mono ?_; rintro e w' ⟨rfl, rfl⟩)
  go_ret
  exact ⟨rfl, rfl⟩

set_option maxRecDepth 100000 in
set_option maxHeartbeats 4000000 in
theorem put_any (k : Int) (v : N20) {w : World} {g : Nat} {L : List (Int × N20)} (h : MP w g L) (hl : L.length ≤ 900000) :
    Calls Tryz.prog 40 #[.pointer (some ⟨g, 0, none⟩), (.int .i64 k), (ev20 v)] w fun e w' => e = .returned (.bool (!hasK ltI L k)) ∧ MP w' g (putK ltI L k v) ∧ Turn (fun j => j = g) w w' := by
  obtain ⟨q, hq⟩ : ∃ q, q = w.heap.size := ⟨_, rfl⟩
  obtain ⟨w0, hw0⟩ : ∃ w0, w0 = w.alloc (.cells (ecells20 v) 47) := ⟨_, rfl⟩
  have HT0 : Hid (Turn (fun _ => False) w w0) := by rw [hw0]; exact (Turn.refl _ w).alloc _
  have HBV : Hid (Box w0 q 47 (ecells20 v)) := by rw [hw0, hq]; exact Box.new w _ _
  have HM := Lib.hid (h.later HT0.out)
  obtain ⟨t0, x, A, hne0, hb, hx, hf⟩ := HM.out.out
  have HL := Lib.hid (len_any HM.out)
  have HU := Lib.hid (put_up rises_ltI h.up k v)
  have HW : Hid (∀ W, Turn (fun _ => False) w0 W → Calls Tryz.prog 58 #[.pointer A, (.int .i64 k), (ev20 v)] W fun e w' => Has W w' e (putK ltI L k v)) := fun W ht => by
    have := with_any k v x W _ (hx.later ht) (by rw [← Tr.cnt_flat, hf]; omega) (by rw [hf]; exact h.up)
    rw [hf] at this; exact this
  have HB := Lib.hid hb
  have HN := Lib.hid (put_size (lt := ltI) L k v)
  have hl2 : (putK ltI L k v).length ≤ 900001 := by rw [HN.out]; split <;> omega
  obtain ⟨b, hbb⟩ : ∃ b, b = hasK ltI L k := ⟨_, rfl⟩
  rw [← hbb] at HN ⊢
  have hgt : (L.length : Int) < ((putK ltI L k v).length : Int) ↔ b = false := by rw [HN.out]; cases b <;> simp <;> omega
  generalize putK ltI L k v = M at *
  have HW0 := Lib.hid hw0; have HQ := Lib.hid hq
  clear h hb hx hf hbb hw0 hq hne0
  go_enter Tryz.func40, Tryz.ntmps40
  go_wp2_with fail
  rw [← HW0.out, ← HQ.out]
  refine (HL.out).mono ?_
  rintro e w' ⟨rfl, rfl⟩
  go_wp2_with fail
  have HSK : Hid (∀ W, Turn (fun _ => False) w0 W → (W.cell? ⟨g, 0, none⟩ = some (.pointer A) ∧ W.cell? ⟨q, 0, none⟩ = some (.int .i64 v.p.t) ∧ W.cell? ⟨q, 1, none⟩ = some (.int .i64 v.p.i) ∧ W.cell? ⟨q, 2, none⟩ = some (.int .i64 v.seg) ∧ W.cell? ⟨q, 3, none⟩ = some (.int .i64 v.mark) ∧ W.cell? ⟨q, 4, none⟩ = some (.int .i64 v.rows) ∧ W.cell? ⟨q, 5, none⟩ = some (.bool v.cold)) ∧ Turn (fun _ => False) w0 W) := fun W ht => ⟨⟨(HB.out.turn ht (fun f => f)).cell 0, ent_box (HBV.out.turn ht (fun f => f))⟩, ht⟩
  refine drawn_region (fun W => (W.cell? ⟨g, 0, none⟩ = some (.pointer A) ∧ W.cell? ⟨q, 0, none⟩ = some (.int .i64 v.p.t) ∧ W.cell? ⟨q, 1, none⟩ = some (.int .i64 v.p.i) ∧ W.cell? ⟨q, 2, none⟩ = some (.int .i64 v.seg) ∧ W.cell? ⟨q, 3, none⟩ = some (.int .i64 v.mark) ∧ W.cell? ⟨q, 4, none⟩ = some (.int .i64 v.rows) ∧ W.cell? ⟨q, 5, none⟩ = some (.bool v.cold)) ∧ Turn (fun _ => False) w0 W) [10] (by kernel_rfl) ?_
  have hS0 := HSK.out _ (Turn.refl (fun _ => False) w0).drew
  generalize World.drew w0 = wd at *
  refine drawn_take 0 12 (.pointer (some ⟨g, 0, none⟩)) rfl rfl (by kernel_rfl) (by kernel_rfl) (by kernel_rfl) (by kernel_rfl) (fun _ _ _ h => h) (by rfl) (by assumption) (by intro w hSw; obtain ⟨⟨s0, v0, v1, v2, v3, v4, v5⟩, -⟩ := hSw; go_simp) ?_
  try simp only [List.setIfInBounds_toArray, List.set_cons_zero, List.set_cons_succ]
  refine drawn_take 1 13 (.pointer (some ⟨g, 0, none⟩)) rfl rfl (by kernel_rfl) (by kernel_rfl) (by kernel_rfl) (by kernel_rfl) (fun _ _ _ h => h) (by rfl) (by assumption) (by intro w hSw; obtain ⟨⟨s0, v0, v1, v2, v3, v4, v5⟩, -⟩ := hSw; go_simp) ?_
  try simp only [List.setIfInBounds_toArray, List.set_cons_zero, List.set_cons_succ]
  refine drawn_take 2 14 (.pointer (some ⟨g, 0, none⟩)) rfl rfl (by kernel_rfl) (by kernel_rfl) (by kernel_rfl) (by kernel_rfl) (fun _ _ _ h => h) (by rfl) (by assumption) (by intro w hSw; obtain ⟨⟨s0, v0, v1, v2, v3, v4, v5⟩, -⟩ := hSw; go_simp) ?_
  try simp only [List.setIfInBounds_toArray, List.set_cons_zero, List.set_cons_succ]
  refine drawn_take 3 15 (.pointer (some ⟨g, 0, none⟩)) rfl rfl (by kernel_rfl) (by kernel_rfl) (by kernel_rfl) (by kernel_rfl) (fun _ _ _ h => h) (by rfl) (by assumption) (by intro w hSw; obtain ⟨⟨s0, v0, v1, v2, v3, v4, v5⟩, -⟩ := hSw; go_simp) ?_
  try simp only [List.setIfInBounds_toArray, List.set_cons_zero, List.set_cons_succ]
  refine drawn_take 4 16 (.pointer A) rfl rfl (by kernel_rfl) (by kernel_rfl) (by kernel_rfl) (by kernel_rfl) (fun _ _ _ h => h) (by rfl) (by assumption) (by intro w hSw; obtain ⟨⟨s0, v0, v1, v2, v3, v4, v5⟩, -⟩ := hSw; go_simp) ?_
  try simp only [List.setIfInBounds_toArray, List.set_cons_zero, List.set_cons_succ]
  refine drawn_take 5 17 (.int .i64 k) rfl rfl (by kernel_rfl) (by kernel_rfl) (by kernel_rfl) (by kernel_rfl) (fun _ _ _ h => h) (by rfl) (by assumption) (by intro w hSw; obtain ⟨⟨s0, v0, v1, v2, v3, v4, v5⟩, -⟩ := hSw; go_simp) ?_
  try simp only [List.setIfInBounds_toArray, List.set_cons_zero, List.set_cons_succ]
  refine drawn_take 6 18 (ev20 v) rfl rfl (by kernel_rfl) (by kernel_rfl) (by kernel_rfl) (by kernel_rfl) (fun _ _ _ h => h) (by rfl) (by assumption) (by intro w hSw; obtain ⟨⟨s0, v0, v1, v2, v3, v4, v5⟩, -⟩ := hSw; go_simp) ?_
  try simp only [List.setIfInBounds_toArray, List.set_cons_zero, List.set_cons_succ]
  refine drawn_any [7] (by kernel_rfl) (by simp) ?_
  refine drawn_cons rfl (fun K hK => ?_) drawn_nil
  go_simp
  refine (HW.out wd hS0.2).mono ?_
  rintro e w2 ⟨y, hy, q1, rfl, hn, ht⟩
  have hS2 := HSK.out _ (hS0.2.trans ht (fun _ _ f => f))
  have HS := Lib.hid (HM.out.set hS2.2 hn hy HU.out)
  refine hK.out _ _ _ hS2 ?_
  clear hn ht hy hS0 hK K
  try simp only [List.setIfInBounds_toArray, List.set_cons_zero, List.set_cons_succ]
  refine drawn_take 8 20 (.pointer (some ⟨g, 0, none⟩)) rfl rfl (by kernel_rfl) (by kernel_rfl) (by kernel_rfl) (by kernel_rfl) (fun _ _ _ h => h) (by rfl) (by assumption) (by intro w hSw; obtain ⟨⟨s0, v0, v1, v2, v3, v4, v5⟩, -⟩ := hSw; go_simp) ?_
  try simp only [List.setIfInBounds_toArray, List.set_cons_zero, List.set_cons_succ]
  refine drawn_take 9 21 (.pointer (some ⟨g, 0, none⟩)) rfl rfl (by kernel_rfl) (by kernel_rfl) (by kernel_rfl) (by kernel_rfl) (fun _ _ _ h => h) (by rfl) (by assumption) (by intro w hSw; obtain ⟨⟨s0, v0, v1, v2, v3, v4, v5⟩, -⟩ := hSw; go_simp) ?_
  try simp only [List.setIfInBounds_toArray, List.set_cons_zero, List.set_cons_succ]
  refine drawn_last (z := 10) rfl (by kernel_rfl) (by kernel_rfl) (by kernel_rfl) (fun K hK => ?_)
  have hc2 := (HB.out.turn hS2.2 (fun f => f)).cell 0
  have hfree2 := (HB.out.turn hS2.2 (fun f => f)).free 0
  have HL2 := Lib.hid (len_any HS.out.1)
  clear hS2
  go_simp
  refine hK.out _ _ ?_
  clear hK K
  go_wp2_with ((go_at_call 26; with_reducible refine (HL2.out).mono ?_; rintro e w' ⟨rfl, rfl⟩))
  go_ret
  exact ⟨rfl, HS.out.1, (HT0.out.mono (fun _ _ f => f.elim)).trans HS.out.2 (fun _ _ e => e)⟩

set_option maxRecDepth 100000 in
set_option maxHeartbeats 1000000 in
theorem drop_any (k : Int) {w : World} {g : Nat} {L : List (Int × N20)} (h : MP w g L) (hl : L.length ≤ 900000) :
    Calls Tryz.prog 38 #[.pointer (some ⟨g, 0, none⟩), (.int .i64 k)] w fun e w' => e = .returned (.bool (hasK ltI L k)) ∧ MP w' g (dropK ltI L k) ∧ Turn (fun j => j = g) w w' := by
  have HM := Lib.hid h
  obtain ⟨t0, x, A, hne0, hb, hx, hf⟩ := h.out
  have HL := Lib.hid (len_any h)
  have HU := Lib.hid (drop_up rises_ltI h.up k)
  have HW := Lib.hid (without_any x k w _ hx (by rw [← Tr.cnt_flat, hf]; omega) (by rw [hf]; exact h.up))
  rw [hf] at HW
  have hc := hb.cell 0
  have hfree := hb.free 0
  have HB := Lib.hid hb
  have HN := Lib.hid (drop_size (lt := ltI) L k)
  have hl2 : (dropK ltI L k).length ≤ 900000 := by have := HN.out; omega
  obtain ⟨b, hbb⟩ : ∃ b, b = hasK ltI L k := ⟨_, rfl⟩
  rw [← hbb] at HN ⊢
  have hgt : ((dropK ltI L k).length : Int) < (L.length : Int) ↔ b = true := by have := HN.out; cases b <;> simp at this ⊢ <;> omega
  generalize dropK ltI L k = M at *
  clear h hb hx hf hbb
  go_enter Tryz.func38, Tryz.ntmps38
  go_wp2_with (go_at_call 26; refine (HL.out).mono ?_; rintro e w' ⟨rfl, rfl⟩)
  go_at_call 56
  with_reducible refine (HW.out).mono ?_
  rintro e w2 ⟨y, q, hy, rfl, hn, ht⟩
  have hc2 := (HB.out.turn ht (fun f => f)).cell 0
  have hfree2 := (HB.out.turn ht (fun f => f)).free 0
  have HS := Lib.hid (HM.out.set ht hn hy HU.out)
  have HL2 := Lib.hid (len_any HS.out.1)
  clear hn ht hy
  go_wp2_with ((go_at_call 26; with_reducible refine (HL2.out).mono ?_; rintro e w' ⟨rfl, rfl⟩))
  go_ret
  exact ⟨rfl, HS.out⟩

/-- What Floor answers. -/
def floorA : Option (Int × N20) → Value
  | some p => .tuple #[(.int .i64 p.1), (ev20 p.2), .bool true]
  | none => .tuple #[(.int .i64 0), (ev20 zero20), .bool false]
theorem results_mid20 {fn : Func} {a p u : Tmp} {ty : TypeId} (h : fn.results = #[.tmp a, .cell p ty, .tmp u]) (tmps : Array Value) (P : Program) (w : World) :
    (results fn tmps).run P w = ((asAddr (tmps.getD p undef)).run P w).andThen fun b w₁ => ((loadVar ty b).run P w₁).andThen fun v w₂ => .ok (.tuple #[tmps.getD a undef, v, tmps.getD u undef]) w₂ := by
  simp only [results, h]
  simp [Sem.run_bind, Result.andThen]
/-- Behind one entry stored into a box that is new. -/
theorem ent_put {w W w5 : World} {r : Nat} {b c : N20} (hb : Box W r 47 (ecells20 b)) (ht : Turn (fun _ => False) w W) (hr : w.heap.size ≤ r) (h : w5 = W.setCells r 0 (ecells20 c).toList) :
    Box w5 r 47 (ecells20 c) ∧ Turn (fun _ => False) w w5 := by rw [h]; exact ent_set20 hb ht hr c
theorem ent_size : (Tryz.prog.info? 47).map (·.size) = some 6 := by kernel_rfl

set_option maxRecDepth 100000 in
set_option maxHeartbeats 4000000 in
theorem floor_any (k : Int) {w : World} {g : Nat} {L : List (Int × N20)} (h : MP w g L) :
    Calls Tryz.prog 33 #[.pointer (some ⟨g, 0, none⟩), (.int .i64 k)] w fun e w' => e = .returned (floorA (floorK ltI L k)) ∧ Turn (fun _ => False) w w' := by
  obtain ⟨t0, x, A, hne0, hb, hx, rfl⟩ := h.out
  obtain ⟨p, hp⟩ : ∃ p, p = w.heap.size := ⟨_, rfl⟩
  obtain ⟨r, hr⟩ : ∃ r, r = w.heap.size + 1 := ⟨_, rfl⟩
  obtain ⟨w0, hw0⟩ : ∃ w0, w0 = (w.alloc (.cells #[(.int .i64 k)] 2)).alloc (.cells (ecells20 zero20) 47) := ⟨_, rfl⟩
  have HT0 : Hid (Turn (fun _ => False) w w0) := by rw [hw0]; exact ((Turn.refl _ w).alloc _).alloc _
  have HBK : Hid (Box w0 p 2 #[(.int .i64 k)]) := by rw [hw0, hp]; exact (Box.new w _ _).alloc _
  have HBR : Hid (Box w0 r 47 (ecells20 zero20)) := by
    have h := Box.new (w.alloc (.cells #[(.int .i64 k)] 2)) 47 (ecells20 zero20)
    rw [World.size_alloc] at h
    rw [hw0, hr]; exact h
  have HLR : Hid (w.heap.size ≤ r) := by show _ ≤ _; omega
  have HW := Lib.hid (last_any p k (w := w0) (hx.later HT0.out) h.up HBK.out)
  have hc : ((w.alloc (.cells #[(.int .i64 k)] 2)).alloc (.cells #[.int .i64 0, .int .i64 0, .int .i64 0, .int .i64 0, .int .i64 0, .bool false] 47)).cell? ⟨g, 0, none⟩ = some (.pointer A) := by
    have hc := (hb.turn HT0.out (fun f => f)).cell 0
    rw [hw0] at hc
    exact hc
  have HW0 := Lib.hid hw0; have HP := Lib.hid hp; have HR := Lib.hid hr
  have HONE : Hid (∀ e : N20, (ecells20 e).all (·.oneCell') = true) := fun e => by simp [Value.oneCell']
  have HSI := Lib.hid ent_size
  clear h hb hx hw0 hp hr hne0
  generalize floorK ltI x.flat k = ans at *
  cases ans with
  | none =>
    obtain ⟨E5, hE5⟩ : ∃ E5, E5 = zero20 := ⟨_, rfl⟩
    go_enter Tryz.func33, Tryz.ntmps33
    go_wp2_with fail
    rw [show ((w.alloc (.cells #[(.int .i64 k)] 2)).alloc (.cells #[.int .i64 0, .int .i64 0, .int .i64 0, .int .i64 0, .int .i64 0, .bool false] 47)) = w0 from HW0.out.symm, ← HR.out, ← HP.out]
    refine (HW.out).mono ?_
    rintro e w' ⟨⟨_, rfl, rfl⟩, n, rfl⟩
    have HTN : Hid (Turn (fun _ => False) w0 (w0.drewN n)) := (Turn.refl _ w0).drewN n
    generalize w0.drewN n = w1 at *
    clear hc
    go_wp2_with fail
    refine drawn_region (fun W => (W.cell? ⟨r, 0, none⟩ = some (.int .i64 zero20.p.t) ∧ W.cell? ⟨r, 1, none⟩ = some (.int .i64 zero20.p.i) ∧ W.cell? ⟨r, 2, none⟩ = some (.int .i64 zero20.seg) ∧ W.cell? ⟨r, 3, none⟩ = some (.int .i64 zero20.mark) ∧ W.cell? ⟨r, 4, none⟩ = some (.int .i64 zero20.rows) ∧ W.cell? ⟨r, 5, none⟩ = some (.bool zero20.cold)) ∧ Turn (fun _ => False) w1 W) [3] (by kernel_rfl) ?_
    have hS0 : (w1.drew.cell? ⟨r, 0, none⟩ = some (.int .i64 zero20.p.t) ∧ w1.drew.cell? ⟨r, 1, none⟩ = some (.int .i64 zero20.p.i) ∧ w1.drew.cell? ⟨r, 2, none⟩ = some (.int .i64 zero20.seg) ∧ w1.drew.cell? ⟨r, 3, none⟩ = some (.int .i64 zero20.mark) ∧ w1.drew.cell? ⟨r, 4, none⟩ = some (.int .i64 zero20.rows) ∧ w1.drew.cell? ⟨r, 5, none⟩ = some (.bool zero20.cold)) ∧ Turn (fun _ => False) w1 w1.drew := ⟨ent_box ((HBR.out.turn HTN.out (fun f => f)).turn (Turn.refl (fun _ => False) w1).drew (fun f => f)), (Turn.refl _ w1).drew⟩
    generalize World.drew w1 = wd at *
    have HTD := Lib.hid (HTN.out.trans hS0.2 (fun _ _ f => f))
    refine drawn_take 0 20 (.int .i64 0) rfl rfl (by kernel_rfl) (by kernel_rfl) (by kernel_rfl) (by kernel_rfl) (fun _ _ _ h => h) (by rfl) (by assumption) (by intro w hSw; obtain ⟨⟨v0, v1, v2, v3, v4, v5⟩, -⟩ := hSw; go_simp) ?_
    try simp only [List.setIfInBounds_toArray, List.set_cons_zero, List.set_cons_succ]
    refine drawn_take 1 21 (ev20 zero20) rfl rfl (by kernel_rfl) (by kernel_rfl) (by kernel_rfl) (by kernel_rfl) (fun _ _ _ h => h) (by rfl) (by assumption) (by intro w hSw; obtain ⟨⟨v0, v1, v2, v3, v4, v5⟩, -⟩ := hSw; go_simp) ?_
    try simp only [List.setIfInBounds_toArray, List.set_cons_zero, List.set_cons_succ]
    refine drawn_take 2 4 (.int .i64 0) rfl rfl (by kernel_rfl) (by kernel_rfl) (by kernel_rfl) (by kernel_rfl) (fun _ _ _ h => h) (by rfl) (by assumption) (by intro w hSw; obtain ⟨⟨v0, v1, v2, v3, v4, v5⟩, -⟩ := hSw; go_simp) ?_
    try simp only [List.setIfInBounds_toArray, List.set_cons_zero, List.set_cons_succ]
    refine drawn_any [3] (by kernel_rfl) (by simp) ?_
    refine drawn_late rfl (by kernel_rfl) (fun K hK => ?_) drawn_nil
    have hbx := HBR.out.turn HTD.out (fun f => f)
    have HTH : Hid (wd.there r 0 6) := hbx.there (Nat.le_refl 6)
    rw [← hE5]
    obtain ⟨w5, hw5⟩ : ∃ w5, w5 = wd.setCells r 0 (ecells20 E5).toList := ⟨_, rfl⟩
    have HST := Lib.hid (ent_put hbx (HT0.out.trans HTD.out (fun _ _ f => f)) HLR.out hw5)
    have HW5 := Lib.hid hw5
    clear hbx hw5
    refine put_box r 0 (ecells20 E5) HTH.out rfl rfl HSI.out (HONE.out _) ?_
    rw [show wd.setCells r 0 (ecells20 E5).toList = w5 from HW5.out.symm]
    refine hK.out _ _ _ ?_
    clear hK K hS0
    try simp only [List.setIfInBounds_toArray, List.set_cons_zero, List.set_cons_succ]
    refine drawn_last (z := 4) rfl (by kernel_rfl) (by kernel_rfl) (by kernel_rfl) (fun K hK => ?_)
    go_simp
    refine hK.out _ _ ?_
    clear hK K
    try simp only [List.setIfInBounds_toArray, List.set_cons_zero, List.set_cons_succ]
    obtain ⟨z0, z1, z2, z3, z4, z5⟩ := ent_box HST.out.1
    go_wp2_with fail
    refine bodyPost_ret (v := .tuple #[.int .i64 0, ev20 E5, .bool false]) ?_ rfl ⟨by rw [hE5]; rfl, HST.out.2⟩
    rw [results_mid20 rfl]
    go_simp
  | some ans =>
    obtain ⟨kk, ee⟩ := ans
    obtain ⟨E5, hE5⟩ : ∃ E5, E5 = ee := ⟨_, rfl⟩
    go_enter Tryz.func33, Tryz.ntmps33
    go_wp2_with fail
    rw [show ((w.alloc (.cells #[(.int .i64 k)] 2)).alloc (.cells #[.int .i64 0, .int .i64 0, .int .i64 0, .int .i64 0, .int .i64 0, .bool false] 47)) = w0 from HW0.out.symm, ← HR.out, ← HP.out]
    refine (HW.out).mono ?_
    rintro e w' ⟨⟨_, rfl, u, pl, pr, m, rfl, ho⟩, n, rfl⟩
    have HTN : Hid (Turn (fun _ => False) w0 (w0.drewN n)) := (Turn.refl _ w0).drewN n
    have HO := keep1 ho
    generalize w0.drewN n = w1 at *
    clear hc ho
    go_wp2_with fail
    have HSK : Hid (∀ W, Turn (fun _ => False) w1 W → W.cell? ⟨u, 0, none⟩ = some (.int .i64 kk) ∧ W.cell? ⟨u, 1, none⟩ = some (.int .i64 ee.p.t) ∧ W.cell? ⟨u, 2, none⟩ = some (.int .i64 ee.p.i) ∧ W.cell? ⟨u, 3, none⟩ = some (.int .i64 ee.seg) ∧ W.cell? ⟨u, 4, none⟩ = some (.int .i64 ee.mark) ∧ W.cell? ⟨u, 5, none⟩ = some (.int .i64 ee.rows) ∧ W.cell? ⟨u, 6, none⟩ = some (.bool ee.cold) ∧ Turn (fun _ => False) w1 W) := fun W ht => by
      obtain ⟨b0, ⟨b1, b2, b3, b4, b5, b6⟩, -⟩ := (HO.out W (HTN.out.trans ht (fun _ _ f => f))).cells
      exact ⟨b0, b1, b2, b3, b4, b5, b6, ht⟩
    refine drawn_region (fun W => W.cell? ⟨u, 0, none⟩ = some (.int .i64 kk) ∧ W.cell? ⟨u, 1, none⟩ = some (.int .i64 ee.p.t) ∧ W.cell? ⟨u, 2, none⟩ = some (.int .i64 ee.p.i) ∧ W.cell? ⟨u, 3, none⟩ = some (.int .i64 ee.seg) ∧ W.cell? ⟨u, 4, none⟩ = some (.int .i64 ee.mark) ∧ W.cell? ⟨u, 5, none⟩ = some (.int .i64 ee.rows) ∧ W.cell? ⟨u, 6, none⟩ = some (.bool ee.cold) ∧ Turn (fun _ => False) w1 W) [9] (by kernel_rfl) ?_
    have hS0 := HSK.out _ (Turn.refl (fun _ => False) w1).drew
    generalize World.drew w1 = wd at *
    have HTD := Lib.hid (HTN.out.trans hS0.2.2.2.2.2.2.2 (fun _ _ f => f))
    refine drawn_take 0 22 (.pointer (some ⟨u, 0, none⟩)) rfl rfl (by kernel_rfl) (by kernel_rfl) (by kernel_rfl) (by kernel_rfl) (fun _ _ _ h => h) (by rfl) (by assumption) (by intro w hSw; obtain ⟨b0, b1, b2, b3, b4, b5, b6, -⟩ := hSw; go_simp) ?_
    try simp only [List.setIfInBounds_toArray, List.set_cons_zero, List.set_cons_succ]
    refine drawn_take 1 23 (.pointer (some ⟨u, 0, none⟩)) rfl rfl (by kernel_rfl) (by kernel_rfl) (by kernel_rfl) (by kernel_rfl) (fun _ _ _ h => h) (by rfl) (by assumption) (by intro w hSw; obtain ⟨b0, b1, b2, b3, b4, b5, b6, -⟩ := hSw; go_simp) ?_
    try simp only [List.setIfInBounds_toArray, List.set_cons_zero, List.set_cons_succ]
    refine drawn_take 2 24 (.pointer (some ⟨u, 0, none⟩)) rfl rfl (by kernel_rfl) (by kernel_rfl) (by kernel_rfl) (by kernel_rfl) (fun _ _ _ h => h) (by rfl) (by assumption) (by intro w hSw; obtain ⟨b0, b1, b2, b3, b4, b5, b6, -⟩ := hSw; go_simp) ?_
    try simp only [List.setIfInBounds_toArray, List.set_cons_zero, List.set_cons_succ]
    refine drawn_take 3 25 (.int .i64 kk) rfl rfl (by kernel_rfl) (by kernel_rfl) (by kernel_rfl) (by kernel_rfl) (fun _ _ _ h => h) (by rfl) (by assumption) (by intro w hSw; obtain ⟨b0, b1, b2, b3, b4, b5, b6, -⟩ := hSw; go_simp) ?_
    try simp only [List.setIfInBounds_toArray, List.set_cons_zero, List.set_cons_succ]
    refine drawn_take 4 26 (.pointer (some ⟨u, 0, none⟩)) rfl rfl (by kernel_rfl) (by kernel_rfl) (by kernel_rfl) (by kernel_rfl) (fun _ _ _ h => h) (by rfl) (by assumption) (by intro w hSw; obtain ⟨b0, b1, b2, b3, b4, b5, b6, -⟩ := hSw; go_simp) ?_
    try simp only [List.setIfInBounds_toArray, List.set_cons_zero, List.set_cons_succ]
    refine drawn_take 5 27 (.pointer (some ⟨u, 0, none⟩)) rfl rfl (by kernel_rfl) (by kernel_rfl) (by kernel_rfl) (by kernel_rfl) (fun _ _ _ h => h) (by rfl) (by assumption) (by intro w hSw; obtain ⟨b0, b1, b2, b3, b4, b5, b6, -⟩ := hSw; go_simp) ?_
    try simp only [List.setIfInBounds_toArray, List.set_cons_zero, List.set_cons_succ]
    refine drawn_take 6 28 (.pointer (some ⟨u, 1, none⟩)) rfl rfl (by kernel_rfl) (by kernel_rfl) (by kernel_rfl) (by kernel_rfl) (fun _ _ _ h => h) (by rfl) (by assumption) (by intro w hSw; obtain ⟨b0, b1, b2, b3, b4, b5, b6, -⟩ := hSw; go_simp) ?_
    try simp only [List.setIfInBounds_toArray, List.set_cons_zero, List.set_cons_succ]
    refine drawn_take 7 29 (ev20 ee) rfl rfl (by kernel_rfl) (by kernel_rfl) (by kernel_rfl) (by kernel_rfl) (fun _ _ _ h => h) (by rfl) (by assumption) (by intro w hSw; obtain ⟨b0, b1, b2, b3, b4, b5, b6, -⟩ := hSw; go_simp) ?_
    try simp only [List.setIfInBounds_toArray, List.set_cons_zero, List.set_cons_succ]
    refine drawn_take 8 4 (.int .i64 kk) rfl rfl (by kernel_rfl) (by kernel_rfl) (by kernel_rfl) (by kernel_rfl) (fun _ _ _ h => h) (by rfl) (by assumption) (by intro w hSw; obtain ⟨b0, b1, b2, b3, b4, b5, b6, -⟩ := hSw; go_simp) ?_
    try simp only [List.setIfInBounds_toArray, List.set_cons_zero, List.set_cons_succ]
    refine drawn_any [9] (by kernel_rfl) (by simp) ?_
    refine drawn_late rfl (by kernel_rfl) (fun K hK => ?_) drawn_nil
    have hbx := HBR.out.turn HTD.out (fun f => f)
    have HTH : Hid (wd.there r 0 6) := hbx.there (Nat.le_refl 6)
    rw [← hE5]
    obtain ⟨w5, hw5⟩ : ∃ w5, w5 = wd.setCells r 0 (ecells20 E5).toList := ⟨_, rfl⟩
    have HST := Lib.hid (ent_put hbx (HT0.out.trans HTD.out (fun _ _ f => f)) HLR.out hw5)
    have HW5 := Lib.hid hw5
    clear hbx hw5
    refine put_box r 0 (ecells20 E5) HTH.out rfl rfl HSI.out (HONE.out _) ?_
    rw [show wd.setCells r 0 (ecells20 E5).toList = w5 from HW5.out.symm]
    refine hK.out _ _ _ ?_
    clear hK K hS0
    try simp only [List.setIfInBounds_toArray, List.set_cons_zero, List.set_cons_succ]
    refine drawn_last (z := 10) rfl (by kernel_rfl) (by kernel_rfl) (by kernel_rfl) (fun K hK => ?_)
    go_simp
    refine hK.out _ _ ?_
    clear hK K
    try simp only [List.setIfInBounds_toArray, List.set_cons_zero, List.set_cons_succ]
    obtain ⟨z0, z1, z2, z3, z4, z5⟩ := ent_box HST.out.1
    go_wp2_with fail
    refine bodyPost_ret (v := .tuple #[.int .i64 kk, ev20 E5, .bool true]) ?_ rfl ⟨by rw [hE5]; rfl, HST.out.2⟩
    rw [results_mid20 rfl]
    go_simp


set_option maxRecDepth 100000 in
set_option maxHeartbeats 4000000 in
theorem floor_nil (k : Int) (w : World) :
    Calls Tryz.prog 33 #[.pointer none, (.int .i64 k)] w fun e w' => e = .returned (floorA (floorK ltI ([] : List (Int × N20)) k)) ∧ Turn (fun _ => False) w w' := by
  obtain ⟨p, hp⟩ : ∃ p, p = w.heap.size := ⟨_, rfl⟩
  obtain ⟨r, hr⟩ : ∃ r, r = w.heap.size + 1 := ⟨_, rfl⟩
  obtain ⟨w0, hw0⟩ : ∃ w0, w0 = (w.alloc (.cells #[(.int .i64 k)] 2)).alloc (.cells (ecells20 zero20) 47) := ⟨_, rfl⟩
  have HT0 : Hid (Turn (fun _ => False) w w0) := by rw [hw0]; exact ((Turn.refl _ w).alloc _).alloc _
  have HBR : Hid (Box w0 r 47 (ecells20 zero20)) := by
    have h := Box.new (w.alloc (.cells #[(.int .i64 k)] 2)) 47 (ecells20 zero20)
    rw [World.size_alloc] at h
    rw [hw0, hr]; exact h
  have HLR : Hid (w.heap.size ≤ r) := by show _ ≤ _; omega
  have HW0 := Lib.hid hw0; have HP := Lib.hid hp; have HR := Lib.hid hr
  have HONE : Hid (∀ e : N20, (ecells20 e).all (·.oneCell') = true) := fun e => by simp [Value.oneCell']
  have HSI := Lib.hid ent_size
  clear hw0 hp hr
  obtain ⟨E5, hE5⟩ : ∃ E5, E5 = zero20 := ⟨_, rfl⟩
  go_enter Tryz.func33, Tryz.ntmps33
  go_wp2_with fail
  rw [show ((w.alloc (.cells #[(.int .i64 k)] 2)).alloc (.cells #[.int .i64 0, .int .i64 0, .int .i64 0, .int .i64 0, .int .i64 0, .bool false] 47)) = w0 from HW0.out.symm, ← HR.out, ← HP.out]
  refine drawn_region (fun W => (W.cell? ⟨r, 0, none⟩ = some (.int .i64 zero20.p.t) ∧ W.cell? ⟨r, 1, none⟩ = some (.int .i64 zero20.p.i) ∧ W.cell? ⟨r, 2, none⟩ = some (.int .i64 zero20.seg) ∧ W.cell? ⟨r, 3, none⟩ = some (.int .i64 zero20.mark) ∧ W.cell? ⟨r, 4, none⟩ = some (.int .i64 zero20.rows) ∧ W.cell? ⟨r, 5, none⟩ = some (.bool zero20.cold)) ∧ Turn (fun _ => False) w0 W) [3] (by kernel_rfl) ?_
  have hS0 : (w0.drew.cell? ⟨r, 0, none⟩ = some (.int .i64 zero20.p.t) ∧ w0.drew.cell? ⟨r, 1, none⟩ = some (.int .i64 zero20.p.i) ∧ w0.drew.cell? ⟨r, 2, none⟩ = some (.int .i64 zero20.seg) ∧ w0.drew.cell? ⟨r, 3, none⟩ = some (.int .i64 zero20.mark) ∧ w0.drew.cell? ⟨r, 4, none⟩ = some (.int .i64 zero20.rows) ∧ w0.drew.cell? ⟨r, 5, none⟩ = some (.bool zero20.cold)) ∧ Turn (fun _ => False) w0 w0.drew := ⟨ent_box (HBR.out.turn (Turn.refl (fun _ => False) w0).drew (fun f => f)), (Turn.refl _ w0).drew⟩
  generalize World.drew w0 = wd at *
  have HTD := Lib.hid hS0.2
  refine drawn_take 0 10 (.int .i64 0) rfl rfl (by kernel_rfl) (by kernel_rfl) (by kernel_rfl) (by kernel_rfl) (fun _ _ _ h => h) (by rfl) (by assumption) (by intro w hSw; obtain ⟨⟨v0, v1, v2, v3, v4, v5⟩, -⟩ := hSw; go_simp) ?_
  try simp only [List.setIfInBounds_toArray, List.set_cons_zero, List.set_cons_succ]
  refine drawn_take 1 11 (ev20 zero20) rfl rfl (by kernel_rfl) (by kernel_rfl) (by kernel_rfl) (by kernel_rfl) (fun _ _ _ h => h) (by rfl) (by assumption) (by intro w hSw; obtain ⟨⟨v0, v1, v2, v3, v4, v5⟩, -⟩ := hSw; go_simp) ?_
  try simp only [List.setIfInBounds_toArray, List.set_cons_zero, List.set_cons_succ]
  refine drawn_take 2 4 (.int .i64 0) rfl rfl (by kernel_rfl) (by kernel_rfl) (by kernel_rfl) (by kernel_rfl) (fun _ _ _ h => h) (by rfl) (by assumption) (by intro w hSw; obtain ⟨⟨v0, v1, v2, v3, v4, v5⟩, -⟩ := hSw; go_simp) ?_
  try simp only [List.setIfInBounds_toArray, List.set_cons_zero, List.set_cons_succ]
  refine drawn_any [3] (by kernel_rfl) (by simp) ?_
  refine drawn_late rfl (by kernel_rfl) (fun K hK => ?_) drawn_nil
  have hbx := HBR.out.turn HTD.out (fun f => f)
  have HTH : Hid (wd.there r 0 6) := hbx.there (Nat.le_refl 6)
  rw [← hE5]
  obtain ⟨w5, hw5⟩ : ∃ w5, w5 = wd.setCells r 0 (ecells20 E5).toList := ⟨_, rfl⟩
  have HST := Lib.hid (ent_put hbx (HT0.out.trans HTD.out (fun _ _ f => f)) HLR.out hw5)
  have HW5 := Lib.hid hw5
  clear hbx hw5
  refine put_box r 0 (ecells20 E5) HTH.out rfl rfl HSI.out (HONE.out _) ?_
  rw [show wd.setCells r 0 (ecells20 E5).toList = w5 from HW5.out.symm]
  refine hK.out _ _ _ ?_
  clear hK K hS0
  try simp only [List.setIfInBounds_toArray, List.set_cons_zero, List.set_cons_succ]
  refine drawn_last (z := 4) rfl (by kernel_rfl) (by kernel_rfl) (by kernel_rfl) (fun K hK => ?_)
  go_simp
  refine hK.out _ _ ?_
  clear hK K
  try simp only [List.setIfInBounds_toArray, List.set_cons_zero, List.set_cons_succ]
  obtain ⟨z0, z1, z2, z3, z4, z5⟩ := ent_box HST.out.1
  go_wp2_with fail
  refine bodyPost_ret (v := .tuple #[.int .i64 0, ev20 E5, .bool false]) ?_ rfl ⟨by rw [hE5]; rfl, HST.out.2⟩
  rw [results_mid20 rfl]
  go_simp


/-- What Get answers. -/
def getA : Option N20 → Value
  | some v => .tuple #[(ev20 v), .bool true]
  | none => .tuple #[(ev20 zero20), .bool false]

set_option maxRecDepth 100000 in
set_option maxHeartbeats 4000000 in
theorem get_gen (a : Option Addr) (k : Int) {w : World} {L : List (Int × N20)} (hup : Up ltI L) (hfl : ∀ W, Turn (fun _ => False) w W → Calls Tryz.prog 33 #[.pointer a, (.int .i64 k)] W fun e w' => e = .returned (floorA (floorK ltI L k)) ∧ Turn (fun _ => False) W w') :
    Calls Tryz.prog 54 #[.pointer a, (.int .i64 k)] w fun e w' => e = .returned (getA (getK ltI L k)) ∧ Turn (fun _ => False) w w' := by
  obtain ⟨r, hr⟩ : ∃ r, r = w.heap.size := ⟨_, rfl⟩
  obtain ⟨w0, hw0⟩ : ∃ w0, w0 = w.alloc (.cells (ecells20 zero20) 47) := ⟨_, rfl⟩
  have HT0 : Hid (Turn (fun _ => False) w w0) := by rw [hw0]; exact (Turn.refl _ w).alloc _
  have HBR : Hid (Box w0 r 47 (ecells20 zero20)) := by rw [hw0, hr]; exact Box.new w _ _
  have HLR : Hid (w.heap.size ≤ r) := by show _ ≤ _; omega
  have HF := Lib.hid (hfl w0 HT0.out)
  have HG := Lib.hid (get_floor rises_ltI hup k)
  have HW0 := Lib.hid hw0; have HR := Lib.hid hr
  clear hup hfl hw0 hr
  generalize getK ltI L k = G at *
  generalize floorK ltI L k = ans at *
  cases ans with
  | none =>
    obtain ⟨EE, hEE⟩ : ∃ EE : N20, EE = zero20 := ⟨_, rfl⟩
    go_enter Tryz.func54, Tryz.ntmps54
    go_wp2_with fail
    rw [show (w.alloc (.cells #[.int .i64 0, .int .i64 0, .int .i64 0, .int .i64 0, .int .i64 0, .bool false] 47)) = w0 from HW0.out.symm, ← HR.out]
    refine (HF.out).mono ?_
    rintro e w1 ⟨rfl, t1⟩
    unfold floorA
    obtain ⟨w2, hw2⟩ : ∃ w2, w2 = w1.alloc (.cells (ecells20 EE) 47) := ⟨_, rfl⟩
    obtain ⟨q, hq⟩ : ∃ q, q = w1.heap.size := ⟨_, rfl⟩
    have HT2 : Hid (Turn (fun _ => False) w0 w2) := by rw [hw2]; exact t1.alloc _
    have HB2 : Hid (Box w2 q 47 (ecells20 EE)) := by rw [hw2, hq]; exact Box.new w1 _ _
    have HW2 := Lib.hid hw2; have HQ := Lib.hid hq
    clear t1 hw2 hq HF
    obtain ⟨w3, hw3⟩ : ∃ w3, w3 = (w1.alloc (.cells #[.int .i64 zero20.p.t, .int .i64 zero20.p.i, .int .i64 zero20.seg, .int .i64 zero20.mark, .int .i64 zero20.rows, .bool zero20.cold] 47)).alloc (.cells #[.int .i64 0, .int .i64 0, .int .i64 0, .int .i64 0, .int .i64 0, .bool false] 47) := ⟨_, rfl⟩
    have HTX : Hid (Turn (fun _ => False) w0 w3) := by
      have e := HW2.out
      rw [hEE] at e
      rw [hw3, show w1.alloc (.cells #[.int .i64 zero20.p.t, .int .i64 zero20.p.i, .int .i64 zero20.seg, .int .i64 zero20.mark, .int .i64 zero20.rows, .bool zero20.cold] 47) = w2 from e.symm]; exact HT2.out.alloc _
    obtain ⟨EX, hEX⟩ : ∃ EX : N20, EX = zero20 := ⟨_, rfl⟩
    have hbx := HBR.out.turn HTX.out (fun f => f)
    obtain ⟨d0, d1, d2, d3, d4, d5⟩ := ent_box hbx
    have z0 := hbx.free 0; have z1 := hbx.free 1; have z2 := hbx.free 2; have z3 := hbx.free 3; have z4 := hbx.free 4; have z5 := hbx.free 5
    have HST := Lib.hid (ent_set20 hbx (HT0.out.trans HTX.out (fun _ _ f => f)) HLR.out EX)
    rw [hw3] at d0 d1 d2 d3 d4 d5 z0 z1 z2 z3 z4 z5 HST
    clear hbx hw3
    rw [hEX] at HST
    go_wp2_with fail
    refine bodyPost_ret (v := .tuple #[ev20 zero20, .bool false]) ?_ rfl ⟨by rw [HG.out]; rfl, HST.out.2⟩
    rw [results_cell_tmp rfl]
    go_simp
    all_goals (exact ⟨rfl, rfl, rfl, rfl, rfl, rfl⟩)
  | some p =>
    obtain ⟨aa, EE⟩ := p
    cases hl : ltI aa k with
    | true =>
      have HL : Hid (∀ W, Calls Tryz.prog 53 #[(.int .i64 aa), (.int .i64 k)] W fun e w' => e = .returned (.bool true) ∧ W = w') := fun W => by have := less_any aa k W; rw [hl] at this; exact this
      have HG2 : Hid (G = none) := by show _ = _; rw [HG.out]; dsimp only; rw [hl]; rfl
      clear hl
      go_enter Tryz.func54, Tryz.ntmps54
      go_wp2_with fail
      rw [show (w.alloc (.cells #[.int .i64 0, .int .i64 0, .int .i64 0, .int .i64 0, .int .i64 0, .bool false] 47)) = w0 from HW0.out.symm, ← HR.out]
      refine (HF.out).mono ?_
      rintro e w1 ⟨rfl, t1⟩
      unfold floorA
      obtain ⟨w2, hw2⟩ : ∃ w2, w2 = w1.alloc (.cells (ecells20 EE) 47) := ⟨_, rfl⟩
      obtain ⟨q, hq⟩ : ∃ q, q = w1.heap.size := ⟨_, rfl⟩
      have HT2 : Hid (Turn (fun _ => False) w0 w2) := by rw [hw2]; exact t1.alloc _
      have HB2 : Hid (Box w2 q 47 (ecells20 EE)) := by rw [hw2, hq]; exact Box.new w1 _ _
      have HW2 := Lib.hid hw2; have HQ := Lib.hid hq
      clear t1 hw2 hq HF
      go_wp2_with fail
      rw [show w1.alloc (.cells #[.int .i64 EE.p.t, .int .i64 EE.p.i, .int .i64 EE.seg, .int .i64 EE.mark, .int .i64 EE.rows, .bool EE.cold] 47) = w2 from HW2.out.symm, ← HQ.out]
      refine (HL.out _).mono ?_
      rintro e w' ⟨rfl, rfl⟩
      obtain ⟨w3, hw3⟩ : ∃ w3, w3 = w2.alloc (.cells #[.int .i64 0, .int .i64 0, .int .i64 0, .int .i64 0, .int .i64 0, .bool false] 47) := ⟨_, rfl⟩
      have HTX : Hid (Turn (fun _ => False) w0 w3) := by rw [hw3]; exact HT2.out.alloc _
      obtain ⟨EX, hEX⟩ : ∃ EX : N20, EX = zero20 := ⟨_, rfl⟩
      have hbx := HBR.out.turn HTX.out (fun f => f)
      obtain ⟨d0, d1, d2, d3, d4, d5⟩ := ent_box hbx
      have z0 := hbx.free 0; have z1 := hbx.free 1; have z2 := hbx.free 2; have z3 := hbx.free 3; have z4 := hbx.free 4; have z5 := hbx.free 5
      have HST := Lib.hid (ent_set20 hbx (HT0.out.trans HTX.out (fun _ _ f => f)) HLR.out EX)
      rw [hw3] at d0 d1 d2 d3 d4 d5 z0 z1 z2 z3 z4 z5 HST
      clear hbx hw3
      rw [hEX] at HST
      go_wp2_with fail
      refine bodyPost_ret (v := .tuple #[ev20 zero20, .bool false]) ?_ rfl ⟨by rw [HG2.out]; rfl, HST.out.2⟩
      rw [results_cell_tmp rfl]
      go_simp
      all_goals (exact ⟨rfl, rfl, rfl, rfl, rfl, rfl⟩)
    | false =>
      have HL : Hid (∀ W, Calls Tryz.prog 53 #[(.int .i64 aa), (.int .i64 k)] W fun e w' => e = .returned (.bool false) ∧ W = w') := fun W => by have := less_any aa k W; rw [hl] at this; exact this
      have HG2 : Hid (G = some EE) := by show _ = _; rw [HG.out]; dsimp only; rw [hl]; rfl
      clear hl
      go_enter Tryz.func54, Tryz.ntmps54
      go_wp2_with fail
      rw [show (w.alloc (.cells #[.int .i64 0, .int .i64 0, .int .i64 0, .int .i64 0, .int .i64 0, .bool false] 47)) = w0 from HW0.out.symm, ← HR.out]
      refine (HF.out).mono ?_
      rintro e w1 ⟨rfl, t1⟩
      unfold floorA
      obtain ⟨w2, hw2⟩ : ∃ w2, w2 = w1.alloc (.cells (ecells20 EE) 47) := ⟨_, rfl⟩
      obtain ⟨q, hq⟩ : ∃ q, q = w1.heap.size := ⟨_, rfl⟩
      have HT2 : Hid (Turn (fun _ => False) w0 w2) := by rw [hw2]; exact t1.alloc _
      have HB2 : Hid (Box w2 q 47 (ecells20 EE)) := by rw [hw2, hq]; exact Box.new w1 _ _
      have HW2 := Lib.hid hw2; have HQ := Lib.hid hq
      clear t1 hw2 hq HF
      go_wp2_with fail
      rw [show w1.alloc (.cells #[.int .i64 EE.p.t, .int .i64 EE.p.i, .int .i64 EE.seg, .int .i64 EE.mark, .int .i64 EE.rows, .bool EE.cold] 47) = w2 from HW2.out.symm, ← HQ.out]
      refine (HL.out _).mono ?_
      rintro e w' ⟨rfl, rfl⟩
      have hbx := HBR.out.turn HT2.out (fun f => f)
      obtain ⟨d0, d1, d2, d3, d4, d5⟩ := ent_box hbx
      have z0 := hbx.free 0; have z1 := hbx.free 1; have z2 := hbx.free 2; have z3 := hbx.free 3; have z4 := hbx.free 4; have z5 := hbx.free 5
      have HST := Lib.hid (ent_set20 hbx (HT0.out.trans HT2.out (fun _ _ f => f)) HLR.out EE)
      obtain ⟨a0, a1, a2, a3, a4, a5⟩ := ent_box HB2.out
      clear hbx
      go_wp2_with fail
      refine bodyPost_ret (v := .tuple #[ev20 EE, .bool true]) ?_ rfl ⟨by rw [HG2.out]; rfl, HST.out.2⟩
      rw [results_cell_tmp rfl]
      go_simp

theorem get_any (k : Int) {w : World} {g : Nat} {L : List (Int × N20)} (h : MP w g L) :
    Calls Tryz.prog 54 #[.pointer (some ⟨g, 0, none⟩), (.int .i64 k)] w fun e w' => e = .returned (getA (getK ltI L k)) ∧ Turn (fun _ => False) w w' :=
  get_gen _ k h.up (fun _ ht => floor_any k (h.later ht))
theorem get_nil (k : Int) (w : World) : Calls Tryz.prog 54 #[.pointer none, (.int .i64 k)] w fun e w' => e = .returned (getA (getK ltI ([] : List (Int × N20)) k)) ∧ Turn (fun _ => False) w w' :=
  get_gen none k up_nil (fun W _ => floor_nil k W)

set_option maxRecDepth 100000 in
theorem copy_any {w : World} {g : Nat} {L : List (Int × N20)} (h : MP w g L) :
    Calls Tryz.prog 35 #[.pointer (some ⟨g, 0, none⟩)] w fun e w' => e = .returned (.pointer (some ⟨w.heap.size, 0, none⟩)) ∧ MP w' w.heap.size L ∧ Turn (fun _ => False) w w' := by
  obtain ⟨t0, x, A, hne0, hb, hx, hf⟩ := h.out
  have HU := Lib.hid h.up
  have hc := hb.cell 0
  have HX := Lib.hid hx; have HF := Lib.hid hf
  clear h hb hx hf
  go_enter Tryz.func35, Tryz.ntmps35
  go_wp2
  go_ret
  exact ⟨rfl, ⟨⟨_, x, A, by decide, Box.new w _ _, HX.out.later ((Turn.refl _ w).alloc _), HF.out⟩, HU.out⟩, (Turn.refl _ w).alloc _⟩

end Go.Proofs.YtgbphkbbedkepaaGreat.ome

/-
  Stage 19, plain: the program's ways: a partition's number by its tier; within by the first hour alone; meets by within.
-/
namespace Go.Proofs.YtgbphkbbedkepaaGreat
open Go.RowKit

set_option maxRecDepth 100000

/-- The number of the partition of a tier that has an hour. -/
def idx19 (t h : Int) : Int × Bool := if t = 1 then (h, true) else if t = 2 then (h / 24, true) else if t = 3 then ((mo19 (h / 24).toNat : Int), true) else (0, false)
theorem right_new19 (p : T19) : right19 p = ((idx19 p.t 16777216).2 && (decide (0 ≤ p.i) && decide (p.i ≤ (idx19 p.t 16777216).1))) := by
  unfold right19 most19 idx19
  by_cases h1 : p.t = 1
  · rw [if_pos h1, if_pos h1, Bool.true_and]
  · rw [if_neg h1, if_neg h1]
    by_cases h2 : p.t = 2
    · rw [if_pos h2, if_pos h2, Bool.true_and]
      rfl
    · rw [if_neg h2, if_neg h2]
      by_cases h3 : p.t = 3
      · rw [if_pos h3, if_pos h3, Bool.true_and]
        have e : ((16777216 : Int) / 24).toNat = 699050 := rfl
        rw [e, mo_max19]
        rfl
      · rw [if_neg h3, if_neg h3, Bool.false_and]
        by_cases h0 : 0 ≤ p.i
        · rw [decide_eq_false (show ¬ p.i ≤ -1 by omega), Bool.and_false]
        · rw [decide_eq_false h0, Bool.false_and]
theorem of_none19 {t h : Int} (h1 : h < 0 ∨ 16777216 < h) : of19 t h = (⟨0, 0⟩, false) := if_pos (by rcases h1 with h1 | h1; exact .inl h1; exact .inr (.inl h1))
theorem of_some19 {t h : Int} (h1 : ¬ h < 0) (h2 : ¬ 16777216 < h) : ((idx19 t h).2 = true → of19 t h = (⟨t, (idx19 t h).1⟩, true)) ∧ ((idx19 t h).2 = false → of19 t h = (⟨0, 0⟩, false)) := by
  unfold of19 most19 idx19
  by_cases e1 : t = 1
  · refine ⟨fun _ => ?_, fun e => ?_⟩
    · simp only [if_pos e1]
      rw [if_neg (by omega)]
    · rw [if_pos e1] at e; cases e
  · by_cases e2 : t = 2
    · refine ⟨fun _ => ?_, fun e => ?_⟩
      · simp only [if_neg e1, if_pos e2]
        rw [if_neg (by omega)]
      · rw [if_neg e1, if_pos e2] at e; cases e
    · by_cases e3 : t = 3
      · refine ⟨fun _ => ?_, fun e => ?_⟩
        · simp only [if_neg e1, if_neg e2, if_pos e3]
          rw [if_neg (by omega)]
        · rw [if_neg e1, if_neg e2, if_pos e3] at e; cases e
      · refine ⟨fun e => ?_, fun _ => ?_⟩
        · rw [if_neg e1, if_neg e2, if_neg e3] at e; cases e
        · simp only [if_neg e1, if_neg e2, if_neg e3]
          rw [if_pos (by omega)]
theorem of_tier19 {t h : Int} (e : (of19 t h).2 = true) : t = 1 ∨ t = 2 ∨ t = 3 := by
  by_cases e1 : t = 1
  · exact .inl e1
  · by_cases e2 : t = 2
    · exact .inr (.inl e2)
    · by_cases e3 : t = 3
      · exact .inr (.inr e3)
      · exfalso
        unfold of19 most19 at e
        rw [if_neg e1, if_neg e2, if_neg e3, if_pos (.inr (.inr (by omega)))] at e
        cases e
/-- Within, by the first hour alone. -/
theorem within_new19 (a b : T19) : within19 a b = (right19 a && (decide (a.t ≤ b.t) && ((of19 b.t (span19 a).1).2 && eqT (of19 b.t (span19 a).1).1 b))) := by
  cases ra : right19 a with
  | false => unfold within19; rw [ra]; rfl
  | true =>
    rw [Bool.true_and]
    obtain ⟨a1, a2, a3⟩ := span_start19 ra
    obtain ⟨N, hN⟩ : ∃ N : Nat, (span19 a).1 = (N : Int) := Int.eq_ofNat_of_zero_le a1
    have hh : N ≤ 16777216 := by omega
    have ha : has19 a N = true := by unfold has19; simp only [Bool.and_eq_true, decide_eq_true_iff]; omega
    obtain ⟨w1, w2, w3, -⟩ := within_all19 hh
    obtain ⟨o1, o2, o3⟩ := ofs19 hh
    obtain ⟨s1, s2, s3⟩ := spans19 hh
    obtain ⟨r1, r2, r3⟩ := rights19 hh
    rw [hN]
    apply Bool.eq_iff_iff.2
    rw [Bool.and_eq_true, Bool.and_eq_true, decide_eq_true_iff]
    constructor
    · intro h
      have h' := h
      unfold within19 at h'
      simp only [Bool.and_eq_true, decide_eq_true_iff] at h'
      obtain ⟨-, rb, h1, h2⟩ := h'
      have hb : has19 b N = true := by unfold has19; simp only [Bool.and_eq_true, decide_eq_true_iff]; omega
      have hmo := mo_at19 (N / 24)
      have hml := mb_next19 (mo19 (N / 24))
      have hlen : ma19 (mo19 (N / 24)) + 28 ≤ mb19 (mo19 (N / 24)) := by
        have h := (mlen_pos (y := 1970 + mo19 (N / 24) / 12) (m := mo19 (N / 24) % 12 + 1) (by omega) (by omega)).1
        unfold ma19 mb19
        omega
      rcases has_is19 hh hb with eb | eb | eb
      · subst eb
        refine ⟨?_, by show (of19 1 (N : Int)).2 = true; rw [o1], by show eqT (of19 1 (N : Int)).1 _ = true; rw [o1]; exact eqT_iff.2 rfl⟩
        rw [s1] at h1 h2
        rcases has_is19 hh ha with ea | ea | ea
        · rw [ea]; exact Int.le_refl _
        · exfalso; rw [ea, s2] at h1 h2; dsimp only at h1 h2; omega
        · exfalso; rw [ea, s3] at h1 h2; dsimp only at h1 h2; omega
      · subst eb
        refine ⟨?_, by show (of19 2 (N : Int)).2 = true; rw [o2], by show eqT (of19 2 (N : Int)).1 _ = true; rw [o2]; exact eqT_iff.2 rfl⟩
        rw [s2] at h1 h2
        rcases has_is19 hh ha with ea | ea | ea
        · rw [ea]; show (1 : Int) ≤ 2; omega
        · rw [ea]; exact Int.le_refl _
        · exfalso; rw [ea, s3] at h1 h2; dsimp only at h1 h2; omega
      · subst eb
        refine ⟨?_, by show (of19 3 (N : Int)).2 = true; rw [o3], by show eqT (of19 3 (N : Int)).1 _ = true; rw [o3]; exact eqT_iff.2 rfl⟩
        rcases has_is19 hh ha with ea | ea | ea
        · rw [ea]; show (1 : Int) ≤ 3; omega
        · rw [ea]; show (2 : Int) ≤ 3; omega
        · rw [ea]; exact Int.le_refl _
    · rintro ⟨ht, ho, he⟩
      have e := eqT_iff.1 he
      rcases of_tier19 ho with tb | tb | tb
      · rw [tb, o1] at e
        rw [tb] at ht
        dsimp only at e
        rcases has_is19 hh ha with ea | ea | ea
        · rw [← e, ← ea]; exact within_refl19 ra
        · exfalso; rw [ea] at ht; exact absurd (show (2 : Int) ≤ 1 from ht) (by decide)
        · exfalso; rw [ea] at ht; exact absurd (show (3 : Int) ≤ 1 from ht) (by decide)
      · rw [tb, o2] at e
        rw [tb] at ht
        dsimp only at e
        rcases has_is19 hh ha with ea | ea | ea
        · rw [← e, ea]; exact w1
        · rw [← e, ← ea]; exact within_refl19 ra
        · exfalso; rw [ea] at ht; exact absurd (show (3 : Int) ≤ 2 from ht) (by decide)
      · rw [tb, o3] at e
        dsimp only at e
        rcases has_is19 hh ha with ea | ea | ea
        · rw [← e, ea]; exact w3
        · rw [← e, ea]; exact w2
        · rw [← e, ← ea]; exact within_refl19 ra
theorem within_meets19 {a b : T19} (h : within19 a b = true) : meets19 a b = true := by
  unfold within19 at h
  simp only [Bool.and_eq_true, decide_eq_true_iff] at h
  obtain ⟨ra, rb, h1, h2⟩ := h
  obtain ⟨a1, a2, a3⟩ := span_start19 ra
  obtain ⟨b1, b2, b3⟩ := span_start19 rb
  unfold meets19
  rw [ra, rb]
  simp only [Bool.true_and, Bool.and_eq_true, decide_eq_true_iff]
  omega
theorem meets_new19 (a b : T19) : meets19 a b = (within19 a b || within19 b a) := by
  apply Bool.eq_iff_iff.2
  rw [Bool.or_eq_true]
  constructor
  · exact nests19
  · rintro (h | h)
    · exact within_meets19 h
    · rw [meets_comm19 b a]; exact within_meets19 h

end Go.Proofs.YtgbphkbbedkepaaGreat

/-
  Stage 19: the program's index, Right, Of, Span, Has.
-/
namespace Go.Proofs.YtgbphkbbedkepaaGreat
open Go.RowKit

set_option maxRecDepth 100000

theorem draw_none19 (w : World) : w = w.drewN 0 := by first | rfl | simp [World.drewN]
set_option maxHeartbeats 4000000 in
theorem index_any19 (t : Int) (N : Nat) (w : World) (hN : N ≤ 16777216) : Calls Tryz.prog 49 #[.int .i64 t, .int .i64 (N : Int)] w fun e w' => e = .returned (.tuple #[.int .i64 (idx19 t (N : Int)).1, .bool (idx19 t (N : Int)).2]) ∧ ∃ k, w' = w.drewN k := by
  have hq : (N : Int) / 24 = ((N / 24 : Nat) : Int) := by omega
  have hI : idx19 t (N : Int) = if t = 1 then ((N : Int), true) else if t = 2 then (((N / 24 : Nat) : Int), true) else if t = 3 then ((mo19 (N / 24) : Int), true) else (0, false) := by
    unfold idx19
    rw [hq, Int.toNat_natCast]
  have HDA : Hid (∀ W, Calls Tryz.prog 73 #[.int .i64 (N : Int)] W fun e w' => e = .returned (.int .i64 ((N / 24 : Nat) : Int)) ∧ ∃ k, w' = W.drewN k) := fun W => dayof_any N W (by omega)
  have HMO : Hid (∀ W, Calls Tryz.prog 74 #[.int .i64 ((N / 24 : Nat) : Int)] W fun e w' => e = .returned (.int .i64 (mo19 (N / 24) : Int)) ∧ ∃ k, w' = W.drewN k) := fun W => month_any (N / 24) W (by omega)
  clear hq
  generalize idx19 t (N : Int) = I at *
  generalize N / 24 = D at *
  generalize mo19 D = X at *
  by_cases h1 : t = 1
  · have HL : Hid (I = ((N : Int), true)) := hI.trans (if_pos h1)
    have e1 : (t == 1) = true := by rw [beq_iff_eq]; exact h1
    clear h1 hI
    go_enter Tryz.func49, Tryz.ntmps49
    go_wp2_with (first | (go_at_call 73; refine (HDA.out _).mono ?_; rintro e w' ⟨rfl, k, rfl⟩) | (go_at_call 74; refine (HMO.out _).mono ?_; rintro e w' ⟨rfl, k, rfl⟩) | fail)
    go_ret2
    first | exact ⟨by rw [HL.out]; rfl, _, draw_none19 w⟩ | exact ⟨by rw [HL.out]; rfl, _, rfl⟩
  · have e1 : (t == 1) = false := by rw [beq_eq_false_iff_ne]; exact h1
    by_cases h2 : t = 2
    · have HL : Hid (I = ((D : Int), true)) := hI.trans ((if_neg h1).trans (if_pos h2))
      have e2 : (t == 2) = true := by rw [beq_iff_eq]; exact h2
      clear h1 h2 hI
      go_enter Tryz.func49, Tryz.ntmps49
      go_wp2_with (first | (go_at_call 73; refine (HDA.out _).mono ?_; rintro e w' ⟨rfl, k, rfl⟩) | (go_at_call 74; refine (HMO.out _).mono ?_; rintro e w' ⟨rfl, k, rfl⟩) | fail)
      go_ret2
      first | exact ⟨by rw [HL.out]; rfl, _, draw_none19 w⟩ | exact ⟨by rw [HL.out]; rfl, _, rfl⟩
    · have e2 : (t == 2) = false := by rw [beq_eq_false_iff_ne]; exact h2
      by_cases h3 : t = 3
      · have HL : Hid (I = ((X : Int), true)) := hI.trans ((if_neg h1).trans ((if_neg h2).trans (if_pos h3)))
        have e3 : (t == 3) = true := by rw [beq_iff_eq]; exact h3
        clear h1 h2 h3 hI
        go_enter Tryz.func49, Tryz.ntmps49
        go_wp2_with (first | (go_at_call 73; refine (HDA.out _).mono ?_; rintro e w' ⟨rfl, k, rfl⟩) | (go_at_call 74; refine (HMO.out _).mono ?_; rintro e w' ⟨rfl, k, rfl⟩) | fail)
        go_ret2
        first | exact ⟨by rw [HL.out]; rfl, _, draw_none19 w⟩ | exact ⟨by rw [HL.out]; rfl, _, rfl⟩
      · have HL : Hid (I = (0, false)) := hI.trans ((if_neg h1).trans ((if_neg h2).trans (if_neg h3)))
        have e3 : (t == 3) = false := by rw [beq_eq_false_iff_ne]; exact h3
        clear h1 h2 h3 hI
        go_enter Tryz.func49, Tryz.ntmps49
        go_wp2_with (first | (go_at_call 73; refine (HDA.out _).mono ?_; rintro e w' ⟨rfl, k, rfl⟩) | (go_at_call 74; refine (HMO.out _).mono ?_; rintro e w' ⟨rfl, k, rfl⟩) | fail)
        go_ret2
        first | exact ⟨by rw [HL.out]; rfl, _, draw_none19 w⟩ | exact ⟨by rw [HL.out]; rfl, _, rfl⟩

set_option maxHeartbeats 4000000 in
theorem right_any19 (p : T19) (w : World) : Calls Tryz.prog 30 #[tv19 p] w fun e w' => e = .returned (.bool (right19 p)) ∧ Turn (fun _ => False) w w' := by
  obtain ⟨g, hg⟩ : ∃ g, g = w.heap.size := ⟨_, rfl⟩
  obtain ⟨wb, hwb⟩ : ∃ wb, wb = w.alloc (.cells (tcells19 p) 45) := ⟨_, rfl⟩
  have HT : Hid (Turn (fun _ => False) w wb) := by rw [hwb]; exact (Turn.refl _ w).alloc _
  have HBX : Hid (Box wb g 45 (tcells19 p)) := by rw [hwb, hg]; exact Box.new w _ _
  obtain ⟨z0, z1⟩ := box_t19 (Box.new w 45 (tcells19 p))
  have HIX : Hid (∀ W, Calls Tryz.prog 49 #[.int .i64 p.t, .int .i64 16777216] W fun e w' => e = .returned (.tuple #[.int .i64 (idx19 p.t 16777216).1, .bool (idx19 p.t 16777216).2]) ∧ ∃ k, w' = W.drewN k) := fun W => index_any19 p.t 16777216 W (Nat.le_refl _)
  have HR := Lib.hid (right_new19 p)
  have HWB := Lib.hid hwb; have HG := Lib.hid hg
  generalize right19 p = x at *
  generalize idx19 p.t 16777216 = I at *
  obtain ⟨l, ok⟩ := I
  dsimp only at HIX HR
  clear hwb hg
  go_enter Tryz.func30, Tryz.ntmps30
  go_wp2_with fail
  rw [← HWB.out, ← HG.out]
  refine (HIX.out _).mono ?_
  rintro e w1 ⟨rfl, k, rfl⟩
  have HT1 := Lib.hid (HT.out.drewN k)
  obtain ⟨y0, y1⟩ := box_t19 (HBX.out.turn (show Turn (fun _ => False) wb (wb.drewN k) from (Turn.refl _ wb).drewN k) (fun f => f))
  clear z0 z1 HIX
  cases ok with
  | false =>
    have HB : Hid (x = false) := HR.out
    clear HR
    go_wp2
    go_ret
    exact ⟨by rw [HB.out]; rfl, HT1.out⟩
  | true =>
    have HX2 : Hid (x = (decide (0 ≤ p.i) && decide (p.i ≤ l))) := HR.out.trans (Bool.true_and _)
    clear HR
    by_cases h0 : 0 ≤ p.i
    · by_cases h1 : p.i ≤ l
      · have HB : Hid (x = true) := by show _ = _; rw [HX2.out, decide_eq_true h0, decide_eq_true h1]; rfl
        go_wp2
        go_ret
        exact ⟨by rw [HB.out]; first | rfl | exact ret_bool (decide_eq_true (by omega)) | exact ret_bool (decide_eq_false (by omega)) | exact ret_bool (by simp; omega), HT1.out⟩
      · have HB : Hid (x = false) := by show _ = _; rw [HX2.out, decide_eq_false h1, Bool.and_false]
        go_wp2
        go_ret
        exact ⟨by rw [HB.out]; first | rfl | exact ret_bool (decide_eq_true (by omega)) | exact ret_bool (decide_eq_false (by omega)) | exact ret_bool (by simp; omega), HT1.out⟩
    · have HB : Hid (x = false) := by show _ = _; rw [HX2.out, decide_eq_false h0, Bool.false_and]
      go_wp2
      go_ret
      exact ⟨by rw [HB.out]; first | rfl | exact ret_bool (decide_eq_true (by omega)) | exact ret_bool (decide_eq_false (by omega)) | exact ret_bool (by simp; omega), HT1.out⟩

set_option maxHeartbeats 8000000 in
theorem of_any19 (t h : Int) (w : World) : Calls Tryz.prog 101 #[.int .i64 t, .int .i64 h] w fun e w' => OfP19 t h w e w' := by
  by_cases h0 : h < 0
  · have HO : Hid (True → of19 t h = (⟨0, 0⟩, false)) := fun _ => of_none19 (.inl h0)
    go_enter Tryz.func101, Tryz.ntmps101
    go_wp2_with fail
    refine bodyPost_ret (v := .tuple #[.agg #[.int .i64 0, .int .i64 0], .bool false]) ?_ rfl (ofp19 (HO.out trivial) ((Turn.refl _ w).alloc _))
    rw [results_cell_tmp rfl]
    go_simp
  · by_cases h1 : 16777216 < h
    · have HO : Hid (True → of19 t h = (⟨0, 0⟩, false)) := fun _ => of_none19 (.inr h1)
      go_enter Tryz.func101, Tryz.ntmps101
      go_wp2_with fail
      refine bodyPost_ret (v := .tuple #[.agg #[.int .i64 0, .int .i64 0], .bool false]) ?_ rfl (ofp19 (HO.out trivial) ((Turn.refl _ w).alloc _))
      rw [results_cell_tmp rfl]
      go_simp
    · obtain ⟨ho1, ho2⟩ := of_some19 (t := t) h0 h1
      obtain ⟨N, rfl⟩ := Int.eq_ofNat_of_zero_le (show 0 ≤ h by omega)
      have HIX : Hid (∀ W, Calls Tryz.prog 49 #[.int .i64 t, .int .i64 (N : Int)] W fun e w' => e = .returned (.tuple #[.int .i64 (idx19 t (N : Int)).1, .bool (idx19 t (N : Int)).2]) ∧ ∃ k, w' = W.drewN k) := fun W => index_any19 t N W (by omega)
      generalize idx19 t (N : Int) = I at *
      obtain ⟨l, ok⟩ := I
      dsimp only at HIX ho1 ho2
      cases ok with
      | false =>
        have HO : Hid (True → of19 t (N : Int) = (⟨0, 0⟩, false)) := fun _ => ho2 rfl
        clear ho1 ho2
        go_enter Tryz.func101, Tryz.ntmps101
        go_wp2_with (go_at_call 49; refine (HIX.out _).mono ?_; rintro e w' ⟨rfl, k, rfl⟩)
        refine bodyPost_ret (v := .tuple #[.agg #[.int .i64 0, .int .i64 0], .bool false]) ?_ rfl (ofp19 (HO.out trivial) (((((Turn.refl _ w).alloc _).drewN _).setCell (fun h => absurd h (Nat.lt_irrefl _)) _).setCell (fun h => absurd h (Nat.lt_irrefl _)) _))
        rw [results_cell_tmp rfl]
        go_simp
      | true =>
        have HO : Hid (True → of19 t (N : Int) = (⟨t, l⟩, true)) := fun _ => ho1 rfl
        clear ho1 ho2
        go_enter Tryz.func101, Tryz.ntmps101
        go_wp2_with (go_at_call 49; refine (HIX.out _).mono ?_; rintro e w' ⟨rfl, k, rfl⟩)
        refine bodyPost_ret (v := .tuple #[.agg #[.int .i64 t, .int .i64 l], .bool true]) ?_ rfl (ofp19 (HO.out trivial) (((((Turn.refl _ w).alloc _).drewN _).setCell (fun h => absurd h (Nat.lt_irrefl _)) _).setCell (fun h => absurd h (Nat.lt_irrefl _)) _))
        rw [results_cell_tmp rfl]
        go_simp

set_option maxHeartbeats 8000000 in
theorem span_any19 (p : T19) (w : World) : Calls Tryz.prog 37 #[tv19 p] w fun e w' => e = .returned (.tuple #[.int .i64 (span19 p).1, .int .i64 (span19 p).2]) ∧ Turn (fun _ => False) w w' := by
  obtain ⟨wb, hwb⟩ : ∃ wb, wb = w.alloc (.cells (tcells19 p) 45) := ⟨_, rfl⟩
  obtain ⟨g, hg⟩ : ∃ g, g = w.heap.size := ⟨_, rfl⟩
  have HT : Hid (Turn (fun _ => False) w wb) := by rw [hwb]; exact (Turn.refl _ w).alloc _
  have HBX : Hid (Box wb g 45 (tcells19 p)) := by rw [hwb, hg]; exact Box.new w _ _
  obtain ⟨z0, z1⟩ := box_t19 (Box.new w 45 (tcells19 p))
  have HRT := Lib.hid (right_any19 p wb)
  have HWB := Lib.hid hwb; have HG := Lib.hid hg
  clear hwb hg
  cases hr : right19 p with
  | false =>
    have HS : Hid (True → span19 p = (0, 0)) := fun _ => span_no19 hr
    rw [hr] at HRT
    clear hr
    go_enter Tryz.func37, Tryz.ntmps37
    go_wp2_with fail
    rw [← HWB.out, ← HG.out]
    refine HRT.out.mono ?_
    rintro e w1 ⟨rfl, t1⟩
    have HT1 := Lib.hid (HT.out.trans t1 (fun _ _ f => f))
    have HBW := Lib.hid (HBX.out.turn t1 (fun f => f))
    obtain ⟨y0, y1⟩ := box_t19 HBW.out
    clear t1 HRT z0 z1
    go_wp2
    go_ret2
    exact ⟨by rw [HS.out trivial]; rfl, HT1.out⟩
  | true =>
    have hti := tier_of19 hr
    obtain ⟨h0, -⟩ := right_iff19.1 hr
    have hsp : span19 p = if p.t = 1 then (p.i, p.i + 1) else if p.t = 2 then (24 * p.i, 24 * (p.i + 1)) else (24 * (ma19 p.i.toNat : Int), 24 * (mb19 p.i.toNat : Int)) := if_pos hr
    rw [hr] at HRT
    clear hr
    obtain ⟨pt, pi⟩ := p
    dsimp only at hti h0 hsp HBX HRT HWB
    obtain ⟨N, rfl⟩ := Int.eq_ofNat_of_zero_le h0
    rw [Int.toNat_natCast] at hsp
    rcases hti with ⟨rfl, hb⟩ | ⟨rfl, hb⟩ | ⟨rfl, hb⟩
    · have HS : Hid (True → span19 ⟨1, (N : Int)⟩ = ((N : Int), (N : Int) + 1)) := fun _ => hsp.trans (if_pos rfl)
      have hw : IntKind.i64.wrap ((N : Int) + 1) = (N : Int) + 1 := IntWalk.i64_in _ (by omega)
      clear hsp h0
      go_enter Tryz.func37, Tryz.ntmps37
      go_wp2_with fail
      rw [← HWB.out, ← HG.out]
      refine HRT.out.mono ?_
      rintro e w1 ⟨rfl, t1⟩
      have HT1 := Lib.hid (HT.out.trans t1 (fun _ _ f => f))
      have HBW := Lib.hid (HBX.out.turn t1 (fun f => f))
      obtain ⟨y0, y1⟩ := box_t19 HBW.out
      clear t1 HRT z0 z1
      go_wp2_with fail
      go_quiet (fail)
      go_wp2
      go_ret2
      exact ⟨by rw [HS.out trivial]; rfl, HT1.out.drewN _⟩
    · have HS : Hid (True → span19 ⟨2, (N : Int)⟩ = (24 * (N : Int), 24 * ((N : Int) + 1))) := fun _ => hsp.trans ((if_neg (by decide)).trans (if_pos rfl))
      have hw : IntKind.i64.wrap ((N : Int) + 1) = (N : Int) + 1 := IntWalk.i64_in _ (by omega)
      have hw2 : IntKind.i64.wrap (24 * (N : Int)) = 24 * (N : Int) := IntWalk.i64_in _ (by omega)
      have hw3 : IntKind.i64.wrap (24 * ((N : Int) + 1)) = 24 * ((N : Int) + 1) := IntWalk.i64_in _ (by omega)
      clear hsp h0
      go_enter Tryz.func37, Tryz.ntmps37
      go_wp2_with fail
      rw [← HWB.out, ← HG.out]
      refine HRT.out.mono ?_
      rintro e w1 ⟨rfl, t1⟩
      have HT1 := Lib.hid (HT.out.trans t1 (fun _ _ f => f))
      have HBW := Lib.hid (HBX.out.turn t1 (fun f => f))
      obtain ⟨y0, y1⟩ := box_t19 HBW.out
      clear t1 HRT z0 z1
      go_wp2_with fail
      go_quiet (fail)
      go_wp2
      go_ret2
      exact ⟨by rw [HS.out trivial]; rfl, HT1.out.drewN _⟩
    · have HS : Hid (True → span19 ⟨3, (N : Int)⟩ = (24 * (ma19 N : Int), 24 * (mb19 N : Int))) := fun _ => hsp.trans ((if_neg (by decide)).trans (if_neg (by decide)))
      have HSP : Hid (∀ W, Calls Tryz.prog 55 #[.int .i64 (N : Int)] W fun e w' => e = .returned (.tuple #[.int .i64 (ma19 N : Int), .int .i64 (mb19 N : Int)]) ∧ ∃ k, w' = W.drewN k) := fun W => span_any N W (by omega)
      obtain ⟨l1, l2⟩ := mb_le19 (n := N) (by omega)
      generalize ma19 N = A at *
      generalize mb19 N = B at *
      have hw : IntKind.i64.wrap ((N : Int) + 1) = (N : Int) + 1 := IntWalk.i64_in _ (by omega)
      have hw2 : IntKind.i64.wrap (24 * (A : Int)) = 24 * (A : Int) := IntWalk.i64_in _ (by omega)
      have hw3 : IntKind.i64.wrap (24 * (B : Int)) = 24 * (B : Int) := IntWalk.i64_in _ (by omega)
      clear hsp h0
      go_enter Tryz.func37, Tryz.ntmps37
      go_wp2_with fail
      rw [← HWB.out, ← HG.out]
      refine HRT.out.mono ?_
      rintro e w1 ⟨rfl, t1⟩
      have HT1 := Lib.hid (HT.out.trans t1 (fun _ _ f => f))
      have HBW := Lib.hid (HBX.out.turn t1 (fun f => f))
      obtain ⟨y0, y1⟩ := box_t19 HBW.out
      clear t1 HRT z0 z1
      go_wp2_with fail
      go_quiet (fail)
      go_wp2_with (go_at_call 55; refine (HSP.out _).mono ?_; rintro e w' ⟨rfl, k, rfl⟩)
      go_ret2
      first | exact ⟨by rw [HS.out trivial]; rfl, HT1.out.drewN _⟩ | exact ⟨by rw [HS.out trivial]; rfl, (HT1.out.drewN _).drewN _⟩

set_option maxHeartbeats 4000000 in
theorem has_any19 (p : T19) (h : Int) (w : World) : Calls Tryz.prog 34 #[tv19 p, .int .i64 h] w fun e w' => e = .returned (.bool (has19 p h)) ∧ Turn (fun _ => False) w w' := by
  obtain ⟨wb, hwb⟩ : ∃ wb, wb = w.alloc (.cells (tcells19 p) 45) := ⟨_, rfl⟩
  have HT : Hid (Turn (fun _ => False) w wb) := by rw [hwb]; exact (Turn.refl _ w).alloc _
  obtain ⟨z0, z1⟩ := box_t19 (Box.new w 45 (tcells19 p))
  have HSP := Lib.hid (span_any19 p wb)
  have HH : Hid (has19 p h = (decide ((span19 p).1 ≤ h) && decide (h < (span19 p).2))) := rfl
  have HWB := Lib.hid hwb
  generalize has19 p h = x at *
  generalize (span19 p).1 = a at *
  generalize (span19 p).2 = b at *
  clear hwb
  by_cases h1 : a ≤ h
  · by_cases h2 : h < b
    · have HB : Hid (x = true) := by show _ = _; rw [HH.out, decide_eq_true h1, decide_eq_true h2]; rfl
      go_enter Tryz.func34, Tryz.ntmps34
      go_wp2_with fail
      rw [← HWB.out]
      refine HSP.out.mono ?_
      rintro e w1 ⟨rfl, t1⟩
      have HT1 := Lib.hid (HT.out.trans t1 (fun _ _ f => f))
      clear t1 HSP z0 z1
      go_wp2
      go_ret
      exact ⟨by rw [HB.out]; first | rfl | exact ret_bool (decide_eq_true (by omega)) | exact ret_bool (decide_eq_false (by omega)), HT1.out⟩
    · have HB : Hid (x = false) := by show _ = _; rw [HH.out, decide_eq_false h2, Bool.and_false]
      go_enter Tryz.func34, Tryz.ntmps34
      go_wp2_with fail
      rw [← HWB.out]
      refine HSP.out.mono ?_
      rintro e w1 ⟨rfl, t1⟩
      have HT1 := Lib.hid (HT.out.trans t1 (fun _ _ f => f))
      clear t1 HSP z0 z1
      go_wp2
      go_ret
      exact ⟨by rw [HB.out]; first | rfl | exact ret_bool (decide_eq_true (by omega)) | exact ret_bool (decide_eq_false (by omega)), HT1.out⟩
  · have HB : Hid (x = false) := by show _ = _; rw [HH.out, decide_eq_false h1, Bool.false_and]
    go_enter Tryz.func34, Tryz.ntmps34
    go_wp2_with fail
    rw [← HWB.out]
    refine HSP.out.mono ?_
    rintro e w1 ⟨rfl, t1⟩
    have HT1 := Lib.hid (HT.out.trans t1 (fun _ _ f => f))
    clear t1 HSP z0 z1
    go_wp2
    go_ret
    exact ⟨by rw [HB.out]; first | rfl | exact ret_bool (decide_eq_true (by omega)) | exact ret_bool (decide_eq_false (by omega)), HT1.out⟩

end Go.Proofs.YtgbphkbbedkepaaGreat

/-
  Stage 19: the program's Within, Meets, Less.
-/
namespace Go.Proofs.YtgbphkbbedkepaaGreat
open Go.RowKit

set_option maxRecDepth 100000

theorem box_two19 (w : World) (a b : T19) : ∃ (g k : Nat) (wb : World), g = w.heap.size ∧ k = w.heap.size + 1 ∧ wb = (w.alloc (.cells (tcells19 a) 45)).alloc (.cells (tcells19 b) 45) ∧ Turn (fun _ => False) w wb ∧ Box wb g 45 (tcells19 a) ∧ Box wb k 45 (tcells19 b) := by
  refine ⟨_, _, _, rfl, rfl, rfl, ((Turn.refl _ w).alloc _).alloc _, (Box.new w _ _).alloc _, ?_⟩
  have h := Box.new (w.alloc (.cells (tcells19 a) 45)) 45 (tcells19 b)
  rw [World.size_alloc] at h
  exact h

set_option maxHeartbeats 8000000 in
theorem within_any19 (a b : T19) (w : World) : Calls Tryz.prog 84 #[tv19 a, tv19 b] w fun e w' => e = .returned (.bool (within19 a b)) ∧ Turn (fun _ => False) w w' := by
  obtain ⟨g, k, wb, hg, hk, hwb, hT, hA, hB⟩ := box_two19 w a b
  have HT := Lib.hid hT; have HA := Lib.hid hA; have HB := Lib.hid hB
  obtain ⟨z0, z1⟩ := box_t19 hA
  rw [hwb, hg] at z0 z1
  have HRA := Lib.hid (right_any19 a wb)
  have HSA : Hid (∀ W, Calls Tryz.prog 37 #[tv19 a] W fun e w' => e = .returned (.tuple #[.int .i64 (span19 a).1, .int .i64 (span19 a).2]) ∧ Turn (fun _ => False) W w') := fun W => span_any19 a W
  have HOF : Hid (∀ W, Calls Tryz.prog 101 #[.int .i64 b.t, .int .i64 (span19 a).1] W fun e w' => OfP19 b.t (span19 a).1 W e w') := fun W => of_any19 b.t (span19 a).1 W
  have HX : Hid (True → within19 a b = (right19 a && (decide (a.t ≤ b.t) && ((of19 b.t (span19 a).1).2 && eqT (of19 b.t (span19 a).1).1 b)))) := fun _ => within_new19 a b
  have HWB := Lib.hid hwb; have HG := Lib.hid hg; have HK := Lib.hid hk
  unfold OfP19 at HOF
  generalize within19 a b = z at *
  generalize right19 a = ra at *
  generalize of19 b.t (span19 a).1 = o at *
  obtain ⟨q, is⟩ := o
  dsimp only at HX HOF
  generalize (span19 a).1 = x at *
  generalize (span19 a).2 = y at *
  have HQ : Hid (∀ W, Sem.run Tryz.prog (binOp .eql 45 (tv19 q) (tv19 b)) W = .ok (.bool (eqT q b)) W) := fun W => run_eql_part20 q b W
  generalize eqT q b = eq at *
  clear hwb hg hk hT hA hB
  go_enter Tryz.func84, Tryz.ntmps84
  go_wp2_with fail
  rw [← HWB.out, ← HK.out, ← HG.out]
  refine HRA.out.mono ?_
  rintro e w1 ⟨rfl, t1⟩
  have HT1 := Lib.hid t1
  clear t1 z0 z1 HRA
  cases ra with
  | false =>
    have HE : Hid (True → z = false) := HX.out
    clear HX
    go_wp2
    go_ret
    exact ⟨by rw [HE.out trivial]; rfl, HT.out.trans HT1.out (fun _ _ f => f)⟩
  | true =>
    have HX1 : Hid (True → z = (decide (a.t ≤ b.t) && (is && eq))) := HX.out
    clear HX
    obtain ⟨x0, x1⟩ := box_t19 (HA.out.turn HT1.out (fun f => f))
    obtain ⟨y0, y1⟩ := box_t19 (HB.out.turn HT1.out (fun f => f))
    by_cases hle : a.t ≤ b.t
    · have HX2 : Hid (True → z = (is && eq)) := fun _ => by rw [HX1.out trivial, decide_eq_true hle]; rfl
      clear HX1
      go_wp2_with fail
      refine (HSA.out w1).mono ?_
      rintro e w2 ⟨rfl, t2⟩
      have HT2 := Lib.hid (HT1.out.trans t2 (fun _ _ f => f))
      clear t2 x0 x1 y0 y1 HSA
      obtain ⟨y0, y1⟩ := box_t19 (HB.out.turn HT2.out (fun f => f))
      go_wp2_with fail
      refine (HOF.out w2).mono ?_
      rintro e w3 ⟨rfl, t3⟩
      obtain ⟨m, hm⟩ : ∃ m, m = w3.heap.size := ⟨_, rfl⟩
      obtain ⟨w4, hw4⟩ : ∃ w4, w4 = w3.alloc (.cells (tcells19 q) 45) := ⟨_, rfl⟩
      have HT4 : Hid (Turn (fun _ => False) wb w4) := by rw [hw4]; exact (HT2.out.trans t3 (fun _ _ f => f)).alloc _
      have HM4 : Hid (Box w4 m 45 (tcells19 q)) := by rw [hw4, hm]; exact Box.new w3 _ _
      clear y0 y1 t3
      obtain ⟨y0, y1⟩ := box_t19 (HB.out.turn HT4.out (fun f => f))
      obtain ⟨x0, x1⟩ := box_t19 HM4.out
      rw [hw4] at y0 y1 x0 x1
      rw [hm] at x0 x1
      have HW4 := Lib.hid hw4; have HMM := Lib.hid hm
      clear hw4 hm HOF
      have hq := HQ.out
      cases is with
      | false =>
        have HE : Hid (True → z = false) := HX2.out
        clear HX2
        go_wp2
        go_ret
        exact ⟨by rw [HE.out trivial]; rfl, by rw [← HW4.out]; exact HT.out.trans HT4.out (fun _ _ f => f)⟩
      | true =>
        have HE : Hid (True → z = eq) := HX2.out
        clear HX2
        go_wp2
        go_ret
        exact ⟨by rw [HE.out trivial]; first | rfl | simp, by rw [← HW4.out]; exact HT.out.trans HT4.out (fun _ _ f => f)⟩
    · have HE : Hid (True → z = false) := fun _ => by rw [HX1.out trivial, decide_eq_false hle]; rfl
      have hgt : b.t < a.t := by omega
      clear HX1
      go_wp2
      go_ret
      exact ⟨by rw [HE.out trivial]; rfl, HT.out.trans HT1.out (fun _ _ f => f)⟩

set_option maxHeartbeats 8000000 in
theorem meets_any19 (a b : T19) (w : World) : Calls Tryz.prog 57 #[tv19 a, tv19 b] w fun e w' => e = .returned (.bool (meets19 a b)) ∧ Turn (fun _ => False) w w' := by
  obtain ⟨g, k, wb, hg, hk, hwb, hT, hA, hB⟩ := box_two19 w a b
  have HT := Lib.hid hT; have HA := Lib.hid hA; have HB := Lib.hid hB
  obtain ⟨z0, z1⟩ := box_t19 hA
  obtain ⟨y0, y1⟩ := box_t19 hB
  rw [hwb, hg] at z0 z1
  rw [hwb, hk] at y0 y1
  have HWA := Lib.hid (within_any19 a b wb)
  have HWC : Hid (∀ W, Calls Tryz.prog 84 #[tv19 b, tv19 a] W fun e w' => e = .returned (.bool (within19 b a)) ∧ Turn (fun _ => False) W w') := fun W => within_any19 b a W
  have HX : Hid (True → meets19 a b = (within19 a b || within19 b a)) := fun _ => meets_new19 a b
  have HWB := Lib.hid hwb; have HG := Lib.hid hg; have HK := Lib.hid hk
  generalize meets19 a b = z at *
  generalize within19 a b = u at *
  generalize within19 b a = v at *
  clear hwb hg hk hT hA hB
  go_enter Tryz.func57, Tryz.ntmps57
  go_wp2_with fail
  rw [← HWB.out, ← HK.out, ← HG.out]
  refine HWA.out.mono ?_
  rintro e w1 ⟨rfl, t1⟩
  have HT1 := Lib.hid t1
  clear t1 z0 z1 y0 y1 HWA
  cases u with
  | true =>
    have HE : Hid (True → z = true) := HX.out
    clear HX
    go_wp2
    go_ret
    exact ⟨by rw [HE.out trivial]; rfl, HT.out.trans HT1.out (fun _ _ f => f)⟩
  | false =>
    have HE : Hid (True → z = v) := HX.out
    clear HX
    obtain ⟨x0, x1⟩ := box_t19 (HA.out.turn HT1.out (fun f => f))
    obtain ⟨y0, y1⟩ := box_t19 (HB.out.turn HT1.out (fun f => f))
    go_wp2_with fail
    refine (HWC.out w1).mono ?_
    rintro e w2 ⟨rfl, t2⟩
    have HT2 := Lib.hid (HT1.out.trans t2 (fun _ _ f => f))
    clear t2 x0 x1 y0 y1 HWC
    go_wp2
    go_ret
    exact ⟨by rw [HE.out trivial]; first | rfl | simp, HT.out.trans HT2.out (fun _ _ f => f)⟩

end Go.Proofs.YtgbphkbbedkepaaGreat

/-
  Stage 20: the program's catalog in memory; there, New, Len, Copy, Right, At, Get.
-/
namespace Go.Proofs.YtgbphkbbedkepaaGreat
open Go.RowKit

set_option maxRecDepth 100000

/-- The program's catalog of the entries l, at block g. -/
def CM20 (w : World) (F : Nat → Prop) (g : Nat) (l : List N20) : Prop := F = (fun k => k = g) ∧ ome.MP w g (kv20 l)
theorem CM20.mp {w : World} {F : Nat → Prop} {g : Nat} {l : List N20} (h : CM20 w F g l) : ome.MP w g (kv20 l) := h.2
theorem mp_lt20 {w : World} {g : Nat} {L : List (Int × N20)} (h : ome.MP w g L) : g < w.heap.size := by
  obtain ⟨t0, x, A, -, hb, -⟩ := h.out
  exact hb.lt
theorem mp_far20 {w : World} {g : Nat} {L : List (Int × N20)} (h : ome.MP w g L) (i : Nat) (cs : Array Value) (hi : Box w i 92 cs) : ¬ i = g := fun e => by
  obtain ⟨t0, x, A, hne, hb, -⟩ := h.out
  subst e
  have e2 := (show w.heap[i]? = _ from hi).symm.trans hb
  injection e2 with e2
  injection e2 with _ e3
  exact hne e3.symm
theorem CM20.lt {w : World} {F : Nat → Prop} {g : Nat} {l : List N20} (h : CM20 w F g l) : ∀ k, F k → k < w.heap.size := fun k hk => by
  rw [h.1] at hk
  rw [hk]; exact mp_lt20 h.2
theorem CM20.later {w w' : World} {F : Nat → Prop} {g : Nat} {l : List N20} (h : CM20 w F g l) (ht : Turn (fun _ => False) w w') : CM20 w' F g l := ⟨h.1, h.2.later ht⟩
theorem CM20.apart {w w' : World} {F : Nat → Prop} {g : Nat} {l : List N20} {F2 : Nat → Prop} {g2 : Nat} {l2 : List N20} (h : CM20 w F g l) (h2 : CM20 w F2 g2 l2) (hd : ∀ k, F k → ¬ F2 k) (ht : Turn F2 w w') : CM20 w' F g l :=
  ⟨h.1, h.2.turn ht (hd g (by rw [h.1])) (fun i cs hi e => mp_far20 h2.2 i cs hi (by rw [h2.1] at e; exact e))⟩

theorem there_any20 (g : Nat) (w : World) : Calls Tryz.prog 25 #[.pointer (some ⟨g, 0, none⟩)] w fun e w' => e = .returned (.pointer (some ⟨g, 0, none⟩)) ∧ w = w' := by
  go_enter Tryz.func25, Tryz.ntmps25
  go_wp2
  go_ret
  exact ⟨rfl, rfl⟩
theorem there_nil20 (w : World) : Calls Tryz.prog 25 #[.pointer none] w fun e w' => e = .returned (.pointer none) ∧ w = w' := by
  go_enter Tryz.func25, Tryz.ntmps25
  go_wp2
  go_ret
  exact ⟨rfl, rfl⟩
theorem new_any20 (w : World) : Calls Tryz.prog 6 #[] w fun e w' => Lays20 CM20 w [] e w' := by
  go_enter Tryz.func6, Tryz.ntmps6
  go_wp2
  go_ret
  exact ⟨w.heap.size, fun k => k = w.heap.size, rfl, ⟨rfl, ⟨⟨_, .nil, none, by decide, Box.new w 55 #[.pointer none], rfl, rfl⟩, up_nil⟩⟩, (Turn.refl _ w).alloc _, fun k hk => Nat.le_of_eq hk.symm⟩
theorem len_any20 {w : World} {F : Nat → Prop} {g : Nat} {l : List N20} (h : CM20 w F g l) : Calls Tryz.prog 11 #[.pointer (some ⟨g, 0, none⟩)] w fun e w' => e = .returned (.int .i64 (l.length : Int)) ∧ w = w' := by
  have HL := Lib.hid (ome.len_any h.mp)
  rw [kv_len20] at HL
  clear h
  go_enter Tryz.func11, Tryz.ntmps11
  go_wp2_with (first
    | (go_at_call 25; refine (there_any20 _ _).mono ?_; rintro e w' ⟨rfl, rfl⟩)
    | (go_at_call 26; refine HL.out.mono ?_; rintro e w' ⟨rfl, rfl⟩)
    | fail)
  go_ret
  exact ⟨rfl, rfl⟩
theorem map_len_nil20 (w : World) : Calls Tryz.prog 26 #[.pointer none] w fun e w' => e = .returned (.int .i64 0) ∧ w = w' := by
  go_enter Tryz.func26, Tryz.ntmps26
  go_wp2
  go_ret
  exact ⟨rfl, rfl⟩
theorem len_nil20 (w : World) : Calls Tryz.prog 11 #[.pointer none] w fun e w' => e = .returned (.int .i64 0) ∧ w = w' := by
  go_enter Tryz.func11, Tryz.ntmps11
  go_wp2_with (first
    | (go_at_call 25; refine (there_nil20 _).mono ?_; rintro e w' ⟨rfl, rfl⟩)
    | (go_at_call 26; refine (map_len_nil20 _).mono ?_; rintro e w' ⟨rfl, rfl⟩)
    | fail)
  go_ret
  exact ⟨rfl, rfl⟩

set_option maxHeartbeats 1000000 in
theorem copy_any20 {w : World} {F : Nat → Prop} {g : Nat} {l : List N20} (h : CM20 w F g l) : Calls Tryz.prog 19 #[.pointer (some ⟨g, 0, none⟩)] w fun e w' => Lays20 CM20 w l e w' := by
  have HC := Lib.hid (ome.copy_any h.mp)
  clear h
  go_enter Tryz.func19, Tryz.ntmps19
  go_wp2_with fail
  refine HC.out.mono ?_
  rintro e w1 ⟨rfl, hm, ht⟩
  obtain ⟨t0, x, A, hne, hb, hx, hf⟩ := hm.out
  have c0 : w1.cell? ⟨w.heap.size, 0, none⟩ = some (.pointer A) := hb.cell 0
  have HU := Lib.hid hm.up; have HX := Lib.hid hx; have HF := Lib.hid hf; have HT := Lib.hid ht
  have HSZ := Lib.hid ht.size
  clear hm ht hx hf hb hne HC
  go_wp2
  go_ret
  exact ⟨w1.heap.size, fun k => k = w1.heap.size, rfl, ⟨rfl, ⟨⟨_, x, A, by decide, Box.new w1 55 #[.pointer A], HX.out.later ((Turn.refl _ w1).alloc _), HF.out⟩, HU.out⟩⟩, HT.out.alloc _, fun k hk => by rw [hk]; exact HSZ.out⟩
theorem copy_nil20 (w : World) : Calls Tryz.prog 19 #[.pointer none] w fun e w' => SaysC20 w (.pointer none) e w' := by
  go_enter Tryz.func19, Tryz.ntmps19
  go_wp2
  go_ret
  exact ⟨rfl, Turn.refl _ w⟩

theorem in_any20 (a n : Int) (w : World) : Calls Tryz.prog 29 #[.int .i64 a, .int .i64 n] w fun e w' => e = .returned (.bool (in20 n a 4611686018427387904)) ∧ w = w' := by
  obtain ⟨m, hm⟩ : ∃ m : Int, m = 4611686018427387904 := ⟨_, rfl⟩
  have HIN : Hid (in20 n a 4611686018427387904 = (decide (a ≤ n) && decide (n ≤ m))) := by rw [hm]; rfl
  by_cases h0 : a ≤ n
  · have e0 : decide (a ≤ n) = true := decide_eq_true h0
    by_cases h1 : n ≤ 4611686018427387904
    · have HB : Hid (in20 n a 4611686018427387904 = true) := by show _ = _; rw [HIN.out, hm, decide_eq_true h0, decide_eq_true h1]; rfl
      clear HIN hm
      go_enter Tryz.func29, Tryz.ntmps29
      go_wp2
      go_ret
      exact ⟨by rw [HB.out]; rfl, rfl⟩
    · have HB : Hid (in20 n a 4611686018427387904 = false) := by show _ = _; rw [HIN.out, hm, decide_eq_false h1, Bool.and_false]
      clear HIN hm
      go_enter Tryz.func29, Tryz.ntmps29
      go_wp2
      go_ret
      exact ⟨by rw [HB.out]; rfl, rfl⟩
  · have HB : Hid (in20 n a 4611686018427387904 = false) := by show _ = _; rw [HIN.out, decide_eq_false h0, Bool.false_and]
    clear HIN hm
    go_enter Tryz.func29, Tryz.ntmps29
    go_wp2
    go_ret
    exact ⟨by rw [HB.out]; rfl, rfl⟩

end Go.Proofs.YtgbphkbbedkepaaGreat

/-
  Stage 20: the program's Right, At, Get.
-/
namespace Go.Proofs.YtgbphkbbedkepaaGreat
open Go.RowKit

set_option maxRecDepth 100000

set_option maxHeartbeats 4000000 in
theorem right_any20 (e : N20) (w : World) : Calls Tryz.prog 15 #[ev20 e] w fun e' w' => SaysC20 w (.bool (right20 e)) e' w' := by
  obtain ⟨g, hg⟩ : ∃ g, g = w.heap.size := ⟨_, rfl⟩
  obtain ⟨w0, hw0⟩ : ∃ w0, w0 = w.alloc (.cells (ecells20 e) 47) := ⟨_, rfl⟩
  have HT0 : Hid (Turn (fun _ => False) w w0) := by rw [hw0]; exact (Turn.refl _ w).alloc _
  have HBX : Hid (Box w0 g 47 (ecells20 e)) := by rw [hw0, hg]; exact Box.new w _ _
  have HW0 := Lib.hid hw0; have HG := Lib.hid hg
  have HR : Hid (right20 e = (right19 e.p && (in20 e.seg 1 4611686018427387904 && (in20 e.rows 1 4611686018427387904 && (in20 e.mark 0 4611686018427387904 && (!e.cold || decide (e.p.t = 3))))))) := rfl
  have HI1 : Hid (∀ W, Calls Tryz.prog 29 #[.int .i64 1, .int .i64 e.seg] W fun e' w' => e' = .returned (.bool (in20 e.seg 1 4611686018427387904)) ∧ W = w') := fun W => in_any20 _ _ W
  have HI2 : Hid (∀ W, Calls Tryz.prog 29 #[.int .i64 0, .int .i64 e.mark] W fun e' w' => e' = .returned (.bool (in20 e.mark 0 4611686018427387904)) ∧ W = w') := fun W => in_any20 _ _ W
  have HI3 : Hid (∀ W, Calls Tryz.prog 29 #[.int .i64 1, .int .i64 e.rows] W fun e' w' => e' = .returned (.bool (in20 e.rows 1 4611686018427387904)) ∧ W = w') := fun W => in_any20 _ _ W
  have HP : Hid (∀ W, Calls Tryz.prog 30 #[tv19 e.p] W fun e' w' => e' = .returned (.bool (right19 e.p)) ∧ Turn (fun _ => False) W w') := fun W => right_any19 e.p W
  clear hw0 hg
  generalize right20 e = R at *
  generalize right19 e.p = a at *
  generalize in20 e.seg 1 4611686018427387904 = b1 at *
  generalize in20 e.mark 0 4611686018427387904 = b2 at *
  generalize in20 e.rows 1 4611686018427387904 = b3 at *
  cases a with
  | false =>
    have HB : Hid (R = false) := HR.out.trans (Bool.false_and _)
    clear HR
    go_enter Tryz.func15, Tryz.ntmps15
    go_wp2_with fail
    rw [show w.alloc (.cells #[.int .i64 e.p.t, .int .i64 e.p.i, .int .i64 e.seg, .int .i64 e.mark, .int .i64 e.rows, .bool e.cold] 47) = w0 from HW0.out.symm, ← HG.out]
    refine (HP.out _).mono ?_
    rintro e' w1 ⟨rfl, t1⟩
    have HT1 := Lib.hid (HT0.out.trans t1 (fun _ _ f => f))
    obtain ⟨a0, a1, a2, a3, a4, a5⟩ := box_n20 (HBX.out.turn t1 (fun f => f))
    clear t1
    go_wp2_with (first
      | (go_at_call 29; (with_reducible refine (HI1.out _).mono ?_); rintro e' w' ⟨rfl, rfl⟩)
      | (go_at_call 29; (with_reducible refine (HI2.out _).mono ?_); rintro e' w' ⟨rfl, rfl⟩)
      | (go_at_call 29; (with_reducible refine (HI3.out _).mono ?_); rintro e' w' ⟨rfl, rfl⟩)
      | fail)
    go_ret
    exact ⟨by rw [HB.out]; rfl, HT1.out⟩
  | true =>
    obtain ⟨c, hc⟩ : ∃ c, e.cold = c := ⟨_, rfl⟩
    have HC := Lib.hid hc
    have hc0 := hc
    clear hc
    cases c with
    | false =>
      have HCT : Hid ((!e.cold || decide (e.p.t = 3)) = true) := by show _ = _; rw [HC.out]; rfl
      cases b1 with
      | false =>
        have HB : Hid (R = false) := by show _ = _; rw [HR.out]; simp
        clear HR
        go_enter Tryz.func15, Tryz.ntmps15
        go_wp2_with fail
        rw [show w.alloc (.cells #[.int .i64 e.p.t, .int .i64 e.p.i, .int .i64 e.seg, .int .i64 e.mark, .int .i64 e.rows, .bool e.cold] 47) = w0 from HW0.out.symm, ← HG.out]
        refine (HP.out _).mono ?_
        rintro e' w1 ⟨rfl, t1⟩
        have HT1 := Lib.hid (HT0.out.trans t1 (fun _ _ f => f))
        obtain ⟨a0, a1, a2, a3, a4, a5⟩ := box_n20 (HBX.out.turn t1 (fun f => f))
        clear t1
        go_wp2_with (first
          | (go_at_call 29; (with_reducible refine (HI1.out _).mono ?_); rintro e' w' ⟨rfl, rfl⟩)
          | (go_at_call 29; (with_reducible refine (HI2.out _).mono ?_); rintro e' w' ⟨rfl, rfl⟩)
          | (go_at_call 29; (with_reducible refine (HI3.out _).mono ?_); rintro e' w' ⟨rfl, rfl⟩)
          | fail)
        go_ret
        exact ⟨by rw [HB.out]; rfl, HT1.out⟩
      | true =>
        cases b2 with
        | false =>
          have HB : Hid (R = false) := by show _ = _; rw [HR.out]; simp
          clear HR
          go_enter Tryz.func15, Tryz.ntmps15
          go_wp2_with fail
          rw [show w.alloc (.cells #[.int .i64 e.p.t, .int .i64 e.p.i, .int .i64 e.seg, .int .i64 e.mark, .int .i64 e.rows, .bool e.cold] 47) = w0 from HW0.out.symm, ← HG.out]
          refine (HP.out _).mono ?_
          rintro e' w1 ⟨rfl, t1⟩
          have HT1 := Lib.hid (HT0.out.trans t1 (fun _ _ f => f))
          obtain ⟨a0, a1, a2, a3, a4, a5⟩ := box_n20 (HBX.out.turn t1 (fun f => f))
          clear t1
          go_wp2_with (first
            | (go_at_call 29; (with_reducible refine (HI1.out _).mono ?_); rintro e' w' ⟨rfl, rfl⟩)
            | (go_at_call 29; (with_reducible refine (HI2.out _).mono ?_); rintro e' w' ⟨rfl, rfl⟩)
            | (go_at_call 29; (with_reducible refine (HI3.out _).mono ?_); rintro e' w' ⟨rfl, rfl⟩)
            | fail)
          go_ret
          exact ⟨by rw [HB.out]; rfl, HT1.out⟩
        | true =>
          cases b3 with
          | false =>
            have HB : Hid (R = false) := by show _ = _; rw [HR.out]; simp
            clear HR
            go_enter Tryz.func15, Tryz.ntmps15
            go_wp2_with fail
            rw [show w.alloc (.cells #[.int .i64 e.p.t, .int .i64 e.p.i, .int .i64 e.seg, .int .i64 e.mark, .int .i64 e.rows, .bool e.cold] 47) = w0 from HW0.out.symm, ← HG.out]
            refine (HP.out _).mono ?_
            rintro e' w1 ⟨rfl, t1⟩
            have HT1 := Lib.hid (HT0.out.trans t1 (fun _ _ f => f))
            obtain ⟨a0, a1, a2, a3, a4, a5⟩ := box_n20 (HBX.out.turn t1 (fun f => f))
            clear t1
            go_wp2_with (first
              | (go_at_call 29; (with_reducible refine (HI1.out _).mono ?_); rintro e' w' ⟨rfl, rfl⟩)
              | (go_at_call 29; (with_reducible refine (HI2.out _).mono ?_); rintro e' w' ⟨rfl, rfl⟩)
              | (go_at_call 29; (with_reducible refine (HI3.out _).mono ?_); rintro e' w' ⟨rfl, rfl⟩)
              | fail)
            go_ret
            exact ⟨by rw [HB.out]; rfl, HT1.out⟩
          | true =>
            have HB : Hid (R = true) := by show _ = _; rw [HR.out, HCT.out]; rfl
            clear HR
            go_enter Tryz.func15, Tryz.ntmps15
            go_wp2_with fail
            rw [show w.alloc (.cells #[.int .i64 e.p.t, .int .i64 e.p.i, .int .i64 e.seg, .int .i64 e.mark, .int .i64 e.rows, .bool e.cold] 47) = w0 from HW0.out.symm, ← HG.out]
            refine (HP.out _).mono ?_
            rintro e' w1 ⟨rfl, t1⟩
            have HT1 := Lib.hid (HT0.out.trans t1 (fun _ _ f => f))
            obtain ⟨a0, a1, a2, a3, a4, a5⟩ := box_n20 (HBX.out.turn t1 (fun f => f))
            clear t1
            go_wp2_with (first
              | (go_at_call 29; (with_reducible refine (HI1.out _).mono ?_); rintro e' w' ⟨rfl, rfl⟩)
              | (go_at_call 29; (with_reducible refine (HI2.out _).mono ?_); rintro e' w' ⟨rfl, rfl⟩)
              | (go_at_call 29; (with_reducible refine (HI3.out _).mono ?_); rintro e' w' ⟨rfl, rfl⟩)
              | fail)
            go_ret
            exact ⟨by rw [HB.out]; rfl, HT1.out⟩
    | true =>
      by_cases h3 : e.p.t = 3
      · have HCT : Hid ((!e.cold || decide (e.p.t = 3)) = true) := by show _ = _; rw [HC.out, decide_eq_true h3]; rfl
        have e3 : (e.p.t != 3) = false := by simp [bne, h3]
        clear h3
        cases b1 with
        | false =>
          have HB : Hid (R = false) := by show _ = _; rw [HR.out]; simp
          clear HR
          go_enter Tryz.func15, Tryz.ntmps15
          go_wp2_with fail
          rw [show w.alloc (.cells #[.int .i64 e.p.t, .int .i64 e.p.i, .int .i64 e.seg, .int .i64 e.mark, .int .i64 e.rows, .bool e.cold] 47) = w0 from HW0.out.symm, ← HG.out]
          refine (HP.out _).mono ?_
          rintro e' w1 ⟨rfl, t1⟩
          have HT1 := Lib.hid (HT0.out.trans t1 (fun _ _ f => f))
          obtain ⟨a0, a1, a2, a3, a4, a5⟩ := box_n20 (HBX.out.turn t1 (fun f => f))
          clear t1
          go_wp2_with (first
            | (go_at_call 29; (with_reducible refine (HI1.out _).mono ?_); rintro e' w' ⟨rfl, rfl⟩)
            | (go_at_call 29; (with_reducible refine (HI2.out _).mono ?_); rintro e' w' ⟨rfl, rfl⟩)
            | (go_at_call 29; (with_reducible refine (HI3.out _).mono ?_); rintro e' w' ⟨rfl, rfl⟩)
            | fail)
          go_ret
          exact ⟨by rw [HB.out]; rfl, HT1.out⟩
        | true =>
          cases b2 with
          | false =>
            have HB : Hid (R = false) := by show _ = _; rw [HR.out]; simp
            clear HR
            go_enter Tryz.func15, Tryz.ntmps15
            go_wp2_with fail
            rw [show w.alloc (.cells #[.int .i64 e.p.t, .int .i64 e.p.i, .int .i64 e.seg, .int .i64 e.mark, .int .i64 e.rows, .bool e.cold] 47) = w0 from HW0.out.symm, ← HG.out]
            refine (HP.out _).mono ?_
            rintro e' w1 ⟨rfl, t1⟩
            have HT1 := Lib.hid (HT0.out.trans t1 (fun _ _ f => f))
            obtain ⟨a0, a1, a2, a3, a4, a5⟩ := box_n20 (HBX.out.turn t1 (fun f => f))
            clear t1
            go_wp2_with (first
              | (go_at_call 29; (with_reducible refine (HI1.out _).mono ?_); rintro e' w' ⟨rfl, rfl⟩)
              | (go_at_call 29; (with_reducible refine (HI2.out _).mono ?_); rintro e' w' ⟨rfl, rfl⟩)
              | (go_at_call 29; (with_reducible refine (HI3.out _).mono ?_); rintro e' w' ⟨rfl, rfl⟩)
              | fail)
            go_ret
            exact ⟨by rw [HB.out]; rfl, HT1.out⟩
          | true =>
            cases b3 with
            | false =>
              have HB : Hid (R = false) := by show _ = _; rw [HR.out]; simp
              clear HR
              go_enter Tryz.func15, Tryz.ntmps15
              go_wp2_with fail
              rw [show w.alloc (.cells #[.int .i64 e.p.t, .int .i64 e.p.i, .int .i64 e.seg, .int .i64 e.mark, .int .i64 e.rows, .bool e.cold] 47) = w0 from HW0.out.symm, ← HG.out]
              refine (HP.out _).mono ?_
              rintro e' w1 ⟨rfl, t1⟩
              have HT1 := Lib.hid (HT0.out.trans t1 (fun _ _ f => f))
              obtain ⟨a0, a1, a2, a3, a4, a5⟩ := box_n20 (HBX.out.turn t1 (fun f => f))
              clear t1
              go_wp2_with (first
                | (go_at_call 29; (with_reducible refine (HI1.out _).mono ?_); rintro e' w' ⟨rfl, rfl⟩)
                | (go_at_call 29; (with_reducible refine (HI2.out _).mono ?_); rintro e' w' ⟨rfl, rfl⟩)
                | (go_at_call 29; (with_reducible refine (HI3.out _).mono ?_); rintro e' w' ⟨rfl, rfl⟩)
                | fail)
              go_ret
              exact ⟨by rw [HB.out]; rfl, HT1.out⟩
            | true =>
              have HB : Hid (R = true) := by show _ = _; rw [HR.out, HCT.out]; rfl
              clear HR
              go_enter Tryz.func15, Tryz.ntmps15
              go_wp2_with fail
              rw [show w.alloc (.cells #[.int .i64 e.p.t, .int .i64 e.p.i, .int .i64 e.seg, .int .i64 e.mark, .int .i64 e.rows, .bool e.cold] 47) = w0 from HW0.out.symm, ← HG.out]
              refine (HP.out _).mono ?_
              rintro e' w1 ⟨rfl, t1⟩
              have HT1 := Lib.hid (HT0.out.trans t1 (fun _ _ f => f))
              obtain ⟨a0, a1, a2, a3, a4, a5⟩ := box_n20 (HBX.out.turn t1 (fun f => f))
              clear t1
              go_wp2_with (first
                | (go_at_call 29; (with_reducible refine (HI1.out _).mono ?_); rintro e' w' ⟨rfl, rfl⟩)
                | (go_at_call 29; (with_reducible refine (HI2.out _).mono ?_); rintro e' w' ⟨rfl, rfl⟩)
                | (go_at_call 29; (with_reducible refine (HI3.out _).mono ?_); rintro e' w' ⟨rfl, rfl⟩)
                | fail)
              go_ret
              exact ⟨by rw [HB.out]; rfl, HT1.out⟩
      · have HB : Hid (R = false) := by show _ = _; rw [HR.out, HC.out, decide_eq_false h3]; simp
        have e3 : (e.p.t != 3) = true := by simp [bne, h3]
        clear h3 HR
        go_enter Tryz.func15, Tryz.ntmps15
        go_wp2_with fail
        rw [show w.alloc (.cells #[.int .i64 e.p.t, .int .i64 e.p.i, .int .i64 e.seg, .int .i64 e.mark, .int .i64 e.rows, .bool e.cold] 47) = w0 from HW0.out.symm, ← HG.out]
        refine (HP.out _).mono ?_
        rintro e' w1 ⟨rfl, t1⟩
        have HT1 := Lib.hid (HT0.out.trans t1 (fun _ _ f => f))
        obtain ⟨a0, a1, a2, a3, a4, a5⟩ := box_n20 (HBX.out.turn t1 (fun f => f))
        clear t1
        go_wp2_with (first
          | (go_at_call 29; (with_reducible refine (HI1.out _).mono ?_); rintro e' w' ⟨rfl, rfl⟩)
          | (go_at_call 29; (with_reducible refine (HI2.out _).mono ?_); rintro e' w' ⟨rfl, rfl⟩)
          | (go_at_call 29; (with_reducible refine (HI3.out _).mono ?_); rintro e' w' ⟨rfl, rfl⟩)
          | fail)
        go_ret
        exact ⟨by rw [HB.out]; rfl, HT1.out⟩

theorem zero_box20 (w : World) : Box (w.alloc (.cells #[.int .i64 0, .int .i64 0, .int .i64 0, .int .i64 0, .int .i64 0, .bool false] 47)) w.heap.size 47 (ecells20 zero20) := Box.new w _ _

set_option maxHeartbeats 4000000 in
theorem at_gen20 (a : Option Addr) {w : World} {l : List N20} (h : Int) (hok : Ok20 l) (hth : ∀ W, Calls Tryz.prog 25 #[.pointer a] W fun e w' => e = .returned (.pointer a) ∧ W = w')
    (hfl : ∀ W, Turn (fun _ => False) w W → Calls Tryz.prog 33 #[.pointer a, .int .i64 h] W fun e w' => e = .returned (ome.floorA (floorK ltI (kv20 l) h)) ∧ Turn (fun _ => False) W w') : Calls Tryz.prog 18 #[.pointer a, .int .i64 h] w fun e w' => Look20 w (at20 l h) e w' := by
  obtain ⟨r, hr⟩ : ∃ r, r = w.heap.size := ⟨_, rfl⟩
  obtain ⟨w0, hw0⟩ : ∃ w0, w0 = w.alloc (.cells #[.int .i64 0, .int .i64 0, .int .i64 0, .int .i64 0, .int .i64 0, .bool false] 47) := ⟨_, rfl⟩
  have HT0 : Hid (Turn (fun _ => False) w w0) := by rw [hw0]; exact (Turn.refl _ w).alloc _
  have HBR : Hid (Box w0 r 47 (ecells20 zero20)) := by rw [hw0, hr]; exact zero_box20 w
  have HLR : Hid (w.heap.size ≤ r) := by show _ ≤ _; omega
  have HF := Lib.hid (hfl w0 HT0.out); have HTH := Lib.hid hth
  have HAT := Lib.hid (at_floor20 hok h)
  have HW0 := Lib.hid hw0; have HR := Lib.hid hr
  clear hok hfl hth hw0 hr
  generalize at20 l h = ans at *
  generalize floorK ltI (kv20 l) h = G at *
  rcases HAT.out with ⟨hG, hA⟩ | ⟨s, EE, hG, hA⟩
  · obtain ⟨EE, hEE⟩ : ∃ EE : N20, EE = zero20 := ⟨_, rfl⟩
    have HANS := Lib.hid hA
    subst hG
    clear hA HAT
    go_enter Tryz.func18, Tryz.ntmps18
    go_wp2_with fail
    rw [← HW0.out, ← HR.out]
    refine (HTH.out w0).mono ?_
    rintro e' wx ⟨rfl, rfl⟩
    go_wp2_with fail
    refine HF.out.mono ?_
    rintro e' w1 ⟨rfl, t1⟩
    unfold ome.floorA
    obtain ⟨w2, hw2⟩ : ∃ w2, w2 = w1.alloc (.cells #[.int .i64 EE.p.t, .int .i64 EE.p.i, .int .i64 EE.seg, .int .i64 EE.mark, .int .i64 EE.rows, .bool EE.cold] 47) := ⟨_, rfl⟩
    obtain ⟨q, hq⟩ : ∃ q, q = w1.heap.size := ⟨_, rfl⟩
    have HT2 : Hid (Turn (fun _ => False) w0 w2) := by rw [hw2]; exact t1.alloc _
    have HB2 : Hid (Box w2 q 47 (ecells20 EE)) := by rw [hw2, hq]; exact Box.new w1 _ _
    have HW2 := Lib.hid hw2; have HQ := Lib.hid hq
    clear t1 hw2 hq HF
    obtain ⟨w3, hw3⟩ : ∃ w3, w3 = w1.alloc (.cells #[.int .i64 zero20.p.t, .int .i64 zero20.p.i, .int .i64 zero20.seg, .int .i64 zero20.mark, .int .i64 zero20.rows, .bool zero20.cold] 47) := ⟨_, rfl⟩
    have HTX : Hid (Turn (fun _ => False) w0 w3) := by
      have e := HW2.out
      rw [hEE] at e
      rw [hw3, ← e]; exact HT2.out
    have hbx := HBR.out.turn HTX.out (fun f => f)
    obtain ⟨d0, d1, d2, d3, d4, d5⟩ := box_n20 hbx
    have z0 := hbx.free 0; have z1 := hbx.free 1; have z2 := hbx.free 2; have z3 := hbx.free 3; have z4 := hbx.free 4; have z5 := hbx.free 5
    have HST := Lib.hid (ent_set20 hbx (HT0.out.trans HTX.out (fun _ _ f => f)) HLR.out zero20)
    rw [hw3] at d0 d1 d2 d3 d4 d5 z0 z1 z2 z3 z4 z5 HST
    clear hbx hw3
    go_wp2_with fail
    refine bodyPost_ret (v := .tuple #[ev20 zero20, .bool false]) ?_ rfl ⟨by rw [HANS.out], HST.out.2⟩
    rw [results_cell_tmp rfl]
    go_simp
    all_goals (exact ⟨rfl, rfl, rfl, rfl, rfl, rfl⟩)
  · subst hG
    clear HAT
    cases hh : has19 EE.p h with
    | false =>
      have HANS : Hid (ans = (zero20, false)) := by show _ = _; rw [hA, hh]; rfl
      have HH : Hid (∀ W, Calls Tryz.prog 34 #[tv19 EE.p, .int .i64 h] W fun e' w' => e' = .returned (.bool false) ∧ Turn (fun _ => False) W w') := fun W => by have := has_any19 EE.p h W; rw [hh] at this; exact this
      clear hA hh
      go_enter Tryz.func18, Tryz.ntmps18
      go_wp2_with fail
      rw [← HW0.out, ← HR.out]
      refine (HTH.out w0).mono ?_
      rintro e' wx ⟨rfl, rfl⟩
      go_wp2_with fail
      refine HF.out.mono ?_
      rintro e' w1 ⟨rfl, t1⟩
      unfold ome.floorA
      obtain ⟨w2, hw2⟩ : ∃ w2, w2 = w1.alloc (.cells #[.int .i64 EE.p.t, .int .i64 EE.p.i, .int .i64 EE.seg, .int .i64 EE.mark, .int .i64 EE.rows, .bool EE.cold] 47) := ⟨_, rfl⟩
      obtain ⟨q, hq⟩ : ∃ q, q = w1.heap.size := ⟨_, rfl⟩
      have HT2 : Hid (Turn (fun _ => False) w0 w2) := by rw [hw2]; exact t1.alloc _
      have HB2 : Hid (Box w2 q 47 (ecells20 EE)) := by rw [hw2, hq]; exact Box.new w1 _ _
      have HW2 := Lib.hid hw2; have HQ := Lib.hid hq
      clear t1 hw2 hq HF
      go_wp2_with fail
      rw [← HW2.out, ← HQ.out]
      refine (HH.out _).mono ?_
      rintro e' w3 ⟨rfl, t3⟩
      have HTX := Lib.hid (HT2.out.trans t3 (fun _ _ f => f))
      have hbx := HBR.out.turn HTX.out (fun f => f)
      obtain ⟨d0, d1, d2, d3, d4, d5⟩ := box_n20 hbx
      have z0 := hbx.free 0; have z1 := hbx.free 1; have z2 := hbx.free 2; have z3 := hbx.free 3; have z4 := hbx.free 4; have z5 := hbx.free 5
      have HST := Lib.hid (ent_set20 hbx (HT0.out.trans HTX.out (fun _ _ f => f)) HLR.out zero20)
      clear hbx t3
      go_wp2_with fail
      refine bodyPost_ret (v := .tuple #[ev20 zero20, .bool false]) ?_ rfl ⟨by rw [HANS.out], HST.out.2⟩
      rw [results_cell_tmp rfl]
      go_simp
      all_goals (exact ⟨rfl, rfl, rfl, rfl, rfl, rfl⟩)
    | true =>
      have HANS : Hid (ans = (EE, true)) := by show _ = _; rw [hA, hh]; rfl
      have HH : Hid (∀ W, Calls Tryz.prog 34 #[tv19 EE.p, .int .i64 h] W fun e' w' => e' = .returned (.bool true) ∧ Turn (fun _ => False) W w') := fun W => by have := has_any19 EE.p h W; rw [hh] at this; exact this
      clear hA hh
      go_enter Tryz.func18, Tryz.ntmps18
      go_wp2_with fail
      rw [← HW0.out, ← HR.out]
      refine (HTH.out w0).mono ?_
      rintro e' wx ⟨rfl, rfl⟩
      go_wp2_with fail
      refine HF.out.mono ?_
      rintro e' w1 ⟨rfl, t1⟩
      unfold ome.floorA
      obtain ⟨w2, hw2⟩ : ∃ w2, w2 = w1.alloc (.cells #[.int .i64 EE.p.t, .int .i64 EE.p.i, .int .i64 EE.seg, .int .i64 EE.mark, .int .i64 EE.rows, .bool EE.cold] 47) := ⟨_, rfl⟩
      obtain ⟨q, hq⟩ : ∃ q, q = w1.heap.size := ⟨_, rfl⟩
      have HT2 : Hid (Turn (fun _ => False) w0 w2) := by rw [hw2]; exact t1.alloc _
      have HB2 : Hid (Box w2 q 47 (ecells20 EE)) := by rw [hw2, hq]; exact Box.new w1 _ _
      have HW2 := Lib.hid hw2; have HQ := Lib.hid hq
      clear t1 hw2 hq HF
      go_wp2_with fail
      rw [← HW2.out, ← HQ.out]
      refine (HH.out _).mono ?_
      rintro e' w3 ⟨rfl, t3⟩
      have HTX := Lib.hid (HT2.out.trans t3 (fun _ _ f => f))
      have hbx := HBR.out.turn HTX.out (fun f => f)
      obtain ⟨d0, d1, d2, d3, d4, d5⟩ := box_n20 hbx
      have z0 := hbx.free 0; have z1 := hbx.free 1; have z2 := hbx.free 2; have z3 := hbx.free 3; have z4 := hbx.free 4; have z5 := hbx.free 5
      have HST := Lib.hid (ent_set20 hbx (HT0.out.trans HTX.out (fun _ _ f => f)) HLR.out EE)
      obtain ⟨a0, a1, a2, a3, a4, a5⟩ := box_n20 (HB2.out.turn t3 (fun f => f))
      clear hbx t3
      go_wp2_with fail
      refine bodyPost_ret (v := .tuple #[ev20 EE, .bool true]) ?_ rfl ⟨by rw [HANS.out], HST.out.2⟩
      rw [results_cell_tmp rfl]
      go_simp

theorem at_any20 {w : World} {F : Nat → Prop} {g : Nat} {l : List N20} (h : Int) (hm : CM20 w F g l) (hok : Ok20 l) : Calls Tryz.prog 18 #[.pointer (some ⟨g, 0, none⟩), .int .i64 h] w fun e w' => Look20 w (at20 l h) e w' :=
  at_gen20 _ h hok (there_any20 g) (fun _ ht => ome.floor_any h (hm.later ht).mp)
theorem at_nil20 (h : Int) (w : World) : Calls Tryz.prog 18 #[.pointer none, .int .i64 h] w fun e w' => Look20 w (zero20, false) e w' :=
  at_gen20 none h Ok20.nil there_nil20 (fun W _ => ome.floor_nil h W)

end Go.Proofs.YtgbphkbbedkepaaGreat

/-
  Stage 20: the program's Get.
-/
namespace Go.Proofs.YtgbphkbbedkepaaGreat
open Go.RowKit

set_option maxRecDepth 100000

set_option maxHeartbeats 4000000 in
theorem get_gen20 (a : Option Addr) {w : World} {l : List N20} (p : T19) (hok : Ok20 l) (hth : ∀ W, Calls Tryz.prog 25 #[.pointer a] W fun e w' => e = .returned (.pointer a) ∧ W = w')
    (hge : ∀ k W, Turn (fun _ => False) w W → Calls Tryz.prog 54 #[.pointer a, .int .i64 k] W fun e w' => e = .returned (ome.getA (getK ltI (kv20 l) k)) ∧ Turn (fun _ => False) W w') : Calls Tryz.prog 36 #[.pointer a, tv19 p] w fun e w' => Look20 w (get20 l p) e w' := by
  obtain ⟨b, hb⟩ : ∃ b, b = w.heap.size := ⟨_, rfl⟩
  obtain ⟨r, hr⟩ : ∃ r, r = w.heap.size + 1 := ⟨_, rfl⟩
  obtain ⟨w0, hw0⟩ : ∃ w0, w0 = (w.alloc (.cells (tcells19 p) 45)).alloc (.cells #[.int .i64 0, .int .i64 0, .int .i64 0, .int .i64 0, .int .i64 0, .bool false] 47) := ⟨_, rfl⟩
  have HT0 : Hid (Turn (fun _ => False) w w0) := by rw [hw0]; exact ((Turn.refl _ w).alloc _).alloc _
  have HBP : Hid (Box w0 b 45 (tcells19 p)) := by rw [hw0, hb]; exact (Box.new w _ _).alloc _
  have HBR : Hid (Box w0 r 47 (ecells20 zero20)) := by
    have h := zero_box20 (w.alloc (.cells (tcells19 p) 45))
    rw [World.size_alloc] at h
    rw [hw0, hr]; exact h
  have HLR : Hid (w.heap.size ≤ r) := by show _ ≤ _; omega
  obtain ⟨c0, c1⟩ := box_t19 HBP.out
  rw [hw0] at c0 c1
  have HSP : Hid (∀ W, Calls Tryz.prog 37 #[tv19 p] W fun e w' => e = .returned (.tuple #[.int .i64 (span19 p).1, .int .i64 (span19 p).2]) ∧ Turn (fun _ => False) W w') := fun W => span_any19 p W
  have HF : Hid (∀ W, Turn (fun _ => False) w0 W → Calls Tryz.prog 54 #[.pointer a, .int .i64 (span19 p).1] W fun e w' => e = .returned (ome.getA (getK ltI (kv20 l) (span19 p).1)) ∧ Turn (fun _ => False) W w') := fun W ht => hge _ W (HT0.out.trans ht (fun _ _ f => f))
  have HTH := Lib.hid hth
  have HAT := Lib.hid (get_key20 hok p)
  have HW0 := Lib.hid hw0; have HR := Lib.hid hr; have HB := Lib.hid hb
  clear hge hth hok hw0 hr hb
  generalize get20 l p = ans at *
  generalize getK ltI (kv20 l) (span19 p).1 = G at *
  generalize (span19 p).1 = s1 at *
  generalize (span19 p).2 = s2 at *
  cases G with
  | none =>
    obtain ⟨EE, hEE⟩ : ∃ EE : N20, EE = zero20 := ⟨_, rfl⟩
    have HANS : Hid (ans = (zero20, false)) := HAT.out
    clear HAT
    go_enter Tryz.func36, Tryz.ntmps36
    go_wp2_with fail
    rw [← HR.out, ← HB.out]
    rw [show ((w.alloc (.cells (tcells19 p) 45)).alloc (.cells #[.int .i64 0, .int .i64 0, .int .i64 0, .int .i64 0, .int .i64 0, .bool false] 47)) = w0 from HW0.out.symm]
    refine (HSP.out _).mono ?_
    rintro e' w1 ⟨rfl, t1⟩
    have HT1 := Lib.hid t1
    clear t1 c0 c1
    go_wp2_with fail
    refine (HTH.out w1).mono ?_
    rintro e' wx ⟨rfl, rfl⟩
    go_wp2_with fail
    refine (HF.out _ HT1.out).mono ?_
    rintro e' w2 ⟨rfl, t2⟩
    unfold ome.getA
    obtain ⟨w3, hw3⟩ : ∃ w3, w3 = w2.alloc (.cells #[.int .i64 EE.p.t, .int .i64 EE.p.i, .int .i64 EE.seg, .int .i64 EE.mark, .int .i64 EE.rows, .bool EE.cold] 47) := ⟨_, rfl⟩
    obtain ⟨q, hq⟩ : ∃ q, q = w2.heap.size := ⟨_, rfl⟩
    have HTX : Hid (Turn (fun _ => False) w0 w3) := by rw [hw3]; exact (HT1.out.trans t2 (fun _ _ f => f)).alloc _
    have HB2 : Hid (Box w3 q 47 (ecells20 EE)) := by rw [hw3, hq]; exact Box.new w2 _ _
    have HW3 := Lib.hid hw3; have HQ := Lib.hid hq
    clear t2 hq HF
    have hw4 : w3 = w2.alloc (.cells #[.int .i64 zero20.p.t, .int .i64 zero20.p.i, .int .i64 zero20.seg, .int .i64 zero20.mark, .int .i64 zero20.rows, .bool zero20.cold] 47) := by rw [hw3, hEE]
    have hbx := HBR.out.turn HTX.out (fun f => f)
    obtain ⟨d0, d1, d2, d3, d4, d5⟩ := box_n20 hbx
    have z0 := hbx.free 0; have z1 := hbx.free 1; have z2 := hbx.free 2; have z3 := hbx.free 3; have z4 := hbx.free 4; have z5 := hbx.free 5
    have HST := Lib.hid (ent_set20 hbx (HT0.out.trans HTX.out (fun _ _ f => f)) HLR.out zero20)
    rw [hw4] at d0 d1 d2 d3 d4 d5 z0 z1 z2 z3 z4 z5 HST
    clear hbx hw3 hw4
    go_wp2_with fail
    refine bodyPost_ret (v := .tuple #[ev20 zero20, .bool false]) ?_ rfl ⟨by rw [HANS.out], HST.out.2⟩
    rw [results_cell_tmp rfl]
    go_simp
    all_goals (exact ⟨rfl, rfl, rfl, rfl, rfl, rfl⟩)
  | some EE =>
    obtain ⟨eq, he⟩ : ∃ b, b = eqT EE.p p := ⟨_, rfl⟩
    have hne : ∀ W, Sem.run Tryz.prog (binOp .neq 45 (tv19 EE.p) (tv19 p)) W = .ok (.bool (!eq)) W := fun W => by rw [he]; exact run_neq_part20 EE.p p W
    have HAN : Hid (ans = if eq = true then (EE, true) else (zero20, false)) := by rw [he]; exact HAT.out
    clear HAT he
    go_enter Tryz.func36, Tryz.ntmps36
    go_wp2_with fail
    rw [← HR.out, ← HB.out]
    rw [show ((w.alloc (.cells (tcells19 p) 45)).alloc (.cells #[.int .i64 0, .int .i64 0, .int .i64 0, .int .i64 0, .int .i64 0, .bool false] 47)) = w0 from HW0.out.symm]
    refine (HSP.out _).mono ?_
    rintro e' w1 ⟨rfl, t1⟩
    have HT1 := Lib.hid t1
    clear t1 c0 c1
    go_wp2_with fail
    refine (HTH.out w1).mono ?_
    rintro e' wx ⟨rfl, rfl⟩
    go_wp2_with fail
    refine (HF.out _ HT1.out).mono ?_
    rintro e' w2 ⟨rfl, t2⟩
    unfold ome.getA
    obtain ⟨w3, hw3⟩ : ∃ w3, w3 = w2.alloc (.cells #[.int .i64 EE.p.t, .int .i64 EE.p.i, .int .i64 EE.seg, .int .i64 EE.mark, .int .i64 EE.rows, .bool EE.cold] 47) := ⟨_, rfl⟩
    obtain ⟨q, hq⟩ : ∃ q, q = w2.heap.size := ⟨_, rfl⟩
    have HTX : Hid (Turn (fun _ => False) w0 w3) := by rw [hw3]; exact (HT1.out.trans t2 (fun _ _ f => f)).alloc _
    have HB2 : Hid (Box w3 q 47 (ecells20 EE)) := by rw [hw3, hq]; exact Box.new w2 _ _
    have HW3 := Lib.hid hw3; have HQ := Lib.hid hq
    clear t2 hq HF
    obtain ⟨y0, y1⟩ := box_t19 (HBP.out.turn HTX.out (fun f => f))
    have hbx := HBR.out.turn HTX.out (fun f => f)
    obtain ⟨d0, d1, d2, d3, d4, d5⟩ := box_n20 hbx
    have z0 := hbx.free 0; have z1 := hbx.free 1; have z2 := hbx.free 2; have z3 := hbx.free 3; have z4 := hbx.free 4; have z5 := hbx.free 5
    rw [hw3] at d0 d1 d2 d3 d4 d5 z0 z1 z2 z3 z4 z5 y0 y1
    cases eq with
    | true =>
      have HANS : Hid (ans = (EE, true)) := HAN.out
      have HST := Lib.hid (ent_set20 hbx (HT0.out.trans HTX.out (fun _ _ f => f)) HLR.out EE)
      rw [hw3] at HST
      clear hbx hw3 HAN
      go_wp2_with fail
      refine bodyPost_ret (v := .tuple #[ev20 EE, .bool true]) ?_ rfl ⟨by rw [HANS.out], HST.out.2⟩
      rw [results_cell_tmp rfl]
      go_simp
    | false =>
      have HANS : Hid (ans = (zero20, false)) := HAN.out
      have HST := Lib.hid (ent_set20 hbx (HT0.out.trans HTX.out (fun _ _ f => f)) HLR.out zero20)
      rw [hw3] at HST
      clear hbx hw3 HAN
      go_wp2_with fail
      refine bodyPost_ret (v := .tuple #[ev20 zero20, .bool false]) ?_ rfl ⟨by rw [HANS.out], HST.out.2⟩
      rw [results_cell_tmp rfl]
      go_simp
      all_goals (exact ⟨rfl, rfl, rfl, rfl, rfl, rfl⟩)
theorem get_any20' {w : World} {F : Nat → Prop} {g : Nat} {l : List N20} (p : T19) (hm : CM20 w F g l) (hok : Ok20 l) : Calls Tryz.prog 36 #[.pointer (some ⟨g, 0, none⟩), tv19 p] w fun e w' => Look20 w (get20 l p) e w' :=
  get_gen20 _ p hok (there_any20 g) (fun k _ ht => ome.get_any k (hm.later ht).mp)
theorem get_nil20 (p : T19) (w : World) : Calls Tryz.prog 36 #[.pointer none, tv19 p] w fun e w' => Look20 w (zero20, false) e w' :=
  get_gen20 none p Ok20.nil there_nil20 (fun k W _ => ome.get_nil k W)

end Go.Proofs.YtgbphkbbedkepaaGreat

/-
  Stage 20: the program's meets, put, drop.
-/
namespace Go.Proofs.YtgbphkbbedkepaaGreat
open Go.RowKit

set_option maxRecDepth 100000

set_option maxHeartbeats 4000000 in
theorem meets_any20 {w : World} {F : Nat → Prop} {g : Nat} {l : List N20} (p : T19) (hm : CM20 w F g l) (hok : Ok20 l) (hp : right19 p = true) :
    Calls Tryz.prog 39 #[.pointer (some ⟨g, 0, none⟩), tv19 p] w fun e w' => e = .returned (.bool (l.any fun x => meets19 x.p p)) ∧ Turn (fun _ => False) w w' := by
  obtain ⟨b, hb⟩ : ∃ b, b = w.heap.size := ⟨_, rfl⟩
  obtain ⟨w0, hw0⟩ : ∃ w0, w0 = w.alloc (.cells (tcells19 p) 45) := ⟨_, rfl⟩
  have HT0 : Hid (Turn (fun _ => False) w w0) := by rw [hw0]; exact (Turn.refl _ w).alloc _
  have HBP : Hid (Box w0 b 45 (tcells19 p)) := by rw [hw0, hb]; exact Box.new w _ _
  obtain ⟨c0, c1⟩ := box_t19 HBP.out
  rw [hw0] at c0 c1
  have HSP : Hid (∀ W, Calls Tryz.prog 37 #[tv19 p] W fun e w' => e = .returned (.tuple #[.int .i64 (span19 p).1, .int .i64 (span19 p).2]) ∧ Turn (fun _ => False) W w') := fun W => span_any19 p W
  have HF : Hid (∀ W, Turn (fun _ => False) w0 W → Calls Tryz.prog 33 #[.pointer (some ⟨g, 0, none⟩), .int .i64 ((span19 p).2 - 1)] W fun e w' => e = .returned (ome.floorA (floorK ltI (kv20 l) ((span19 p).2 - 1))) ∧ Turn (fun _ => False) W w') := fun W ht => ome.floor_any _ ((hm.later HT0.out).later ht).mp
  have HME := Lib.hid (meets_floor20 hok hp)
  have hbd := span_bounds19 p
  have hss := span_start19 hp
  have hwr : IntKind.i64.wrap ((span19 p).2 - 1) = (span19 p).2 - 1 := IntWalk.i64_in _ (by omega)
  have HW0 := Lib.hid hw0; have HB := Lib.hid hb
  clear hm hok hw0 hb hbd hss hp
  generalize (l.any fun x => meets19 x.p p) = ans at *
  generalize floorK ltI (kv20 l) ((span19 p).2 - 1) = G at *
  generalize (span19 p).1 = s1 at *
  generalize (span19 p).2 = s2 at *
  rcases HME.out with ⟨hG, hA⟩ | ⟨s, EE, hG, hA⟩
  · obtain ⟨EE, hEE⟩ : ∃ EE : N20, EE = zero20 := ⟨_, rfl⟩
    have HANS := Lib.hid hA
    subst hG
    clear hA HME
    go_enter Tryz.func39, Tryz.ntmps39
    go_wp2_with fail
    rw [← HB.out]
    rw [show w.alloc (.cells (tcells19 p) 45) = w0 from HW0.out.symm]
    refine (HSP.out _).mono ?_
    rintro e' w1 ⟨rfl, t1⟩
    have HT1 := Lib.hid t1
    clear t1 c0 c1
    go_wp2_with fail
    refine (HF.out _ HT1.out).mono ?_
    rintro e' w2 ⟨rfl, t2⟩
    unfold ome.floorA
    obtain ⟨w3, hw3⟩ : ∃ w3, w3 = w2.alloc (.cells #[.int .i64 EE.p.t, .int .i64 EE.p.i, .int .i64 EE.seg, .int .i64 EE.mark, .int .i64 EE.rows, .bool EE.cold] 47) := ⟨_, rfl⟩
    obtain ⟨q, hq⟩ : ∃ q, q = w2.heap.size := ⟨_, rfl⟩
    have HTX : Hid (Turn (fun _ => False) w0 w3) := by rw [hw3]; exact (HT1.out.trans t2 (fun _ _ f => f)).alloc _
    have HB2 : Hid (Box w3 q 47 (ecells20 EE)) := by rw [hw3, hq]; exact Box.new w2 _ _
    have HQ := Lib.hid hq
    clear t2 hq HF
    have hw4 : w3 = w2.alloc (.cells #[.int .i64 zero20.p.t, .int .i64 zero20.p.i, .int .i64 zero20.seg, .int .i64 zero20.mark, .int .i64 zero20.rows, .bool zero20.cold] 47) := by rw [hw3, hEE]
    rw [hw4] at HTX
    clear hw3 hw4
    go_wp2
    go_ret
    exact ⟨by rw [HANS.out]; rfl, HT0.out.trans HTX.out (fun _ _ f => f)⟩
  · have HMT : Hid (∀ W, Calls Tryz.prog 57 #[tv19 EE.p, tv19 p] W fun e' w' => e' = .returned (.bool ans) ∧ Turn (fun _ => False) W w') := fun W => by rw [hA]; exact meets_any19 EE.p p W
    subst hG
    clear hA HME
    go_enter Tryz.func39, Tryz.ntmps39
    go_wp2_with fail
    rw [← HB.out]
    rw [show w.alloc (.cells (tcells19 p) 45) = w0 from HW0.out.symm]
    refine (HSP.out _).mono ?_
    rintro e' w1 ⟨rfl, t1⟩
    have HT1 := Lib.hid t1
    clear t1 c0 c1
    go_wp2_with fail
    refine (HF.out _ HT1.out).mono ?_
    rintro e' w2 ⟨rfl, t2⟩
    unfold ome.floorA
    obtain ⟨w3, hw3⟩ : ∃ w3, w3 = w2.alloc (.cells #[.int .i64 EE.p.t, .int .i64 EE.p.i, .int .i64 EE.seg, .int .i64 EE.mark, .int .i64 EE.rows, .bool EE.cold] 47) := ⟨_, rfl⟩
    obtain ⟨q, hq⟩ : ∃ q, q = w2.heap.size := ⟨_, rfl⟩
    have HTX : Hid (Turn (fun _ => False) w0 w3) := by rw [hw3]; exact (HT1.out.trans t2 (fun _ _ f => f)).alloc _
    have HB2 : Hid (Box w3 q 47 (ecells20 EE)) := by rw [hw3, hq]; exact Box.new w2 _ _
    have HQ := Lib.hid hq
    clear t2 hq HF
    obtain ⟨y0, y1⟩ := box_t19 (HBP.out.turn HTX.out (fun f => f))
    rw [hw3] at y0 y1
    have HW3 := Lib.hid hw3
    clear hw3
    go_wp2_with fail
    rw [← HW3.out, ← HQ.out]
    refine (HMT.out _).mono ?_
    rintro e' w4 ⟨rfl, t4⟩
    have HT4 := Lib.hid (HT0.out.trans (HTX.out.trans t4 (fun _ _ f => f)) (fun _ _ f => f))
    clear t4 y0 y1
    go_wp2
    go_ret
    exact ⟨rfl, HT4.out⟩

/-- Behind put. -/
def PutP20 (w : World) (F : Nat → Prop) (g : Nat) (l : List N20) (r : List N20 × Int) (e : Ending) (w' : World) : Prop := e = .returned (.int .i64 r.2) ∧ CM20 w' F g (if r.2 = 0 then r.1 else l) ∧ Turn F w w'
theorem putp_no20 {w w' : World} {F : Nat → Prop} {g : Nat} {l : List N20} {r : List N20 × Int} {n : Int} (hm : CM20 w F g l) (hr : r.2 = n) (hn : n ≠ 0) (ht : Turn (fun _ => False) w w') : PutP20 w F g l r (.returned (.int .i64 n)) w' :=
  ⟨by rw [hr], by rw [if_neg (by rw [hr]; exact hn)]; exact hm.later ht, ht.mono (fun _ _ f => f.elim)⟩

set_option maxHeartbeats 4000000 in
theorem put_any20 {w : World} {F : Nat → Prop} {g : Nat} {l : List N20} (e : N20) (hm : CM20 w F g l) (hok : Ok20 l) (hl : l.length ≤ 6000) :
    Calls Tryz.prog 21 #[.pointer (some ⟨g, 0, none⟩), ev20 e] w fun e' w' => PutP20 w F g l (put20 l e) e' w' := by
  obtain ⟨b, hb⟩ : ∃ b, b = w.heap.size := ⟨_, rfl⟩
  obtain ⟨w0, hw0⟩ : ∃ w0, w0 = w.alloc (.cells #[.int .i64 e.p.t, .int .i64 e.p.i, .int .i64 e.seg, .int .i64 e.mark, .int .i64 e.rows, .bool e.cold] 47) := ⟨_, rfl⟩
  have HT0 : Hid (Turn (fun _ => False) w w0) := by rw [hw0]; exact (Turn.refl _ w).alloc _
  have HBP : Hid (Box w0 b 47 (ecells20 e)) := by rw [hw0, hb]; exact Box.new w _ _
  have HM := Lib.hid hm; have HOK := Lib.hid hok; have HLN := Lib.hid hl
  have HR : Hid (∀ W, Calls Tryz.prog 15 #[ev20 e] W fun e' w' => SaysC20 W (.bool (right20 e)) e' w') := fun W => right_any20 e W
  have HW0 := Lib.hid hw0; have HB := Lib.hid hb
  clear hm hok hl hw0 hb
  cases hr : right20 e with
  | false =>
    have HPR : Hid ((put20 l e).2 = 4) := by show _ = _; unfold put20; rw [if_pos hr]
    rw [hr] at HR
    clear hr
    generalize put20 l e = r at *
    go_enter Tryz.func21, Tryz.ntmps21
    go_wp2_with fail
    rw [← HW0.out, ← HB.out]
    refine (HR.out _).mono ?_
    rintro e' w1 ⟨rfl, t1⟩
    have HT1 := Lib.hid t1
    clear t1
    go_wp2
    go_ret
    exact putp_no20 HM.out HPR.out (by decide) (HT0.out.trans HT1.out (fun _ _ f => f))
  | true =>
    have HPP := Lib.hid (right_part20 hr)
    have HRT := Lib.hid hr
    rw [hr] at HR
    have HMT : Hid (∀ W, Turn (fun _ => False) w0 W → Calls Tryz.prog 39 #[.pointer (some ⟨g, 0, none⟩), tv19 e.p] W fun e' w' => e' = .returned (.bool (l.any fun x => meets19 x.p e.p)) ∧ Turn (fun _ => False) W w') :=
      fun W ht => meets_any20 e.p ((HM.out.later HT0.out).later ht) HOK.out HPP.out
    clear hr
    cases hma : (l.any fun x => meets19 x.p e.p) with
    | true =>
      have HPR : Hid ((put20 l e).2 = 12) := by show _ = _; unfold put20; rw [if_neg (by rw [HRT.out]; decide), if_pos hma]
      rw [hma] at HMT
      clear hma
      generalize put20 l e = r at *
      go_enter Tryz.func21, Tryz.ntmps21
      go_wp2_with fail
      rw [← HW0.out, ← HB.out]
      refine (HR.out _).mono ?_
      rintro e' w1 ⟨rfl, t1⟩
      have HT1 := Lib.hid t1
      clear t1
      obtain ⟨a0, a1, a2, a3, a4, a5⟩ := box_n20 (HBP.out.turn HT1.out (fun f => f))
      go_wp2_with fail
      refine (HMT.out _ HT1.out).mono ?_
      rintro e' w2 ⟨rfl, t2⟩
      have HT2 := Lib.hid (HT1.out.trans t2 (fun _ _ f => f))
      clear t2 a0 a1 a2 a3 a4 a5 HMT
      go_wp2
      go_ret
      exact putp_no20 HM.out HPR.out (by decide) (HT0.out.trans HT2.out (fun _ _ f => f))
    | false =>
      have HPR : Hid (put20 l e = (ins20 l e, 0)) := by show _ = _; unfold put20; rw [if_neg (by rw [HRT.out]; decide), if_neg (by rw [hma]; decide)]
      have HKV := Lib.hid (put_kv20 HOK.out HRT.out hma)
      rw [hma] at HMT
      clear hma
      have HSP : Hid (∀ W, Calls Tryz.prog 37 #[tv19 e.p] W fun e' w' => e' = .returned (.tuple #[.int .i64 (span19 e.p).1, .int .i64 (span19 e.p).2]) ∧ Turn (fun _ => False) W w') := fun W => span_any19 e.p W
      have HMP : Hid (∀ W, Turn (fun _ => False) w0 W → Calls Tryz.prog 40 #[.pointer (some ⟨g, 0, none⟩), .int .i64 (span19 e.p).1, ev20 e] W fun e' w' => e' = .returned (.bool (!hasK ltI (kv20 l) (span19 e.p).1)) ∧ ome.MP w' g (putK ltI (kv20 l) (span19 e.p).1 e) ∧ Turn (fun j => j = g) W w') :=
        fun W ht => ome.put_any _ e ((HM.out.later HT0.out).later ht).mp (by rw [kv_len20]; exact Nat.le_trans HLN.out (by decide))
      generalize put20 l e = r at *
      rw [HKV.out] at HMP
      generalize (!hasK ltI (kv20 l) (span19 e.p).1) = bb at *
      generalize ins20 l e = l2 at *
      clear HKV
      generalize (span19 e.p).1 = s1 at *
      generalize (span19 e.p).2 = s2 at *
      go_enter Tryz.func21, Tryz.ntmps21
      go_wp2_with fail
      rw [← HW0.out, ← HB.out]
      refine (HR.out _).mono ?_
      rintro e' w1 ⟨rfl, t1⟩
      have HT1 := Lib.hid t1
      clear t1
      obtain ⟨a0, a1, a2, a3, a4, a5⟩ := box_n20 (HBP.out.turn HT1.out (fun f => f))
      go_wp2_with fail
      refine (HMT.out _ HT1.out).mono ?_
      rintro e' w2 ⟨rfl, t2⟩
      have HT2 := Lib.hid (HT1.out.trans t2 (fun _ _ f => f))
      clear t2 a0 a1 a2 a3 a4 a5 HMT
      obtain ⟨a0, a1, a2, a3, a4, a5⟩ := box_n20 (HBP.out.turn HT2.out (fun f => f))
      go_wp2_with fail
      refine (HSP.out _).mono ?_
      rintro e' w3 ⟨rfl, t3⟩
      have HT3 := Lib.hid (HT2.out.trans t3 (fun _ _ f => f))
      clear t3 a0 a1 a2 a3 a4 a5
      go_wp2_with fail
      have HSK : Hid (∀ W, Turn (fun _ => False) w3 W → (W.cell? ⟨b, 0, none⟩ = some (.int .i64 e.p.t) ∧ W.cell? ⟨b, 1, none⟩ = some (.int .i64 e.p.i) ∧ W.cell? ⟨b, 2, none⟩ = some (.int .i64 e.seg) ∧ W.cell? ⟨b, 3, none⟩ = some (.int .i64 e.mark) ∧ W.cell? ⟨b, 4, none⟩ = some (.int .i64 e.rows) ∧ W.cell? ⟨b, 5, none⟩ = some (.bool e.cold)) ∧ Turn (fun _ => False) w3 W) := fun W ht => ⟨box_n20 (HBP.out.turn (HT3.out.trans ht (fun _ _ f => f)) (fun f => f)), ht⟩
      refine drawn_region (fun W => (W.cell? ⟨b, 0, none⟩ = some (.int .i64 e.p.t) ∧ W.cell? ⟨b, 1, none⟩ = some (.int .i64 e.p.i) ∧ W.cell? ⟨b, 2, none⟩ = some (.int .i64 e.seg) ∧ W.cell? ⟨b, 3, none⟩ = some (.int .i64 e.mark) ∧ W.cell? ⟨b, 4, none⟩ = some (.int .i64 e.rows) ∧ W.cell? ⟨b, 5, none⟩ = some (.bool e.cold)) ∧ Turn (fun _ => False) w3 W) [5] (by kernel_rfl) ?_
      have hS0 := HSK.out _ (Turn.refl (fun _ => False) w3).drew
      generalize World.drew w3 = wd at *
      refine drawn_take 0 20 (.pointer (some ⟨g, 0, none⟩)) rfl rfl (by kernel_rfl) (by kernel_rfl) (by kernel_rfl) (by kernel_rfl) (fun _ _ _ h => h) (by rfl) (by assumption) (by intro w hSw; obtain ⟨⟨v0, v1, v2, v3, v4, v5⟩, -⟩ := hSw; go_simp) ?_
      try simp only [List.setIfInBounds_toArray, List.set_cons_zero, List.set_cons_succ]
      refine drawn_take 1 21 (.pointer (some ⟨g, 0, none⟩)) rfl rfl (by kernel_rfl) (by kernel_rfl) (by kernel_rfl) (by kernel_rfl) (fun _ _ _ h => h) (by rfl) (by assumption) (by intro w hSw; obtain ⟨⟨v0, v1, v2, v3, v4, v5⟩, -⟩ := hSw; go_simp) ?_
      try simp only [List.setIfInBounds_toArray, List.set_cons_zero, List.set_cons_succ]
      refine drawn_take 2 22 (.pointer (some ⟨g, 0, none⟩)) rfl rfl (by kernel_rfl) (by kernel_rfl) (by kernel_rfl) (by kernel_rfl) (fun _ _ _ h => h) (by rfl) (by assumption) (by intro w hSw; obtain ⟨⟨v0, v1, v2, v3, v4, v5⟩, -⟩ := hSw; go_simp) ?_
      try simp only [List.setIfInBounds_toArray, List.set_cons_zero, List.set_cons_succ]
      refine drawn_take 3 23 (.int .i64 s1) rfl rfl (by kernel_rfl) (by kernel_rfl) (by kernel_rfl) (by kernel_rfl) (fun _ _ _ h => h) (by rfl) (by assumption) (by intro w hSw; obtain ⟨⟨v0, v1, v2, v3, v4, v5⟩, -⟩ := hSw; go_simp) ?_
      try simp only [List.setIfInBounds_toArray, List.set_cons_zero, List.set_cons_succ]
      refine drawn_take 4 24 (ev20 e) rfl rfl (by kernel_rfl) (by kernel_rfl) (by kernel_rfl) (by kernel_rfl) (fun _ _ _ h => h) (by rfl) (by assumption) (by intro w hSw; obtain ⟨⟨v0, v1, v2, v3, v4, v5⟩, -⟩ := hSw; go_simp) ?_
      try simp only [List.setIfInBounds_toArray, List.set_cons_zero, List.set_cons_succ]
      refine drawn_last (z := 5) rfl (by kernel_rfl) (by kernel_rfl) (by kernel_rfl) (fun K hK => ?_)
      have HTD := Lib.hid (HT3.out.trans hS0.2 (fun _ _ f => f))
      clear hS0
      go_simp
      refine (HMP.out wd HTD.out).mono ?_
      rintro e' w4 ⟨rfl, m4, t4⟩
      have HM4 := Lib.hid m4; have HT4 := Lib.hid t4
      clear m4 t4
      refine hK.out _ _ ?_
      clear hK K
      go_wp2
      go_ret
      refine ⟨by rw [HPR.out]; rfl, ?_, ?_⟩
      · rw [HPR.out, if_pos rfl]
        exact ⟨HM.out.1, HM4.out⟩
      · rw [HM.out.1]
        exact ((HT0.out.trans HTD.out (fun _ _ f => f)).mono (fun _ _ f => f.elim)).trans HT4.out (fun _ _ e => e)

/-- Behind drop. -/
def DropP20 (w : World) (F : Nat → Prop) (g : Nat) (l : List N20) (r : List N20 × Bool) (e : Ending) (w' : World) : Prop := e = .returned (.int .i64 (if r.2 then 0 else 11)) ∧ CM20 w' F g (if r.2 then r.1 else l) ∧ Turn F w w'

set_option maxHeartbeats 4000000 in
theorem drop_any20 {w : World} {F : Nat → Prop} {g : Nat} {l : List N20} (p : T19) (hm : CM20 w F g l) (hok : Ok20 l) (hl : l.length ≤ 6000) :
    Calls Tryz.prog 20 #[.pointer (some ⟨g, 0, none⟩), tv19 p] w fun e' w' => DropP20 w F g l (drop20 l p) e' w' := by
  obtain ⟨b, hb⟩ : ∃ b, b = w.heap.size := ⟨_, rfl⟩
  obtain ⟨w0, hw0⟩ : ∃ w0, w0 = w.alloc (.cells (tcells19 p) 45) := ⟨_, rfl⟩
  have HT0 : Hid (Turn (fun _ => False) w w0) := by rw [hw0]; exact (Turn.refl _ w).alloc _
  have HBP : Hid (Box w0 b 45 (tcells19 p)) := by rw [hw0, hb]; exact Box.new w _ _
  obtain ⟨c0, c1⟩ := box_t19 HBP.out
  rw [hw0] at c0 c1
  have HM := Lib.hid hm
  have HGE := Lib.hid (get_any20' p (hm.later HT0.out) hok)
  have HG2 := Lib.hid (get_any20 l p)
  have HDK := Lib.hid (drop_kv20 hok (p := p))
  have HSP : Hid (∀ W, Calls Tryz.prog 37 #[tv19 p] W fun e w' => e = .returned (.tuple #[.int .i64 (span19 p).1, .int .i64 (span19 p).2]) ∧ Turn (fun _ => False) W w') := fun W => span_any19 p W
  have HMD : Hid (∀ W, Turn (fun _ => False) w0 W → Calls Tryz.prog 38 #[.pointer (some ⟨g, 0, none⟩), .int .i64 (span19 p).1] W fun e' w' => e' = .returned (.bool (hasK ltI (kv20 l) (span19 p).1)) ∧ ome.MP w' g (dropK ltI (kv20 l) (span19 p).1) ∧ Turn (fun j => j = g) W w') :=
    fun W ht => ome.drop_any _ ((hm.later HT0.out).later ht).mp (by rw [kv_len20]; exact Nat.le_trans hl (by decide))
  have HW0 := Lib.hid hw0; have HB := Lib.hid hb
  clear hm hok hl hw0 hb
  generalize drop20 l p = r at *
  generalize hasK ltI (kv20 l) (span19 p).1 = bb at *
  generalize dropK ltI (kv20 l) (span19 p).1 = dk at *
  generalize (span19 p).1 = s1 at *
  generalize (span19 p).2 = s2 at *
  generalize get20 l p = G at *
  unfold Look20 at HGE
  obtain ⟨GE, GB⟩ := G
  dsimp only at HG2 HGE
  cases GB with
  | false =>
    have HR : Hid (r.2 = false) := HG2.out.symm
    go_enter Tryz.func20, Tryz.ntmps20
    go_wp2_with fail
    rw [← HB.out]
    rw [show w.alloc (.cells (tcells19 p) 45) = w0 from HW0.out.symm]
    refine HGE.out.mono ?_
    rintro e' w1 ⟨rfl, t1⟩
    have HT1 := Lib.hid t1
    obtain ⟨w2, hw2⟩ : ∃ w2, w2 = w1.alloc (.cells #[.int .i64 GE.p.t, .int .i64 GE.p.i, .int .i64 GE.seg, .int .i64 GE.mark, .int .i64 GE.rows, .bool GE.cold] 47) := ⟨_, rfl⟩
    have HT2 : Hid (Turn (fun _ => False) w0 w2) := by rw [hw2]; exact t1.alloc _
    have HW2 := Lib.hid hw2
    clear t1 c0 c1
    rw [hw2] at HT2
    clear hw2
    go_wp2
    go_ret
    exact ⟨by rw [HR.out]; rfl, by rw [HR.out]; exact (HM.out.later HT0.out).later HT2.out, (HT0.out.trans HT2.out (fun _ _ f => f)).mono (fun _ _ f => f.elim)⟩
  | true =>
    have HR : Hid (r.2 = true) := HG2.out.symm
    have HKV : Hid (dk = kv20 r.1) := HDK.out HR.out
    go_enter Tryz.func20, Tryz.ntmps20
    go_wp2_with fail
    rw [← HB.out]
    rw [show w.alloc (.cells (tcells19 p) 45) = w0 from HW0.out.symm]
    refine HGE.out.mono ?_
    rintro e' w1 ⟨rfl, t1⟩
    have HT1 := Lib.hid t1
    obtain ⟨w2, hw2⟩ : ∃ w2, w2 = w1.alloc (.cells #[.int .i64 GE.p.t, .int .i64 GE.p.i, .int .i64 GE.seg, .int .i64 GE.mark, .int .i64 GE.rows, .bool GE.cold] 47) := ⟨_, rfl⟩
    have HT2 : Hid (Turn (fun _ => False) w0 w2) := by rw [hw2]; exact t1.alloc _
    have HW2 := Lib.hid hw2
    clear t1 c0 c1
    obtain ⟨y0, y1⟩ := box_t19 (HBP.out.turn HT2.out (fun f => f))
    rw [hw2] at y0 y1
    clear hw2
    go_wp2_with fail
    rw [← HW2.out]
    refine (HSP.out _).mono ?_
    rintro e' w3 ⟨rfl, t3⟩
    have HT3 := Lib.hid (HT2.out.trans t3 (fun _ _ f => f))
    clear t3 y0 y1
    go_wp2_with fail
    refine (HMD.out _ HT3.out).mono ?_
    rintro e' w4 ⟨rfl, m4, t4⟩
    have HM4 := Lib.hid m4; have HT4 := Lib.hid t4
    clear m4 t4
    go_wp2
    go_ret
    refine ⟨by rw [HR.out]; rfl, ?_, ?_⟩
    · rw [HR.out, if_pos rfl]
      exact ⟨HM.out.1, by rw [← HKV.out]; exact HM4.out⟩
    · rw [HM.out.1]
      exact ((HT0.out.trans HT3.out (fun _ _ f => f)).mono (fun _ _ f => f.elim)).trans HT4.out (fun _ _ e => e)

end Go.Proofs.YtgbphkbbedkepaaGreat
