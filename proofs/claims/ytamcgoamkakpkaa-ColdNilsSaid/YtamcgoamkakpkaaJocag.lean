/-
  Texts laid one behind the other: Hfb Q4u Q4u1 Q4u2 Ia Ic Iq Id.
-/
import Derived.Test.YtamcgoamkakpkaaJocaf
import Derived.Laws.ResultCell
import Derived.Test.YtamcgoamkakpkaaJocae
import Derived.Test.YtamcgoamkakpkaaJocaa
import Derived.RangeFuncFrom
import Derived.RangeFuncCalls
import Derived.RangeFuncLeaves
import Derived.Shelf.Abstract
import Derived.Shelf.RegionOpen
import Derived.OwnWalkIn
import Derived.TacticsInMore
import Derived.LoopNIn
import Derived.LoopIn
import Derived.Sort.BigQuietIn
import Derived.Stop.RegionWithIn

/-
  The greatest key of a tree that is not above one; the map: New, Len, Put, Drop, Floor, Get, Copy (keys string, values []byte).
-/
namespace Go.Proofs.Ytamcgoamkakpkaa.omb
open Go.RowKit

/-- What a search has found. -/
def Fnd (w : World) (u : Value) : Option ((List UInt8) × SlB) → Prop
  | none => u = .pointer none
  | some p => ∃ g pl pr n, u = .pointer (some ⟨g, 0, none⟩) ∧ One w g p.1 p.2 pl pr n
theorem Fnd.later {w w' : World} {u : Value} {f : Option ((List UInt8) × SlB)} (h : Fnd w u f) (ht : Turn (fun _ => False) w w') : Fnd w' u f := by
  cases f with
  | none => exact h
  | some p => obtain ⟨g, pl, pr, n, e, ho⟩ := h; exact ⟨g, pl, pr, n, e, ho.later ht⟩
theorem Fnd.shape {w : World} {u : Value} {f : Option ((List UInt8) × SlB)} (h : Fnd w u f) : ∃ A, u = .pointer A := by
  cases f with
  | none => exact ⟨none, h⟩
  | some p => obtain ⟨g, pl, pr, n, e, ho⟩ := h; exact ⟨_, e⟩

set_option maxRecDepth 100000 in
theorem in_any (q : Nat) (k key : (List UInt8)) (w : World) (hq : w.cell? ⟨q, 0, none⟩ = some (.string ⟨k.toArray⟩)) :
    Calls Try.prog 43 #[(.string ⟨key.toArray⟩), .pointer (some ⟨q, 0, none⟩)] w fun e w' => e = .returned (.bool (!Op.bytesLess k key)) ∧ w = w' := by
  go_enter Try.func43, Try.ntmps43
  go_wp2_with (go_at_call 34; refine (less_any _ _ _).mono ?_; rintro e w' ⟨rfl, rfl⟩)
  go_ret
  exact ⟨rfl, rfl⟩

structure LastRel (w : World) (k : (List UInt8)) (ans : Option ((List UInt8) × SlB)) (x0 x5 : Value) (y : Tr (List UInt8) SlB) (f : Option ((List UInt8) × SlB)) : Prop where
  tr : Nd w y x0
  up : Up Op.bytesLess y.flat
  fd : Fnd w x5 f
  is : Fl Op.bytesLess y.flat k f = ans
theorem last_right {w : World} {k : (List UInt8)} {ans : Option ((List UInt8) × SlB)} {x5 : Value} {l r : Tr (List UInt8) SlB} {k0 : (List UInt8)} {v0 : SlB} {f : Option ((List UInt8) × SlB)} {g n : Nat} {pl pr : Value} (h : LastRel w k ans (.pointer (some ⟨g, 0, none⟩)) x5 (.node l k0 v0 r) f)
    (ho : One w g k0 v0 pl pr n) (hr : Nd w r pr) (hk : Op.bytesLess k k0 = false) : LastRel w k ans pr (.pointer (some ⟨g, 0, none⟩)) r (some (k0, v0)) := by
  obtain ⟨h1, h2, h3⟩ := up_parts h.up
  refine ⟨hr, h2, ⟨g, pl, pr, n, rfl, ho⟩, ?_⟩
  rw [← h.is]
  have h4 := (up_cons.1 (up_append.1 h.up).2.1).1
  unfold Fl
  rw [flat_node, fl_below rises_bytes (p := (k0, v0)) hk r.flat (fun q hq => ?_) l.flat h3]
  · cases floorK Op.bytesLess r.flat k <;> rfl
  · obtain ⟨i, hi, e⟩ := List.mem_iff_getElem.1 hq
    exact h4 i q (by rw [List.getElem?_eq_getElem hi, e])
theorem last_left {w : World} {k : (List UInt8)} {ans : Option ((List UInt8) × SlB)} {x0 x5 pl : Value} {l r : Tr (List UInt8) SlB} {k0 : (List UInt8)} {v0 : SlB} {f : Option ((List UInt8) × SlB)} (h : LastRel w k ans x0 x5 (.node l k0 v0 r) f) (hl : Nd w l pl) (hk : Op.bytesLess k k0 = true) : LastRel w k ans pl x5 l f := by
  obtain ⟨h1, h2, h3⟩ := up_parts h.up
  refine ⟨hl, h1, h.fd, ?_⟩
  rw [← h.is]
  unfold Fl
  rw [flat_node, fl_above rises_bytes (p := (k0, v0)) hk r.flat l.flat]
theorem last_end {w : World} {k : (List UInt8)} {ans : Option ((List UInt8) × SlB)} {x0 x5 : Value} {f : Option ((List UInt8) × SlB)} (h : LastRel w k ans x0 x5 .nil f) : Fnd w x5 ans := by rw [← h.is]; exact h.fd

set_option maxRecDepth 100000 in
set_option maxHeartbeats 2000000 in
theorem last_any (q : Nat) (k : (List UInt8)) {x : Tr (List UInt8) SlB} {w : World} {p : Value} (h : Nd w x p) (hu : Up Op.bytesLess x.flat) (hq : Box w q 9 #[(.string ⟨k.toArray⟩)]) :
    Calls Try.prog 42 #[p, .func (.func 43) #[] #[.pointer (some ⟨q, 0, none⟩)]] w fun e w' => (∃ u, e = .returned u ∧ Fnd w u (floorK Op.bytesLess x.flat k)) ∧ ∃ n, w' = w.drewN n := by
  have HQ := Lib.hid hq
  have HR : Hid (LastRel w k (floorK Op.bytesLess x.flat k) p (.pointer none) x none) := ⟨h, hu, rfl, by unfold Fl; cases floorK Op.bytesLess x.flat k <;> rfl⟩
  generalize floorK Op.bytesLess x.flat k = ans at *
  clear h hu hq
  go_enter Try.func42, Try.ntmps42
  go_wp2
  go_loopw [0, 5] (fun x0 x5 wr => (∃ y f, LastRel w k ans x0 x5 y f) ∧ ∃ n, wr = w.drewN n) (fun x0 _ _ => szAt w x0)
  case atStart => exact ⟨⟨x, none, HR.out⟩, 0, rfl⟩
  case round =>
    obtain ⟨⟨y, f, hrl⟩, n, rfl⟩ := hrel
    have HRL := Lib.hid hrl
    have HSZ := Lib.hid (sz_is hrl.tr)
    obtain ⟨A5, rfl⟩ := hrl.fd.shape
    cases y with
    | nil =>
      obtain rfl : _ = Value.pointer none := hrl.tr
      clear hrl
      go_wp2
      go_ret
      exact ⟨⟨_, rfl, last_end HRL.out⟩, n, rfl⟩
    | node l k0 v0 r =>
      obtain ⟨g, pl, pr, rfl, hg, hl, hr⟩ := nd_node hrl.tr
      obtain ⟨c0, -, c2, c3, -⟩ := hg.cells
      have HG := Lib.hid hg; have HL := Lib.hid hl; have HR2 := Lib.hid hr
      have HSL := Lib.hid (sz_is hl); have HSR := Lib.hid (sz_is hr)
      obtain ⟨pl, rfl⟩ := hl.shape
      obtain ⟨pr, rfl⟩ := hr.shape
      have HI := Lib.hid (in_any q k k0 (w.drewN n) ((HQ.out.turn ((Turn.refl (fun _ => False) w).drewN n) (fun f => f)).cell 0))
      clear hrl hg hl hr
      cases hk : Op.bytesLess k k0 with
      | false =>
        rw [hk] at HI
        have HX := Lib.hid (last_right HRL.out HG.out HR2.out hk)
        clear hk
        go_wp2_with (go_at_call 43; refine HI.out.mono ?_; rintro e w' ⟨rfl, rfl⟩)
        go_quiet (fail)
        go_wp2
        go_roundw
        case rel => exact ⟨⟨r, _, HX.out⟩, n + nq, by simp [World.drewN, Nat.add_assoc]⟩
        case measure => have h1 := HSZ.out; have h2 := HSR.out; rw [cnt_node] at h1; show szAt w _ < szAt w _; rw [h1, h2]; omega
      | true =>
        rw [hk] at HI
        have HX := Lib.hid (last_left HRL.out HL.out hk)
        clear hk
        go_wp2_with (go_at_call 43; refine HI.out.mono ?_; rintro e w' ⟨rfl, rfl⟩)
        go_roundw
        case rel => exact ⟨⟨l, _, HX.out⟩, _, rfl⟩
        case measure => have h1 := HSZ.out; have h2 := HSL.out; rw [cnt_node] at h1; show szAt w _ < szAt w _; rw [h1, h2]; omega

/-- The map at block g: its keys and values, in order. -/
structure MP (w : World) (g : Nat) (tl : Value) (L : List ((List UInt8) × SlB)) : Prop where
  out : ∃ (x : Tr (List UInt8) SlB) (A : Option Addr), Box w g 57 #[.pointer A, tl] ∧ Nd w x (.pointer A) ∧ x.flat = L
  up : Up Op.bytesLess L
theorem MP.turn {S : Nat → Prop} {w w' : World} {g : Nat} {tl : Value} {L : List ((List UInt8) × SlB)} (h : MP w g tl L) (ht : Turn S w w') (h1 : ¬ S g) (h2 : ∀ i cs, Box w i 79 cs → ¬ S i) : MP w' g tl L := by
  obtain ⟨x, A, hb, hx, e⟩ := h.out
  exact ⟨⟨x, A, hb.turn ht h1, hx.turn ht h2, e⟩, h.up⟩
theorem MP.later {w w' : World} {g : Nat} {tl : Value} {L : List ((List UInt8) × SlB)} (h : MP w g tl L) (ht : Turn (fun _ => False) w w') : MP w' g tl L := h.turn ht (fun f => f) (fun _ _ _ f => f)
/-- A map, and its block turned. -/
theorem MP.set {w w' : World} {g : Nat} {tl : Value} {L M : List ((List UInt8) × SlB)} {y : Tr (List UInt8) SlB} {A : Option Addr} (h : MP w g tl L) (ht : Turn (fun _ => False) w w') (hn : Nd w' y (.pointer A)) (hf : y.flat = M) (hu : Up Op.bytesLess M) :
    MP (w'.setCell ⟨g, 0, none⟩ (.pointer A)) g tl M ∧ Turn (fun j => j = g) w (w'.setCell ⟨g, 0, none⟩ (.pointer A)) := by
  obtain ⟨x, A0, hb, hx, e⟩ := h.out
  have hb' := hb.turn ht (fun f => f)
  have htt : Turn (fun j => j = g) w' (w'.setCell ⟨g, 0, none⟩ (.pointer A)) := Turn.setCell (S := fun j => j = g) (p := ⟨g, 0, none⟩) (Turn.refl _ w') (fun _ => rfl) _
  refine ⟨⟨⟨y, A, hb'.set 0 _, hn.turn htt (fun i cs hi e => ?_), hf⟩, hu⟩, (ht.mono (fun _ _ f => f.elim)).trans htt (fun k hk e => e)⟩
  subst e
  have e2 := (show w'.heap[i]? = _ from hi).symm.trans hb'
  injection e2 with e2
  injection e2 with _ e3
  exact absurd e3 (by decide)

set_option maxRecDepth 100000 in
theorem len_any {w : World} {g : Nat} {tl : Value} {L : List ((List UInt8) × SlB)} (h : MP w g tl L) : Calls Try.prog 28 #[.pointer (some ⟨g, 0, none⟩)] w fun e w' => e = .returned (.int .i64 (L.length : Int)) ∧ w = w' := by
  obtain ⟨x, A, hb, hx, rfl⟩ := h.out
  have hc := hb.cell 0
  rw [Tr.cnt_flat]
  have HX := Lib.hid hx
  clear h hb hx
  go_enter Try.func28, Try.ntmps28
  go_wp2_with (go_at_call 38; refine (count_any HX.out).mono ?_; rintro e w' ⟨rfl, rfl⟩)
  go_ret
  exact ⟨rfl, rfl⟩

set_option maxRecDepth 100000 in
set_option maxHeartbeats 1000000 in
theorem put_any (k : (List UInt8)) (v : SlB) {w : World} {g : Nat} {tl : Value} {L : List ((List UInt8) × SlB)} (h : MP w g tl L) (hl : L.length ≤ 900000) :
    Calls Try.prog 30 #[.pointer (some ⟨g, 0, none⟩), (.string ⟨k.toArray⟩), (.slice v.A v.n v.c)] w fun e w' => e = .returned (.bool (!hasK Op.bytesLess L k)) ∧ MP w' g tl (putK Op.bytesLess L k v) ∧ Turn (fun j => j = g) w w' := by
  have HM := Lib.hid h
  obtain ⟨x, A, hb, hx, hf⟩ := h.out
  have HL := Lib.hid (len_any h)
  have HU := Lib.hid (put_up rises_bytes h.up k v)
  have HW := Lib.hid (with_any k v x w _ hx (by rw [← Tr.cnt_flat, hf]; omega) (by rw [hf]; exact h.up))
  rw [hf] at HW
  have hc := hb.cell 0
  have hfree := hb.free 0
  have HB := Lib.hid hb
  have HN := Lib.hid (put_size (lt := Op.bytesLess) L k v)
  have hl2 : (putK Op.bytesLess L k v).length ≤ 900001 := by rw [HN.out]; split <;> omega
  obtain ⟨b, hbb⟩ : ∃ b, b = hasK Op.bytesLess L k := ⟨_, rfl⟩
  rw [← hbb] at HN ⊢
  have hgt : (L.length : Int) < ((putK Op.bytesLess L k v).length : Int) ↔ b = false := by rw [HN.out]; cases b <;> simp <;> omega
  generalize putK Op.bytesLess L k v = M at *
  clear h hb hx hf hbb
  go_enter Try.func30, Try.ntmps30
  go_wp2_with (go_at_call 28; refine (HL.out).mono ?_; rintro e w' ⟨rfl, rfl⟩)
  go_at_call 40
  with_reducible refine (HW.out).mono ?_
  rintro e w2 ⟨y, hy, q, rfl, hn, ht⟩
  have hc2 := (HB.out.turn ht (fun f => f)).cell 0
  have hfree2 := (HB.out.turn ht (fun f => f)).free 0
  have HS := Lib.hid (HM.out.set ht hn hy HU.out)
  have HL2 := Lib.hid (len_any HS.out.1)
  clear hn ht hy
  go_wp2_with ((go_at_call 28; with_reducible refine (HL2.out).mono ?_; rintro e w' ⟨rfl, rfl⟩))
  go_ret
  exact ⟨rfl, HS.out⟩

set_option maxRecDepth 100000 in
set_option maxHeartbeats 1000000 in
theorem drop_any (k : (List UInt8)) {w : World} {g : Nat} {tl : Value} {L : List ((List UInt8) × SlB)} (h : MP w g tl L) (hl : L.length ≤ 900000) :
    Calls Try.prog 32 #[.pointer (some ⟨g, 0, none⟩), (.string ⟨k.toArray⟩)] w fun e w' => e = .returned (.bool (hasK Op.bytesLess L k)) ∧ MP w' g tl (dropK Op.bytesLess L k) ∧ Turn (fun j => j = g) w w' := by
  have HM := Lib.hid h
  obtain ⟨x, A, hb, hx, hf⟩ := h.out
  have HL := Lib.hid (len_any h)
  have HU := Lib.hid (drop_up rises_bytes h.up k)
  have HW := Lib.hid (without_any x k w _ hx (by rw [← Tr.cnt_flat, hf]; omega) (by rw [hf]; exact h.up))
  rw [hf] at HW
  have hc := hb.cell 0
  have hfree := hb.free 0
  have HB := Lib.hid hb
  have HN := Lib.hid (drop_size (lt := Op.bytesLess) L k)
  have hl2 : (dropK Op.bytesLess L k).length ≤ 900000 := by have := HN.out; omega
  obtain ⟨b, hbb⟩ : ∃ b, b = hasK Op.bytesLess L k := ⟨_, rfl⟩
  rw [← hbb] at HN ⊢
  have hgt : ((dropK Op.bytesLess L k).length : Int) < (L.length : Int) ↔ b = true := by have := HN.out; cases b <;> simp at this ⊢ <;> omega
  generalize dropK Op.bytesLess L k = M at *
  clear h hb hx hf hbb
  go_enter Try.func32, Try.ntmps32
  go_wp2_with (go_at_call 28; refine (HL.out).mono ?_; rintro e w' ⟨rfl, rfl⟩)
  go_at_call 41
  with_reducible refine (HW.out).mono ?_
  rintro e w2 ⟨y, q, hy, rfl, hn, ht⟩
  have hc2 := (HB.out.turn ht (fun f => f)).cell 0
  have hfree2 := (HB.out.turn ht (fun f => f)).free 0
  have HS := Lib.hid (HM.out.set ht hn hy HU.out)
  have HL2 := Lib.hid (len_any HS.out.1)
  clear hn ht hy
  go_wp2_with ((go_at_call 28; with_reducible refine (HL2.out).mono ?_; rintro e w' ⟨rfl, rfl⟩))
  go_ret
  exact ⟨rfl, HS.out⟩

/-- What Floor answers. -/
def floorA : Option ((List UInt8) × SlB) → Value
  | some p => .tuple #[(.string ⟨p.1.toArray⟩), (.slice p.2.A p.2.n p.2.c), .bool true]
  | none => .tuple #[(.string ⟨#[]⟩), (.slice none 0 0), .bool false]

set_option maxRecDepth 100000 in
set_option maxHeartbeats 1000000 in
theorem floor_any (k : (List UInt8)) {w : World} {g : Nat} {tl : Value} {L : List ((List UInt8) × SlB)} (h : MP w g tl L) :
    Calls Try.prog 33 #[.pointer (some ⟨g, 0, none⟩), (.string ⟨k.toArray⟩)] w fun e w' => e = .returned (floorA (floorK Op.bytesLess L k)) ∧ Turn (fun _ => False) w w' := by
  obtain ⟨x, A, hb, hx, rfl⟩ := h.out
  have HW := Lib.hid (last_any w.heap.size k (w := w.alloc (.cells #[(.string ⟨k.toArray⟩)] 9)) (hx.later ((Turn.refl _ w).alloc _)) h.up (Box.new w _ _))
  have hc := (hb.alloc (.cells #[(.string ⟨k.toArray⟩)] 9)).cell 0
  clear h hb hx
  generalize floorK Op.bytesLess x.flat k = ans at *
  cases ans with
  | none =>
    go_enter Try.func33, Try.ntmps33
    go_wp2_with (go_at_call 42; refine (HW.out).mono ?_; rintro e w' ⟨⟨_, rfl, rfl⟩, n, rfl⟩)
    go_ret3
    exact ⟨rfl, ((Turn.refl _ w).alloc _).drewN n⟩
  | some p =>
    go_enter Try.func33, Try.ntmps33
    go_wp2_with (go_at_call 42; refine (HW.out).mono ?_; rintro e w' ⟨⟨_, rfl, u, pl, pr, m, rfl, ho⟩, n, rfl⟩; obtain ⟨c0, c1, -, -, -⟩ := ho.cells; clear ho)
    go_quiet (fail)
    go_wp2
    go_ret3
    exact ⟨rfl, (((Turn.refl _ w).alloc _).drewN n).drewN _⟩


/-- What Get answers. -/
def getA : Option SlB → Value
  | some v => .tuple #[(.slice v.A v.n v.c), .bool true]
  | none => .tuple #[(.slice none 0 0), .bool false]

set_option maxRecDepth 100000 in
set_option maxHeartbeats 1000000 in
theorem get_any (k : (List UInt8)) {w : World} {g : Nat} {tl : Value} {L : List ((List UInt8) × SlB)} (h : MP w g tl L) :
    Calls Try.prog 22 #[.pointer (some ⟨g, 0, none⟩), (.string ⟨k.toArray⟩)] w fun e w' => e = .returned (getA (getK Op.bytesLess L k)) ∧ Turn (fun _ => False) w w' := by
  have HW := Lib.hid (floor_any k h)
  have HG := Lib.hid (get_floor rises_bytes h.up k)
  clear h
  cases hf : floorK Op.bytesLess L k with
  | none =>
    rw [hf] at HW HG
    clear hf
    go_enter Try.func22, Try.ntmps22
    go_wp2_with (go_at_call 33; refine (HW.out).mono ?_; rintro e w' ⟨rfl, ht⟩; have HT := Lib.hid ht; clear ht; unfold floorA)
    go_ret2
    exact ⟨by rw [HG.out]; rfl, HT.out⟩
  | some p =>
    rw [hf] at HW HG
    clear hf
    cases hl : Op.bytesLess p.1 k with
    | true =>
      have HL : Hid (∀ W, Calls Try.prog 34 #[(.string ⟨p.1.toArray⟩), (.string ⟨k.toArray⟩)] W fun e w' => e = .returned (.bool true) ∧ W = w') := fun W => by have := less_any p.1 k W; rw [hl] at this; exact this
      have HG2 : Hid (getK Op.bytesLess L k = none) := by show _ = _; rw [HG.out]; simp [hl]
      clear hl HG
      go_enter Try.func22, Try.ntmps22
      go_wp2_with (first
        | (go_at_call 33; refine (HW.out).mono ?_; rintro e w' ⟨rfl, ht⟩; have HT := Lib.hid ht; clear ht; unfold floorA)
        | (go_at_call 34; refine (HL.out _).mono ?_; rintro e w' ⟨rfl, rfl⟩)
        | fail)
      go_ret2
      exact ⟨by rw [HG2.out]; rfl, HT.out⟩
    | false =>
      have HL : Hid (∀ W, Calls Try.prog 34 #[(.string ⟨p.1.toArray⟩), (.string ⟨k.toArray⟩)] W fun e w' => e = .returned (.bool false) ∧ W = w') := fun W => by have := less_any p.1 k W; rw [hl] at this; exact this
      have HG2 : Hid (getK Op.bytesLess L k = some p.2) := by show _ = _; rw [HG.out]; simp [hl]
      clear hl HG
      go_enter Try.func22, Try.ntmps22
      go_wp2_with (first
        | (go_at_call 33; refine (HW.out).mono ?_; rintro e w' ⟨rfl, ht⟩; have HT := Lib.hid ht; clear ht; unfold floorA)
        | (go_at_call 34; refine (HL.out _).mono ?_; rintro e w' ⟨rfl, rfl⟩)
        | fail)
      go_ret2
      exact ⟨by rw [HG2.out]; rfl, HT.out⟩

end Go.Proofs.Ytamcgoamkakpkaa.omb

/-
  Stage 16, the program's store in memory (trial); turn, New, Waits, Has.
-/
namespace Go.Proofs.Ytamcgoamkakpkaa
open Go.RowKit

set_option maxRecDepth 100000

/-- An object of the program: its slice, its bytes. -/
structure PB16 where
  sl : SlB
  b : List UInt8
abbrev PM16 := List (List UInt8 × PB16)
structure OB16 (w : World) (p : PB16) : Prop where
  rd : Rd w p.sl.v p.b
  typ : ∀ k, p.sl.v.ownBlock = some k → ∃ cs, Box w k 5 cs
theorem box_typ16 {w : World} {k : Nat} {t t' : TypeId} {cs cs' : Array Value} (h : Box w k t cs) (h' : Box w k t' cs') : t = t' := by
  have e := (show w.heap[k]? = _ from h).symm.trans h'
  injection e with e
  injection e with _ e
theorem OB16.turn {S : Nat → Prop} {w w' : World} {p : PB16} (h : OB16 w p) (ht : Turn S w w') (hS : ∀ k cs, Box w k 5 cs → ¬ S k) : OB16 w' p :=
  ⟨h.rd.turn ht (fun k hk e => by obtain ⟨cs, hb⟩ := h.typ k hk; exact hS k cs hb e), fun k hk => by obtain ⟨cs, hb⟩ := h.typ k hk; exact ⟨cs, hb.turn ht (hS k cs hb)⟩⟩
theorem OB16.of {w : World} {s : SlB} {b : List UInt8} (h : By w s.v b) : OB16 w ⟨s, b⟩ := ⟨h.rd, fun k hk => by
  rcases h.form with ⟨e, _⟩ | ⟨g, cap, cur, e, hb, _⟩
  · rw [show (PB16.mk s b).sl.v = s.v from rfl, e] at hk; cases hk
  · rw [show (PB16.mk s b).sl.v = s.v from rfl, e] at hk; cases hk; exact ⟨cur, hb⟩⟩

/-- The store at block g: its objects, its turns. -/
structure PD16 (w : World) (g : Nat) (M : PM16) (tv : Value) (t : List Bool) : Prop where
  map : omb.MP w g tv (fm15 PB16.sl M)
  objs : ∀ q ∈ M, OB16 w q.2
  turns : Win EB16 4 w tv t
def Foot16 (g : Nat) (tv : Value) (k : Nat) : Prop := k = g ∨ tv.ownBlock = some k
section
variable {w w' : World} {g : Nat} {M : PM16} {tv : Value} {t : List Bool}
theorem PD16.up (h : PD16 w g M tv t) : Up ltN M := fm_up15 _ h.map.up
theorem PD16.box (h : PD16 w g M tv t) : ∃ A : Option Addr, Box w g 57 #[.pointer A, tv] := by
  obtain ⟨x, A, hb, _⟩ := h.map.out
  exact ⟨A, hb⟩
theorem PD16.lt (h : PD16 w g M tv t) {k : Nat} (hk : Foot16 g tv k) : k < w.heap.size := by
  rcases hk with rfl | e
  · obtain ⟨A, hb⟩ := h.box; exact hb.lt
  · exact h.turns.lt e
theorem PD16.typ (h : PD16 w g M tv t) {k : Nat} (hk : Foot16 g tv k) : ∃ cs, Box w k 57 cs ∨ Box w k 4 cs := by
  rcases hk with rfl | e
  · obtain ⟨A, hb⟩ := h.box; exact ⟨_, .inl hb⟩
  · obtain ⟨cs, hb⟩ := h.turns.typ e; exact ⟨cs, .inr hb⟩
theorem PD16.turn {S : Nat → Prop} (h : PD16 w g M tv t) (ht : Turn S w w') (h1 : ∀ k, Foot16 g tv k → ¬ S k) (h2 : ∀ i cs, Box w i 79 cs → ¬ S i) (h3 : ∀ i cs, Box w i 5 cs → ¬ S i) : PD16 w' g M tv t :=
  ⟨h.map.turn ht (h1 g (.inl rfl)) h2, fun q hq => (h.objs q hq).turn ht h3, h.turns.turn ht (fun k hk => h1 k (.inr hk))⟩
theorem PD16.later (h : PD16 w g M tv t) (ht : Turn (fun _ => False) w w') : PD16 w' g M tv t := h.turn ht (fun _ _ f => f) (fun _ _ _ f => f) (fun _ _ _ f => f)
/-- The store's own cells, or a row of turns, turned; the root stays. -/
theorem PD16.root (h : PD16 w g M tv t) : ∃ A : Option Addr, Box w g 57 #[.pointer A, tv] ∧ ∀ (S : Nat → Prop) (w' : World) (tv' : Value) (t' : List Bool), Turn S w w' → (∀ k, k < w.heap.size → S k → k = g ∨ ∃ cs, Box w k 4 cs) →
    Box w' g 57 #[.pointer A, tv'] → Win EB16 4 w' tv' t' → PD16 w' g M tv' t' := by
  obtain ⟨x, A, hb, hx, e⟩ := h.map.out
  have key : ∀ {S : Nat → Prop} {ty : TypeId}, (∀ k, k < w.heap.size → S k → k = g ∨ ∃ cs, Box w k 4 cs) → ty ≠ 57 → ty ≠ 4 → ∀ i cs, Box w i ty cs → ¬ S i := fun hS h1 h2 i cs hi hs => by
    rcases hS i hi.lt hs with e | ⟨cs', hb'⟩
    · subst e; exact h1 (box_typ16 hi hb)
    · exact h2 (box_typ16 hi hb')
  exact ⟨A, hb, fun S w' tv' t' ht hS hb' hw => ⟨⟨⟨x, A, hb', hx.turn ht (key hS (by decide) (by decide)), e⟩, h.map.up⟩, fun q hq => (h.objs q hq).turn ht (key hS (by decide) (by decide)), hw⟩⟩
end

/-- The program's store. -/
def DM16 (w : World) (F : Nat → Prop) (g : Nat) (s : C16) : Prop := ∃ (M : PM16) (tv : Value), F = Foot16 g tv ∧ PD16 w g M tv s.t ∧ fm15 PB16.b M = s.l
theorem dm_lt16 {w : World} {F : Nat → Prop} {g : Nat} {s : C16} (h : DM16 w F g s) : ∀ k, F k → k < w.heap.size := by
  obtain ⟨M, tv, rfl, h, _⟩ := h
  exact fun k hk => h.lt hk
theorem dm_later16 {w w' : World} {F : Nat → Prop} {g : Nat} {s : C16} (h : DM16 w F g s) (ht : Turn (fun _ => False) w w') : DM16 w' F g s := by
  obtain ⟨M, tv, e, h, e2⟩ := h
  exact ⟨M, tv, e, h.later ht, e2⟩
theorem dm_apart16 {w w' : World} {F : Nat → Prop} {g : Nat} {s : C16} {r : Nat} {cs : Array Value} (h : DM16 w F g s) (ht : Turn (fun k => k = r) w w') (hr : ¬ F r) (hb : Box w r 31 cs) : DM16 w' F g s := by
  obtain ⟨M, tv, rfl, h, e2⟩ := h
  exact ⟨M, tv, rfl, h.turn ht (fun k hk e => hr (by rw [← e]; exact hk)) (fun i cs' hi e => by subst e; exact absurd (box_typ16 hi hb) (by decide)) (fun i cs' hi e => by subst e; exact absurd (box_typ16 hi hb) (by decide)), e2⟩
theorem does_stay16 {w w' : World} {F : Nat → Prop} {g : Nat} {s : C16} (h : DM16 w F g s) (ht : Turn (fun _ => False) w w') : ∃ F', DM16 w' F' g s ∧ Turn F w w' ∧ ∀ k, F' k → F k ∨ w.heap.size ≤ k :=
  ⟨F, dm_later16 h ht, ht.mono (fun _ _ f => f.elim), fun _ h => .inl h⟩

theorem new_any16 (w : World) : Calls Try.prog 8 #[] w fun e w' => NewP16 DM16 w e w' := by
  go_enter Try.func8, Try.ntmps8
  go_wp2
  go_ret
  refine ⟨w.heap.size, Foot16 w.heap.size (.slice none 0 0), rfl, ⟨[], .slice none 0 0, rfl, ⟨⟨⟨.nil, none, Box.new w _ _, rfl, rfl⟩, up_nil⟩, fun _ h => (by cases h), Win.nil _⟩, rfl⟩, (Turn.refl _ w).alloc _, ?_⟩
  rintro k (rfl | h)
  · exact Nat.le_refl _
  · cases h

theorem waits_any16 {w : World} {F : Nat → Prop} {g : Nat} {s : C16} (hm : DM16 w F g s) : Calls Try.prog 12 #[.pointer (some ⟨g, 0, none⟩)] w fun e w' => SaysP16 w (.int .i64 (s.t.length : Int)) e w' := by
  obtain ⟨M, tv, rfl, h, e⟩ := hm
  obtain ⟨A, hb⟩ := h.box
  obtain ⟨B, c, hs⟩ := h.turns.shape
  rw [hs] at hb
  have c1 := hb.cell 1
  clear h hb e hs
  go_enter Try.func12, Try.ntmps12
  go_wp2
  go_ret
  exact ⟨rfl, Turn.refl _ _⟩

theorem has_any16 (n : List UInt8) {w : World} {F : Nat → Prop} {g : Nat} {s : C16} (hm : DM16 w F g s) : Calls Try.prog 10 #[.pointer (some ⟨g, 0, none⟩), sv16 n] w fun e w' => SaysP16 w (.bool (hasK ltN s.l n)) e w' := by
  obtain ⟨M, tv, rfl, h, e⟩ := hm
  have HG := Lib.hid (omb.get_any n h.map)
  rw [← e, fm_has15, has_get]
  rw [fm_get15] at HG
  clear e h
  cases hk : getK ltN M n with
  | none =>
    rw [hk] at HG
    clear hk
    go_enter Try.func10, Try.ntmps10
    go_wp2_with (go_at_call 22; refine (HG.out).mono ?_; rintro e w' ⟨rfl, ht⟩; have HT := Lib.hid ht; clear ht; unfold Option.map omb.getA; dsimp only)
    go_ret
    exact ⟨rfl, HT.out⟩
  | some p =>
    rw [hk] at HG
    clear hk
    go_enter Try.func10, Try.ntmps10
    go_wp2_with (go_at_call 22; refine (HG.out).mono ?_; rintro e w' ⟨rfl, ht⟩; have HT := Lib.hid ht; clear ht; unfold Option.map omb.getA; dsimp only)
    go_ret
    exact ⟨rfl, HT.out⟩

/-- Behind a call's turn. -/
def TurnedP16 (w : World) (g : Nat) (M : PM16) (tv : Value) (s : C16) (n : List UInt8) (e : Ending) (w' : World) : Prop :=
  e = .returned (.int .i64 (turnA16 s n)) ∧ ∃ tv', PD16 w' g M tv' (turnS16 s n).t ∧ Turn (fun k => k = g) w w' ∧ ∀ k, tv'.ownBlock = some k → tv.ownBlock = some k
/-- Behind the turn itself. -/
def TookP16 (w : World) (g : Nat) (M : PM16) (tv : Value) (t : List Bool) (e : Ending) (w' : World) : Prop :=
  e = .returned (.bool (t.headD false)) ∧ ∃ tv', PD16 w' g M tv' t.tail ∧ Turn (fun k => k = g) w w' ∧ ∀ k, tv'.ownBlock = some k → tv.ownBlock = some k
set_option maxHeartbeats 4000000 in
theorem took_any16 {w : World} {g : Nat} {M : PM16} {tv : Value} {t : List Bool} (hm : PD16 w g M tv t) :
    Calls Try.prog 39 #[.pointer (some ⟨g, 0, none⟩)] w fun e w' => TookP16 w g M tv t e w' := by
  have HM := Lib.hid hm
  cases hst : t with
  | nil =>
    obtain ⟨B, cb, htl⟩ := hm.turns.shape
    rw [hst] at htl
    obtain ⟨A, hb⟩ := hm.box
    have c1 := hb.cell 1
    rw [htl] at c1
    have HST := Lib.hid hst
    clear hm hst htl hb
    go_enter Try.func39, Try.ntmps39
    go_wp2
    go_ret
    exact ⟨rfl, tv, by have := HM.out; rw [HST.out] at this; exact this, Turn.refl _ _, fun _ h => h⟩
  | cons a r =>
    obtain ⟨B, cb, htl⟩ := hm.turns.shape
    have htr := hm.turns
    rw [htl] at htr
    obtain ⟨ad, rfl, hc⟩ := turn_at16 htr.rd (j := 0) (p := a) (by rw [hst]; rfl)
    have a0 := hc w (Turn.refl _ _)
    rw [show ad.add 0 = ad from rfl] at a0
    obtain ⟨A, hb, hroot⟩ := hm.root
    have c1 := hb.cell 1
    have f1 := hb.free 1
    rw [htl] at c1
    have hlen : t.length = r.length + 1 := by rw [hst]; rfl
    have HDR : Hid (t.drop 1 = r) := by show _ = _; rw [hst]; rfl
    have HTR := Lib.hid htr
    have HTL := Lib.hid htl
    have HR := Lib.hid hroot
    have HBX := Lib.hid hb
    have HSZ : Hid ((Try.prog.info? 4).map (·.size) = some EB16.sz) := by show _ = _; kernel_rfl
    generalize t.length = N at *
    have hb0 : ((N : Int) == 0) = false := by rw [beq_eq_false_iff_ne]; omega
    have hN : 1 ≤ N := by omega
    have hk : Hid (Value.int .i64 1 = .int .i64 ((1 : Nat) : Int)) := rfl
    clear hm hst htl htr hc hlen hb hroot
    go_enter Try.func39, Try.ntmps39
    go_wp2_with (refine wpList_cutW (E := EB16) (i := 1) (op := ⟨some 21, _, _, _, _, _⟩) Try.underlying29 HSZ.out rfl _ _ rfl HTR.out rfl hk.out hN ?_; intro B8 h8 o8; have HR8 := Lib.hid h8; have HO8 := Lib.hid o8; clear h8 o8)
    go_ret
    have hw8 := HR8.out
    rw [HDR.out] at hw8
    have ht8 : Turn (fun k => k = g) w (w.setCell ⟨g, 1, none⟩ (.slice B8 (N - 1) (cb - 1))) := Turn.setCell (S := fun k => k = g) (p := ⟨g, 1, none⟩) (Turn.refl _ w) (fun _ => rfl) _
    have hb8 := HBX.out.set 1 (.slice B8 (N - 1) (cb - 1))
    simp only [List.setIfInBounds_toArray, List.set_cons_succ, List.set_cons_zero] at hb8
    refine ⟨rfl, .slice B8 (N - 1) (cb - 1), ?_, ht8, fun k hk => by rw [HTL.out]; exact HO8.out k hk⟩
    exact HR.out _ _ _ _ ht8 (fun k _ e => .inl e) hb8 (hw8.turn ht8 (fun k hk e => by subst e; obtain ⟨cs, hb⟩ := hw8.typ hk; exact absurd (box_typ16 hb HBX.out) (by decide)))

set_option maxHeartbeats 4000000 in
theorem turn_any16 (n : List UInt8) {w : World} {g : Nat} {M : PM16} {tv : Value} {s : C16} (hm : PD16 w g M tv s.t) :
    Calls Try.prog 29 #[.pointer (some ⟨g, 0, none⟩), sv16 n] w fun e w' => TurnedP16 w g M tv s n e w' := by
  have HM := Lib.hid hm
  have HTK := Lib.hid (took_any16 hm)
  have hsz : ByteArray.size ⟨n.toArray⟩ = n.length := rfl
  clear hm
  by_cases h1 : 1 ≤ n.length
  · by_cases h2 : n.length ≤ 40
    · have HN : Hid (named15 n = true) := by show _ = _; unfold named15; rw [decide_eq_true h1, decide_eq_true h2]; rfl
      have HA : Hid (turnA16 s n = (if s.t.headD false then 14 else 0) ∧ (turnS16 s n).t = s.t.tail) := by
        have h9 : ¬ named15 n = false := by rw [HN.out]; decide
        refine ⟨?_, ?_⟩
        · unfold turnA16
          rw [if_neg h9]
          cases s.t <;> rfl
        · unfold turnS16
          rw [if_neg h9]
      unfold TookP16 at HTK
      generalize s.t.headD false = a at *
      cases a with
      | true =>
        go_enter Try.func29, Try.ntmps29
        go_wp2_with (go_at_call 39; refine HTK.out.mono ?_; rintro e w1 ⟨rfl, tv1, h1', t1, o1⟩; have HD := Lib.hid h1'; have HT1 := Lib.hid t1; have HO1 := Lib.hid o1; clear h1' t1 o1 HTK)
        go_ret
        exact ⟨by rw [HA.out.1]; rfl, tv1, by rw [HA.out.2]; exact HD.out, HT1.out, HO1.out⟩
      | false =>
        go_enter Try.func29, Try.ntmps29
        go_wp2_with (go_at_call 39; refine HTK.out.mono ?_; rintro e w1 ⟨rfl, tv1, h1', t1, o1⟩; have HD := Lib.hid h1'; have HT1 := Lib.hid t1; have HO1 := Lib.hid o1; clear h1' t1 o1 HTK)
        go_ret
        exact ⟨by rw [HA.out.1]; rfl, tv1, by rw [HA.out.2]; exact HD.out, HT1.out, HO1.out⟩
    · have HN : Hid (named15 n = false) := by show _ = _; unfold named15; rw [decide_eq_false h2, Bool.and_false]
      have HA : Hid (turnA16 s n = 2 ∧ (turnS16 s n).t = s.t) := by unfold turnA16 turnS16; rw [if_pos HN.out, if_pos HN.out]; exact ⟨rfl, rfl⟩
      have h3 : 40 < n.length := by omega
      clear h2 HTK
      go_enter Try.func29, Try.ntmps29
      go_wp2
      go_ret
      exact ⟨by rw [HA.out.1]; rfl, tv, by rw [HA.out.2]; exact HM.out, Turn.refl _ _, fun _ h => h⟩
  · have HN : Hid (named15 n = false) := by show _ = _; unfold named15; rw [decide_eq_false h1, Bool.false_and]
    have HA : Hid (turnA16 s n = 2 ∧ (turnS16 s n).t = s.t) := by unfold turnA16 turnS16; rw [if_pos HN.out, if_pos HN.out]; exact ⟨rfl, rfl⟩
    have h3 : n.length < 1 := by omega
    clear h1 HTK
    go_enter Try.func29, Try.ntmps29
    go_wp2
    go_ret
    exact ⟨by rw [HA.out.1]; rfl, tv, by rw [HA.out.2]; exact HM.out, Turn.refl _ _, fun _ h => h⟩

end Go.Proofs.Ytamcgoamkakpkaa

/-
  Stage 16, the program (trial): Put, Get, Delete.
-/
namespace Go.Proofs.Ytamcgoamkakpkaa
open Go.RowKit

set_option maxRecDepth 100000

set_option maxHeartbeats 400000 in
theorem clone_any16 (v : Value) (l : List UInt8) (w : World) (hv : Rd w v l) (hl : l.length ≤ 100000000) :
    Calls Try.prog 31 #[v] w fun e w' => ∃ v', e = .returned v' ∧ By w' v' l ∧ Turn (fun _ => False) w w' ∧ ∀ k, v'.ownBlock = some k → w.heap.size ≤ k := by
  obtain ⟨A, c, rfl, hk, hn, hc⟩ := hv
  cases A with
  | none =>
    obtain ⟨rfl, rfl⟩ := hn rfl
    clear hn hc
    have heq := fun (w : World) => Lib.run_eql_slice_nil (P := Try.prog) w 34 5 none 0 0 0 0 Try.underlying34
    go_enter Try.func31, Try.ntmps31
    go_wp2
    go_ret
    exact ⟨_, rfl, By.nil _, Turn.refl _ _, fun _ h => by cases h⟩
  | some ad =>
    have heq := fun (w : World) => Lib.run_eql_slice_nil (P := Try.prog) w 34 5 (some ad) l.length c 0 0 Try.underlying34
    have hY : ∀ o, Yields (w.alloc o) 34 (.slice (some ad) l.length c) l := fun o => by
      refine Rd.yields (Rd.turn (w := w) ⟨_, _, rfl, hk, hn, hc⟩ ((Turn.refl (fun _ => False) w).alloc o) (fun _ _ f => f))
    clear hn hc
    have HY := Lib.hid hY; clear hY
    go_enter Try.func31, Try.ntmps31
    go_wp2_with (at_builtin; go_must (refine wpList_app _ rfl _ _ _ rfl _ [] rfl (By.empty w) _ rfl l (HY.out _) (by simp; omega) ?_))
    intro A' n' c' w1 hby hg hat
    have HB := Lib.hid hby; clear hby
    have HG := Lib.hid hg; clear hg
    have HA := Lib.hid hat; clear hat
    go_wp2
    go_ret
    refine ⟨.slice A' n' c', rfl, HB.out, ((Turn.refl _ w).alloc _).grown HG.out ?_, ?_⟩
    · intro k hk e
      simp [Value.ownBlock] at e
      omega
    · intro k hk
      rcases HA.out with e | e
      · rw [e] at hk
        simp [Value.ownBlock] at hk
        omega
      · rw [e] at hk
        simp at hk
        omega

section
variable {w w' : World} {g : Nat} {M M' : PM16} {tv : Value} {t : List Bool}
theorem PD16.again (h : PD16 w g M tv t) (ht : Turn (fun k => k = g) w w') (hm : omb.MP w' g tv (fm15 PB16.sl M')) (ho : ∀ q ∈ M', OB16 w q.2) : PD16 w' g M' tv t := by
  obtain ⟨A, hb⟩ := h.box
  exact ⟨hm, fun q hq => (ho q hq).turn ht (fun k cs hi e => by subst e; exact absurd (box_typ16 hi hb) (by decide)), h.turns.turn ht (fun k hk e => by subst e; obtain ⟨cs, h1⟩ := h.turns.typ hk; exact absurd (box_typ16 h1 hb) (by decide))⟩
end
theorem foot_of16 {g : Nat} {tv tv' : Value} (h : ∀ k, tv'.ownBlock = some k → tv.ownBlock = some k) {k : Nat} (hk : Foot16 g tv' k) : Foot16 g tv k := hk.imp id (h k)

set_option maxHeartbeats 4000000 in
theorem put_any16 (n : List UInt8) (v : Value) (b : List UInt8) {w : World} {F : Nat → Prop} {g : Nat} {s : C16} (hm : DM16 w F g s) (hbd : BdP16 s) (hv : Rd w v b) (hfar : b = [] ∨ ∀ k, v.ownBlock = some k → ¬ F k) (hbl : b.length ≤ 1000000) :
    Calls Try.prog 18 #[.pointer (some ⟨g, 0, none⟩), sv16 n, v] w fun e w' => DoesP16 DM16 w F g (put16 s n b).1 (.int .i64 (put16 s n b).2) e w' := by
  obtain ⟨M, tv, rfl, h, e⟩ := hm
  have HTU := Lib.hid (turn_any16 n h)
  have HL : Hid (∀ x, x = turnA16 s n → (x ≠ 0 → put16 s n b = (turnS16 s n, x)) ∧ (x = 0 → put16 s n b = ({ turnS16 s n with l := putK ltN s.l n b }, 0))) := by
    intro x hx
    refine ⟨fun h => ?_, fun h => ?_⟩
    · unfold put16
      rw [if_neg (by rw [← hx]; exact h), hx]
    · unfold put16
      rw [if_pos (by rw [← hx]; exact h), if_neg (by omega)]
  have HSL : Hid ((turnS16 s n).l = s.l) := turnS_l16 s n
  have HE : Hid (fm15 PB16.b M = s.l) := e
  have HLN : Hid ((fm15 PB16.sl M).length ≤ 900000) := by show _ ≤ _; rw [fm_len15]; have := hbd.len; rw [← e, fm_len15] at this; omega
  have HV := Lib.hid hv
  have HFR := Lib.hid hfar
  obtain ⟨Av, cv, rfl⟩ := hv.shape
  unfold TurnedP16 at HTU
  generalize turnS16 s n = s2 at *
  generalize turnA16 s n = x at *
  have HX := HL.out x rfl
  clear HL h e hbd hv hfar
  by_cases h0 : x = 0
  · subst h0
    have HA := Lib.hid (HX.2 rfl)
    clear HX
    go_enter Try.func18, Try.ntmps18
    go_wp2_with fail
    refine HTU.out.mono ?_
    rintro e w1 ⟨rfl, tv1, h1, t1, o1⟩
    have HD := Lib.hid h1; have HT1 := Lib.hid t1; have HO1 := Lib.hid o1
    obtain ⟨A1, hb1⟩ := h1.box
    have HV1 : Hid (∀ W, Turn (fun _ => False) w1 W → Rd W (.slice Av b.length cv) b) := fun W ht => (rd_keep16 HV.out HT1.out (HFR.out.imp id (fun f k hk e => f k hk (.inl e)))).later ht
    clear h1 t1 o1 HTU hb1
    go_wp2_with fail
    refine drawn_region (fun W => Turn (fun _ => False) w1 W) [6] (by kernel_rfl) ?_
    have hS0 : Turn (fun _ => False) w1 (World.drew w1) := (Turn.refl _ w1).drew
    generalize World.drew w1 = wd at *
    refine drawn_take 0 17 (.pointer (some ⟨g, 0, none⟩)) rfl rfl (by kernel_rfl) (by kernel_rfl) (by kernel_rfl) (by kernel_rfl) (fun _ _ _ h => h) (by rfl) (by assumption) (by intro w hSw; obtain hS1 := hSw; go_simp) ?_
    try simp only [List.setIfInBounds_toArray, List.set_cons_zero, List.set_cons_succ]
    refine drawn_take 1 18 (.pointer (some ⟨g, 0, none⟩)) rfl rfl (by kernel_rfl) (by kernel_rfl) (by kernel_rfl) (by kernel_rfl) (fun _ _ _ h => h) (by rfl) (by assumption) (by intro w hSw; obtain hS1 := hSw; go_simp) ?_
    try simp only [List.setIfInBounds_toArray, List.set_cons_zero, List.set_cons_succ]
    refine drawn_take 2 19 (.pointer (some ⟨g, 0, none⟩)) rfl rfl (by kernel_rfl) (by kernel_rfl) (by kernel_rfl) (by kernel_rfl) (fun _ _ _ h => h) (by rfl) (by assumption) (by intro w hSw; obtain hS1 := hSw; go_simp) ?_
    try simp only [List.setIfInBounds_toArray, List.set_cons_zero, List.set_cons_succ]
    refine drawn_take 3 20 (sv16 n) rfl rfl (by kernel_rfl) (by kernel_rfl) (by kernel_rfl) (by kernel_rfl) (fun _ _ _ h => h) (by rfl) (by assumption) (by intro w hSw; obtain hS1 := hSw; go_simp) ?_
    try simp only [List.setIfInBounds_toArray, List.set_cons_zero, List.set_cons_succ]
    refine drawn_take 4 21 (.slice Av b.length cv) rfl rfl (by kernel_rfl) (by kernel_rfl) (by kernel_rfl) (by kernel_rfl) (fun _ _ _ h => h) (by rfl) (by assumption) (by intro w hSw; obtain hS1 := hSw; go_simp) ?_
    try simp only [List.setIfInBounds_toArray, List.set_cons_zero, List.set_cons_succ]
    refine drawn_any [5] (by kernel_rfl) (by simp) ?_
    refine drawn_cons rfl (fun K hK => ?_) drawn_nil
    go_simp
    refine (clone_any16 _ b wd (HV1.out wd hS0) (by omega)).mono ?_
    rintro e w2 ⟨u, rfl, hu, t2, -⟩
    obtain ⟨Au, cu, rfl⟩ := hu.shape
    have HU := Lib.hid hu
    have hS2 := hS0.trans t2 (fun _ _ f => f)
    have HT2 := Lib.hid hS2
    refine hK.out _ _ _ hS2 ?_
    clear hK K t2 hu hS0
    try simp only [List.setIfInBounds_toArray, List.set_cons_zero, List.set_cons_succ]
    refine drawn_last (z := 6) rfl (by kernel_rfl) (by kernel_rfl) (by kernel_rfl) (fun K hK => ?_)
    have HD2 := Lib.hid (HD.out.later hS2)
    clear hS2
    go_simp
    refine (omb.put_any n ⟨Au, b.length, cu⟩ HD2.out.map HLN.out).mono ?_
    rintro e w3 ⟨rfl, hm3, t3⟩
    have HP3 : Hid (PD16 w3 g (putK ltN M n ⟨⟨Au, b.length, cu⟩, b⟩) tv1 s2.t) := HD2.out.again t3 (by rw [fm_put15]; exact hm3) (fun q hq => by
      rcases (put_mem rises_bytes HD2.out.up).1 hq with e | ⟨e, _⟩
      · subst e; exact OB16.of (s := ⟨Au, b.length, cu⟩) HU.out
      · exact HD2.out.objs q e)
    have HT3 : Hid (Turn (fun k => k = g) w w3) := (HT1.out.trans HT2.out (fun _ _ f => f.elim)).trans t3 (fun _ _ e => e)
    clear hm3 t3
    refine hK.out _ _ ?_
    clear hK K
    go_wp2
    go_ret
    rw [HA.out]
    exact ⟨rfl, Foot16 g tv1, ⟨_, tv1, rfl, HP3.out, by rw [fm_put15, HE.out]⟩, HT3.out.mono (fun _ _ e => .inl e), fun k hk => .inl (foot_of16 HO1.out hk)⟩
  · have HA := Lib.hid (HX.1 h0)
    have hx1 : (x == 0) = false := by rw [beq_eq_false_iff_ne]; exact h0
    have hx2 : (x != 0) = true := by rw [bne_iff_ne]; exact h0
    clear HX h0
    go_enter Try.func18, Try.ntmps18
    go_wp2_with fail
    refine HTU.out.mono ?_
    rintro e w1 ⟨rfl, tv1, h1, t1, o1⟩
    have HD := Lib.hid h1; have HT1 := Lib.hid t1; have HO1 := Lib.hid o1
    clear h1 t1 o1 HTU
    go_wp2
    go_ret
    rw [HA.out]
    exact ⟨rfl, Foot16 g tv1, ⟨M, tv1, rfl, HD.out, by rw [HE.out, HSL.out]⟩, HT1.out.mono (fun _ _ e => .inl e), fun k hk => .inl (foot_of16 HO1.out hk)⟩

end Go.Proofs.Ytamcgoamkakpkaa

/-
  Stage 16, the program (trial): Get, Delete.
-/
namespace Go.Proofs.Ytamcgoamkakpkaa
open Go.RowKit

set_option maxRecDepth 100000

set_option maxHeartbeats 4000000 in
theorem get_any16 (n : List UInt8) {w : World} {F : Nat → Prop} {g : Nat} {s : C16} (hm : DM16 w F g s) (hbd : BdP16 s) :
    Calls Try.prog 20 #[.pointer (some ⟨g, 0, none⟩), sv16 n] w fun e w' => GetsP16 DM16 w F g (get16 s n).1 (get16 s n).2 e w' := by
  obtain ⟨M, tv, rfl, h, e⟩ := hm
  have HTU := Lib.hid (turn_any16 n h)
  have HL : Hid (∀ x, x = turnA16 s n → (x ≠ 0 → get16 s n = (turnS16 s n, ([], x))) ∧ (x = 0 → get16 s n = (match getK ltN s.l n with
    | none => (turnS16 s n, ([], 11))
    | some b => (turnS16 s n, (b, 0))))) := by
    intro x hx
    refine ⟨fun h => ?_, fun h => ?_⟩
    · unfold get16
      rw [if_neg (by rw [← hx]; exact h), hx]
    · unfold get16
      rw [if_pos (by rw [← hx]; exact h)]
      first
      | done
      | (cases getK ltN s.l n <;> rfl)
  have HSL : Hid ((turnS16 s n).l = s.l) := turnS_l16 s n
  have HE : Hid (fm15 PB16.b M = s.l) := e
  have HLN : Hid ((fm15 PB16.sl M).length ≤ 900000) := by show _ ≤ _; rw [fm_len15]; have := hbd.len; rw [← e, fm_len15] at this; omega
  have HBD := Lib.hid hbd
  have HUP := Lib.hid h.up
  unfold TurnedP16 at HTU
  generalize turnS16 s n = s2 at *
  generalize turnA16 s n = x at *
  have HX := HL.out x rfl
  clear HL h e hbd
  by_cases h0 : x = 0
  · subst h0
    have HA := Lib.hid (HX.2 rfl)
    clear HX
    have HK : Hid (getK ltN s.l n = (getK ltN M n).map PB16.b) := by show _ = _; rw [← HE.out]; exact fm_get15 _ _ _
    rw [HK.out] at HA
    cases hk : getK ltN M n with
    | none =>
      rw [hk] at HA
      have HB : Hid (get16 s n = (s2, ([], 11))) := HA.out
      have HK2 := Lib.hid hk
      clear HA hk
      go_enter Try.func20, Try.ntmps20
      go_wp2_with fail
      refine HTU.out.mono ?_
      rintro e w1 ⟨rfl, tv1, h1, t1, o1⟩
      have HD := Lib.hid h1; have HT1 := Lib.hid t1; have HO1 := Lib.hid o1
      have HG := Lib.hid (omb.get_any n h1.map)
      rw [fm_get15, HK2.out] at HG
      clear h1 t1 o1 HTU
      unfold Option.map omb.getA at HG
      go_wp2_with (go_at_call 22; refine (HG.out).mono ?_; rintro e w2 ⟨rfl, ht⟩; have HT := Lib.hid ht; clear ht)
      go_ret2
      rw [HB.out]
      exact ⟨_, rfl, Rd.none _, (fun k hk => by cases hk), Foot16 g tv1, ⟨M, tv1, rfl, HD.out.later HT.out, by rw [HE.out, HSL.out]⟩, (HT1.out.mono (fun _ _ e => .inl e)).trans HT.out (fun _ _ f => f.elim), fun k hk => .inl (foot_of16 HO1.out hk), fun k hk => by cases hk⟩
    | some p =>
      rw [hk] at HA
      have HB : Hid (get16 s n = (s2, (p.b, 0))) := HA.out
      have HK2 := Lib.hid hk
      have HPM : Hid ((n, p) ∈ M) := by
        have h2 : hasK ltN M n = true := by rw [has_get, hk]; rfl
        obtain ⟨u, hu, e⟩ := get_has16 h2
        rw [hk] at e
        cases e
        exact List.mem_of_getElem? hu
      have HPL : Hid (p.b.length ≤ 100000000) := by
        have := HBD.out.ok.objs (n, p.b) (by rw [← HE.out]; exact List.mem_map.2 ⟨(n, p), HPM.out, rfl⟩)
        show _ ≤ _
        dsimp only at this
        omega
      clear HA hk
      go_enter Try.func20, Try.ntmps20
      go_wp2_with fail
      refine HTU.out.mono ?_
      rintro e w1 ⟨rfl, tv1, h1, t1, o1⟩
      have HD := Lib.hid h1; have HT1 := Lib.hid t1; have HO1 := Lib.hid o1
      have HG := Lib.hid (omb.get_any n h1.map)
      rw [fm_get15, HK2.out] at HG
      clear h1 t1 o1 HTU
      unfold Option.map omb.getA at HG
      go_wp2_with fail
      refine HG.out.mono ?_
      rintro e w2 ⟨rfl, ht⟩
      have HT := Lib.hid ht
      clear ht HG
      go_wp2_with fail
      refine (clone_any16 _ _ w2 ((HD.out.later HT.out).objs _ HPM.out).rd HPL.out).mono ?_
      rintro e w3 ⟨u, rfl, hu, t3, hn3⟩
      have HU := Lib.hid hu; have HT3 := Lib.hid t3; have HN3 := Lib.hid hn3
      obtain ⟨Au, cu, rfl⟩ := hu.shape
      clear hu t3 hn3
      go_wp2
      go_ret2
      rw [HB.out]
      have hd2 := HD.out.later HT.out
      refine ⟨_, rfl, HU.out.rd, fun k hk => ?_, Foot16 g tv1, ⟨M, tv1, rfl, hd2.later HT3.out, by rw [HE.out, HSL.out]⟩, ((HT1.out.mono (fun _ _ e => .inl e)).trans HT.out (fun _ _ f => f.elim)).trans HT3.out (fun _ _ f => f.elim), fun k hk => .inl (foot_of16 HO1.out hk), fun k hk hf => ?_⟩
      · exact Nat.le_trans (Nat.le_trans HT1.out.size HT.out.size) (HN3.out k hk)
      · have h1 := HN3.out k hk
        have h2 := hd2.lt hf
        omega
  · have HA := Lib.hid (HX.1 h0)
    have hx1 : (x == 0) = false := by rw [beq_eq_false_iff_ne]; exact h0
    have hx2 : (x != 0) = true := by rw [bne_iff_ne]; exact h0
    clear HX h0
    go_enter Try.func20, Try.ntmps20
    go_wp2_with fail
    refine HTU.out.mono ?_
    rintro e w1 ⟨rfl, tv1, h1, t1, o1⟩
    have HD := Lib.hid h1; have HT1 := Lib.hid t1; have HO1 := Lib.hid o1
    clear h1 t1 o1 HTU
    go_wp2
    go_ret2
    rw [HA.out]
    exact ⟨_, rfl, Rd.none _, (fun k hk => by cases hk), Foot16 g tv1, ⟨M, tv1, rfl, HD.out, by rw [HE.out, HSL.out]⟩, HT1.out.mono (fun _ _ e => .inl e), fun k hk => .inl (foot_of16 HO1.out hk), fun k hk => by cases hk⟩

set_option maxHeartbeats 4000000 in
theorem del_any16 (n : List UInt8) {w : World} {F : Nat → Prop} {g : Nat} {s : C16} (hm : DM16 w F g s) (hbd : BdP16 s) :
    Calls Try.prog 21 #[.pointer (some ⟨g, 0, none⟩), sv16 n] w fun e w' => DoesP16 DM16 w F g (del16 s n).1 (.int .i64 (del16 s n).2) e w' := by
  obtain ⟨M, tv, rfl, h, e⟩ := hm
  have HTU := Lib.hid (turn_any16 n h)
  have HL : Hid (∀ x, x = turnA16 s n → (x ≠ 0 → del16 s n = (turnS16 s n, x)) ∧ (x = 0 → del16 s n = (if hasK ltN s.l n then ({ turnS16 s n with l := dropK ltN s.l n }, 0) else (turnS16 s n, 11)))) := by
    intro x hx
    refine ⟨fun h => ?_, fun h => ?_⟩
    · unfold del16
      rw [if_neg (by rw [← hx]; exact h), hx]
    · unfold del16
      rw [if_pos (by rw [← hx]; exact h)]
  have HSL : Hid ((turnS16 s n).l = s.l) := turnS_l16 s n
  have HE : Hid (fm15 PB16.b M = s.l) := e
  have HLN : Hid ((fm15 PB16.sl M).length ≤ 900000) := by show _ ≤ _; rw [fm_len15]; have := hbd.len; rw [← e, fm_len15] at this; omega
  have HBD := Lib.hid hbd
  have HUP := Lib.hid h.up
  unfold TurnedP16 at HTU
  generalize turnS16 s n = s2 at *
  generalize turnA16 s n = x at *
  have HX := HL.out x rfl
  clear HL h e hbd
  by_cases h0 : x = 0
  · subst h0
    have HA := Lib.hid (HX.2 rfl)
    clear HX
    have HH : Hid (hasK ltN s.l n = hasK ltN M n) := by show _ = _; rw [← HE.out]; exact fm_has15 _ _ _
    rw [HH.out] at HA
    obtain ⟨is, his⟩ : ∃ is, is = hasK ltN M n := ⟨_, rfl⟩
    rw [← his] at HA
    have HIS := Lib.hid his
    clear his
    go_enter Try.func21, Try.ntmps21
    go_wp2_with fail
    refine HTU.out.mono ?_
    rintro e w1 ⟨rfl, tv1, h1, t1, o1⟩
    have HD := Lib.hid h1; have HT1 := Lib.hid t1; have HO1 := Lib.hid o1
    have HG := Lib.hid (omb.drop_any n h1.map HLN.out)
    rw [fm_has15, ← HIS.out] at HG
    clear h1 t1 o1 HTU
    go_wp2_with fail
    refine HG.out.mono ?_
    rintro e w2 ⟨rfl, hm2, t2⟩
    have HP2 : Hid (PD16 w2 g (dropK ltN M n) tv1 s2.t) := HD.out.again t2 (by rw [fm_drop15]; exact hm2) (fun q hq => HD.out.objs q (drop_sub16 hq))
    have HT2 : Hid (Turn (fun k => k = g) w w2) := HT1.out.trans t2 (fun _ _ e => e)
    clear hm2 t2 HG
    cases is with
    | true =>
      have HB : Hid (del16 s n = ({ s2 with l := dropK ltN s.l n }, 0)) := by show _ = _; rw [HA.out]; rfl
      clear HA
      go_wp2
      go_ret
      rw [HB.out]
      exact ⟨rfl, Foot16 g tv1, ⟨_, tv1, rfl, HP2.out, by rw [fm_drop15, HE.out]⟩, HT2.out.mono (fun _ _ e => .inl e), fun k hk => .inl (foot_of16 HO1.out hk)⟩
    | false =>
      have hdr : dropK ltN M n = M := drop_not HIS.out.symm
      rw [hdr] at HP2
      have HB : Hid (del16 s n = (s2, 11)) := by show _ = _; rw [HA.out]; rfl
      clear hdr HA
      go_wp2
      go_ret
      rw [HB.out]
      exact ⟨rfl, Foot16 g tv1, ⟨M, tv1, rfl, HP2.out, by rw [HE.out, HSL.out]⟩, HT2.out.mono (fun _ _ e => .inl e), fun k hk => .inl (foot_of16 HO1.out hk)⟩
  · have HA := Lib.hid (HX.1 h0)
    have hx1 : (x == 0) = false := by rw [beq_eq_false_iff_ne]; exact h0
    have hx2 : (x != 0) = true := by rw [bne_iff_ne]; exact h0
    clear HX h0
    go_enter Try.func21, Try.ntmps21
    go_wp2_with fail
    refine HTU.out.mono ?_
    rintro e w1 ⟨rfl, tv1, h1, t1, o1⟩
    have HD := Lib.hid h1; have HT1 := Lib.hid t1; have HO1 := Lib.hid o1
    clear h1 t1 o1 HTU
    go_wp2
    go_ret
    rw [HA.out]
    exact ⟨rfl, Foot16 g tv1, ⟨M, tv1, rfl, HD.out, by rw [HE.out, HSL.out]⟩, HT1.out.mono (fun _ _ e => .inl e), fun k hk => .inl (foot_of16 HO1.out hk)⟩

end Go.Proofs.Ytamcgoamkakpkaa

/-
  A range over a function whose iterator hands out memory of its own: what such an iterator promises ('Gives'), and the statement's law ('over').
-/
namespace Go.Proofs.Ytamcgoamkakpkaa
open Go.RowKit

/-- Blocks from D on that hold no cells; that hold a walk. -/
def odd (D : Nat) (A : World) (k : Nat) : Prop := D ≤ k ∧ ∃ o, A.heap[k]? = some o ∧ o.isCells = false
def strides (D : Nat) (A : World) (k : Nat) : Prop := D ≤ k ∧ ∃ o, A.heap[k]? = some o ∧ o.isWalk = true

theorem Turn.none {S : Nat → Prop} {A B : World} (h : Turn (fun _ => False) A B) : Turn S A B := h.mono (fun _ _ f => f.elim)
theorem Turn.ofStrides {D D' : Nat} {A B : World} (h : Turn (strides D A) A B) (hd : D' ≤ D) : Turn (odd D' A) A B :=
  h.mono (fun _ _ ⟨h1, o, h2, h3⟩ => ⟨Nat.le_trans hd h1, o, h2, Obj.not_cells_of_walk h3⟩)
theorem Turn.putObj (A : World) (l : Nat) (o : Obj) {S : Nat → Prop} (hl : S l) : Turn S A (A.putObj l o) :=
  ⟨rfl, rfl, rfl, by simp [World.putObj], fun k _ hn => World.putObj_heap_other (fun e => hn (e ▸ hl))⟩
theorem Box.odd {w w' : World} {g D : Nat} {t : TypeId} {cs : Array Value} (h : Box w g t cs) (ht : Turn (odd D w) w w') : Box w' g t cs := by
  refine h.turn ht ?_
  rintro ⟨_, o, ho, hc⟩
  rw [show w.heap[g]? = _ from h] at ho
  cases ho
  cases hc
theorem Rd.odd {w w' : World} {D : Nat} {v : Value} {l : List UInt8} (h : Rd w v l) (ht : Turn (odd D w) w w') : Rd w' v l := by
  obtain ⟨A, c, rfl, hk, hn, hc⟩ := h
  refine ⟨A, c, rfl, hk, hn, fun ad e j b hj => ?_⟩
  have h1 := hc ad e j b hj
  have hlt := World.block_lt_of_cell? w _ h1
  rw [ht.cell hlt ?_]
  · exact h1
  · rintro ⟨_, o, ho, hf⟩
    obtain ⟨o', ho', hf'⟩ := cells_of_cell h1
    rw [ho] at ho'
    cases ho'
    rw [hf] at hf'
    cases hf'

/-- What abides that blocks which hold no cells, from D on, are turned, and new ones laid. -/
def Holds {β : Type} (D : Nat) (I : β → World → Prop) : Prop := ∀ s A B, I s A → Turn (odd D A) A B → I s B
def Walks {β : Type} (D : Nat) (I : β → World → Prop) : Prop := ∀ s A B, I s A → Turn (strides D A) A B → I s B

theorem Holds.walks {β : Type} {D D' : Nat} {I : β → World → Prop} (h : Holds D I) (hd : D ≤ D') : Walks D' I := fun s A B hs ht => h s A B hs (ht.ofStrides hd)
theorem Holds.put {β : Type} {D : Nat} {I : β → World → Prop} (h : Holds D I) {s : β} {A : World} {l : Nat} {o : Obj} (o' : Obj) (hs : I s A) (hD : D ≤ l) (hl : A.heap[l]? = some o) (ho : o.isCells = false) : I s (A.putObj l o') :=
  h s A _ hs (Turn.putObj A l o' ⟨hD, o, hl, ho⟩)
theorem Holds.and {β : Type} {D : Nat} {I K : β → World → Prop} (h : Holds D I) (k : Holds D K) : Holds D (fun s W => I s W ∧ K s W) := fun s A B hs ht => ⟨h s A B hs.1 ht, k s A B hs.2 ht⟩
theorem holds_pure {β : Type} (D : Nat) (p : β → Prop) : Holds D (fun s (_ : World) => p s) := fun _ _ _ hs _ => hs
theorem holds_box {β : Type} (D g : Nat) (t : TypeId) (f : β → Array Value) : Holds D (fun s W => Box W g t (f s)) := fun _ _ _ hs ht => hs.odd ht
theorem holds_rd {β : Type} (D : Nat) (v : Value) (l : β → List UInt8) : Holds D (fun s W => Rd W v (l s)) := fun _ _ _ hs ht => hs.odd ht
theorem holds_turn {β : Type} {D : Nat} {w : World} {S : Nat → Prop} (hS : ∀ k, k < w.heap.size → D ≤ k → S k) : Holds D (fun (_ : β) W => Turn S w W) := fun _ _ _ hs ht => hs.trans ht (fun k hk h => hS k hk h.1)

/-- The contract of an iterator value: what it hands a round ('Gv'), what a round that goes on may turn ('S'), what has come when it is done ('All'), or stopped ('Part'). -/
def Gives {α : Type} (n : Nat) (g : Nat) (lb : Array Value) (encs : α → Array Value) (S : Nat → Prop) (Gv : List α → α → World → Prop) (All Part : List α → Prop) (w : World) : Prop :=
  ∀ (l : Nat) (J Jx : List α → World → Prop) (W : World), Turn (fun _ => False) w W → Walks W.heap.size J → Walks W.heap.size Jx →
    (∀ pre x W1, J pre W1 → Gv pre x W1 → YieldAt Fence.wide (n - 1) Try.prog l (encs x) W1 fun e W' =>
      (e = .returned (.bool true) ∧ J (pre ++ [x]) W' ∧ Turn S W1 W') ∨ (e = .returned (.bool false) ∧ Jx (pre ++ [x]) W')) →
    J [] W →
    CallsIn Fence.wide n Try.prog g (#[.func (.yield l) #[] #[]] ++ lb) W fun e W' => (∃ v, e = .returned v) ∧ ((∃ xs, All xs ∧ J xs W') ∨ (∃ pre, Part pre ∧ Jx pre W'))

/-- 'for .. := range g { body }' over an iterator that has such a contract. -/
theorem over {α : Type} {n : Nat} {g : Operand} {ps : Array Tmp} {assign body : Code} {Q : Exit → Act → World → Prop} {a : Act} {w w0 : World} (h1 : 1 ≤ n)
    {gf : Nat} {lb : Array Value} (hg : a.eval g = .func (.func gf) #[] lb) (eg : ∀ args w, (callFunc gf args).run Try.prog w = .ok (.enter gf args) w)
    {encs : α → Array Value} {S : Nat → Prop} {Gv : List α → α → World → Prop} {All Part : List α → Prop} (hseq : Gives (n - 1) gf lb encs S Gv All Part w0) (hb0 : Turn (fun _ => False) w0 w)
    (hS : ∀ k, w.heap.size ≤ k → S k) (hG : ∀ pre, Holds w.heap.size (Gv pre)) (hps : ∀ x, (encs x).size = ps.size)
    (I : List α → World → Prop) (Ix : Code → List α → World → Prop) (hI : Holds w.heap.size I) (hIx : ∀ c, Holds w.heap.size (Ix c)) (h0 : I [] w) (a₁ : α → Act)
    (hassign : ∀ (l : Nat) (x : α) (W : World) (K : Act → World → Prop), K (a₁ x) W →
      assign.wpIn (Fence.wide.inRound l) (n - 1 - 1) Try.prog (Exit.then K (fun _ _ _ => False)) { tmps := (ps.zip (encs x)).foldl (fun t (p, v) => t.setIfInBounds p v) a.tmps, defers := [] } W)
    (hbody : ∀ (l : Nat) (pre : List α) (x : α) (W : World), I pre W → Gv pre x W → body.wpIn (Fence.wide.inRound l) (n - 1 - 1) Try.prog (ownPostK (Turn S) I Ix (pre ++ [x]) W) (a₁ x) W)
    (hdone : ∀ (D : Nat) (xs : List α) (W : World), w.heap.size ≤ D → All xs → I xs W → W.heap[D]? = some (.deferred (some [])) → Q .normal { a with defers := { target := .collected D, args := #[] } :: a.defers } W)
    (hstop : ∀ (D : Nat) (c : Code) (pre : List α) (W : World), w.heap.size ≤ D → Part pre → Ix c pre W → W.heap[D]? = some (.deferred (some [])) → c.wpIn Fence.wide n Try.prog Q { a with defers := { target := .collected D, args := #[] } :: a.defers } W) :
    (Code.rangeFunc g ps assign body).wpIn Fence.wide n Try.prog Q a w := by
  refine wpIn_rangeFunc fun fn hfn => ?_
  obtain ⟨R, hR⟩ : ∃ R : LoopState → Option Code → Obj, R = fun st pe => .loop { state := st, pending := pe, fn, tmps := a.tmps, params := ps, assign, body, defers := w.heap.size } := ⟨_, rfl⟩
  -- the two blocks of the statement: the rounds' deferred calls, and its record, in a state
  obtain ⟨Bk, hBk⟩ : ∃ Bk : LoopState → Option Code → World → Prop, Bk = fun st pe W => W.heap[w.heap.size + 1]? = some (R st pe) ∧ W.heap[w.heap.size]? = some (.deferred (some [])) := ⟨_, rfl⟩
  obtain ⟨W1, hW1⟩ : ∃ W1, (w.alloc (.deferred (some []))).alloc (R .ready none) = W1 := ⟨_, rfl⟩
  have hsz : W1.heap.size = w.heap.size + 2 := by rw [← hW1]; simp
  have t1 : Turn (fun _ => False) w W1 := by rw [← hW1]; exact ((Turn.refl _ w).alloc _).alloc _
  have k1 : Bk .ready none W1 := by
    rw [hBk]
    refine ⟨?_, ?_⟩
    · have := World.alloc_heap_new (w.alloc (.deferred (some []))) (R .ready none)
      rw [World.size_alloc] at this
      rw [← hW1]
      exact this
    · rw [← hW1]
      exact (Below.heap_alloc _ _ _ (by simp)).trans (World.alloc_heap_new w _)
  have move : ∀ {D : Nat} {st : LoopState} {pe : Option Code} {A B : World}, w.heap.size + 2 ≤ D → Turn (strides D A) A B → Bk st pe A → Bk st pe B := by
    intro D st pe A B hD ht hk
    rw [hBk] at hk ⊢
    have far : ∀ k, k < w.heap.size + 2 → k < A.heap.size → B.heap[k]? = A.heap[k]? := fun k hk1 hk2 => ht.block k hk2 (fun s => by have := s.1; omega)
    exact ⟨(far _ (by omega) (Array.getElem?_eq_some_iff.1 hk.1).1).trans hk.1, (far _ (by omega) (Array.getElem?_eq_some_iff.1 hk.2).1).trans hk.2⟩
  have put : ∀ {st st' : LoopState} {pe pe' : Option Code} {A : World}, Bk st pe A → Bk st' pe' (A.putObj (w.heap.size + 1) (R st' pe')) ∧ Turn (odd w.heap.size A) A (A.putObj (w.heap.size + 1) (R st' pe')) := by
    intro st st' pe pe' A hk
    rw [hBk] at hk ⊢
    refine ⟨⟨World.putObj_heap_same (Array.getElem?_eq_some_iff.1 hk.1).1, (World.putObj_heap_other (by omega)).trans hk.2⟩, Turn.putObj _ _ _ ⟨by omega, _, hk.1, ?_⟩⟩
    rw [hR]
    rfl
  have toS : ∀ {A B : World}, Turn (odd w.heap.size A) A B → Turn S A B := fun h => h.mono (fun k _ s => hS k s.1)
  have keep : ∀ {st : LoopState} {pe : Option Code} {A B : World}, KeepsOthers A B → Bk st pe A → Bk st pe B := by
    intro st pe A B h hk
    rw [hBk] at hk ⊢
    exact ⟨h.same _ _ hk.1 (by rw [hR]; rfl), h.same _ _ hk.2 rfl⟩
  refine ⟨w.heap.size + 1, [{ target := .collected w.heap.size, args := #[] }], W1, { target := .fn (.func gf) lb, args := #[.func (.yield (w.heap.size + 1)) #[] #[]] }, W1, gf,
    #[.func (.yield (w.heap.size + 1)) #[] #[]] ++ lb, W1, ?_, ?_, ?_, ?_, fun _ => h1, ?_⟩
  · rw [← hW1, hR]
    exact run_enterLoop_outer _ _ _ _ _
  · simp only [resolve, hg]
    simp [go_sem]
  · intro f' _
    trivial
  · simp [invoke, go_sem, eg]
  · refine (hseq (w.heap.size + 1) (fun pre W => I pre W ∧ Bk .ready none W) (fun pre W => ∃ c, Ix c pre W ∧ Bk .done (some c) W) W1 (hb0.trans t1 (fun _ _ f => f))
      (fun s A B hs ht => ⟨(hI.walks (by omega)) s A B hs.1 ht, move (by omega) ht hs.2⟩)
      (fun s A B hs ht => by
        obtain ⟨c, hc, hk⟩ := hs
        exact ⟨c, ((hIx c).walks (by omega)) s A B hc ht, move (by omega) ht hk⟩)
      ?_ ⟨hI _ _ _ h0 t1.none, k1⟩).mono ?_
    · rintro pre x W ⟨hi, hk⟩ hgv
      have hl : W.heap[w.heap.size + 1]? = some (R .ready none) := by rw [hBk] at hk; exact hk.1
      rw [hR] at hl
      have hy := run_yield (P := Try.prog) (args := encs x) hl (hps x)
      refine ⟨fn, _, assign, body, hy, roundIn_of_wpIn hfn (hassign _ x W _ ⟨_, run_beginRound hl rfl, ?_⟩)⟩
      have hp := put (st' := .busy) (pe' := none) hk
      rw [hR] at hp
      refine wpIn_mono (hbody _ pre x _ (hI _ _ _ hi hp.2) (hG _ _ _ _ hgv hp.2)) ?_
      have ends : ∀ (jump : Option Code) (W3 : World), KeepsOthers (W.putObj (w.heap.size + 1) (.loop { state := .busy, pending := none, fn, tmps := a.tmps, params := ps, assign, body, defers := w.heap.size })) W3 →
          ∃ W4, (Instr.endRound (w.heap.size + 1) jump).run Try.prog W3 = .ok (.bool jump.isNone) W4 ∧ Bk (if jump.isNone then .ready else .done) jump W4 ∧ Turn (odd w.heap.size W3) W3 W4 := by
        intro jump W3 hk3
        have h3 := keep hk3 hp.1
        have hl3 : W3.heap[w.heap.size + 1]? = some (R .busy none) := by rw [hBk] at h3; exact h3.1
        have h4 := put (st' := if jump.isNone then .ready else .done) (pe' := jump) h3
        rw [hR] at hl3 h4
        exact ⟨_, run_endRound jump hl3, h4.1, h4.2⟩
      rintro e a3 W3 hpost
      cases e with
      | normal =>
        obtain ⟨hk3, ht3, hi3⟩ := hpost
        obtain ⟨W4, hr, hb4, ht4⟩ := ends none W3 hk3
        exact ⟨_, _, hr, .inl ⟨rfl, ⟨hI _ _ _ hi3 ht4, hb4⟩, ((toS hp.2).trans ht3 (fun _ _ s => s)).trans (toS ht4) (fun _ _ s => s)⟩⟩
      | ret =>
        obtain ⟨hk3, hi3⟩ := hpost
        obtain ⟨W4, hr, hb4, ht4⟩ := ends (some .ret) W3 hk3
        exact ⟨_, _, hr, .inr ⟨rfl, .ret, hIx _ _ _ _ hi3 ht4, hb4⟩⟩
      | exit id =>
        obtain ⟨hk3, hi3⟩ := hpost
        obtain ⟨W4, hr, hb4, ht4⟩ := ends (some (.exit id)) W3 hk3
        exact ⟨_, _, hr, .inr ⟨rfl, .exit id, hIx _ _ _ _ hi3 ht4, hb4⟩⟩
      | goto t =>
        obtain ⟨hk3, hi3⟩ := hpost
        obtain ⟨W4, hr, hb4, ht4⟩ := ends (some (.goto t)) W3 hk3
        exact ⟨_, _, hr, .inr ⟨rfl, .goto t, hIx _ _ _ _ hi3 ht4, hb4⟩⟩
      | panic ch => exact hpost.elim
      | outgrown => exact hpost.elim
    · have shut : ∀ {st : LoopState} {pe : Option Code} {W2 : World}, st ≠ .busy → Bk st pe W2 → ∃ W3, (Instr.endLoop (w.heap.size + 1)).run Try.prog W2 = .ok pe W3 ∧ W3.heap[w.heap.size]? = some (.deferred (some [])) ∧ Turn (odd w.heap.size W2) W2 W3 := by
        intro st pe W2 hst hk
        have hl : W2.heap[w.heap.size + 1]? = some (R st pe) := by rw [hBk] at hk; exact hk.1
        have h4 := put (st' := .exhausted) (pe' := pe) hk
        have h5 : (W2.putObj (w.heap.size + 1) (R .exhausted pe)).heap[w.heap.size]? = some (.deferred (some [])) := by have h6 := h4.1; rw [hBk] at h6; exact h6.2
        rw [hR] at hl h4 h5
        exact ⟨_, run_endLoop hl hst, h5, h4.2⟩
      rintro e W2 ⟨⟨v, rfl⟩, (⟨xs, hA, hi, hk⟩ | ⟨pre, hP, c, hi, hk⟩)⟩
      · obtain ⟨W3, hr, hd, ht⟩ := shut (by simp) hk
        exact ⟨none, W3, hr, hdone _ xs _ (Nat.le_refl _) hA (hI _ _ _ hi ht) hd⟩
      · obtain ⟨W3, hr, hd, ht⟩ := shut (by simp) hk
        exact ⟨some c, W3, hr, hstop _ c pre _ (Nat.le_refl _) hP (hIx c _ _ _ hi ht) hd⟩

theorem KeepsOthers.turned {A B : World} (h : Turn (fun _ => False) A B) : KeepsOthers A B := ⟨h.size, fun k _ hk _ => (h.block k (Array.getElem?_eq_some_iff.1 hk).1 (fun f => f)).trans hk⟩

end Go.Proofs.Ytamcgoamkakpkaa

/-
  A range over a function that may stand in an iterator itself: what an iterator promises ('Feeds'), where a round tells that what holds no cells, behind the record of its loop, is as it was; and the statement's law ('over2').
-/
namespace Go.Proofs.Ytamcgoamkakpkaa
open Go.RowKit

/-- What holds no cells, from block B on, is as it was. -/
structure Still (B : Nat) (W W' : World) : Prop where
  size : W.heap.size ≤ W'.heap.size
  same : ∀ (k : Nat) (o : Obj), B ≤ k → W.heap[k]? = some o → o.isCells = false → W'.heap[k]? = some o
theorem Still.refl (B : Nat) (W : World) : Still B W W := ⟨Nat.le_refl _, fun _ _ _ h _ => h⟩
theorem Still.trans {B : Nat} {W1 W2 W3 : World} (h : Still B W1 W2) (k : Still B W2 W3) : Still B W1 W3 := ⟨Nat.le_trans h.size k.size, fun i o hb hi ho => k.same i o hb (h.same i o hb hi ho) ho⟩
theorem Still.le {B B' : Nat} {W W' : World} (h : Still B W W') (hb : B ≤ B') : Still B' W W' := ⟨h.size, fun k o hk hw ho => h.same k o (Nat.le_trans hb hk) hw ho⟩
theorem Still.turned {B : Nat} {W W' : World} (h : Turn (fun _ => False) W W') : Still B W W' := ⟨h.size, fun k _ _ hk _ => (h.block k (Array.getElem?_eq_some_iff.1 hk).1 (fun f => f)).trans hk⟩
theorem Still.others {B : Nat} {W W' : World} (h : KeepsOthers W W') : Still B W W' := ⟨h.size, fun k o _ hk ho => h.same k o hk ho⟩
theorem Still.setCell {B : Nat} (W : World) (a : Addr) (v : Value) : Still B W (W.setCell a v) := Still.others (KeepsOthers.setCell W a v)
theorem Still.put {B : Nat} (W : World) (l : Nat) (o : Obj) (hl : l < B) : Still B W (W.putObj l o) := ⟨by simp [World.putObj], fun k _ hk hw _ => (World.putObj_heap_other (by omega)).trans hw⟩

/-- What a round's body owes. -/
def postF {α : Type} (B : Nat) (S : Nat → Prop) (I : List α → World → Prop) (Ix : Code → List α → World → Prop) (xs : List α) (W : World) : Exit → Act → World → Prop
  | .normal, _, W' => Still B W W' ∧ Turn S W W' ∧ I xs W'
  | .ret, _, W' => Still B W W' ∧ Ix .ret xs W'
  | .exit id, _, W' => Still B W W' ∧ Ix (.exit id) xs W'
  | .goto t, _, W' => Still B W W' ∧ Ix (.goto t) xs W'
  | .panic _, _, _ => False
  | .outgrown, _, _ => False

theorem Holds.le {β : Type} {D D' : Nat} {I : β → World → Prop} (h : Holds D I) (hd : D ≤ D') : Holds D' I :=
  fun s A B hs ht => h s A B hs (ht.mono (fun _ _ ⟨h1, o, h2, h3⟩ => ⟨Nat.le_trans hd h1, o, h2, h3⟩))

/-- The contract of an iterator value: what it hands a round ('Gv'), what a round that goes on may turn ('S'), what has come when it is done ('All'), or stopped ('Part'). -/
def Feeds {α : Type} (n : Nat) (g : Nat) (lb : Array Value) (encs : α → Array Value) (S : Nat → Prop) (Gv : List α → α → World → Prop) (All Part : List α → Prop) (w : World) : Prop :=
  ∀ (l : Nat) (J Jx : List α → World → Prop) (W : World), Turn (fun _ => False) w W → l < W.heap.size → (∀ k, S k → k < W.heap.size) → Holds W.heap.size J → Holds W.heap.size Jx →
    (∀ pre x W1, J pre W1 → Gv pre x W1 → YieldAt Fence.wide (n - 1) Try.prog l (encs x) W1 fun e W' =>
      (e = .returned (.bool true) ∧ J (pre ++ [x]) W' ∧ Turn S W1 W' ∧ Still (l + 1) W1 W') ∨ (e = .returned (.bool false) ∧ Jx (pre ++ [x]) W' ∧ Still (l + 1) W1 W')) →
    J [] W →
    CallsIn Fence.wide n Try.prog g (#[.func (.yield l) #[] #[]] ++ lb) W fun e W' => (∃ v, e = .returned v) ∧ ((∃ xs, All xs ∧ J xs W') ∨ (∃ pre, Part pre ∧ Jx pre W'))

/-- 'for .. := range g { body }' over an iterator that has such a contract. -/
theorem over2 {α : Type} {n : Nat} {g : Operand} {ps : Array Tmp} {assign body : Code} {Q : Exit → Act → World → Prop} {a : Act} {w w0 : World} (h1 : 1 ≤ n)
    {gf : Nat} {lb : Array Value} (hg : a.eval g = .func (.func gf) #[] lb) (eg : ∀ args w, (callFunc gf args).run Try.prog w = .ok (.enter gf args) w)
    {encs : α → Array Value} {S : Nat → Prop} {Gv : List α → α → World → Prop} {All Part : List α → Prop} (hseq : Feeds (n - 1) gf lb encs S Gv All Part w0) (hb0 : Turn (fun _ => False) w0 w)
    (hS : S (w.heap.size + 1)) (hS2 : ∀ k, S k → k < w.heap.size + 2) (hG : ∀ pre, Holds w.heap.size (Gv pre)) (hps : ∀ x, (encs x).size = ps.size)
    (I : List α → World → Prop) (Ix : Code → List α → World → Prop) (hI : Holds w.heap.size I) (hIx : ∀ c, Holds w.heap.size (Ix c)) (h0 : I [] w) (a₁ : α → Act)
    (hassign : ∀ (l : Nat) (x : α) (W : World) (K : Act → World → Prop), K (a₁ x) W →
      assign.wpIn (Fence.wide.inRound l) (n - 1 - 1) Try.prog (Exit.then K (fun _ _ _ => False)) { tmps := (ps.zip (encs x)).foldl (fun t (p, v) => t.setIfInBounds p v) a.tmps, defers := [] } W)
    (hbody : ∀ (l : Nat) (pre : List α) (x : α) (W : World), I pre W → Gv pre x W → body.wpIn (Fence.wide.inRound l) (n - 1 - 1) Try.prog (postF w.heap.size S I Ix (pre ++ [x]) W) (a₁ x) W)
    (hdone : ∀ (D : Nat) (xs : List α) (W : World), w.heap.size ≤ D → All xs → I xs W → W.heap[D]? = some (.deferred (some [])) → Q .normal { a with defers := { target := .collected D, args := #[] } :: a.defers } W)
    (hstop : ∀ (D : Nat) (c : Code) (pre : List α) (W : World), w.heap.size ≤ D → Part pre → Ix c pre W → W.heap[D]? = some (.deferred (some [])) → c.wpIn Fence.wide n Try.prog Q { a with defers := { target := .collected D, args := #[] } :: a.defers } W) :
    (Code.rangeFunc g ps assign body).wpIn Fence.wide n Try.prog Q a w := by
  refine wpIn_rangeFunc fun fn hfn => ?_
  obtain ⟨R, hR⟩ : ∃ R : LoopState → Option Code → Obj, R = fun st pe => .loop { state := st, pending := pe, fn, tmps := a.tmps, params := ps, assign, body, defers := w.heap.size } := ⟨_, rfl⟩
  -- the two blocks of the statement: the rounds' deferred calls, and its record, in a state
  obtain ⟨Bk, hBk⟩ : ∃ Bk : LoopState → Option Code → World → Prop, Bk = fun st pe W => W.heap[w.heap.size + 1]? = some (R st pe) ∧ W.heap[w.heap.size]? = some (.deferred (some [])) := ⟨_, rfl⟩
  obtain ⟨W1, hW1⟩ : ∃ W1, (w.alloc (.deferred (some []))).alloc (R .ready none) = W1 := ⟨_, rfl⟩
  have hsz : W1.heap.size = w.heap.size + 2 := by rw [← hW1]; simp
  have t1 : Turn (fun _ => False) w W1 := by rw [← hW1]; exact ((Turn.refl _ w).alloc _).alloc _
  have k1 : Bk .ready none W1 := by
    rw [hBk]
    refine ⟨?_, ?_⟩
    · have := World.alloc_heap_new (w.alloc (.deferred (some []))) (R .ready none)
      rw [World.size_alloc] at this
      rw [← hW1]
      exact this
    · rw [← hW1]
      exact (Below.heap_alloc _ _ _ (by simp)).trans (World.alloc_heap_new w _)
  have move : ∀ {D : Nat} {st : LoopState} {pe : Option Code} {A B : World}, w.heap.size + 2 ≤ D → Turn (odd D A) A B → Bk st pe A → Bk st pe B := by
    intro D st pe A B hD ht hk
    rw [hBk] at hk ⊢
    have far : ∀ k, k < w.heap.size + 2 → k < A.heap.size → B.heap[k]? = A.heap[k]? := fun k hk1 hk2 => ht.block k hk2 (fun s => by have := s.1; omega)
    exact ⟨(far _ (by omega) (Array.getElem?_eq_some_iff.1 hk.1).1).trans hk.1, (far _ (by omega) (Array.getElem?_eq_some_iff.1 hk.2).1).trans hk.2⟩
  have put : ∀ {st st' : LoopState} {pe pe' : Option Code} {A : World}, Bk st pe A → Bk st' pe' (A.putObj (w.heap.size + 1) (R st' pe')) ∧ Turn (odd w.heap.size A) A (A.putObj (w.heap.size + 1) (R st' pe')) ∧ Turn S A (A.putObj (w.heap.size + 1) (R st' pe')) := by
    intro st st' pe pe' A hk
    rw [hBk] at hk ⊢
    refine ⟨⟨World.putObj_heap_same (Array.getElem?_eq_some_iff.1 hk.1).1, (World.putObj_heap_other (by omega)).trans hk.2⟩, Turn.putObj _ _ _ ⟨by omega, _, hk.1, ?_⟩, Turn.putObj _ _ _ hS⟩
    rw [hR]
    rfl
  have keepS : True := trivial
  have keep : ∀ {st : LoopState} {pe : Option Code} {A B : World}, Still w.heap.size A B → Bk st pe A → Bk st pe B := by
    intro st pe A B h hk
    rw [hBk] at hk ⊢
    exact ⟨h.same _ _ (Nat.le_succ _) hk.1 (by rw [hR]; rfl), h.same _ _ (Nat.le_refl _) hk.2 rfl⟩
  refine ⟨w.heap.size + 1, [{ target := .collected w.heap.size, args := #[] }], W1, { target := .fn (.func gf) lb, args := #[.func (.yield (w.heap.size + 1)) #[] #[]] }, W1, gf,
    #[.func (.yield (w.heap.size + 1)) #[] #[]] ++ lb, W1, ?_, ?_, ?_, ?_, fun _ => h1, ?_⟩
  · rw [← hW1, hR]
    exact run_enterLoop_outer _ _ _ _ _
  · simp only [resolve, hg]
    simp [go_sem]
  · intro f' _
    trivial
  · simp [invoke, go_sem, eg]
  · refine (hseq (w.heap.size + 1) (fun pre W => I pre W ∧ Bk .ready none W) (fun pre W => ∃ c, Ix c pre W ∧ Bk .done (some c) W) W1 (hb0.trans t1 (fun _ _ f => f)) (by omega) (fun k hk => by have := hS2 k hk; omega)
      (fun s A B hs ht => ⟨(hI.le (by omega)) s A B hs.1 ht, move (by omega) ht hs.2⟩)
      (fun s A B hs ht => by
        obtain ⟨c, hc, hk⟩ := hs
        exact ⟨c, ((hIx c).le (by omega)) s A B hc ht, move (by omega) ht hk⟩)
      ?_ ⟨hI _ _ _ h0 t1.none, k1⟩).mono ?_
    · rintro pre x W ⟨hi, hk⟩ hgv
      have hl : W.heap[w.heap.size + 1]? = some (R .ready none) := by rw [hBk] at hk; exact hk.1
      rw [hR] at hl
      have hy := run_yield (P := Try.prog) (args := encs x) hl (hps x)
      refine ⟨fn, _, assign, body, hy, roundIn_of_wpIn hfn (hassign _ x W _ ⟨_, run_beginRound hl rfl, ?_⟩)⟩
      have hp := put (st' := .busy) (pe' := none) hk
      rw [hR] at hp
      refine wpIn_mono (hbody _ pre x _ (hI _ _ _ hi hp.2.1) (hG _ _ _ _ hgv hp.2.1)) ?_
      have ends : ∀ (jump : Option Code) (W3 : World), Still w.heap.size (W.putObj (w.heap.size + 1) (.loop { state := .busy, pending := none, fn, tmps := a.tmps, params := ps, assign, body, defers := w.heap.size })) W3 →
          ∃ W4, (Instr.endRound (w.heap.size + 1) jump).run Try.prog W3 = .ok (.bool jump.isNone) W4 ∧ Bk (if jump.isNone then .ready else .done) jump W4 ∧ Turn (odd w.heap.size W3) W3 W4 ∧ Turn S W3 W4 ∧ Still (w.heap.size + 1 + 1) W W4 := by
        intro jump W3 hk3
        have h3 := keep hk3 hp.1
        have hl3 : W3.heap[w.heap.size + 1]? = some (R .busy none) := by rw [hBk] at h3; exact h3.1
        have h4 := put (st' := if jump.isNone then .ready else .done) (pe' := jump) h3
        rw [hR] at hl3 h4
        exact ⟨_, run_endRound jump hl3, h4.1, h4.2.1, h4.2.2, ((Still.put W _ _ (Nat.lt_succ_self _)).trans (hk3.le (by omega))).trans (Still.put W3 _ _ (Nat.lt_succ_self _))⟩
      rintro e a3 W3 hpost
      cases e with
      | normal =>
        obtain ⟨hk3, ht3, hi3⟩ := hpost
        obtain ⟨W4, hr, hb4, ht4, hu4, hs4⟩ := ends none W3 hk3
        exact ⟨_, _, hr, .inl ⟨rfl, ⟨hI _ _ _ hi3 ht4, hb4⟩, (hp.2.2.trans ht3 (fun _ _ s => s)).trans hu4 (fun _ _ s => s), hs4⟩⟩
      | ret =>
        obtain ⟨hk3, hi3⟩ := hpost
        obtain ⟨W4, hr, hb4, ht4, hu4, hs4⟩ := ends (some .ret) W3 hk3
        exact ⟨_, _, hr, .inr ⟨rfl, ⟨.ret, hIx _ _ _ _ hi3 ht4, hb4⟩, hs4⟩⟩
      | exit id =>
        obtain ⟨hk3, hi3⟩ := hpost
        obtain ⟨W4, hr, hb4, ht4, hu4, hs4⟩ := ends (some (.exit id)) W3 hk3
        exact ⟨_, _, hr, .inr ⟨rfl, ⟨.exit id, hIx _ _ _ _ hi3 ht4, hb4⟩, hs4⟩⟩
      | goto t =>
        obtain ⟨hk3, hi3⟩ := hpost
        obtain ⟨W4, hr, hb4, ht4, hu4, hs4⟩ := ends (some (.goto t)) W3 hk3
        exact ⟨_, _, hr, .inr ⟨rfl, ⟨.goto t, hIx _ _ _ _ hi3 ht4, hb4⟩, hs4⟩⟩
      | panic ch => exact hpost.elim
      | outgrown => exact hpost.elim
    · have shut : ∀ {st : LoopState} {pe : Option Code} {W2 : World}, st ≠ .busy → Bk st pe W2 → ∃ W3, (Instr.endLoop (w.heap.size + 1)).run Try.prog W2 = .ok pe W3 ∧ W3.heap[w.heap.size]? = some (.deferred (some [])) ∧ Turn (odd w.heap.size W2) W2 W3 := by
        intro st pe W2 hst hk
        have hl : W2.heap[w.heap.size + 1]? = some (R st pe) := by rw [hBk] at hk; exact hk.1
        have h4 := put (st' := .exhausted) (pe' := pe) hk
        have h5 : (W2.putObj (w.heap.size + 1) (R .exhausted pe)).heap[w.heap.size]? = some (.deferred (some [])) := by have h6 := h4.1; rw [hBk] at h6; exact h6.2
        rw [hR] at hl h4 h5
        exact ⟨_, run_endLoop hl hst, h5, h4.2.1⟩
      rintro e W2 ⟨⟨v, rfl⟩, (⟨xs, hA, hi, hk⟩ | ⟨pre, hP, c, hi, hk⟩)⟩
      · obtain ⟨W3, hr, hd, ht⟩ := shut (by simp) hk
        exact ⟨none, W3, hr, hdone _ xs _ (Nat.le_refl _) hA (hI _ _ _ hi ht) hd⟩
      · obtain ⟨W3, hr, hd, ht⟩ := shut (by simp) hk
        exact ⟨some c, W3, hr, hstop _ c pre _ (Nat.le_refl _) hP (hIx c _ _ _ hi ht) hd⟩

end Go.Proofs.Ytamcgoamkakpkaa

/-
  A region that draws its order and only reads, in a round of a range over a function: one walk of the text's order serves every order.
-/
namespace Go.Proofs.Ytamcgoamkakpkaa
open Go.RowKit

def noDefer : Op → Bool
  | .defer _ => false
  | _ => true
theorem noDefer_ne {o : Op} (h : noDefer o = true) : ∀ c, o ≠ .defer c := by
  rintro c rfl
  cases h

section
variable {F : Fence} {n : Nat} {P : Program} {C : World → Prop} {ops : Array Oper} {md : Region.Mode}

theorem quiet_op {o : Oper} {a : Act} {K : Act → Prop} {K' : Act → World → Prop} {Q' : Exit → Act → World → Prop} {w : World} (hd : noDefer o.op = true) (hw : C w) (h : ∀ a w', C w' → K a → K' a w')
    (ha : o.askedIn F P a C) (hh : o.quietIn F n P a C K) : o.wpIn F n P a w K' Q' := by
  obtain ⟨v, h1, h2⟩ := hh
  have h3 := h1 w hw
  unfold Oper.quietAtIn at h3
  unfold Oper.wpIn
  rw [Oper.semAt_eq _ _ _ (noDefer_ne hd)]
  refine ⟨ha w hw, ?_⟩
  generalize (execOp a.eval o).run P w = r at *
  rcases r with ⟨x, w'⟩ | ⟨x, w'⟩
  · cases x <;> simp only [Oper.quietUponIn] at h3 <;> simp only [Oper.uponIn]
    case value u =>
      rw [h3.1, h3.2]
      exact h _ _ hw h2
    case skip =>
      rw [h3.1, ← h3.2]
      exact h _ _ hw h2
    case enter f args =>
      rw [h3.1]
      exact ⟨h3.2.1, h3.2.2.mono fun e w'' ⟨he, hw''⟩ => by subst he; exact h _ _ hw'' h2⟩
  · simp only [Oper.quietUponIn] at h3

theorem quiet_at (hnd : ∀ o ∈ ops.toList, noDefer o.op = true) {i : Nat} {a : Act} {K : Act → Prop} {K' : Act → World → Prop} {Q' : Exit → Act → World → Prop} {w : World} (hC : C w) (h : ∀ a w', C w' → K a → K' a w')
    (hh : qOpIn F n P ops C i K a) : wpOpIn F n P ops Q' i K' a w := by
  unfold qOpIn at hh
  unfold wpOpIn
  cases ho : ops[i]? with
  | none =>
    simp only [ho] at hh
    exact h _ _ hC hh
  | some o =>
    simp only [ho] at hh
    have hm : noDefer o.op = true := hnd o (Array.mem_toList_iff.2 (Array.mem_of_getElem? ho))
    by_cases hw : Region.wanted o (yielded ops a.tmps)
    · simp only [hw, if_true] at hh ⊢
      exact quiet_op hm hC h hh.1 hh.2
    · simp only [hw] at hh ⊢
      exact ⟨hh.1 w hC, h _ _ hC hh.2⟩

theorem quiet_any (hnd : ∀ o ∈ ops.toList, noDefer o.op = true) {Q : Act → Prop} {Q' : Exit → Act → World → Prop} (hQ : ∀ a w, C w → Q a → Q' .normal a w) : ∀ (fuel : Nat) (listed : Array Bool) (a : Act) (w : World), C w →
    wpAnyQIn F n P md ops C Q fuel listed a → wpAnyIn F n P md ops Q' fuel listed a w
  | 0, _, _, _, hw, h => ⟨h.1, hQ _ _ hw h.2⟩
  | fuel + 1, _, _, _, hw, h => ⟨fun h0 => hQ _ _ hw (h.1 h0), fun i hi => quiet_at hnd hw (fun a' w' hw' => quiet_any hnd hQ fuel _ a' w' hw') (h.2 i hi)⟩

theorem quiet_region {id : Nat} {Q : Exit → Act → World → Prop} {a : Act} {w : World} {l : List Oper} (hnd : (l.all fun o => noDefer o.op) = true) (hm : P.follows .mixedOrders = true) (hB : Region.lexB .any l.toArray = true)
    (h : wpQuietIn F n P l.toArray (fun w' => ∃ n, w' = w.drewN n) (fun a' => ∀ w', (∃ n, w' = w.drewN n) → Q .normal a' w') l a) : (Code.region id l.toArray true).wpIn F n P Q a w := by
  simp only [Region.lexB, Bool.and_eq_true] at hB
  have hnd' : ∀ o ∈ l.toArray.toList, noDefer o.op = true := fun o ho => by
    rw [List.all_eq_true] at hnd
    exact hnd o (by simpa using ho)
  refine wpIn_region_any hm (quiet_any hnd' (C := fun w' => ∃ n, w' = w.drewN n) (Q := fun a' => ∀ w', (∃ n, w' = w.drewN n) → Q .normal a' w') (fun _ w' hw' h => h w' hw') _ _ _ _ ⟨1, rfl⟩ ?_)
  have := wpAnyQIn_lex (F := F) (n := n) (P := P) (ops := l.toArray) (C := fun w' => ∃ n, w' = w.drewN n) (md := .any) hB.1 l 0 (Array.replicate l.toArray.size false) a (by simp) (by simpa using hB.2) h
  simpa using this
end

theorem wide_fn (f : FuncId) : Fence.wide.fn f = True := rfl

theorem quiet_same {P : Program} {l0 : Nat} {n : Nat} {f : FuncId} {args : Array Value} {w : World} {k : Nat} {v : Value}
    (h : Calls P f args (w.drewN k) fun e w' => e = .returned v ∧ w.drewN k = w') : CallsIn (Fence.wide.inRound l0) n P f args (w.drewN k) fun e w'' => e = .returned v ∧ ∃ m, w'' = w.drewN m :=
  CallsIn.inRound l0 (callsIn_wide.2 (h.mono fun _ _ ⟨he, hm⟩ => ⟨he, k, hm.symm⟩))

end Go.Proofs.Ytamcgoamkakpkaa

/-
  A region that draws its order, walked by hand: an operation is taken first, the activation written out.
-/
namespace Go.Proofs.Ytamcgoamkakpkaa
open Go.RowKit

theorem take_at {F : Fence} {n : Nat} {P : Program} {ops : Array Oper} {Q : Exit → Act → World → Prop} {md : Region.Mode} (i d : Nat) {oi : Oper} (v : Value) {fuel : Nat} {listed : Array Bool} {ts : Array Value} {ds : List Deferred} {w : World}
    (hro : F.round = none) (hi : ops[i]? = some oi) (hd : oi.dst = some d)
    (hs : Region.noSelect ops = true) (hf : Region.free md ops listed i = true) (hr : (Region.ready md ops listed).contains i = true)
    (hQ : ∀ c (a : Act) w, Q (.panic c) (a.put oi.dst v) w → Q (.panic c) a w) (hy : YieldsFenced P ops oi v { tmps := ts, defers := ds })
    (h : wpAnyIn F n P md ops Q fuel (listed.setIfInBounds i true) { tmps := ts.setIfInBounds d v, defers := ds } w) : wpAnyIn F n P md ops Q (fuel + 1) listed { tmps := ts, defers := ds } w := by
  refine wpAnyIn_take hro hi hs hf hr hQ hy ?_
  rw [hd]
  exact h

end Go.Proofs.Ytamcgoamkakpkaa
