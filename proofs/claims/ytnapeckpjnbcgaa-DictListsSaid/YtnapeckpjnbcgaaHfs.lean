
/-
  The greatest key of a tree that is not above one; the map: New, Len, Put, Drop, Floor, Get, Copy (keys string, values int).
-/
import Derived.Test.YtnapeckpjnbcgaaHes
import Derived.Laws.ResultCell
namespace Go.Proofs.Ytnapeckpjnbcgaa.oms
open Go.RowKit

/-- What a search has found. -/
def Fnd (w : World) (u : Value) : Option ((List UInt8) × Int) → Prop
  | none => u = .pointer none
  | some p => ∃ g pl pr n, u = .pointer (some ⟨g, 0, none⟩) ∧ One w g p.1 p.2 pl pr n
theorem Fnd.later {w w' : World} {u : Value} {f : Option ((List UInt8) × Int)} (h : Fnd w u f) (ht : Turn (fun _ => False) w w') : Fnd w' u f := by
  cases f with
  | none => exact h
  | some p => obtain ⟨g, pl, pr, n, e, ho⟩ := h; exact ⟨g, pl, pr, n, e, ho.later ht⟩
theorem Fnd.shape {w : World} {u : Value} {f : Option ((List UInt8) × Int)} (h : Fnd w u f) : ∃ A, u = .pointer A := by
  cases f with
  | none => exact ⟨none, h⟩
  | some p => obtain ⟨g, pl, pr, n, e, ho⟩ := h; exact ⟨_, e⟩

set_option maxRecDepth 100000 in
theorem in_any (q : Nat) (k key : (List UInt8)) (w : World) (hq : w.cell? ⟨q, 0, none⟩ = some (.string ⟨k.toArray⟩)) :
    Calls Try.prog 58 #[(.string ⟨key.toArray⟩), .pointer (some ⟨q, 0, none⟩)] w fun e w' => e = .returned (.bool (!Op.bytesLess k key)) ∧ w = w' := by
  go_enter Try.func58, Try.ntmps58
  go_wp2_with (go_at_call 45; refine (less_any _ _ _).mono ?_; rintro e w' ⟨rfl, rfl⟩)
  go_ret
  exact ⟨rfl, rfl⟩

structure LastRel (w : World) (k : (List UInt8)) (ans : Option ((List UInt8) × Int)) (x0 x5 : Value) (y : Tr (List UInt8) Int) (f : Option ((List UInt8) × Int)) : Prop where
  tr : Nd w y x0
  up : Up Op.bytesLess y.flat
  fd : Fnd w x5 f
  is : Fl Op.bytesLess y.flat k f = ans
theorem last_right {w : World} {k : (List UInt8)} {ans : Option ((List UInt8) × Int)} {x5 : Value} {l r : Tr (List UInt8) Int} {k0 : (List UInt8)} {v0 : Int} {f : Option ((List UInt8) × Int)} {g n : Nat} {pl pr : Value} (h : LastRel w k ans (.pointer (some ⟨g, 0, none⟩)) x5 (.node l k0 v0 r) f)
    (ho : One w g k0 v0 pl pr n) (hr : Nd w r pr) (hk : Op.bytesLess k k0 = false) : LastRel w k ans pr (.pointer (some ⟨g, 0, none⟩)) r (some (k0, v0)) := by
  obtain ⟨h1, h2, h3⟩ := up_parts h.up
  refine ⟨hr, h2, ⟨g, pl, pr, n, rfl, ho⟩, ?_⟩
  rw [← h.is]
  have h4 := (up_cons.1 (up_append.1 h.up).2.1).1
  unfold Fl
  rw [flat_node, fl_below rises_bytes (p := (k0, v0)) hk r.flat (fun q hq => ?_) l.flat h3]
  · cases floorK Op.bytesLess r.flat k <;> rfl
  · obtain ⟨i, hi, e⟩ := List.mem_iff_getElem.1 hq
    exact h4 i q (by rw [List.getElem?_eq_getElem hi, e])
theorem last_left {w : World} {k : (List UInt8)} {ans : Option ((List UInt8) × Int)} {x0 x5 pl : Value} {l r : Tr (List UInt8) Int} {k0 : (List UInt8)} {v0 : Int} {f : Option ((List UInt8) × Int)} (h : LastRel w k ans x0 x5 (.node l k0 v0 r) f) (hl : Nd w l pl) (hk : Op.bytesLess k k0 = true) : LastRel w k ans pl x5 l f := by
  obtain ⟨h1, h2, h3⟩ := up_parts h.up
  refine ⟨hl, h1, h.fd, ?_⟩
  rw [← h.is]
  unfold Fl
  rw [flat_node, fl_above rises_bytes (p := (k0, v0)) hk r.flat l.flat]
theorem last_end {w : World} {k : (List UInt8)} {ans : Option ((List UInt8) × Int)} {x0 x5 : Value} {f : Option ((List UInt8) × Int)} (h : LastRel w k ans x0 x5 .nil f) : Fnd w x5 ans := by rw [← h.is]; exact h.fd

set_option maxRecDepth 100000 in
set_option maxHeartbeats 2000000 in
theorem last_any (q : Nat) (k : (List UInt8)) {x : Tr (List UInt8) Int} {w : World} {p : Value} (h : Nd w x p) (hu : Up Op.bytesLess x.flat) (hq : Box w q 9 #[(.string ⟨k.toArray⟩)]) :
    Calls Try.prog 57 #[p, .func (.func 58) #[] #[.pointer (some ⟨q, 0, none⟩)]] w fun e w' => (∃ u, e = .returned u ∧ Fnd w u (floorK Op.bytesLess x.flat k)) ∧ ∃ n, w' = w.drewN n := by
  have HQ := Lib.hid hq
  have HR : Hid (LastRel w k (floorK Op.bytesLess x.flat k) p (.pointer none) x none) := ⟨h, hu, rfl, by unfold Fl; cases floorK Op.bytesLess x.flat k <;> rfl⟩
  generalize floorK Op.bytesLess x.flat k = ans at *
  clear h hu hq
  go_enter Try.func57, Try.ntmps57
  go_wp2
  go_loopw [0, 5] (fun x0 x5 wr => (∃ y f, LastRel w k ans x0 x5 y f) ∧ ∃ n, wr = w.drewN n) (fun x0 _ _ => szAt w x0)
  case atStart => exact ⟨⟨x, none, HR.out⟩, 0, rfl⟩
  case round =>
    obtain ⟨⟨y, f, hrl⟩, n, rfl⟩ := hrel
    have HRL := Lib.hid hrl
    have HSZ := Lib.hid (sz_is hrl.tr)
    obtain ⟨A5, rfl⟩ := hrl.fd.shape
    cases y with
    | nil =>
      obtain rfl : _ = Value.pointer none := hrl.tr
      clear hrl
      go_wp2
      go_ret
      exact ⟨⟨_, rfl, last_end HRL.out⟩, n, rfl⟩
    | node l k0 v0 r =>
      obtain ⟨g, pl, pr, rfl, hg, hl, hr⟩ := nd_node hrl.tr
      obtain ⟨c0, -, c2, c3, -⟩ := hg.cells
      have HG := Lib.hid hg; have HL := Lib.hid hl; have HR2 := Lib.hid hr
      have HSL := Lib.hid (sz_is hl); have HSR := Lib.hid (sz_is hr)
      obtain ⟨pl, rfl⟩ := hl.shape
      obtain ⟨pr, rfl⟩ := hr.shape
      have HI := Lib.hid (in_any q k k0 (w.drewN n) ((HQ.out.turn ((Turn.refl (fun _ => False) w).drewN n) (fun f => f)).cell 0))
      clear hrl hg hl hr
      cases hk : Op.bytesLess k k0 with
      | false =>
        rw [hk] at HI
        have HX := Lib.hid (last_right HRL.out HG.out HR2.out hk)
        clear hk
        go_wp2_with (go_at_call 58; refine HI.out.mono ?_; rintro e w' ⟨rfl, rfl⟩)
        go_quiet (fail)
        go_wp2
        go_roundw
        case rel => exact ⟨⟨r, _, HX.out⟩, n + nq, by simp [World.drewN, Nat.add_assoc]⟩
        case measure => have h1 := HSZ.out; have h2 := HSR.out; rw [cnt_node] at h1; show szAt w _ < szAt w _; rw [h1, h2]; omega
      | true =>
        rw [hk] at HI
        have HX := Lib.hid (last_left HRL.out HL.out hk)
        clear hk
        go_wp2_with (go_at_call 58; refine HI.out.mono ?_; rintro e w' ⟨rfl, rfl⟩)
        go_roundw
        case rel => exact ⟨⟨l, _, HX.out⟩, _, rfl⟩
        case measure => have h1 := HSZ.out; have h2 := HSL.out; rw [cnt_node] at h1; show szAt w _ < szAt w _; rw [h1, h2]; omega

/-- The map at block g: its keys and values, in order. -/
structure MP (w : World) (g : Nat) (L : List ((List UInt8) × Int)) : Prop where
  out : ∃ (x : Tr (List UInt8) Int) (A : Option Addr), Box w g 76 #[.pointer A] ∧ Nd w x (.pointer A) ∧ x.flat = L
  up : Up Op.bytesLess L
theorem MP.turn {S : Nat → Prop} {w w' : World} {g : Nat} {L : List ((List UInt8) × Int)} (h : MP w g L) (ht : Turn S w w') (h1 : ¬ S g) (h2 : ∀ i cs, Box w i 93 cs → ¬ S i) : MP w' g L := by
  obtain ⟨x, A, hb, hx, e⟩ := h.out
  exact ⟨⟨x, A, hb.turn ht h1, hx.turn ht h2, e⟩, h.up⟩
theorem MP.later {w w' : World} {g : Nat} {L : List ((List UInt8) × Int)} (h : MP w g L) (ht : Turn (fun _ => False) w w') : MP w' g L := h.turn ht (fun f => f) (fun _ _ _ f => f)
/-- A map, and its block turned. -/
theorem MP.set {w w' : World} {g : Nat} {L M : List ((List UInt8) × Int)} {y : Tr (List UInt8) Int} {A : Option Addr} (h : MP w g L) (ht : Turn (fun _ => False) w w') (hn : Nd w' y (.pointer A)) (hf : y.flat = M) (hu : Up Op.bytesLess M) :
    MP (w'.setCell ⟨g, 0, none⟩ (.pointer A)) g M ∧ Turn (fun j => j = g) w (w'.setCell ⟨g, 0, none⟩ (.pointer A)) := by
  obtain ⟨x, A0, hb, hx, e⟩ := h.out
  have hb' := hb.turn ht (fun f => f)
  have htt : Turn (fun j => j = g) w' (w'.setCell ⟨g, 0, none⟩ (.pointer A)) := Turn.setCell (S := fun j => j = g) (p := ⟨g, 0, none⟩) (Turn.refl _ w') (fun _ => rfl) _
  refine ⟨⟨⟨y, A, hb'.set 0 _, hn.turn htt (fun i cs hi e => ?_), hf⟩, hu⟩, (ht.mono (fun _ _ f => f.elim)).trans htt (fun k hk e => e)⟩
  subst e
  have e2 := (show w'.heap[i]? = _ from hi).symm.trans hb'
  injection e2 with e2
  injection e2 with _ e3
  exact absurd e3 (by decide)

set_option maxRecDepth 100000 in
theorem new_any (w : World) : Calls Try.prog 23 #[] w fun e w' => e = .returned (.pointer (some ⟨w.heap.size, 0, none⟩)) ∧ MP w' w.heap.size [] ∧ Turn (fun _ => False) w w' := by
  go_enter Try.func23, Try.ntmps23
  go_wp2
  go_ret
  exact ⟨rfl, ⟨⟨.nil, none, Box.new w _ _, rfl, rfl⟩, up_nil⟩, (Turn.refl _ w).alloc _⟩

set_option maxRecDepth 100000 in
theorem len_any {w : World} {g : Nat} {L : List ((List UInt8) × Int)} (h : MP w g L) : Calls Try.prog 25 #[.pointer (some ⟨g, 0, none⟩)] w fun e w' => e = .returned (.int .i64 (L.length : Int)) ∧ w = w' := by
  obtain ⟨x, A, hb, hx, rfl⟩ := h.out
  have hc := hb.cell 0
  rw [Tr.cnt_flat]
  have HX := Lib.hid hx
  clear h hb hx
  go_enter Try.func25, Try.ntmps25
  go_wp2_with (go_at_call 41; refine (count_any HX.out).mono ?_; rintro e w' ⟨rfl, rfl⟩)
  go_ret
  exact ⟨rfl, rfl⟩

set_option maxRecDepth 100000 in
set_option maxHeartbeats 1000000 in
theorem put_any (k : (List UInt8)) (v : Int) {w : World} {g : Nat} {L : List ((List UInt8) × Int)} (h : MP w g L) (hl : L.length ≤ 900000) :
    Calls Try.prog 24 #[.pointer (some ⟨g, 0, none⟩), (.string ⟨k.toArray⟩), (.int .i64 v)] w fun e w' => e = .returned (.bool (!hasK Op.bytesLess L k)) ∧ MP w' g (putK Op.bytesLess L k v) ∧ Turn (fun j => j = g) w w' := by
  have HM := Lib.hid h
  obtain ⟨x, A, hb, hx, hf⟩ := h.out
  have HL := Lib.hid (len_any h)
  have HU := Lib.hid (put_up rises_bytes h.up k v)
  have HW := Lib.hid (with_any k v x w _ hx (by rw [← Tr.cnt_flat, hf]; omega) (by rw [hf]; exact h.up))
  rw [hf] at HW
  have hc := hb.cell 0
  have hfree := hb.free 0
  have HB := Lib.hid hb
  have HN := Lib.hid (put_size (lt := Op.bytesLess) L k v)
  have hl2 : (putK Op.bytesLess L k v).length ≤ 900001 := by rw [HN.out]; split <;> omega
  obtain ⟨b, hbb⟩ : ∃ b, b = hasK Op.bytesLess L k := ⟨_, rfl⟩
  rw [← hbb] at HN ⊢
  have hgt : (L.length : Int) < ((putK Op.bytesLess L k v).length : Int) ↔ b = false := by rw [HN.out]; cases b <;> simp <;> omega
  generalize putK Op.bytesLess L k v = M at *
  clear h hb hx hf hbb
  go_enter Try.func24, Try.ntmps24
  go_wp2_with (go_at_call 25; refine (HL.out).mono ?_; rintro e w' ⟨rfl, rfl⟩)
  go_at_call 40
  with_reducible refine (HW.out).mono ?_
  rintro e w2 ⟨y, hy, q, rfl, hn, ht⟩
  have hc2 := (HB.out.turn ht (fun f => f)).cell 0
  have hfree2 := (HB.out.turn ht (fun f => f)).free 0
  have HS := Lib.hid (HM.out.set ht hn hy HU.out)
  have HL2 := Lib.hid (len_any HS.out.1)
  clear hn ht hy
  go_wp2_with ((go_at_call 25; with_reducible refine (HL2.out).mono ?_; rintro e w' ⟨rfl, rfl⟩))
  go_ret
  exact ⟨rfl, HS.out⟩


/-- What Floor answers. -/
def floorA : Option ((List UInt8) × Int) → Value
  | some p => .tuple #[(.string ⟨p.1.toArray⟩), (.int .i64 p.2), .bool true]
  | none => .tuple #[(.string ⟨#[]⟩), (.int .i64 0), .bool false]

set_option maxRecDepth 100000 in
set_option maxHeartbeats 1000000 in
theorem floor_any (k : (List UInt8)) {w : World} {g : Nat} {L : List ((List UInt8) × Int)} (h : MP w g L) :
    Calls Try.prog 44 #[.pointer (some ⟨g, 0, none⟩), (.string ⟨k.toArray⟩)] w fun e w' => e = .returned (floorA (floorK Op.bytesLess L k)) ∧ Turn (fun _ => False) w w' := by
  obtain ⟨x, A, hb, hx, rfl⟩ := h.out
  have HW := Lib.hid (last_any w.heap.size k (w := w.alloc (.cells #[(.string ⟨k.toArray⟩)] 9)) (hx.later ((Turn.refl _ w).alloc _)) h.up (Box.new w _ _))
  have hc := (hb.alloc (.cells #[(.string ⟨k.toArray⟩)] 9)).cell 0
  clear h hb hx
  generalize floorK Op.bytesLess x.flat k = ans at *
  cases ans with
  | none =>
    go_enter Try.func44, Try.ntmps44
    go_wp2_with (go_at_call 57; refine (HW.out).mono ?_; rintro e w' ⟨⟨_, rfl, rfl⟩, n, rfl⟩)
    go_ret3
    exact ⟨rfl, ((Turn.refl _ w).alloc _).drewN n⟩
  | some p =>
    go_enter Try.func44, Try.ntmps44
    go_wp2_with (go_at_call 57; refine (HW.out).mono ?_; rintro e w' ⟨⟨_, rfl, u, pl, pr, m, rfl, ho⟩, n, rfl⟩; obtain ⟨c0, c1, -, -, -⟩ := ho.cells; clear ho)
    go_quiet (fail)
    go_wp2
    go_ret3
    exact ⟨rfl, (((Turn.refl _ w).alloc _).drewN n).drewN _⟩


/-- What Get answers. -/
def getA : Option Int → Value
  | some v => .tuple #[(.int .i64 v), .bool true]
  | none => .tuple #[(.int .i64 0), .bool false]

set_option maxRecDepth 100000 in
set_option maxHeartbeats 1000000 in
theorem get_any (k : (List UInt8)) {w : World} {g : Nat} {L : List ((List UInt8) × Int)} (h : MP w g L) :
    Calls Try.prog 27 #[.pointer (some ⟨g, 0, none⟩), (.string ⟨k.toArray⟩)] w fun e w' => e = .returned (getA (getK Op.bytesLess L k)) ∧ Turn (fun _ => False) w w' := by
  have HW := Lib.hid (floor_any k h)
  have HG := Lib.hid (get_floor rises_bytes h.up k)
  clear h
  cases hf : floorK Op.bytesLess L k with
  | none =>
    rw [hf] at HW HG
    clear hf
    go_enter Try.func27, Try.ntmps27
    go_wp2_with (go_at_call 44; refine (HW.out).mono ?_; rintro e w' ⟨rfl, ht⟩; have HT := Lib.hid ht; clear ht; unfold floorA)
    go_ret2
    exact ⟨by rw [HG.out]; rfl, HT.out⟩
  | some p =>
    rw [hf] at HW HG
    clear hf
    cases hl : Op.bytesLess p.1 k with
    | true =>
      have HL : Hid (∀ W, Calls Try.prog 45 #[(.string ⟨p.1.toArray⟩), (.string ⟨k.toArray⟩)] W fun e w' => e = .returned (.bool true) ∧ W = w') := fun W => by have := less_any p.1 k W; rw [hl] at this; exact this
      have HG2 : Hid (getK Op.bytesLess L k = none) := by show _ = _; rw [HG.out]; simp [hl]
      clear hl HG
      go_enter Try.func27, Try.ntmps27
      go_wp2_with (first
        | (go_at_call 44; refine (HW.out).mono ?_; rintro e w' ⟨rfl, ht⟩; have HT := Lib.hid ht; clear ht; unfold floorA)
        | (go_at_call 45; refine (HL.out _).mono ?_; rintro e w' ⟨rfl, rfl⟩)
        | fail)
      go_ret2
      exact ⟨by rw [HG2.out]; rfl, HT.out⟩
    | false =>
      have HL : Hid (∀ W, Calls Try.prog 45 #[(.string ⟨p.1.toArray⟩), (.string ⟨k.toArray⟩)] W fun e w' => e = .returned (.bool false) ∧ W = w') := fun W => by have := less_any p.1 k W; rw [hl] at this; exact this
      have HG2 : Hid (getK Op.bytesLess L k = some p.2) := by show _ = _; rw [HG.out]; simp [hl]
      clear hl HG
      go_enter Try.func27, Try.ntmps27
      go_wp2_with (first
        | (go_at_call 44; refine (HW.out).mono ?_; rintro e w' ⟨rfl, ht⟩; have HT := Lib.hid ht; clear ht; unfold floorA)
        | (go_at_call 45; refine (HL.out _).mono ?_; rintro e w' ⟨rfl, rfl⟩)
        | fail)
      go_ret2
      exact ⟨by rw [HG2.out]; rfl, HT.out⟩


end Go.Proofs.Ytnapeckpjnbcgaa.oms
