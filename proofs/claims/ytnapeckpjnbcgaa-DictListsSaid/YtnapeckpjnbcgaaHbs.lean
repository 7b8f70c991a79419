
/-
  Nodes of a tree: their order, their count, a node over two trees (keys string, values int).
-/
import Derived.Test.YtnapeckpjnbcgaaHa
import Derived.Test.YtnapeckpjnbcgaaNb
import Derived.Test.YtnapeckpjnbcgaaGb
import Derived.Deep.RegionHeld3
namespace Go.Proofs.Ytnapeckpjnbcgaa.oms
open Go.RowKit

def eK (k : (List UInt8)) : Value := (.string ⟨k.toArray⟩)
def eV (v : Int) : Value := (.int .i64 v)
/-- The tree x lies at p. -/
abbrev Nd (w : World) (x : Tr (List UInt8) Int) (p : Value) : Prop := TreeAt 93 eK eV w x p
/-- A node's own cells. -/
def One (w : World) (g : Nat) (k : (List UInt8)) (v : Int) (pl pr : Value) (n : Nat) : Prop := Box w g 93 #[(.string ⟨k.toArray⟩), (.int .i64 v), pl, pr, .int .i64 (n : Int)]
theorem One.later {w w' : World} {g : Nat} {k : (List UInt8)} {v : Int} {pl pr : Value} {n : Nat} (h : One w g k v pl pr n) (ht : Turn (fun _ => False) w w') : One w' g k v pl pr n := Box.turn h ht (fun f => f)
theorem One.cells {w : World} {g : Nat} {k : (List UInt8)} {v : Int} {pl pr : Value} {n : Nat} (h : One w g k v pl pr n) :
    w.cell? ⟨g, 0, none⟩ = some (.string ⟨k.toArray⟩) ∧ w.cell? ⟨g, 1, none⟩ = some (.int .i64 v) ∧ w.cell? ⟨g, 2, none⟩ = some pl ∧ w.cell? ⟨g, 3, none⟩ = some pr ∧ w.cell? ⟨g, 4, none⟩ = some (.int .i64 (n : Int)) :=
  ⟨Box.cell h 0, Box.cell h 1, Box.cell h 2, Box.cell h 3, Box.cell h 4⟩
theorem nd_node {w : World} {l r : Tr (List UInt8) Int} {k : (List UInt8)} {v : Int} {p : Value} (h : Nd w (.node l k v r) p) : ∃ g pl pr, p = .pointer (some ⟨g, 0, none⟩) ∧ One w g k v pl pr (l.cnt + r.cnt + 1) ∧ Nd w l pl ∧ Nd w r pr := h

set_option maxRecDepth 100000 in
theorem nan_any (a : (List UInt8)) (w : World) : Calls Try.prog 59 #[(.string ⟨a.toArray⟩)] w fun e w' => e = .returned (.bool false) ∧ w = w' := by
  go_enter Try.func59, Try.ntmps59
  go_wp2
  go_ret
  exact ⟨by simp, rfl⟩

set_option maxRecDepth 100000 in
theorem less_any (a b : (List UInt8)) (w : World) : Calls Try.prog 45 #[(.string ⟨a.toArray⟩), (.string ⟨b.toArray⟩)] w fun e w' => e = .returned (.bool (Op.bytesLess a b)) ∧ w = w' := by
  go_enter Try.func45, Try.ntmps45
  go_wp2_with (go_at_call 59; refine (nan_any _ _).mono ?_; rintro e w' ⟨rfl, rfl⟩)
  go_ret
  exact ⟨by first | rfl | simp [ltI], rfl⟩

/-- What Compare answers. -/
def ord (a b : (List UInt8)) : Int := if Op.bytesLess a b then -1 else if Op.bytesLess b a then 1 else 0
theorem ord_lt {a b : (List UInt8)} (h : Op.bytesLess a b = true) : ord a b = -1 := if_pos h
theorem ord_gt {a b : (List UInt8)} (h : Op.bytesLess b a = true) : ord a b = 1 := by unfold ord; rw [if_neg (by rw [not_lt_of rises_bytes h]; simp), if_pos h]
theorem ord_eq (a : (List UInt8)) : ord a a = 0 := by unfold ord; rw [if_neg (by rw [rises_bytes.irr]; simp), if_neg (by rw [rises_bytes.irr]; simp)]

set_option maxRecDepth 100000 in
theorem compare_any (a b : (List UInt8)) (w : World) : Calls Try.prog 52 #[(.string ⟨a.toArray⟩), (.string ⟨b.toArray⟩)] w fun e w' => e = .returned (.int .i64 (ord a b)) ∧ w = w' := by
  by_cases h1 : Op.bytesLess a b = true
  · rw [ord_lt h1]
    go_enter Try.func52, Try.ntmps52
    go_wp2_with (go_at_call 59; refine (nan_any _ _).mono ?_; rintro e w' ⟨rfl, rfl⟩)
    all_goals go_ret
    exact ⟨rfl, rfl⟩
  · have h1 : Op.bytesLess a b = false := by simpa using h1
    by_cases h2 : a = b
    · subst h2
      rw [ord_eq]
      have h2 : (a == a) = true := by simp
      go_enter Try.func52, Try.ntmps52
      go_wp2_with (go_at_call 59; refine (nan_any _ _).mono ?_; rintro e w' ⟨rfl, rfl⟩)
      all_goals go_ret
      exact ⟨rfl, rfl⟩
    · rw [ord_gt (rises_bytes.tot _ _ h2 h1)]
      have h3 : (a == b) = false := beq_eq_false_iff_ne.2 h2
      go_enter Try.func52, Try.ntmps52
      go_wp2_with (go_at_call 59; refine (nan_any _ _).mono ?_; rintro e w' ⟨rfl, rfl⟩)
      all_goals go_ret
      exact ⟨rfl, rfl⟩

set_option maxRecDepth 100000 in
theorem count_any {x : Tr (List UInt8) Int} {w : World} {p : Value} (h : Nd w x p) : Calls Try.prog 41 #[p] w fun e w' => e = .returned (.int .i64 (x.cnt : Int)) ∧ w = w' := by
  cases x with
  | nil =>
    obtain rfl : p = .pointer none := h
    go_enter Try.func41, Try.ntmps41
    go_wp2
    go_ret
    exact ⟨rfl, rfl⟩
  | node l k v r =>
    obtain ⟨g, pl, pr, rfl, hb, hl, hr⟩ := nd_node h
    have hc := hb.cells.2.2.2.2
    show Calls _ _ _ _ fun e w' => e = .returned (.int .i64 ((l.cnt + r.cnt + 1 : Nat) : Int)) ∧ w = w'
    generalize l.cnt + r.cnt + 1 = n at *
    clear h hb hl hr
    go_enter Try.func41, Try.ntmps41
    go_wp2
    go_ret
    exact ⟨rfl, rfl⟩

/-- The behaviour of what answers a tree, new since w, whose list is L. -/
def Tree (w w' : World) (e : Ending) (x : Tr (List UInt8) Int) : Prop := ∃ g, e = .returned (.pointer (some ⟨g, 0, none⟩)) ∧ Nd w' x (.pointer (some ⟨g, 0, none⟩)) ∧ Turn (fun _ => False) w w'

set_option maxRecDepth 100000 in
set_option maxHeartbeats 1000000 in
theorem over_any {l r : Tr (List UInt8) Int} {w : World} {g : Nat} {k : (List UInt8)} {v : Int} {ql qr pl pr : Value} {n : Nat} (h : One w g k v ql qr n) (hl : Nd w l pl) (hr : Nd w r pr) (hs : l.cnt + r.cnt ≤ 1000000000) :
    Calls Try.prog 53 #[.pointer (some ⟨g, 0, none⟩), pl, pr] w fun e w' => Tree w w' e (.node l k v r) := by
  have HL := Lib.hid hl
  have HR := Lib.hid hr
  obtain ⟨hc0, hc1, -, -, -⟩ := (h.later (Turn.refl _ w).drew).cells
  obtain ⟨pl, rfl⟩ := hl.shape
  obtain ⟨pr, rfl⟩ := hr.shape
  have hw1 : IntKind.i64.wrap ((l.cnt : Int) + (r.cnt : Int)) = (l.cnt : Int) + (r.cnt : Int) := IntWalk.i64_in _ (by omega)
  have hw2 : IntKind.i64.wrap ((l.cnt : Int) + (r.cnt : Int) + 1) = (l.cnt : Int) + (r.cnt : Int) + 1 := IntWalk.i64_in _ (by omega)
  clear hl hr
  go_enter Try.func53, Try.ntmps53
  go_wp2_with fail
  have HO := Lib.hid h; clear h
  have hc0' := hc0; have hc1' := hc1
  go_region_held3 (fun W => W.cell? ⟨g, 0, none⟩ = some (.string ⟨k.toArray⟩) ∧ W.cell? ⟨g, 1, none⟩ = some (.int .i64 v)) (first | exact ⟨hc0, hc1⟩ | exact ⟨((HO.out.later (Turn.refl _ w).drew).later ((Turn.refl _ _).alloc _)).cells.1, ((HO.out.later (Turn.refl _ w).drew).later ((Turn.refl _ _).alloc _)).cells.2.1⟩)
    (first
      | (go_at_call 41; with_reducible refine (count_any (p := .pointer pl) (HL.out.later (Turn.refl _ w).drew)).mono ?_; rintro e w' ⟨rfl, rfl⟩)
      | (go_at_call 41; with_reducible refine (count_any (p := .pointer pr) (HR.out.later (Turn.refl _ w).drew)).mono ?_; rintro e w' ⟨rfl, rfl⟩)
      | fail)
  all_goals go_wp2
  all_goals go_ret
  all_goals exact ⟨w.heap.size, rfl, ⟨w.heap.size, .pointer pl, .pointer pr, rfl, by have := Box.new w.drew 93 #[(.string ⟨k.toArray⟩), (.int .i64 v), .pointer pl, .pointer pr, .int .i64 ((l.cnt : Int) + (r.cnt : Int) + 1)]; exact this, HL.out.later ((Turn.refl _ w).drew.alloc _), HR.out.later ((Turn.refl _ w).drew.alloc _)⟩, (Turn.refl _ w).drew.alloc _⟩

end Go.Proofs.Ytnapeckpjnbcgaa.oms
