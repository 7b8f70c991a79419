
/-
  Nodes of a tree: their order, their count, a node over two trees (keys int64, values int).
-/
import Derived.Test.YtnapeckpjnbcgaaHa
import Derived.Test.YtnapeckpjnbcgaaNb
import Derived.Test.YtnapeckpjnbcgaaGb
import Derived.Deep.RegionHeld3
namespace Go.Proofs.Ytnapeckpjnbcgaa.omj
open Go.RowKit

def eK (k : Int) : Value := (.int .i64 k)
def eV (v : Int) : Value := (.int .i64 v)
/-- The tree x lies at p. -/
abbrev Nd (w : World) (x : Tr Int Int) (p : Value) : Prop := TreeAt 100 eK eV w x p
/-- A node's own cells. -/
def One (w : World) (g : Nat) (k : Int) (v : Int) (pl pr : Value) (n : Nat) : Prop := Box w g 100 #[(.int .i64 k), (.int .i64 v), pl, pr, .int .i64 (n : Int)]
theorem One.later {w w' : World} {g : Nat} {k : Int} {v : Int} {pl pr : Value} {n : Nat} (h : One w g k v pl pr n) (ht : Turn (fun _ => False) w w') : One w' g k v pl pr n := Box.turn h ht (fun f => f)
theorem One.cells {w : World} {g : Nat} {k : Int} {v : Int} {pl pr : Value} {n : Nat} (h : One w g k v pl pr n) :
    w.cell? ⟨g, 0, none⟩ = some (.int .i64 k) ∧ w.cell? ⟨g, 1, none⟩ = some (.int .i64 v) ∧ w.cell? ⟨g, 2, none⟩ = some pl ∧ w.cell? ⟨g, 3, none⟩ = some pr ∧ w.cell? ⟨g, 4, none⟩ = some (.int .i64 (n : Int)) :=
  ⟨Box.cell h 0, Box.cell h 1, Box.cell h 2, Box.cell h 3, Box.cell h 4⟩
theorem nd_node {w : World} {l r : Tr Int Int} {k : Int} {v : Int} {p : Value} (h : Nd w (.node l k v r) p) : ∃ g pl pr, p = .pointer (some ⟨g, 0, none⟩) ∧ One w g k v pl pr (l.cnt + r.cnt + 1) ∧ Nd w l pl ∧ Nd w r pr := h

set_option maxRecDepth 100000 in
theorem nan_any (a : Int) (w : World) : Calls Try.prog 69 #[(.int .i64 a)] w fun e w' => e = .returned (.bool false) ∧ w = w' := by
  go_enter Try.func69, Try.ntmps69
  go_wp2
  go_ret
  exact ⟨by simp, rfl⟩

set_option maxRecDepth 100000 in
theorem less_any (a b : Int) (w : World) : Calls Try.prog 66 #[(.int .i64 a), (.int .i64 b)] w fun e w' => e = .returned (.bool (ltI a b)) ∧ w = w' := by
  go_enter Try.func66, Try.ntmps66
  go_wp2_with (go_at_call 69; refine (nan_any _ _).mono ?_; rintro e w' ⟨rfl, rfl⟩)
  go_ret
  exact ⟨by first | rfl | simp [ltI], rfl⟩

/-- What Compare answers. -/
def ord (a b : Int) : Int := if ltI a b then -1 else if ltI b a then 1 else 0
theorem ord_lt {a b : Int} (h : ltI a b = true) : ord a b = -1 := if_pos h
theorem ord_gt {a b : Int} (h : ltI b a = true) : ord a b = 1 := by unfold ord; rw [if_neg (by rw [not_lt_of rises_ltI h]; simp), if_pos h]
theorem ord_eq (a : Int) : ord a a = 0 := by unfold ord; rw [if_neg (by rw [rises_ltI.irr]; simp), if_neg (by rw [rises_ltI.irr]; simp)]

set_option maxRecDepth 100000 in
theorem compare_any (a b : Int) (w : World) : Calls Try.prog 60 #[(.int .i64 a), (.int .i64 b)] w fun e w' => e = .returned (.int .i64 (ord a b)) ∧ w = w' := by
  by_cases h1 : ltI a b = true
  · rw [ord_lt h1]
    have h1' : a < b := by simpa [ltI] using h1
    clear h1
    go_enter Try.func60, Try.ntmps60
    go_wp2_with (go_at_call 69; refine (nan_any _ _).mono ?_; rintro e w' ⟨rfl, rfl⟩)
    all_goals go_ret
    exact ⟨rfl, rfl⟩
  · have h1 : ltI a b = false := by simpa using h1
    by_cases h2 : a = b
    · subst h2
      rw [ord_eq]
      clear h1
      go_enter Try.func60, Try.ntmps60
      go_wp2_with (go_at_call 69; refine (nan_any _ _).mono ?_; rintro e w' ⟨rfl, rfl⟩)
      all_goals go_ret
      exact ⟨rfl, rfl⟩
    · rw [ord_gt (rises_ltI.tot _ _ h2 h1)]
      have h3 : b < a := by have := rises_ltI.tot _ _ h2 h1; simpa [ltI] using this
      have h4 : ¬ a < b := by omega
      clear h1 h2
      go_enter Try.func60, Try.ntmps60
      go_wp2_with (go_at_call 69; refine (nan_any _ _).mono ?_; rintro e w' ⟨rfl, rfl⟩)
      all_goals go_ret
      exact ⟨rfl, rfl⟩

set_option maxRecDepth 100000 in
theorem count_any {x : Tr Int Int} {w : World} {p : Value} (h : Nd w x p) : Calls Try.prog 48 #[p] w fun e w' => e = .returned (.int .i64 (x.cnt : Int)) ∧ w = w' := by
  cases x with
  | nil =>
    obtain rfl : p = .pointer none := h
    go_enter Try.func48, Try.ntmps48
    go_wp2
    go_ret
    exact ⟨rfl, rfl⟩
  | node l k v r =>
    obtain ⟨g, pl, pr, rfl, hb, hl, hr⟩ := nd_node h
    have hc := hb.cells.2.2.2.2
    show Calls _ _ _ _ fun e w' => e = .returned (.int .i64 ((l.cnt + r.cnt + 1 : Nat) : Int)) ∧ w = w'
    generalize l.cnt + r.cnt + 1 = n at *
    clear h hb hl hr
    go_enter Try.func48, Try.ntmps48
    go_wp2
    go_ret
    exact ⟨rfl, rfl⟩

/-- The behaviour of what answers a tree, new since w, whose list is L. -/
def Tree (w w' : World) (e : Ending) (x : Tr Int Int) : Prop := ∃ g, e = .returned (.pointer (some ⟨g, 0, none⟩)) ∧ Nd w' x (.pointer (some ⟨g, 0, none⟩)) ∧ Turn (fun _ => False) w w'

set_option maxRecDepth 100000 in
set_option maxHeartbeats 1000000 in
theorem over_any {l r : Tr Int Int} {w : World} {g : Nat} {k : Int} {v : Int} {ql qr pl pr : Value} {n : Nat} (h : One w g k v ql qr n) (hl : Nd w l pl) (hr : Nd w r pr) (hs : l.cnt + r.cnt ≤ 1000000000) :
    Calls Try.prog 61 #[.pointer (some ⟨g, 0, none⟩), pl, pr] w fun e w' => Tree w w' e (.node l k v r) := by
  have HL := Lib.hid hl
  have HR := Lib.hid hr
  obtain ⟨hc0, hc1, -, -, -⟩ := (h.later (Turn.refl _ w).drew).cells
  obtain ⟨pl, rfl⟩ := hl.shape
  obtain ⟨pr, rfl⟩ := hr.shape
  have hw1 : IntKind.i64.wrap ((l.cnt : Int) + (r.cnt : Int)) = (l.cnt : Int) + (r.cnt : Int) := IntWalk.i64_in _ (by omega)
  have hw2 : IntKind.i64.wrap ((l.cnt : Int) + (r.cnt : Int) + 1) = (l.cnt : Int) + (r.cnt : Int) + 1 := IntWalk.i64_in _ (by omega)
  clear hl hr
  go_enter Try.func61, Try.ntmps61
  go_wp2_with fail
  have HO := Lib.hid h; clear h
  have hc0' := hc0; have hc1' := hc1
  go_region_held3 (fun W => W.cell? ⟨g, 0, none⟩ = some (.int .i64 k) ∧ W.cell? ⟨g, 1, none⟩ = some (.int .i64 v)) (first | exact ⟨hc0, hc1⟩ | exact ⟨((HO.out.later (Turn.refl _ w).drew).later ((Turn.refl _ _).alloc _)).cells.1, ((HO.out.later (Turn.refl _ w).drew).later ((Turn.refl _ _).alloc _)).cells.2.1⟩)
    (first
      | (go_at_call 48; with_reducible refine (count_any (p := .pointer pl) (HL.out.later (Turn.refl _ w).drew)).mono ?_; rintro e w' ⟨rfl, rfl⟩)
      | (go_at_call 48; with_reducible refine (count_any (p := .pointer pr) (HR.out.later (Turn.refl _ w).drew)).mono ?_; rintro e w' ⟨rfl, rfl⟩)
      | fail)
  all_goals go_wp2
  all_goals go_ret
  all_goals exact ⟨w.heap.size, rfl, ⟨w.heap.size, .pointer pl, .pointer pr, rfl, by have := Box.new w.drew 100 #[(.int .i64 k), (.int .i64 v), .pointer pl, .pointer pr, .int .i64 ((l.cnt : Int) + (r.cnt : Int) + 1)]; exact this, HL.out.later ((Turn.refl _ w).drew.alloc _), HR.out.later ((Turn.refl _ w).drew.alloc _)⟩, (Turn.refl _ w).drew.alloc _⟩

end Go.Proofs.Ytnapeckpjnbcgaa.omj
