
/-
  The reader.
-/
import Derived.Test.YtieffpngknglpaaOe
import Derived.RegionTactic
import Derived.ChangeAlike
import Derived.Deep.QuietTactic
import Derived.BigQuiet
namespace Go.Proofs.Ytieffpngknglpaa
open Go.RowKit

/-- A reader in block p: of bytes l, at k, with fault f. -/
def Rdr (w : World) (p : Nat) (v : Value) (l : List UInt8) (k f : Nat) : Prop :=
  Box w p 72 #[v, .int .i64 k, .int .i64 f] ∧ By w v l ∧ k ≤ l.length ∧ l.length ≤ 1000000

theorem Rdr.turn {w w' : World} {p : Nat} {v : Value} {l : List UInt8} {k f : Nat} {S : Nat → Prop} (h : Rdr w p v l k f) (ht : Turn S w w') (h1 : ¬ S p) (h2 : ∀ g, v.ownBlock = some g → ¬ S g) : Rdr w' p v l k f :=
  ⟨h.1.turn ht h1, h.2.1.turn ht h2, h.2.2⟩

/-- Behind a call on a reader. -/
def Moved (w : World) (p : Nat) (v : Value) (l : List UInt8) (w' : World) (k f : Nat) : Prop := Rdr w' p v l k f ∧ Turn (fun g => g = p) w w'

set_option maxRecDepth 100000 in
set_option maxHeartbeats 400000 in
theorem fault_any (p : Nat) (v : Value) (l : List UInt8) (k f : Nat) (w : World) (h : Rdr w p v l k f) :
    Calls Try.prog 32 #[.pointer (some ⟨p, 0, none⟩)] w fun e w' => e = .returned (.int .i64 f) ∧ w = w' := by
  have hc : w.cell? ⟨p, 2, none⟩ = some (.int .i64 f) := h.1.cell 2
  clear h
  go_enter Try.func32, Try.ntmps32
  go_wp2
  go_ret
  exact ⟨rfl, rfl⟩

set_option maxRecDepth 100000 in
set_option maxHeartbeats 400000 in
theorem left_any (p : Nat) (v : Value) (l : List UInt8) (k f : Nat) (w : World) (h : Rdr w p v l k f) :
    Calls Try.prog 33 #[.pointer (some ⟨p, 0, none⟩)] w fun e w' => e = .returned (.int .i64 ((l.length - k : Nat) : Int)) ∧ ∃ n, w' = w.drewN n := by
  obtain ⟨A, c, hv, _⟩ := h.2.1.rd
  subst hv
  have hc : w.cell? ⟨p, 0, none⟩ = some (.slice A l.length c) := h.1.cell 0
  have hd : w.cell? ⟨p, 1, none⟩ = some (.int .i64 k) := h.1.cell 1
  have h1 := h.2.2.1
  have h2 := h.2.2.2
  clear h
  go_enter Try.func33, Try.ntmps33
  go_wp2
  go_quiet (fail)
  go_wp2
  go_ret
  refine ⟨ret_int ?_, _, rfl⟩
  omega

set_option maxRecDepth 100000 in
set_option maxHeartbeats 400000 in
theorem take_no (p : Nat) (v : Value) (l : List UInt8) (k f : Nat) (n : Nat) (w : World) (h : Rdr w p v l k f) (hn : l.length - k < n) :
    Calls Try.prog 48 #[.pointer (some ⟨p, 0, none⟩), .int .i64 n] w fun e w' => e = .returned (.tuple #[.slice none 0 0, .int .i64 3]) ∧ ∃ n, w' = w.drewN n := by
  have HR := Lib.hid h; clear h
  have H1 : l.length - k < n := hn
  go_enter Try.func48, Try.ntmps48
  go_wp2_with (go_at_call 33; refine (left_any p v l k f w HR.out).mono ?_; rintro e w1 ⟨rfl, m, rfl⟩)
  go_ret2
  exact ⟨rfl, _, rfl⟩

theorem take_moved {p : Nat} {A : Option Addr} {c : Nat} {l : List UInt8} {k f n : Nat} {w : World} (h : Rdr w p (.slice A l.length c) l k f) (hn : n ≤ l.length - k) (m : Nat) :
    Moved w p (.slice A l.length c) l ((w.drewN m).setCell ⟨p, 1, none⟩ (.int .i64 ((k : Int) + n))) (k + n) f := by
  obtain ⟨hb, hy, h1, h2⟩ := h
  have hne : (Value.slice A l.length c).ownBlock ≠ some p := hy.ne_box hb (by decide)
  have t : Turn (fun g => g = p) w ((w.drewN m).setCell ⟨p, 1, none⟩ (.int .i64 ((k : Int) + n))) := ((Turn.refl (fun g => g = p) w).drewN m).setCell (p := ⟨p, 1, none⟩) (fun _ => rfl) _
  refine ⟨⟨?_, hy.turn t (fun g hg e => hne (by subst e; exact hg)), by omega, h2⟩, t⟩
  have hb2 : Box (w.drewN m) p 72 #[.slice A l.length c, .int .i64 k, .int .i64 f] := hb
  simpa using hb2.set 1 (.int .i64 ((k : Int) + n))

theorem take_rd0 {p : Nat} {A : Option Addr} {c : Nat} {l : List UInt8} {k f n : Nat} {w : World} (h : Rdr w p (.slice A l.length c) l k f) (hck : c = k) (hn : n ≤ l.length - k) (w' : World) :
    Rd w' (.slice A n 0) ((l.drop k).take n) := by
  have h3 := h.2.1.cap.2.1
  have h4 := h.2.2.1
  have e : n = 0 := by omega
  subst e
  rw [List.take_zero]
  exact ⟨A, 0, rfl, ⟨Nat.le_refl _, Nat.zero_le _⟩, fun _ => ⟨rfl, rfl⟩, fun _ _ j b hj => by simp at hj⟩

theorem take_rd {p : Nat} {A : Option Addr} {c : Nat} {l : List UInt8} {k f n : Nat} {w : World} (h : Rdr w p (.slice A l.length c) l k f) (hck : ¬ c = k) (hn : n ≤ l.length - k) (m : Nat) :
    Rd ((w.drewN m).setCell ⟨p, 1, none⟩ (.int .i64 ((k : Int) + n))) (.slice (A.map fun x => x.add k) n (c - k)) ((l.drop k).take n) := by
  have hm := take_moved h hn m
  obtain ⟨A', c', e, hfit, hnone, hcell⟩ := hm.1.2.1.rd
  injection e with e1 e2 e3
  subst e1 e3
  have h4 := h.2.2.1
  have hl : ((l.drop k).take n).length = n := by rw [List.length_take, List.length_drop]; omega
  refine ⟨A.map fun x => x.add k, c - k, by rw [hl], ⟨by omega, by omega⟩, ?_, ?_⟩
  · intro hA
    have h5 : A = none := by simpa using hA
    obtain ⟨h6, h7⟩ := hnone h5
    subst h6
    simp at h4
    omega
  · intro ad had j b hj
    obtain ⟨ad0, h5, rfl⟩ := Option.map_eq_some_iff.1 had
    rw [add_of_add]
    refine hcell ad0 h5 (k + j) b ?_
    rw [List.getElem?_take] at hj
    split at hj
    · rw [List.getElem?_drop] at hj
      exact hj
    · cases hj

set_option maxRecDepth 100000 in
set_option maxHeartbeats 400000 in
theorem take_yes (p : Nat) (A : Option Addr) (c : Nat) (l : List UInt8) (k f : Nat) (n : Nat) (w : World) (h : Rdr w p (.slice A l.length c) l k f) (hn : n ≤ l.length - k) :
    Calls Try.prog 48 #[.pointer (some ⟨p, 0, none⟩), .int .i64 n] w fun e w' => ∃ u, e = .returned (.tuple #[u, .int .i64 0]) ∧ Rd w' u ((l.drop k).take n) ∧ Moved w p (.slice A l.length c) l w' (k + n) f := by
  have hc : w.cell? ⟨p, 0, none⟩ = some (.slice A l.length c) := h.1.cell 0
  have hd : w.cell? ⟨p, 1, none⟩ = some (.int .i64 k) := h.1.cell 1
  have hf : w.frozen? ⟨p, 1, none⟩ = false := h.1.free 1
  have h1 := h.2.2.1
  have h2 := h.2.2.2
  have hcap := h.2.1.cap
  have HR := Lib.hid h; clear h
  have f1 : IntKind.i64.wrap ((k : Int) + n) = (k : Int) + n := IntWalk.i64_in _ (by omega)
  have f2 : ((k : Int) + n).toNat = k + n := by omega
  have f3 : (k : Int) ≤ (k : Int) + n := by omega
  have f4 : (k : Int) + n ≤ (c : Int) := by omega
  have f5 : 0 ≤ (k : Int) + n := by omega
  have HC := Lib.hid hcap; clear hcap
  by_cases hck : c = k
  · subst hck
    go_enter Try.func48, Try.ntmps48
    go_wp2_with (go_at_call 33; refine (left_any p _ l c f w HR.out).mono ?_; rintro e w1 ⟨rfl, m, rfl⟩)
    go_quiet (fail)
    go_wp2
    go_ret2
    exact ⟨.slice A n 0, rfl, take_rd0 HR.out rfl hn _, take_moved HR.out hn _⟩
  · go_enter Try.func48, Try.ntmps48
    go_wp2_with (go_at_call 33; refine (left_any p _ l k f w HR.out).mono ?_; rintro e w1 ⟨rfl, m, rfl⟩)
    go_quiet (fail)
    go_wp2
    go_ret2
    exact ⟨.slice (A.map fun x => x.add k) n (c - k), rfl, take_rd HR.out hck hn _, take_moved HR.out hn _⟩

end Go.Proofs.Ytieffpngknglpaa
