
/-
  What a reader's calls read: all of a thing, or a fault.
-/
import Derived.Test.YtieffpngknglpaaOg
namespace Go.Proofs.Ytieffpngknglpaa
open Go.RowKit

/-- Behind a thing that was tried: with a fault nothing but that has changed. -/
def Tried (p : Nat) (v : Value) (l : List UInt8) (k : Nat) (w : World) (none x : Value) (k1 f : Nat) (e : Ending) (w' : World) : Prop :=
  (f = 0 → e = .returned x ∧ Moved w p v l w' k1 0) ∧ (f ≠ 0 → e = .returned none ∧ Moved w p v l w' k f)

theorem tried_ok {p : Nat} {v : Value} {l : List UInt8} {k : Nat} {w : World} {none x : Value} {k1 : Nat} {w' : World} (h : Moved w p v l w' k1 0) : Tried p v l k w none x k1 0 (.returned x) w' :=
  ⟨fun _ => ⟨rfl, h⟩, fun n => absurd rfl n⟩

theorem tried_bad {p : Nat} {v : Value} {l : List UInt8} {k : Nat} {w : World} {none x : Value} {k1 f : Nat} {w1 : World} (h0 : Rdr w p v l k 0) (h : Moved w p v l w1 k1 0) (hf : f ≠ 0) :
    Tried p v l k w none x k1 f (.returned none) ((w1.setCell ⟨p, 1, Option.none⟩ (.int .i64 k)).setCell ⟨p, 2, Option.none⟩ (.int .i64 f)) := by
  refine ⟨fun n => absurd n hf, fun _ => ⟨rfl, ?_⟩⟩
  obtain ⟨⟨hb, hy, _, h2⟩, ht⟩ := h
  have hne : v.ownBlock ≠ some p := hy.ne_box hb (by decide)
  have t : Turn (fun g => g = p) w1 ((w1.setCell ⟨p, 1, Option.none⟩ (.int .i64 k)).setCell ⟨p, 2, Option.none⟩ (.int .i64 f)) :=
    ((Turn.refl (fun g => g = p) w1).setCell (p := ⟨p, 1, Option.none⟩) (fun _ => rfl) _).setCell (p := ⟨p, 2, Option.none⟩) (fun _ => rfl) _
  refine ⟨⟨?_, hy.turn t (fun g hg e => hne (by subst e; exact hg)), h0.2.2.1, h2⟩, ht.trans t (fun _ _ s => s)⟩
  simpa using (hb.set 1 (.int .i64 (k : Int))).set 2 (.int .i64 (f : Int))

set_option maxRecDepth 100000 in
set_option maxHeartbeats 400000 in
theorem read_u64 (p : Nat) (v : Value) (l : List UInt8) (k : Nat) (w : World)  (h : Rdr w p v l k 0) (x : Int) (k1 f : Nat)
    (ht : Calls Try.prog 42 #[tk p] w fun e w1 => e = .returned (.tuple #[(.int .u64 x), .int .i64 f]) ∧ Moved w p v l w1 k1 0) :
    Calls Try.prog 41 #[.pointer (some ⟨p, 0, none⟩), (.func (.func 42) #[] #[])] w (Tried p v l k w (.int .u64 0) (.int .u64 x) k1 f) := by
  have hc : w.cell? ⟨p, 1, none⟩ = some (.int .i64 k) := h.1.cell 1
  have HR := Lib.hid h; clear h
  have HT := Lib.hid ht; clear ht
  unfold tk at HT
  by_cases hf : f = 0
  · subst hf
    go_enter Try.func41, Try.ntmps41
    go_wp2_with (first
      | (go_at_call 32; refine (fault_any p _ l k 0 w HR.out).mono ?_; rintro e w1 ⟨rfl, rfl⟩)
      | (go_at_call 42; refine HT.out.mono ?_; rintro e w1 ⟨rfl, hm⟩; have HM := Lib.hid hm; clear hm))
    go_ret
    exact tried_ok HM.out
  · have hf2 : (((f : Int) == 0) = false) := by rw [beq_eq_false_iff_ne]; omega
    have hf3 : (((f : Int) != 0) = true) := by rw [bne_iff_ne]; omega
    have HF := Lib.hid hf; clear hf
    go_enter Try.func41, Try.ntmps41
    go_wp2_with (first
      | (go_at_call 32; refine (fault_any p _ l k 0 w HR.out).mono ?_; rintro e w1 ⟨rfl, rfl⟩)
      | (go_at_call 42; refine HT.out.mono ?_; rintro e w1 ⟨rfl, hm⟩; have c1 : w1.cell? ⟨p, 1, none⟩ = some (.int .i64 k1) := hm.1.1.cell 1; have c2 : w1.cell? ⟨p, 2, none⟩ = some (.int .i64 0) := hm.1.1.cell 2; have f1 : w1.frozen? ⟨p, 1, none⟩ = false := hm.1.1.free 1; have f2 : w1.frozen? ⟨p, 2, none⟩ = false := hm.1.1.free 2; have HM := Lib.hid hm; clear hm))
    go_ret
    exact tried_bad HR.out HM.out HF.out

set_option maxRecDepth 100000 in
set_option maxHeartbeats 400000 in
theorem read_bool (p : Nat) (v : Value) (l : List UInt8) (k : Nat) (w : World)  (h : Rdr w p v l k 0) (x : Bool) (k1 f : Nat)
    (ht : Calls Try.prog 50 #[tk p] w fun e w1 => e = .returned (.tuple #[(.bool x), .int .i64 f]) ∧ Moved w p v l w1 k1 0) :
    Calls Try.prog 49 #[.pointer (some ⟨p, 0, none⟩), (.func (.func 50) #[] #[])] w (Tried p v l k w (.bool false) (.bool x) k1 f) := by
  have hc : w.cell? ⟨p, 1, none⟩ = some (.int .i64 k) := h.1.cell 1
  have HR := Lib.hid h; clear h
  have HT := Lib.hid ht; clear ht
  unfold tk at HT
  by_cases hf : f = 0
  · subst hf
    go_enter Try.func49, Try.ntmps49
    go_wp2_with (first
      | (go_at_call 32; refine (fault_any p _ l k 0 w HR.out).mono ?_; rintro e w1 ⟨rfl, rfl⟩)
      | (go_at_call 50; refine HT.out.mono ?_; rintro e w1 ⟨rfl, hm⟩; have HM := Lib.hid hm; clear hm))
    go_ret
    exact tried_ok HM.out
  · have hf2 : (((f : Int) == 0) = false) := by rw [beq_eq_false_iff_ne]; omega
    have hf3 : (((f : Int) != 0) = true) := by rw [bne_iff_ne]; omega
    have HF := Lib.hid hf; clear hf
    go_enter Try.func49, Try.ntmps49
    go_wp2_with (first
      | (go_at_call 32; refine (fault_any p _ l k 0 w HR.out).mono ?_; rintro e w1 ⟨rfl, rfl⟩)
      | (go_at_call 50; refine HT.out.mono ?_; rintro e w1 ⟨rfl, hm⟩; have c1 : w1.cell? ⟨p, 1, none⟩ = some (.int .i64 k1) := hm.1.1.cell 1; have c2 : w1.cell? ⟨p, 2, none⟩ = some (.int .i64 0) := hm.1.1.cell 2; have f1 : w1.frozen? ⟨p, 1, none⟩ = false := hm.1.1.free 1; have f2 : w1.frozen? ⟨p, 2, none⟩ = false := hm.1.1.free 2; have HM := Lib.hid hm; clear hm))
    go_ret
    exact tried_bad HR.out HM.out HF.out

set_option maxRecDepth 100000 in
set_option maxHeartbeats 400000 in
theorem read_text (p : Nat) (v : Value) (l : List UInt8) (k : Nat) (w : World) (b : Addr) (h : Rdr w p v l k 0) (x : ByteArray) (k1 f : Nat)
    (ht : Calls Try.prog 52 #[tk p, .pointer (some b)] w fun e w1 => e = .returned (.tuple #[(.string x), .int .i64 f]) ∧ Moved w p v l w1 k1 0) :
    Calls Try.prog 51 #[.pointer (some ⟨p, 0, none⟩), (.func (.func 52) #[] #[.pointer (some b)])] w (Tried p v l k w (.string ⟨#[]⟩) (.string x) k1 f) := by
  have hc : w.cell? ⟨p, 1, none⟩ = some (.int .i64 k) := h.1.cell 1
  have HR := Lib.hid h; clear h
  have HT := Lib.hid ht; clear ht
  unfold tk at HT
  by_cases hf : f = 0
  · subst hf
    go_enter Try.func51, Try.ntmps51
    go_wp2_with (first
      | (go_at_call 32; refine (fault_any p _ l k 0 w HR.out).mono ?_; rintro e w1 ⟨rfl, rfl⟩)
      | (go_at_call 52; refine HT.out.mono ?_; rintro e w1 ⟨rfl, hm⟩; have HM := Lib.hid hm; clear hm))
    go_ret
    exact tried_ok HM.out
  · have hf2 : (((f : Int) == 0) = false) := by rw [beq_eq_false_iff_ne]; omega
    have hf3 : (((f : Int) != 0) = true) := by rw [bne_iff_ne]; omega
    have HF := Lib.hid hf; clear hf
    go_enter Try.func51, Try.ntmps51
    go_wp2_with (first
      | (go_at_call 32; refine (fault_any p _ l k 0 w HR.out).mono ?_; rintro e w1 ⟨rfl, rfl⟩)
      | (go_at_call 52; refine HT.out.mono ?_; rintro e w1 ⟨rfl, hm⟩; have c1 : w1.cell? ⟨p, 1, none⟩ = some (.int .i64 k1) := hm.1.1.cell 1; have c2 : w1.cell? ⟨p, 2, none⟩ = some (.int .i64 0) := hm.1.1.cell 2; have f1 : w1.frozen? ⟨p, 1, none⟩ = false := hm.1.1.free 1; have f2 : w1.frozen? ⟨p, 2, none⟩ = false := hm.1.1.free 2; have HM := Lib.hid hm; clear hm))
    go_ret
    exact tried_bad HR.out HM.out HF.out

end Go.Proofs.Ytieffpngknglpaa
