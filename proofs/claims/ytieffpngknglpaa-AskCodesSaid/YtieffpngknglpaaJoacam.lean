/-
  Texts laid one behind the other: Oh Oi.
-/
import Derived.Test.YtieffpngknglpaaJoacal

/-
  What a reader's calls read: all of a thing, or a fault.
-/
namespace Go.Proofs.Ytieffpngknglpaa
open Go.RowKit

/-- Behind a thing that was tried: with a fault nothing but that has changed. -/
def Tried (p : Nat) (v : Value) (l : List UInt8) (k : Nat) (w : World) (none x : Value) (k1 f : Nat) (e : Ending) (w' : World) : Prop :=
  (f = 0 → e = .returned x ∧ Moved w p v l w' k1 0) ∧ (f ≠ 0 → e = .returned none ∧ Moved w p v l w' k f)

theorem tried_ok {p : Nat} {v : Value} {l : List UInt8} {k : Nat} {w : World} {none x : Value} {k1 : Nat} {w' : World} (h : Moved w p v l w' k1 0) : Tried p v l k w none x k1 0 (.returned x) w' :=
  ⟨fun _ => ⟨rfl, h⟩, fun n => absurd rfl n⟩

theorem tried_bad {p : Nat} {v : Value} {l : List UInt8} {k : Nat} {w : World} {none x : Value} {k1 f : Nat} {w1 : World} (h0 : Rdr w p v l k 0) (h : Moved w p v l w1 k1 0) (hf : f ≠ 0) :
    Tried p v l k w none x k1 f (.returned none) ((w1.setCell ⟨p, 1, Option.none⟩ (.int .i64 k)).setCell ⟨p, 2, Option.none⟩ (.int .i64 f)) := by
  refine ⟨fun n => absurd n hf, fun _ => ⟨rfl, ?_⟩⟩
  obtain ⟨⟨hb, hy, _, h2⟩, ht⟩ := h
  have hne : v.ownBlock ≠ some p := hy.ne_box hb (by decide)
  have t : Turn (fun g => g = p) w1 ((w1.setCell ⟨p, 1, Option.none⟩ (.int .i64 k)).setCell ⟨p, 2, Option.none⟩ (.int .i64 f)) :=
    ((Turn.refl (fun g => g = p) w1).setCell (p := ⟨p, 1, Option.none⟩) (fun _ => rfl) _).setCell (p := ⟨p, 2, Option.none⟩) (fun _ => rfl) _
  refine ⟨⟨?_, hy.turn t (fun g hg e => hne (by subst e; exact hg)), h0.2.2.1, h2⟩, ht.trans t (fun _ _ s => s)⟩
  simpa using (hb.set 1 (.int .i64 (k : Int))).set 2 (.int .i64 (f : Int))

set_option maxRecDepth 100000 in
set_option maxHeartbeats 400000 in
theorem read_u64 (p : Nat) (v : Value) (l : List UInt8) (k : Nat) (w : World)  (h : Rdr w p v l k 0) (x : Int) (k1 f : Nat)
    (ht : Calls Try.prog 42 #[tk p] w fun e w1 => e = .returned (.tuple #[(.int .u64 x), .int .i64 f]) ∧ Moved w p v l w1 k1 0) :
    Calls Try.prog 41 #[.pointer (some ⟨p, 0, none⟩), (.func (.func 42) #[] #[])] w (Tried p v l k w (.int .u64 0) (.int .u64 x) k1 f) := by
  have hc : w.cell? ⟨p, 1, none⟩ = some (.int .i64 k) := h.1.cell 1
  have HR := Lib.hid h; clear h
  have HT := Lib.hid ht; clear ht
  unfold tk at HT
  by_cases hf : f = 0
  · subst hf
    go_enter Try.func41, Try.ntmps41
    go_wp2_with (first
      | (go_at_call 32; refine (fault_any p _ l k 0 w HR.out).mono ?_; rintro e w1 ⟨rfl, rfl⟩)
      | (go_at_call 42; refine HT.out.mono ?_; rintro e w1 ⟨rfl, hm⟩; have HM := Lib.hid hm; clear hm))
    go_ret
    exact tried_ok HM.out
  · have hf2 : (((f : Int) == 0) = false) := by rw [beq_eq_false_iff_ne]; omega
    have hf3 : (((f : Int) != 0) = true) := by rw [bne_iff_ne]; omega
    have HF := Lib.hid hf; clear hf
    go_enter Try.func41, Try.ntmps41
    go_wp2_with (first
      | (go_at_call 32; refine (fault_any p _ l k 0 w HR.out).mono ?_; rintro e w1 ⟨rfl, rfl⟩)
      | (go_at_call 42; refine HT.out.mono ?_; rintro e w1 ⟨rfl, hm⟩; have c1 : w1.cell? ⟨p, 1, none⟩ = some (.int .i64 k1) := hm.1.1.cell 1; have c2 : w1.cell? ⟨p, 2, none⟩ = some (.int .i64 0) := hm.1.1.cell 2; have f1 : w1.frozen? ⟨p, 1, none⟩ = false := hm.1.1.free 1; have f2 : w1.frozen? ⟨p, 2, none⟩ = false := hm.1.1.free 2; have HM := Lib.hid hm; clear hm))
    go_ret
    exact tried_bad HR.out HM.out HF.out

set_option maxRecDepth 100000 in
set_option maxHeartbeats 400000 in
theorem read_bool (p : Nat) (v : Value) (l : List UInt8) (k : Nat) (w : World)  (h : Rdr w p v l k 0) (x : Bool) (k1 f : Nat)
    (ht : Calls Try.prog 50 #[tk p] w fun e w1 => e = .returned (.tuple #[(.bool x), .int .i64 f]) ∧ Moved w p v l w1 k1 0) :
    Calls Try.prog 49 #[.pointer (some ⟨p, 0, none⟩), (.func (.func 50) #[] #[])] w (Tried p v l k w (.bool false) (.bool x) k1 f) := by
  have hc : w.cell? ⟨p, 1, none⟩ = some (.int .i64 k) := h.1.cell 1
  have HR := Lib.hid h; clear h
  have HT := Lib.hid ht; clear ht
  unfold tk at HT
  by_cases hf : f = 0
  · subst hf
    go_enter Try.func49, Try.ntmps49
    go_wp2_with (first
      | (go_at_call 32; refine (fault_any p _ l k 0 w HR.out).mono ?_; rintro e w1 ⟨rfl, rfl⟩)
      | (go_at_call 50; refine HT.out.mono ?_; rintro e w1 ⟨rfl, hm⟩; have HM := Lib.hid hm; clear hm))
    go_ret
    exact tried_ok HM.out
  · have hf2 : (((f : Int) == 0) = false) := by rw [beq_eq_false_iff_ne]; omega
    have hf3 : (((f : Int) != 0) = true) := by rw [bne_iff_ne]; omega
    have HF := Lib.hid hf; clear hf
    go_enter Try.func49, Try.ntmps49
    go_wp2_with (first
      | (go_at_call 32; refine (fault_any p _ l k 0 w HR.out).mono ?_; rintro e w1 ⟨rfl, rfl⟩)
      | (go_at_call 50; refine HT.out.mono ?_; rintro e w1 ⟨rfl, hm⟩; have c1 : w1.cell? ⟨p, 1, none⟩ = some (.int .i64 k1) := hm.1.1.cell 1; have c2 : w1.cell? ⟨p, 2, none⟩ = some (.int .i64 0) := hm.1.1.cell 2; have f1 : w1.frozen? ⟨p, 1, none⟩ = false := hm.1.1.free 1; have f2 : w1.frozen? ⟨p, 2, none⟩ = false := hm.1.1.free 2; have HM := Lib.hid hm; clear hm))
    go_ret
    exact tried_bad HR.out HM.out HF.out

set_option maxRecDepth 100000 in
set_option maxHeartbeats 400000 in
theorem read_text (p : Nat) (v : Value) (l : List UInt8) (k : Nat) (w : World) (b : Addr) (h : Rdr w p v l k 0) (x : ByteArray) (k1 f : Nat)
    (ht : Calls Try.prog 52 #[tk p, .pointer (some b)] w fun e w1 => e = .returned (.tuple #[(.string x), .int .i64 f]) ∧ Moved w p v l w1 k1 0) :
    Calls Try.prog 51 #[.pointer (some ⟨p, 0, none⟩), (.func (.func 52) #[] #[.pointer (some b)])] w (Tried p v l k w (.string ⟨#[]⟩) (.string x) k1 f) := by
  have hc : w.cell? ⟨p, 1, none⟩ = some (.int .i64 k) := h.1.cell 1
  have HR := Lib.hid h; clear h
  have HT := Lib.hid ht; clear ht
  unfold tk at HT
  by_cases hf : f = 0
  · subst hf
    go_enter Try.func51, Try.ntmps51
    go_wp2_with (first
      | (go_at_call 32; refine (fault_any p _ l k 0 w HR.out).mono ?_; rintro e w1 ⟨rfl, rfl⟩)
      | (go_at_call 52; refine HT.out.mono ?_; rintro e w1 ⟨rfl, hm⟩; have HM := Lib.hid hm; clear hm))
    go_ret
    exact tried_ok HM.out
  · have hf2 : (((f : Int) == 0) = false) := by rw [beq_eq_false_iff_ne]; omega
    have hf3 : (((f : Int) != 0) = true) := by rw [bne_iff_ne]; omega
    have HF := Lib.hid hf; clear hf
    go_enter Try.func51, Try.ntmps51
    go_wp2_with (first
      | (go_at_call 32; refine (fault_any p _ l k 0 w HR.out).mono ?_; rintro e w1 ⟨rfl, rfl⟩)
      | (go_at_call 52; refine HT.out.mono ?_; rintro e w1 ⟨rfl, hm⟩; have c1 : w1.cell? ⟨p, 1, none⟩ = some (.int .i64 k1) := hm.1.1.cell 1; have c2 : w1.cell? ⟨p, 2, none⟩ = some (.int .i64 0) := hm.1.1.cell 2; have f1 : w1.frozen? ⟨p, 1, none⟩ = false := hm.1.1.free 1; have f2 : w1.frozen? ⟨p, 2, none⟩ = false := hm.1.1.free 2; have HM := Lib.hid hm; clear hm))
    go_ret
    exact tried_bad HR.out HM.out HF.out

end Go.Proofs.Ytieffpngknglpaa

/-
  What is read of a reader: numbers, counts, texts, flags.
-/
namespace Go.Proofs.Ytieffpngknglpaa
open Go.RowKit

/-- Any number of bytes that are there: the string that they make. -/
theorem take_any (p : Nat) (v : Value) (l : List UInt8) (k n : Nat) (w : World) (h : Rdr w p v l k 0) (hn : n ≤ l.length - k) :
    Calls Try.prog 48 #[.pointer (some ⟨p, 0, none⟩), .int .i64 n] w fun e w' => ∃ u, e = .returned (.tuple #[u, .int .i64 0]) ∧
      (convert 34 9 u).run Try.prog w' = .ok (.string ⟨((l.drop k).take n).toArray⟩) w' ∧ Moved w p v l w' (k + n) 0 := by
  obtain ⟨A, c, hv, _⟩ := h.2.1.rd
  subst hv
  exact (take_yes p A c l k 0 n w h hn).mono fun e w' ⟨u, he, hr, hm⟩ => ⟨u, he, hr.string, hm⟩

def rdFlag : List UInt8 → Bool × Nat × Nat
  | [] => (false, 3, 0)
  | b :: _ => if 1 < b.toNat then (false, 4, 1) else (b.toNat == 1, 0, 1)

def rdCount (most : Nat) (l : List UInt8) : Nat × Nat × Nat :=
  if (rdNum l).2.1 ≠ 0 then (0, (rdNum l).2.1, (rdNum l).2.2) else if most < (rdNum l).1 then (0, 4, (rdNum l).2.2) else ((rdNum l).1, 0, (rdNum l).2.2)

def rdText (most : Nat) (l : List UInt8) : List UInt8 × Nat × Nat :=
  if (rdCount most l).2.1 ≠ 0 then ([], (rdCount most l).2.1, (rdCount most l).2.2)
  else if (l.drop (rdCount most l).2.2).length < (rdCount most l).1 then ([], 3, (rdCount most l).2.2)
  else ((l.drop (rdCount most l).2.2).take (rdCount most l).1, 0, (rdCount most l).2.2 + (rdCount most l).1)

def FlagPost (p : Nat) (v : Value) (l : List UInt8) (k : Nat) (w : World) (e : Ending) (w' : World) : Prop :=
  e = .returned (.tuple #[.bool (rdFlag (l.drop k)).1, .int .i64 (rdFlag (l.drop k)).2.1]) ∧ Moved w p v l w' (k + (rdFlag (l.drop k)).2.2) 0

theorem flag_end {p : Nat} {v : Value} {l : List UInt8} {k : Nat} {w w' : World} {val : Bool} {f m : Nat} {r : Bool × Nat × Nat} (hr : r = rdFlag (l.drop k)) (h1 : val = r.1) (h2 : f = r.2.1) (h3 : m = k + r.2.2)
    (hm : Moved w p v l w' m 0) : FlagPost p v l k w (.returned (.tuple #[.bool val, .int .i64 f])) w' := by
  subst h1 h2 h3 hr
  exact ⟨rfl, hm⟩

theorem rdFlag_at (l : List UInt8) (k : Nat) (hl : k < l.length) (x : Nat) (hx : x = (l[k]?.getD 0).toNat) : rdFlag (l.drop k) = if 1 < x then (false, 4, 1) else (x == 1, 0, 1) := by
  rw [List.drop_eq_getElem_cons hl]
  have h2 : (l[k]?.getD 0) = l[k] := by rw [List.getElem?_eq_getElem hl]; rfl
  rw [h2] at hx
  subst hx
  rfl

set_option maxRecDepth 100000 in
set_option maxHeartbeats 400000 in
theorem flag_any (p : Nat) (v : Value) (l : List UInt8) (k : Nat) (w : World) (h : Rdr w p v l k 0) :
    Calls Try.prog 50 #[tk p] w (FlagPost p v l k w) := by
  unfold tk
  by_cases hl : k < l.length
  · obtain ⟨x, hx⟩ : ∃ x : Nat, x = (l[k]?.getD 0).toNat := ⟨_, rfl⟩
    have HT := Lib.hid (take_one h hl x hx)
    have HE := Lib.hid (rdFlag_at l k hl x hx)
    clear h hx hl
    by_cases h1 : 1 < x
    · go_enter Try.func50, Try.ntmps50
      go_wp2_with (go_at_call 48; refine HT.out.mono ?_; rintro e w1 ⟨ad, c, rfl, hcell, hm1⟩; have HM1 := Lib.hid hm1; clear hm1)
      go_ret2
      exact flag_end (r := (false, 4, 1)) (by rw [HE.out, if_pos h1]) rfl rfl rfl HM1.out
    · go_enter Try.func50, Try.ntmps50
      go_wp2_with (go_at_call 48; refine HT.out.mono ?_; rintro e w1 ⟨ad, c, rfl, hcell, hm1⟩; have HM1 := Lib.hid hm1; clear hm1)
      go_ret2
      refine flag_end (r := (x == 1, 0, 1)) (by rw [HE.out, if_neg h1]) ?_ rfl rfl HM1.out
      show ((x : Int) == 1) = (x == 1)
      rw [Bool.eq_iff_iff, beq_iff_eq, beq_iff_eq]
      omega
  · have HN := Lib.hid (take_no p v l k 0 1 w h (by omega))
    have HM := Lib.hid h; clear h
    have HE : Hid (rdFlag (l.drop k) = (false, 3, 0)) := by
      show rdFlag (l.drop k) = (false, 3, 0)
      rw [List.drop_eq_nil_of_le (by omega)]
      rfl
    clear hl
    go_enter Try.func50, Try.ntmps50
    go_wp2_with (go_at_call 48; refine HN.out.mono ?_; rintro e w1 ⟨rfl, m, rfl⟩)
    go_ret2
    exact flag_end HE.out.symm rfl rfl rfl ⟨HM.out, (Turn.refl _ w).drewN m⟩

def CountPost (p : Nat) (v : Value) (l : List UInt8) (k : Nat) (w : World) (most : Nat) (e : Ending) (w' : World) : Prop :=
  e = .returned (.tuple #[.int .i64 (rdCount most (l.drop k)).1, .int .i64 (rdCount most (l.drop k)).2.1]) ∧ Moved w p v l w' (k + (rdCount most (l.drop k)).2.2) 0

theorem count_end {p : Nat} {v : Value} {l : List UInt8} {k : Nat} {w w' : World} {most : Nat} {val : Int} {f m : Nat} {r : Nat × Nat × Nat} (hr : r = rdCount most (l.drop k)) (h1 : val = r.1) (h2 : f = r.2.1) (h3 : m = k + r.2.2)
    (hm : Moved w p v l w' m 0) : CountPost p v l k w most (.returned (.tuple #[.int .i64 val, .int .i64 f])) w' := by
  subst h1 h2 h3 hr
  exact ⟨rfl, hm⟩

set_option maxRecDepth 100000 in
set_option maxHeartbeats 400000 in
theorem count_any (p : Nat) (v : Value) (l : List UInt8) (k : Nat) (w : World) (most : Nat) (hmost : most ≤ 1000000000) (h : Rdr w p v l k 0) :
    Calls Try.prog 53 #[tk p, .int .i64 most] w (CountPost p v l k w most) := by
  have hn := number_any p v l k w h
  clear h
  obtain ⟨⟨n, f, m⟩, hr⟩ : ∃ r, r = rdNum (l.drop k) := ⟨_, rfl⟩
  unfold NumPost at hn
  rw [← hr] at hn
  have HN := Lib.hid hn; clear hn
  have hE : rdCount most (l.drop k) = if f ≠ 0 then (0, f, m) else if most < n then (0, 4, m) else (n, 0, m) := by
    unfold rdCount
    rw [← hr]
  have HE := Lib.hid hE; clear hE hr
  unfold tk at HN ⊢
  by_cases hf : f = 0
  · subst hf
    by_cases hlt : most < n
    · go_enter Try.func53, Try.ntmps53
      go_wp2_with (go_at_call 42; refine HN.out.mono ?_; rintro e w1 ⟨rfl, hm1⟩; have HM1 := Lib.hid hm1; clear hm1)
      go_ret2
      exact count_end (r := (0, 4, m)) (by rw [HE.out, if_neg (by omega), if_pos hlt]) rfl rfl rfl HM1.out
    · go_enter Try.func53, Try.ntmps53
      go_wp2_with (go_at_call 42; refine HN.out.mono ?_; rintro e w1 ⟨rfl, hm1⟩; have HM1 := Lib.hid hm1; clear hm1)
      go_ret2
      exact count_end (r := (n, 0, m)) (by rw [HE.out, if_neg (by omega), if_neg hlt]) rfl rfl rfl HM1.out
  · have hf2 : (((f : Int) == 0) = false) := by rw [beq_eq_false_iff_ne]; omega
    have hf3 : (((f : Int) != 0) = true) := by rw [bne_iff_ne]; omega
    have HF := Lib.hid hf; clear hf
    go_enter Try.func53, Try.ntmps53
    go_wp2_with (go_at_call 42; refine HN.out.mono ?_; rintro e w1 ⟨rfl, hm1⟩; have HM1 := Lib.hid hm1; clear hm1)
    go_ret2
    exact count_end (r := (0, f, m)) (by rw [HE.out, if_pos HF.out]) rfl rfl rfl HM1.out

end Go.Proofs.Ytieffpngknglpaa
