/-
  Texts laid one behind the other: Zd Ze Ob Bs Oc Om Od Oe.
-/
import Derived.Test.YtkkgipieahhmbaaJocab
import Derived.Test.YtkkgipieahhmbaaJocaa
import Derived.WalkKit
import Derived.WalkSmall
import Derived.Laws.BitsAllLaws

/-
  Stage 9: the document's Check and All.
-/
namespace Go.Proofs.Ytkkgipieahhmbaa
open Go.RowKit

set_option maxRecDepth 100000

theorem chk_dims {f : F9} {n : Int} (h : ¬ (1 ≤ n ∧ n ≤ 4)) : chkF f n = 1 := by
  unfold chkF okDims
  rw [if_neg (by simpa using h)]
theorem chk_range {f : F9} {n : Int} (hn : 1 ≤ n ∧ n ≤ 4) (h : ¬ (0 ≤ f.k.h ∧ f.k.h ≤ 16777216 ∧ f.v ≤ 1152921504606846976 ∧ -1152921504606846976 ≤ f.v)) : chkF f n = 2 := by
  unfold chkF okDims
  rw [if_pos (by simpa using hn), if_neg h]
theorem chk_text {f : F9} {n : Int} (hn : 1 ≤ n ∧ n ≤ 4) (h : 0 ≤ f.k.h ∧ f.k.h ≤ 16777216 ∧ f.v ≤ 1152921504606846976 ∧ -1152921504606846976 ≤ f.v) (ht : okTexts n f.k = false) : chkF f n = 4 := by
  unfold chkF okDims
  rw [if_pos (by simpa using hn), if_pos h, ht]
  rfl
theorem chk_ok {f : F9} {n : Int} (hn : 1 ≤ n ∧ n ≤ 4) (h : 0 ≤ f.k.h ∧ f.k.h ≤ 16777216 ∧ f.v ≤ 1152921504606846976 ∧ -1152921504606846976 ≤ f.v) (ht : okTexts n f.k = true) : chkF f n = 0 := by
  unfold chkF okDims
  rw [if_pos (by simpa using hn), if_pos h, ht]
  rfl

end Go.Proofs.Ytkkgipieahhmbaa

/-
  Stage 9: the document's All; facts held against each other.
-/
namespace Go.Proofs.Ytkkgipieahhmbaa
open Go.RowKit

set_option maxRecDepth 100000

/-- What All answers, as a value. -/
def allV (l : List F9) (n : Int) : Value := .tuple #[.int .i64 (allB l n).1, .int .i64 (allB l n).2]
theorem allV_bad {l : List F9} {n : Int} (h : ¬ (1 ≤ n ∧ n ≤ 4 ∧ 1 ≤ l.length ∧ l.length ≤ 50)) : allV l n = .tuple #[.int .i64 1, .int .i64 0] := by
  unfold allV allB
  rw [if_neg]
  intro ⟨h1, h2, h3⟩
  unfold okDims at h1
  simp only [Bool.and_eq_true, decide_eq_true_iff] at h1
  exact h ⟨h1.1, h1.2, h2, h3⟩
theorem allV_at {l : List F9} {n : Int} (h : 1 ≤ n ∧ n ≤ 4 ∧ 1 ≤ l.length ∧ l.length ≤ 50) {a b : Int} (e : badAt n l 0 = (a, b)) : allV l n = .tuple #[.int .i64 a, .int .i64 b] := by
  unfold allV allB
  rw [if_pos ⟨by unfold okDims; simp [h.1, h.2.1], h.2.2⟩, e]

end Go.Proofs.Ytkkgipieahhmbaa

/-
  The writer: its bytes, and what its calls put behind.
-/
namespace Go.Proofs.Ytkkgipieahhmbaa
open Go.RowKit

/-- A byte that is not a number's last one. -/
def mid (n : Nat) : UInt8 := UInt8.ofNat (n % 128 + 128)
theorem mid_toNat (n : Nat) : (mid n).toNat = n % 128 + 128 := by
  unfold mid
  rw [UInt8.toNat_ofNat']
  omega
def low (n : Nat) : UInt8 := UInt8.ofNat n
theorem low_toNat (n : Nat) (h : n < 256) : (low n).toNat = n := by
  unfold low
  rw [UInt8.toNat_ofNat']
  omega

def encF : Nat → Nat → List UInt8
  | 0, n => [low n]
  | k + 1, n => if n < 128 then [low n] else mid n :: encF k (n / 128)
/-- The bytes of a number. -/
def enc (n : Nat) : List UInt8 := encF 9 n

/-- A writer in block p, whose one cell is the slice v, of bytes l. -/
def Wr (w : World) (p : Nat) (v : Value) (l : List UInt8) : Prop := Box w p 49 #[v] ∧ By w v l

/-- Behind a call on a writer: it has bytes l' now; nothing but its own blocks has turned, and its row is the one that it was, or new. -/
def Put (w : World) (p : Nat) (v : Value) (w' : World) (v' : Value) (l' : List UInt8) : Prop :=
  Wr w' p v' l' ∧ Turn (fun k => k = p ∨ v.ownBlock = some k) w w' ∧ (v'.ownBlock = v.ownBlock ∨ ∀ k, v'.ownBlock = some k → w.heap.size ≤ k)

theorem Put.refl {w : World} {p : Nat} {v : Value} {l : List UInt8} (h : Wr w p v l) : Put w p v w v l := ⟨h, Turn.refl _ _, .inl rfl⟩

theorem Put.trans {a b c : World} {p : Nat} {v u s : Value} {l m : List UInt8} (h : Put a p v b u l) (g : Put b p u c s m) : Put a p v c s m := by
  obtain ⟨_, t1, m1⟩ := h
  obtain ⟨w2, t2, m2⟩ := g
  refine ⟨w2, t1.trans t2 ?_, ?_⟩
  · rintro k hk (rfl | hu)
    · exact .inl rfl
    · rcases m1 with e | e
      · exact .inr (e ▸ hu)
      · exact absurd (e k hu) (by omega)
  · rcases m2 with e | e
    · rw [e]; exact m1
    · exact .inr fun k hk => Nat.le_trans t1.size (e k hk)

/-- One append, stored back into the writer's cell. -/
theorem put_step0 {w w1 : World} {p : Nat} {u : Value} {acc news : List UInt8} {A : Option Addr} {n c : Nat} (h : Wr w p u acc) (hby : By w1 (.slice A n c) (acc ++ news))
    (hg : w.grownBy w1 u.ownBlock) (hat : (Value.slice A n c).ownBlock = u.ownBlock ∨ (Value.slice A n c).ownBlock = some w.heap.size) :
    Put w p u (w1.setCell ⟨p, 0, none⟩ (.slice A n c)) (.slice A n c) (acc ++ news) := by
  obtain ⟨hb, hu⟩ := h
  have hne : u.ownBlock ≠ some p := hu.ne_box hb (by decide)
  have hb1 : Box w1 p 49 #[u] := hb.grown hg (fun e => hne e.symm)
  have hne1 : (Value.slice A n c).ownBlock ≠ some p := hby.ne_box hb1 (by decide)
  have t1 : Turn (fun k => k = p ∨ u.ownBlock = some k) w w1 := (Turn.refl _ w).grown hg (fun k _ e => .inr e)
  refine ⟨⟨by simpa using hb1.set 0 (.slice A n c), ?_⟩, t1.setCell (p := ⟨p, 0, none⟩) (fun _ => .inl rfl) _, ?_⟩
  · exact hby.turn ((Turn.refl (fun k => k = p) w1).setCell (p := ⟨p, 0, none⟩) (fun _ => rfl) _) (fun k hk e => hne1 (by subst e; exact hk))
  · rcases hat with e | e
    · exact .inl e
    · refine .inr fun k hk => ?_
      rw [e] at hk
      simp at hk
      omega

theorem writer_far0 {w : World} {p : Nat} {u : Value} {acc : List UInt8} (h : Wr w p u acc) (w1 : World) (hg : w.grownBy w1 u.ownBlock) :
    w1.cell? ⟨p, 0, none⟩ = some u ∧ w1.frozen? ⟨p, 0, none⟩ = false := by
  have hb1 : Box w1 p 49 #[u] := h.1.grown hg (fun e => h.2.ne_box h.1 (by decide) e.symm)
  exact ⟨hb1.cell 0, hb1.free 0⟩

/-- One append, stored back into the writer's cell. -/
theorem put_step {w w1 : World} {p : Nat} {u : Value} {acc news : List UInt8} {A : Option Addr} {n c : Nat} {o : Obj} (h : Wr w p u acc) (hby : By w1 (.slice A n c) (acc ++ news))
    (hg : (w.alloc o).grownBy w1 u.ownBlock) (hat : (Value.slice A n c).ownBlock = u.ownBlock ∨ (Value.slice A n c).ownBlock = some (w.heap.size + 1)) :
    Put w p u (w1.setCell ⟨p, 0, none⟩ (.slice A n c)) (.slice A n c) (acc ++ news) := by
  obtain ⟨hb, hu⟩ := h
  have hne : u.ownBlock ≠ some p := hu.ne_box hb (by decide)
  have hb1 : Box w1 p 49 #[u] := (hb.alloc o).grown hg (fun e => hne e.symm)
  have hne1 : (Value.slice A n c).ownBlock ≠ some p := hby.ne_box hb1 (by decide)
  have t1 : Turn (fun k => k = p ∨ u.ownBlock = some k) w w1 := ((Turn.refl _ w).alloc o).grown hg (fun k _ e => .inr e)
  refine ⟨⟨by simpa using hb1.set 0 (.slice A n c), ?_⟩, t1.setCell (p := ⟨p, 0, none⟩) (fun _ => .inl rfl) _, ?_⟩
  · exact hby.turn ((Turn.refl (fun k => k = p) w1).setCell (p := ⟨p, 0, none⟩) (fun _ => rfl) _) (fun k hk e => hne1 (by subst e; exact hk))
  · rcases hat with e | e
    · exact .inl e
    · refine .inr fun k hk => ?_
      rw [e] at hk
      simp at hk
      omega

theorem writer_far {w : World} {p : Nat} {u : Value} {acc : List UInt8} (h : Wr w p u acc) (w1 : World) (hw : ∃ o, (w.alloc o).grownBy w1 u.ownBlock) :
    w1.cell? ⟨p, 0, none⟩ = some u ∧ w1.frozen? ⟨p, 0, none⟩ = false := by
  obtain ⟨o, hg⟩ := hw
  have hb1 : Box w1 p 49 #[u] := (h.1.alloc o).grown hg (fun e => h.2.ne_box h.1 (by decide) e.symm)
  exact ⟨hb1.cell 0, hb1.free 0⟩

def NumRel (p : Nat) (v : Value) (l : List UInt8) (n : Nat) (w : World) (m : Value) (wr : World) (k r : Nat) (u : Value) (acc : List UInt8) : Prop :=
  m = .int .u64 r ∧ r < 128 ^ (k + 1) ∧ k ≤ 9 ∧ acc.length + k ≤ l.length + 9 ∧ acc ++ encF k r = l ++ enc n ∧ Put w p v wr u acc

theorem num_bound (n : Nat) (hn : Hid (n < 18446744073709551616)) : n < 128 ^ (9 + 1) := by
  have h : n < 18446744073709551616 := hn
  omega

theorem num_start (p : Nat) (v : Value) (l : List UInt8) (n : Nat) (w : World) (hw : Wr w p v l) (hn : Hid (n < 18446744073709551616)) : NumRel p v l n w (.int .u64 n) w 9 n v l := by
  unfold NumRel enc
  exact ⟨rfl, num_bound n hn, Nat.le_refl _, Nat.le_refl _, rfl, Put.refl hw⟩

theorem or_128 (r : Nat) : bits BinOp.or IntKind.u8 ((r : Int) % 256) 128 = ((mid r).toNat : Int) := by
  have h1 : ((r : Int) % 256) = ((r % 256 : Nat) : Int) := by omega
  have h := u8_or_nat (r % 256) 128 (by omega) (by omega)
  rw [h1]
  refine h.trans ?_
  have e : r % 256 ||| 128 = r % 128 + 128 := by
    have : ∀ x : Fin 256, x.val ||| 128 = x.val % 128 + 128 := by decide +kernel
    have := this ⟨r % 256, by omega⟩
    simp only at this
    rw [this]
    omega
  rw [e, mid_toNat]

theorem num_last {p : Nat} {v : Value} {l : List UInt8} {n : Nat} {w wr w1 : World} {k r : Nat} {u : Value} {acc : List UInt8} {A : Option Addr} {m c : Nat} {o : Obj} (h : r < 128)
    (henc : acc ++ encF k r = l ++ enc n) (hput : Put w p v wr u acc) (hby : By w1 (.slice A m c) (acc ++ [low r])) (hg : (wr.alloc o).grownBy w1 u.ownBlock)
    (hat : (Value.slice A m c).ownBlock = u.ownBlock ∨ (Value.slice A m c).ownBlock = some (wr.heap.size + 1)) :
    ∃ v', Put w p v (w1.setCell ⟨p, 0, none⟩ (.slice A m c)) v' (l ++ enc n) := by
  have h2 := hput.trans (put_step hput.1 hby hg hat)
  have e : encF k r = [low r] := by
    cases k with
    | zero => rfl
    | succ k => simp [encF, h]
  rw [e] at henc
  rw [← henc]
  exact ⟨_, h2⟩

theorem num_round {p : Nat} {v : Value} {l : List UInt8} {n : Nat} {w wr w1 : World} {k r : Nat} {u : Value} {acc : List UInt8} {A : Option Addr} {m c : Nat} {o : Obj} (h : ¬ r < 128)
    (hr : r < 128 ^ (k + 1)) (hk : k ≤ 9) (hlen : acc.length + k ≤ l.length + 9)
    (henc : acc ++ encF k r = l ++ enc n) (hput : Put w p v wr u acc) (hby : By w1 (.slice A m c) (acc ++ [mid r])) (hg : (wr.alloc o).grownBy w1 u.ownBlock)
    (hat : (Value.slice A m c).ownBlock = u.ownBlock ∨ (Value.slice A m c).ownBlock = some (wr.heap.size + 1)) :
    ∃ k' r' u' acc', NumRel p v l n w (.int .u64 ((r : Int) / 128)) (w1.setCell ⟨p, 0, none⟩ (.slice A m c)) k' r' u' acc' := by
  cases k with
  | zero => exact absurd hr (by simp; omega)
  | succ k =>
    refine ⟨k, r / 128, _, _, ?_, ?_, by omega, ?_, ?_, hput.trans (put_step hput.1 hby hg hat)⟩
    · congr 1
    · rw [Nat.div_lt_iff_lt_mul (by omega)]
      rw [Nat.pow_succ] at hr
      exact hr
    · simp only [List.length_append, List.length_cons, List.length_nil]; omega
    · rw [← henc]
      simp [encF, h]

set_option maxRecDepth 100000 in
set_option maxHeartbeats 400000 in
theorem num_put (p : Nat) (v : Value) (l : List UInt8) (n : Nat) (w : World) (hw : Wr w p v l) (hn : Hid (n < 18446744073709551616)) (hl : l.length ≤ 1000000) :
    Calls Try.prog 23 #[.pointer (some ⟨p, 0, none⟩), .int .u64 n] w fun e w' => e = .returned (.pointer (some ⟨p, 0, none⟩)) ∧
      ∃ v', Put w p v w' v' (l ++ enc n) := by
  go_enter Try.func23, Try.ntmps23
  go_wp2
  go_loopw [1] (fun m wr => ∃ (k r : Nat) (u : Value) (acc : List UInt8), NumRel p v l n w m wr k r u acc) (fun m _ => (intOf m).toNat)
  case atStart => exact ⟨_, _, _, _, num_start p v l n w hw hn⟩
  case round =>
    obtain ⟨k, r, u, acc, rfl, hr, hk, hlen, henc, hput⟩ := hrel
    have hc : wr.cell? ⟨p, 0, none⟩ = some u := hput.1.1.cell 0
    have hf : wr.frozen? ⟨p, 0, none⟩ = false := hput.1.1.free 0
    have hor := or_128 r
    have HR := Lib.hid hr; clear hr
    have HE := Lib.hid henc; clear henc
    have HW := Lib.hid hput; clear hput
    have HL := Lib.hid hlen; clear hlen
    have hfar : ∀ w1 : World, (∃ o, (wr.alloc o).grownBy w1 u.ownBlock) → w1.cell? ⟨p, 0, none⟩ = some u ∧ w1.frozen? ⟨p, 0, none⟩ = false := writer_far HW.out.1
    have HF := Lib.hid hfar; clear hfar
    by_cases h128 : r < 128
    · go_wp2_with (at_builtin; go_must (refine wpList_app _ rfl _ _ _ rfl u acc rfl (HW.out.1.2.alloc _) _ rfl [low r] (yields_one wr _ _ (by rw [low_toNat r (by omega)])) (by have := HL.out; simp; omega) ?_))
      intro A m c w1 hby hg hat
      have hc1 := (HF.out w1 ⟨_, hg⟩).1
      have hf1 := (HF.out w1 ⟨_, hg⟩).2
      have HB := Lib.hid (num_last h128 HE.out HW.out hby hg hat); clear hby hg hat
      go_wp2
      go_ret
      exact ⟨rfl, HB.out⟩
    · go_wp2_with (at_builtin; go_must (refine wpList_app _ rfl _ _ _ rfl u acc rfl (HW.out.1.2.alloc _) _ rfl [mid r] (yields_one wr _ _ rfl) (by have := HL.out; simp; omega) ?_))
      intro A m c w1 hby hg hat
      have hc1 := (HF.out w1 ⟨_, hg⟩).1
      have hf1 := (HF.out w1 ⟨_, hg⟩).2
      have HB := Lib.hid (num_round h128 HR.out hk HL.out HE.out HW.out hby hg hat); clear hby hg hat
      go_wp2
      go_roundw
      case rel => exact HB.out
      case measure => simp [intOf]; omega
end Go.Proofs.Ytkkgipieahhmbaa

/-
  Two rows of bytes held against each other.
-/
namespace Go.Proofs.Ytkkgipieahhmbaa
open Go.RowKit

set_option maxRecDepth 100000 in
set_option maxHeartbeats 400000 in
theorem same_any (u v : Value) (l m : List UInt8) (w : World) (hu : Rd w u l) (hv : Rd w v m) :
    Calls Try.prog 11 #[u, v] w fun e w' => e = .returned (.bool (l == m)) ∧ w = w' := by
  have h1 := hu.string
  have h2 := hv.string
  obtain ⟨A, c, rfl, _⟩ := hu
  obtain ⟨B, d, rfl, _⟩ := hv
  go_enter Try.func11, Try.ntmps11
  go_wp2
  go_ret
  exact ⟨rfl, rfl⟩

end Go.Proofs.Ytkkgipieahhmbaa

/-
  Copies, and what else is said of a writer.
-/
namespace Go.Proofs.Ytkkgipieahhmbaa
open Go.RowKit

set_option maxRecDepth 100000 in
set_option maxHeartbeats 400000 in
theorem clone_any (v : Value) (l : List UInt8) (w : World) (hv : Rd w v l) (hl : l.length ≤ 1000000) :
    Calls Try.prog 32 #[v] w fun e w' => ∃ v', e = .returned v' ∧ By w' v' l ∧ Turn (fun _ => False) w w' ∧ ∀ k, v'.ownBlock = some k → w.heap.size ≤ k := by
  obtain ⟨A, c, rfl, hk, hn, hc⟩ := hv
  cases A with
  | none =>
    obtain ⟨rfl, rfl⟩ := hn rfl
    clear hn hc
    have heq := fun (w : World) => Lib.run_eql_slice_nil (P := Try.prog) w 24 5 none 0 0 0 0 Try.underlying24
    go_enter Try.func32, Try.ntmps32
    go_wp2
    go_ret
    exact ⟨_, rfl, By.nil _, Turn.refl _ _, fun _ h => by cases h⟩
  | some ad =>
    have heq := fun (w : World) => Lib.run_eql_slice_nil (P := Try.prog) w 24 5 (some ad) l.length c 0 0 Try.underlying24
    have hY : ∀ o, Yields (w.alloc o) 24 (.slice (some ad) l.length c) l := fun o => by
      refine Rd.yields (Rd.turn (w := w) ⟨_, _, rfl, hk, hn, hc⟩ ((Turn.refl (fun _ => False) w).alloc o) (fun _ _ f => f))
    clear hn hc
    have HY := Lib.hid hY; clear hY
    go_enter Try.func32, Try.ntmps32
    go_wp2_with (at_builtin; go_must (refine wpList_app _ rfl _ _ _ rfl _ [] rfl (By.empty w) _ rfl l (HY.out _) (by simp; omega) ?_))
    intro A' n' c' w1 hby hg hat
    have HB := Lib.hid hby; clear hby
    have HG := Lib.hid hg; clear hg
    have HA := Lib.hid hat; clear hat
    go_wp2
    go_ret
    refine ⟨.slice A' n' c', rfl, HB.out, ((Turn.refl _ w).alloc _).grown HG.out ?_, ?_⟩
    · intro k hk e
      simp [Value.ownBlock] at e
      omega
    · intro k hk
      rcases HA.out with e | e
      · rw [e] at hk
        simp [Value.ownBlock] at hk
        omega
      · rw [e] at hk
        simp at hk
        omega

set_option maxRecDepth 100000 in
set_option maxHeartbeats 400000 in
theorem bytes_any (p : Nat) (v : Value) (l : List UInt8) (w : World) (hw : Wr w p v l) (hl : l.length ≤ 1000000) :
    Calls Try.prog 26 #[.pointer (some ⟨p, 0, none⟩)] w fun e w' => ∃ v', e = .returned v' ∧ By w' v' l ∧ Turn (fun _ => False) w w' ∧ ∀ k, v'.ownBlock = some k → w.heap.size ≤ k := by
  have hc : w.cell? ⟨p, 0, none⟩ = some v := hw.1.cell 0
  have HR := Lib.hid hw.2.rd
  clear hw
  go_enter Try.func26, Try.ntmps26
  go_wp2_with (go_at_call 32; refine (clone_any v l w HR.out hl).mono ?_; rintro e w' ⟨v', rfl, hb, ht, hk⟩; have HB := Lib.hid hb; clear hb; have HT := Lib.hid ht; clear ht; have HK := Lib.hid hk; clear hk)
  go_ret
  exact ⟨_, rfl, HB.out, HT.out, HK.out⟩

end Go.Proofs.Ytkkgipieahhmbaa

/-
  Plain facts on numbers: bits, turned numbers, groups of seven bits.
-/
namespace Go.Proofs.Ytkkgipieahhmbaa
open Go.RowKit

/-- A number turned, so that one near 0 is small. -/
def zig (n : Int) : Nat := if 0 ≤ n then (2 * n).toNat else (-2 * n - 1).toNat
/-- .. and turned back. -/
def zag (n : Nat) : Int := if n % 2 = 0 then ((n / 2 : Nat) : Int) else -((n / 2 : Nat) : Int) - 1

theorem zag_zig (n : Int) : zag (zig n) = n := by
  unfold zag zig
  split <;> split <;> omega

theorem zig_lt (n : Int) (h1 : Hid (-9223372036854775808 ≤ n)) (h2 : Hid (n ≤ 9223372036854775807)) : zig n < 18446744073709551616 := by
  have a : -9223372036854775808 ≤ n := h1
  have b : n ≤ 9223372036854775807 := h2
  unfold zig
  split <;> omega

theorem xor_ones (a : Nat) (h : a < 18446744073709551616) : bits BinOp.xor IntKind.u64 (a : Int) 18446744073709551615 = ((18446744073709551615 - a : Nat) : Int) := by
  show IntKind.u64.wrap ((BitVec.ofInt 64 (a : Int) ^^^ BitVec.ofInt 64 18446744073709551615).toNat : Int) = _
  have h1 : BitVec.ofInt 64 18446744073709551615 = BitVec.allOnes 64 := by decide +kernel
  rw [h1, BitVec.xor_allOnes, BitVec.toNat_not, ofInt_u64 a h, IntKind.wrap_u64]
  omega

theorem turn_val (n : Int) (h1 : Hid (-9223372036854775808 ≤ n)) (h2 : Hid (n ≤ 9223372036854775807)) :
    bits BinOp.xor IntKind.u64 (IntKind.u64.wrap (IntKind.u64.wrap n * 2)) (IntKind.u64.wrap (n / 9223372036854775808)) = (zig n : Int) := by
  have a : -9223372036854775808 ≤ n := h1
  have b : n ≤ 9223372036854775807 := h2
  by_cases h : 0 ≤ n
  · have e0 : n / 9223372036854775808 = 0 := by omega
    have e1 : IntKind.u64.wrap (n / 9223372036854775808) = ((0 : Nat) : Int) := by rw [e0, IntKind.wrap_u64]; omega
    have e2 : IntKind.u64.wrap (IntKind.u64.wrap n * 2) = (((2 * n).toNat : Nat) : Int) := by rw [IntKind.wrap_u64, IntKind.wrap_u64]; omega
    rw [e1, e2, u64_xor_nat _ _ (by omega) (by omega), Nat.xor_zero]
    unfold zig
    rw [if_pos h]
  · have e0 : n / 9223372036854775808 = -1 := by omega
    have e1 : IntKind.u64.wrap (n / 9223372036854775808) = 18446744073709551615 := by rw [e0, IntKind.wrap_u64]; omega
    have e2 : IntKind.u64.wrap (IntKind.u64.wrap n * 2) = (((2 * n + 18446744073709551616).toNat : Nat) : Int) := by rw [IntKind.wrap_u64, IntKind.wrap_u64]; omega
    rw [e1, e2, xor_ones _ (by omega)]
    unfold zig
    rw [if_neg h]
    omega

theorem i64_xor_ones (a : Nat) (h : a < 9223372036854775808) : bits BinOp.xor IntKind.i64 (a : Int) (-1) = -(a : Int) - 1 := by
  show IntKind.i64.wrap ((BitVec.ofInt 64 (a : Int) ^^^ BitVec.ofInt 64 (-1)).toNat : Int) = _
  have h1 : BitVec.ofInt 64 (-1) = BitVec.allOnes 64 := by decide
  rw [h1, BitVec.xor_allOnes, BitVec.toNat_not, ofInt_u64 a (by omega)]
  simp [IntKind.wrap, IntKind.bits, IntKind.signed]
  omega

theorem i64_xor_zero (a : Nat) (h : a < 9223372036854775808) : bits BinOp.xor IntKind.i64 (a : Int) 0 = (a : Int) := by
  show IntKind.i64.wrap ((BitVec.ofInt 64 (a : Int) ^^^ BitVec.ofInt 64 0).toNat : Int) = _
  have h1 : BitVec.ofInt 64 0 = 0#64 := by decide
  rw [h1, BitVec.xor_zero, ofInt_u64 a (by omega)]
  simp [IntKind.wrap, IntKind.bits, IntKind.signed]
  omega

theorem back_val (n : Nat) (h1 : Hid (n < 18446744073709551616)) :
    bits BinOp.xor IntKind.i64 (wrap64 ((n : Int) / 2)) (wrap64 (-wrap64 (bits BinOp.and IntKind.u64 (n : Int) 1))) = zag n := by
  have a : n < 18446744073709551616 := h1
  rw [and_one_u64 (n : Int) (by omega) (by omega)]
  have e1 : wrap64 ((n : Int) / 2) = ((n / 2 : Nat) : Int) := by unfold wrap64; omega
  have e2 : wrap64 (-wrap64 ((n : Int) % 2)) = -((n : Int) % 2) := by unfold wrap64; omega
  rw [e1, e2]
  unfold zag
  split
  · have e3 : -((n : Int) % 2) = 0 := by omega
    rw [e3, i64_xor_zero _ (by omega)]
  · have e3 : -((n : Int) % 2) = -1 := by omega
    rw [e3, i64_xor_ones _ (by omega)]

theorem pow_7 (i : Nat) : (2 : Int) ^ (7 * i) = ((128 ^ i : Nat) : Int) := by
  rw [Int.pow_mul]
  simp

theorem pow_le (i : Nat) (h : i ≤ 9) : 128 ^ i ≤ 9223372036854775808 := by
  have := Nat.pow_le_pow_right (n := 128) (by omega) h
  have e : (128 : Nat) ^ 9 = 9223372036854775808 := by decide +kernel
  omega

theorem or_val (acc c i : Nat) (hi : i ≤ 9) (hacc : acc < 128 ^ i) (hb : c * 128 ^ i < 18446744073709551616) :
    bits BinOp.or IntKind.u64 (acc : Int) (IntKind.u64.wrap ((c : Int) * 2 ^ (7 * i))) = ((acc + c * 128 ^ i : Nat) : Int) := by
  have hp := pow_le i hi
  have e : IntKind.u64.wrap ((c : Int) * 2 ^ (7 * i)) = ((c * 128 ^ i : Nat) : Int) := by
    rw [pow_7, ← Int.natCast_mul, IntKind.wrap_u64]
    omega
  rw [e, bits_or_u64_nat _ _ (by omega) hb]
  have h2 : (128 : Nat) ^ i = 2 ^ (7 * i) := by rw [Nat.pow_mul]
  rw [h2] at hacc ⊢
  have := Nat.shiftLeft_add_eq_or_of_lt hacc c
  rw [Nat.shiftLeft_eq] at this
  rw [Nat.or_comm, ← this, Nat.add_comm]

theorem or_mid (acc x i : Nat) (hx : 128 ≤ x) (hx2 : x < 256) (hi : i ≤ 8) (hacc : acc < 128 ^ i) :
    bits BinOp.or IntKind.u64 (acc : Int) (IntKind.u64.wrap (((x : Int) - 128) * 2 ^ (7 * i))) = ((acc + (x - 128) * 128 ^ i : Nat) : Int) ∧ acc + (x - 128) * 128 ^ i < 128 ^ (i + 1) := by
  have e : ((x : Int) - 128) = ((x - 128 : Nat) : Int) := by omega
  have h1 : (x - 128) * 128 ^ i ≤ 127 * 128 ^ i := Nat.mul_le_mul_right _ (by omega)
  have h2 := pow_le (i + 1) (by omega)
  rw [Nat.pow_succ] at h2 ⊢
  rw [e]
  exact ⟨or_val acc (x - 128) i (by omega) hacc (by omega), by omega⟩

end Go.Proofs.Ytkkgipieahhmbaa

/-
  Numbers with a sign, texts and flags, as the program and as the document put them.
-/
namespace Go.Proofs.Ytkkgipieahhmbaa
open Go.RowKit


end Go.Proofs.Ytkkgipieahhmbaa

/-
  A text put; and the document's own bytes.
-/
namespace Go.Proofs.Ytkkgipieahhmbaa
open Go.RowKit

theorem hid_small (n : Nat) (h : n ≤ 1000000) : Hid (n < 18446744073709551616) := by
  show n < 18446744073709551616
  omega

theorem enc_len (n : Nat) : (enc n).length ≤ 10 := by
  have h : ∀ k n, (encF k n).length ≤ k + 1 := by
    intro k
    induction k with
    | zero => intro n; simp [encF]
    | succ k ih =>
      intro n
      unfold encF
      split
      · simp
      · have := ih (n / 128)
        simp only [List.length_cons]
        omega
  exact h 9 n

/-- The document's bytes of a number, so far. -/
def RefRel (n : Nat) (w : World) (x out : Value) (wr : World) (k r : Nat) (acc : List UInt8) : Prop :=
  x = .int .u64 r ∧ r < 128 ^ (k + 1) ∧ k ≤ 9 ∧ acc.length + k ≤ 9 ∧ acc ++ encF k r = enc n ∧ r ≤ n ∧ Made w wr out acc

theorem ref_start (n : Nat) (w : World) (hn : Hid (n < 18446744073709551616)) : RefRel n w (.int .u64 n) (.slice none 0 0) w 9 n [] := by
  unfold RefRel enc
  exact ⟨rfl, num_bound n hn, Nat.le_refl _, Nat.le_refl _, rfl, Nat.le_refl _, By.nil _, Turn.refl _ _, fun _ h => by cases h⟩

theorem made_step {w wr w1 : World} {v : Value} {acc news : List UInt8} {A : Option Addr} {n c : Nat} {o : Obj} (h : Made w wr v acc) (hby : By w1 (.slice A n c) (acc ++ news))
    (hg : (wr.alloc o).grownBy w1 v.ownBlock) (hat : (Value.slice A n c).ownBlock = v.ownBlock ∨ (Value.slice A n c).ownBlock = some (wr.heap.size + 1)) :
    Made w w1 (.slice A n c) (acc ++ news) := by
  obtain ⟨_, ht, hk⟩ := h
  refine ⟨hby, (ht.alloc o).grown hg (fun k hlt e => by have := hk k e; omega), fun k e => ?_⟩
  rcases hat with e1 | e1
  · exact hk k (e1 ▸ e)
  · rw [e1] at e
    have := ht.size
    simp at e
    omega

theorem made_step0 {w wr w1 : World} {v : Value} {acc news : List UInt8} {A : Option Addr} {n c : Nat} (h : Made w wr v acc) (hby : By w1 (.slice A n c) (acc ++ news))
    (hg : wr.grownBy w1 v.ownBlock) (hat : (Value.slice A n c).ownBlock = v.ownBlock ∨ (Value.slice A n c).ownBlock = some wr.heap.size) :
    Made w w1 (.slice A n c) (acc ++ news) := by
  obtain ⟨_, ht, hk⟩ := h
  refine ⟨hby, ht.grown hg (fun k hlt e => by have := hk k e; omega), fun k e => ?_⟩
  rcases hat with e1 | e1
  · exact hk k (e1 ▸ e)
  · rw [e1] at e
    have := ht.size
    simp at e
    omega

theorem ref_last {n : Nat} {w wr w1 : World} {k r : Nat} {acc : List UInt8} {v : Value} {A : Option Addr} {m c : Nat} {o : Obj} (h : r < 128) (henc : acc ++ encF k r = enc n) (hm : Made w wr v acc)
    (hby : By w1 (.slice A m c) (acc ++ [low r])) (hg : (wr.alloc o).grownBy w1 v.ownBlock) (hat : (Value.slice A m c).ownBlock = v.ownBlock ∨ (Value.slice A m c).ownBlock = some (wr.heap.size + 1)) :
    Made w w1 (.slice A m c) (enc n) := by
  have h2 := made_step hm hby hg hat
  have e : encF k r = [low r] := by
    cases k with
    | zero => rfl
    | succ k => simp [encF, h]
  rw [e] at henc
  rw [← henc]
  exact h2

theorem ref_round {n : Nat} {w wr w1 : World} {k r : Nat} {acc : List UInt8} {v : Value} {A : Option Addr} {m c : Nat} {o : Obj} (h : ¬ r < 128) (hr : r < 128 ^ (k + 1)) (hk : k ≤ 9) (hlen : acc.length + k ≤ 9)
    (henc : acc ++ encF k r = enc n) (hrn : r ≤ n) (hm : Made w wr v acc)
    (hby : By w1 (.slice A m c) (acc ++ [mid r])) (hg : (wr.alloc o).grownBy w1 v.ownBlock) (hat : (Value.slice A m c).ownBlock = v.ownBlock ∨ (Value.slice A m c).ownBlock = some (wr.heap.size + 1)) :
    ∃ k' r' acc', RefRel n w (.int .u64 ((r : Int) / 128)) (.slice A m c) w1 k' r' acc' := by
  cases k with
  | zero => exact absurd hr (by simp; omega)
  | succ k =>
    refine ⟨k, r / 128, _, ?_, ?_, by omega, ?_, ?_, by omega, made_step hm hby hg hat⟩
    · congr 1
    · rw [Nat.div_lt_iff_lt_mul (by omega)]
      rw [Nat.pow_succ] at hr
      exact hr
    · simp only [List.length_append, List.length_cons, List.length_nil]; omega
    · rw [← henc]
      simp [encF, h]

theorem ref_wrap (r n : Nat) (h : r ≤ n) (hn : Hid (n < 18446744073709551616)) : IntKind.u64.wrap ((r : Int) / 128) = (r : Int) / 128 := by
  have a : n < 18446744073709551616 := hn
  rw [IntKind.wrap_u64]
  omega

set_option maxRecDepth 100000 in
set_option maxHeartbeats 400000 in
theorem ref_num (n : Nat) (w : World) (hn : Hid (n < 18446744073709551616)) :
    Calls Try.prog 37 #[.int .u64 n] w fun e w' => ∃ v, e = .returned v ∧ Made w w' v (enc n) := by
  go_enter Try.func37, Try.ntmps37
  go_wp2
  go_loopw [0, 3] (fun x out wr => ∃ (k r : Nat) (acc : List UInt8), RefRel n w x out wr k r acc) (fun x _ _ => (intOf x).toNat)
  case atStart => exact ⟨_, _, _, ref_start n w hn⟩
  case round =>
    obtain ⟨k, r, acc, rfl, hr, hk, hlen, henc, hrn, hm⟩ := hrel
    have hwrap := ref_wrap r n hrn hn
    have HN := Lib.hid hrn; clear hrn
    have HR := Lib.hid hr; clear hr
    have HE := Lib.hid henc; clear henc
    have HM := Lib.hid hm; clear hm
    have HL := Lib.hid hlen; clear hlen
    by_cases h128 : r < 128
    · go_wp2_with (at_builtin; go_must (refine wpList_app _ rfl _ _ _ rfl _ acc rfl (HM.out.1.alloc _) _ rfl [low r] (yields_one wr _ _ (by rw [low_toNat r (by omega)])) (by have := HL.out; simp; omega) ?_))
      intro A m c w1 hby hg hat
      have HB := Lib.hid (ref_last h128 HE.out HM.out hby hg hat); clear hby hg hat
      go_wp2
      go_ret
      exact ⟨_, rfl, HB.out⟩
    · go_wp2_with (at_builtin; go_must (refine wpList_app _ rfl _ _ _ rfl _ acc rfl (HM.out.1.alloc _) _ rfl [mid r] (yields_one wr _ _ (by rw [mid_toNat]; omega)) (by have := HL.out; simp; omega) ?_))
      intro A m c w1 hby hg hat
      have HB := Lib.hid (ref_round h128 HR.out hk HL.out HE.out HN.out HM.out hby hg hat); clear hby hg hat
      go_wp2
      go_roundw
      case rel => exact HB.out
      case measure => simp [intOf]; omega

theorem ref_int1 (n : Int) (h : 0 ≤ n) (h2 : Hid (n ≤ 9223372036854775807)) : IntKind.u64.wrap (2 * IntKind.u64.wrap n) = (zig n : Int) := by
  have b : n ≤ 9223372036854775807 := h2
  unfold zig
  rw [if_pos h, IntKind.wrap_u64, IntKind.wrap_u64]
  omega

theorem ref_int2 (n : Int) (h : ¬ 0 ≤ n) (h1 : Hid (-9223372036854775808 ≤ n)) :
    IntKind.u64.wrap (IntKind.u64.wrap (2 * IntKind.u64.wrap (wrap64 (-wrap64 (n + 1)))) + 1) = (zig n : Int) := by
  have a : -9223372036854775808 ≤ n := h1
  have e : wrap64 (-wrap64 (n + 1)) = -(n + 1) := by unfold wrap64; omega
  unfold zig
  rw [if_neg h, e, IntKind.wrap_u64, IntKind.wrap_u64, IntKind.wrap_u64]
  omega

theorem By.one (w : World) (b : UInt8) (c : Int) (hc : c = (b.toNat : Int)) : By (w.alloc (.cells #[.int .u8 c] 5)) (.slice (some ⟨w.heap.size, 0, none⟩) 1 1) [b] := by
  subst hc
  exact World.ownsRow_lit (base := 0) w #[bv b] 1 (Nat.zero_le _) (by simp [maxLen]) rfl

theorem enc_small (n : Nat) (h : n < 128) : enc n = [low n] := by
  unfold enc encF
  rw [if_pos h]

end Go.Proofs.Ytkkgipieahhmbaa
