/-
  Texts laid one behind the other: Ze Ob.
-/
import Derived.Test.YtieffpngknglpaaJoacag
import Derived.Test.YtieffpngknglpaaJoacac

/-
  Stage 9: the document's All; facts held against each other.
-/
namespace Go.Proofs.Ytieffpngknglpaa
open Go.RowKit

set_option maxRecDepth 100000

/-- What All answers, as a value. -/
def allV (l : List F9) (n : Int) : Value := .tuple #[.int .i64 (allB l n).1, .int .i64 (allB l n).2]
theorem allV_bad {l : List F9} {n : Int} (h : ¬ (1 ≤ n ∧ n ≤ 4 ∧ 1 ≤ l.length ∧ l.length ≤ 50)) : allV l n = .tuple #[.int .i64 1, .int .i64 0] := by
  unfold allV allB
  rw [if_neg]
  intro ⟨h1, h2, h3⟩
  unfold okDims at h1
  simp only [Bool.and_eq_true, decide_eq_true_iff] at h1
  exact h ⟨h1.1, h1.2, h2, h3⟩
theorem allV_at {l : List F9} {n : Int} (h : 1 ≤ n ∧ n ≤ 4 ∧ 1 ≤ l.length ∧ l.length ≤ 50) {a b : Int} (e : badAt n l 0 = (a, b)) : allV l n = .tuple #[.int .i64 a, .int .i64 b] := by
  unfold allV allB
  rw [if_pos ⟨by unfold okDims; simp [h.1, h.2.1], h.2.2⟩, e]

end Go.Proofs.Ytieffpngknglpaa

/-
  The writer: its bytes, and what its calls put behind.
-/
namespace Go.Proofs.Ytieffpngknglpaa
open Go.RowKit

/-- A byte that is not a number's last one. -/
def mid (n : Nat) : UInt8 := UInt8.ofNat (n % 128 + 128)
theorem mid_toNat (n : Nat) : (mid n).toNat = n % 128 + 128 := by
  unfold mid
  rw [UInt8.toNat_ofNat']
  omega
def low (n : Nat) : UInt8 := UInt8.ofNat n
theorem low_toNat (n : Nat) (h : n < 256) : (low n).toNat = n := by
  unfold low
  rw [UInt8.toNat_ofNat']
  omega

def encF : Nat → Nat → List UInt8
  | 0, n => [low n]
  | k + 1, n => if n < 128 then [low n] else mid n :: encF k (n / 128)
/-- The bytes of a number. -/
def enc (n : Nat) : List UInt8 := encF 9 n

/-- A writer in block p, whose one cell is the slice v, of bytes l. -/
def Wr (w : World) (p : Nat) (v : Value) (l : List UInt8) : Prop := Box w p 45 #[v] ∧ By w v l

/-- Behind a call on a writer: it has bytes l' now; nothing but its own blocks has turned, and its row is the one that it was, or new. -/
def Put (w : World) (p : Nat) (v : Value) (w' : World) (v' : Value) (l' : List UInt8) : Prop :=
  Wr w' p v' l' ∧ Turn (fun k => k = p ∨ v.ownBlock = some k) w w' ∧ (v'.ownBlock = v.ownBlock ∨ ∀ k, v'.ownBlock = some k → w.heap.size ≤ k)

theorem Put.refl {w : World} {p : Nat} {v : Value} {l : List UInt8} (h : Wr w p v l) : Put w p v w v l := ⟨h, Turn.refl _ _, .inl rfl⟩

theorem Put.trans {a b c : World} {p : Nat} {v u s : Value} {l m : List UInt8} (h : Put a p v b u l) (g : Put b p u c s m) : Put a p v c s m := by
  obtain ⟨_, t1, m1⟩ := h
  obtain ⟨w2, t2, m2⟩ := g
  refine ⟨w2, t1.trans t2 ?_, ?_⟩
  · rintro k hk (rfl | hu)
    · exact .inl rfl
    · rcases m1 with e | e
      · exact .inr (e ▸ hu)
      · exact absurd (e k hu) (by omega)
  · rcases m2 with e | e
    · rw [e]; exact m1
    · exact .inr fun k hk => Nat.le_trans t1.size (e k hk)

/-- One append, stored back into the writer's cell. -/
theorem put_step0 {w w1 : World} {p : Nat} {u : Value} {acc news : List UInt8} {A : Option Addr} {n c : Nat} (h : Wr w p u acc) (hby : By w1 (.slice A n c) (acc ++ news))
    (hg : w.grownBy w1 u.ownBlock) (hat : (Value.slice A n c).ownBlock = u.ownBlock ∨ (Value.slice A n c).ownBlock = some w.heap.size) :
    Put w p u (w1.setCell ⟨p, 0, none⟩ (.slice A n c)) (.slice A n c) (acc ++ news) := by
  obtain ⟨hb, hu⟩ := h
  have hne : u.ownBlock ≠ some p := hu.ne_box hb (by decide)
  have hb1 : Box w1 p 45 #[u] := hb.grown hg (fun e => hne e.symm)
  have hne1 : (Value.slice A n c).ownBlock ≠ some p := hby.ne_box hb1 (by decide)
  have t1 : Turn (fun k => k = p ∨ u.ownBlock = some k) w w1 := (Turn.refl _ w).grown hg (fun k _ e => .inr e)
  refine ⟨⟨by simpa using hb1.set 0 (.slice A n c), ?_⟩, t1.setCell (p := ⟨p, 0, none⟩) (fun _ => .inl rfl) _, ?_⟩
  · exact hby.turn ((Turn.refl (fun k => k = p) w1).setCell (p := ⟨p, 0, none⟩) (fun _ => rfl) _) (fun k hk e => hne1 (by subst e; exact hk))
  · rcases hat with e | e
    · exact .inl e
    · refine .inr fun k hk => ?_
      rw [e] at hk
      simp at hk
      omega

theorem writer_far0 {w : World} {p : Nat} {u : Value} {acc : List UInt8} (h : Wr w p u acc) (w1 : World) (hg : w.grownBy w1 u.ownBlock) :
    w1.cell? ⟨p, 0, none⟩ = some u ∧ w1.frozen? ⟨p, 0, none⟩ = false := by
  have hb1 : Box w1 p 45 #[u] := h.1.grown hg (fun e => h.2.ne_box h.1 (by decide) e.symm)
  exact ⟨hb1.cell 0, hb1.free 0⟩

/-- One append, stored back into the writer's cell. -/
theorem put_step {w w1 : World} {p : Nat} {u : Value} {acc news : List UInt8} {A : Option Addr} {n c : Nat} {o : Obj} (h : Wr w p u acc) (hby : By w1 (.slice A n c) (acc ++ news))
    (hg : (w.alloc o).grownBy w1 u.ownBlock) (hat : (Value.slice A n c).ownBlock = u.ownBlock ∨ (Value.slice A n c).ownBlock = some (w.heap.size + 1)) :
    Put w p u (w1.setCell ⟨p, 0, none⟩ (.slice A n c)) (.slice A n c) (acc ++ news) := by
  obtain ⟨hb, hu⟩ := h
  have hne : u.ownBlock ≠ some p := hu.ne_box hb (by decide)
  have hb1 : Box w1 p 45 #[u] := (hb.alloc o).grown hg (fun e => hne e.symm)
  have hne1 : (Value.slice A n c).ownBlock ≠ some p := hby.ne_box hb1 (by decide)
  have t1 : Turn (fun k => k = p ∨ u.ownBlock = some k) w w1 := ((Turn.refl _ w).alloc o).grown hg (fun k _ e => .inr e)
  refine ⟨⟨by simpa using hb1.set 0 (.slice A n c), ?_⟩, t1.setCell (p := ⟨p, 0, none⟩) (fun _ => .inl rfl) _, ?_⟩
  · exact hby.turn ((Turn.refl (fun k => k = p) w1).setCell (p := ⟨p, 0, none⟩) (fun _ => rfl) _) (fun k hk e => hne1 (by subst e; exact hk))
  · rcases hat with e | e
    · exact .inl e
    · refine .inr fun k hk => ?_
      rw [e] at hk
      simp at hk
      omega

theorem writer_far {w : World} {p : Nat} {u : Value} {acc : List UInt8} (h : Wr w p u acc) (w1 : World) (hw : ∃ o, (w.alloc o).grownBy w1 u.ownBlock) :
    w1.cell? ⟨p, 0, none⟩ = some u ∧ w1.frozen? ⟨p, 0, none⟩ = false := by
  obtain ⟨o, hg⟩ := hw
  have hb1 : Box w1 p 45 #[u] := (h.1.alloc o).grown hg (fun e => h.2.ne_box h.1 (by decide) e.symm)
  exact ⟨hb1.cell 0, hb1.free 0⟩

def NumRel (p : Nat) (v : Value) (l : List UInt8) (n : Nat) (w : World) (m : Value) (wr : World) (k r : Nat) (u : Value) (acc : List UInt8) : Prop :=
  m = .int .u64 r ∧ r < 128 ^ (k + 1) ∧ k ≤ 9 ∧ acc.length + k ≤ l.length + 9 ∧ acc ++ encF k r = l ++ enc n ∧ Put w p v wr u acc

theorem num_bound (n : Nat) (hn : Hid (n < 18446744073709551616)) : n < 128 ^ (9 + 1) := by
  have h : n < 18446744073709551616 := hn
  omega

theorem num_start (p : Nat) (v : Value) (l : List UInt8) (n : Nat) (w : World) (hw : Wr w p v l) (hn : Hid (n < 18446744073709551616)) : NumRel p v l n w (.int .u64 n) w 9 n v l := by
  unfold NumRel enc
  exact ⟨rfl, num_bound n hn, Nat.le_refl _, Nat.le_refl _, rfl, Put.refl hw⟩

theorem or_128 (r : Nat) : bits BinOp.or IntKind.u8 ((r : Int) % 256) 128 = ((mid r).toNat : Int) := by
  have h1 : ((r : Int) % 256) = ((r % 256 : Nat) : Int) := by omega
  have h := u8_or_nat (r % 256) 128 (by omega) (by omega)
  rw [h1]
  refine h.trans ?_
  have e : r % 256 ||| 128 = r % 128 + 128 := by
    have : ∀ x : Fin 256, x.val ||| 128 = x.val % 128 + 128 := by decide +kernel
    have := this ⟨r % 256, by omega⟩
    simp only at this
    rw [this]
    omega
  rw [e, mid_toNat]

theorem num_last {p : Nat} {v : Value} {l : List UInt8} {n : Nat} {w wr w1 : World} {k r : Nat} {u : Value} {acc : List UInt8} {A : Option Addr} {m c : Nat} {o : Obj} (h : r < 128)
    (henc : acc ++ encF k r = l ++ enc n) (hput : Put w p v wr u acc) (hby : By w1 (.slice A m c) (acc ++ [low r])) (hg : (wr.alloc o).grownBy w1 u.ownBlock)
    (hat : (Value.slice A m c).ownBlock = u.ownBlock ∨ (Value.slice A m c).ownBlock = some (wr.heap.size + 1)) :
    ∃ v', Put w p v (w1.setCell ⟨p, 0, none⟩ (.slice A m c)) v' (l ++ enc n) := by
  have h2 := hput.trans (put_step hput.1 hby hg hat)
  have e : encF k r = [low r] := by
    cases k with
    | zero => rfl
    | succ k => simp [encF, h]
  rw [e] at henc
  rw [← henc]
  exact ⟨_, h2⟩

theorem num_round {p : Nat} {v : Value} {l : List UInt8} {n : Nat} {w wr w1 : World} {k r : Nat} {u : Value} {acc : List UInt8} {A : Option Addr} {m c : Nat} {o : Obj} (h : ¬ r < 128)
    (hr : r < 128 ^ (k + 1)) (hk : k ≤ 9) (hlen : acc.length + k ≤ l.length + 9)
    (henc : acc ++ encF k r = l ++ enc n) (hput : Put w p v wr u acc) (hby : By w1 (.slice A m c) (acc ++ [mid r])) (hg : (wr.alloc o).grownBy w1 u.ownBlock)
    (hat : (Value.slice A m c).ownBlock = u.ownBlock ∨ (Value.slice A m c).ownBlock = some (wr.heap.size + 1)) :
    ∃ k' r' u' acc', NumRel p v l n w (.int .u64 ((r : Int) / 128)) (w1.setCell ⟨p, 0, none⟩ (.slice A m c)) k' r' u' acc' := by
  cases k with
  | zero => exact absurd hr (by simp; omega)
  | succ k =>
    refine ⟨k, r / 128, _, _, ?_, ?_, by omega, ?_, ?_, hput.trans (put_step hput.1 hby hg hat)⟩
    · congr 1
    · rw [Nat.div_lt_iff_lt_mul (by omega)]
      rw [Nat.pow_succ] at hr
      exact hr
    · simp only [List.length_append, List.length_cons, List.length_nil]; omega
    · rw [← henc]
      simp [encF, h]

set_option maxRecDepth 100000 in
set_option maxHeartbeats 400000 in
theorem num_put (p : Nat) (v : Value) (l : List UInt8) (n : Nat) (w : World) (hw : Wr w p v l) (hn : Hid (n < 18446744073709551616)) (hl : l.length ≤ 1000000) :
    Calls Try.prog 21 #[.pointer (some ⟨p, 0, none⟩), .int .u64 n] w fun e w' => e = .returned (.pointer (some ⟨p, 0, none⟩)) ∧
      ∃ v', Put w p v w' v' (l ++ enc n) := by
  go_enter Try.func21, Try.ntmps21
  go_wp2
  go_loopw [1] (fun m wr => ∃ (k r : Nat) (u : Value) (acc : List UInt8), NumRel p v l n w m wr k r u acc) (fun m _ => (intOf m).toNat)
  case atStart => exact ⟨_, _, _, _, num_start p v l n w hw hn⟩
  case round =>
    obtain ⟨k, r, u, acc, rfl, hr, hk, hlen, henc, hput⟩ := hrel
    have hc : wr.cell? ⟨p, 0, none⟩ = some u := hput.1.1.cell 0
    have hf : wr.frozen? ⟨p, 0, none⟩ = false := hput.1.1.free 0
    have hor := or_128 r
    have HR := Lib.hid hr; clear hr
    have HE := Lib.hid henc; clear henc
    have HW := Lib.hid hput; clear hput
    have HL := Lib.hid hlen; clear hlen
    have hfar : ∀ w1 : World, (∃ o, (wr.alloc o).grownBy w1 u.ownBlock) → w1.cell? ⟨p, 0, none⟩ = some u ∧ w1.frozen? ⟨p, 0, none⟩ = false := writer_far HW.out.1
    have HF := Lib.hid hfar; clear hfar
    by_cases h128 : r < 128
    · go_wp2_with (at_builtin; go_must (refine wpList_app _ rfl _ _ _ rfl u acc rfl (HW.out.1.2.alloc _) _ rfl [low r] (yields_one wr _ _ (by rw [low_toNat r (by omega)])) (by have := HL.out; simp; omega) ?_))
      intro A m c w1 hby hg hat
      have hc1 := (HF.out w1 ⟨_, hg⟩).1
      have hf1 := (HF.out w1 ⟨_, hg⟩).2
      have HB := Lib.hid (num_last h128 HE.out HW.out hby hg hat); clear hby hg hat
      go_wp2
      go_ret
      exact ⟨rfl, HB.out⟩
    · go_wp2_with (at_builtin; go_must (refine wpList_app _ rfl _ _ _ rfl u acc rfl (HW.out.1.2.alloc _) _ rfl [mid r] (yields_one wr _ _ rfl) (by have := HL.out; simp; omega) ?_))
      intro A m c w1 hby hg hat
      have hc1 := (HF.out w1 ⟨_, hg⟩).1
      have hf1 := (HF.out w1 ⟨_, hg⟩).2
      have HB := Lib.hid (num_round h128 HR.out hk HL.out HE.out HW.out hby hg hat); clear hby hg hat
      go_wp2
      go_roundw
      case rel => exact HB.out
      case measure => simp [intOf]; omega
end Go.Proofs.Ytieffpngknglpaa
