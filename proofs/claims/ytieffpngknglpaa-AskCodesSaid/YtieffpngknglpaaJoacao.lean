/-
  Texts laid one behind the other: Ol Ra.
-/
import Derived.Test.YtieffpngknglpaaJoacan

/-
  The chapter's example: what must come at any rate.
-/
namespace Go.Proofs.Ytieffpngknglpaa
open Go.RowKit

def demo1 : List UInt8 := [172, 2, 1, 2, 97, 98]
theorem demo1_eq : ([] ++ enc 300) ++ enc (zig (-1)) ++ (enc (ByteArray.mk #[97, 98]).size ++ (ByteArray.mk #[97, 98]).data.toList) = demo1 := by decide +kernel
theorem demo1_num : rdNum (demo1.drop 0) = (300, 0, 2) := by decide +kernel

theorem By.at {w : World} {v : Value} {l : List UInt8} (h : By w v l) (hl : 0 < l.length) : ∃ g c, v = .slice (some ⟨g, 0, none⟩) l.length c ∧ l.length ≤ c ∧ ∀ j b, l[j]? = some b → w.cell? ⟨g, j, none⟩ = some (.int .u8 (b.toNat : Int)) := by
  rcases h.form with ⟨_, rfl⟩ | ⟨g, cap, cur, rfl, hb, h1, _⟩
  · exact absurd hl (by simp)
  · refine ⟨g, cap, rfl, h1, fun j b hj => ?_⟩
    have := World.ownsRow.cells h (g := g) rfl j (bv b) (by simp [hj])
    have e : (⟨g, 0, none⟩ : Addr).add j = ⟨g, j, none⟩ := by unfold Addr.add; split <;> simp_all
    rw [e] at this
    exact this

theorem Wr.new (w : World) : Wr (w.alloc (.cells #[.slice none 0 0] 45)) w.heap.size (.slice none 0 0) [] := ⟨Box.new _ _ _, By.nil _⟩

theorem hid_int (n : Int) (h : -1000000 ≤ n) (h2 : n ≤ 1000000) : Hid (-9223372036854775808 ≤ n) ∧ Hid (n ≤ 9223372036854775807) := by
  constructor
  · show -9223372036854775808 ≤ n
    omega
  · show n ≤ 9223372036854775807
    omega

theorem Wr.turn {w w' : World} {p : Nat} {v : Value} {l : List UInt8} {S : Nat → Prop} (h : Wr w p v l) (ht : Turn S w w') (h1 : ¬ S p) (h2 : ∀ g, v.ownBlock = some g → ¬ S g) : Wr w' p v l :=
  ⟨h.1.turn ht h1, h.2.turn ht h2⟩

/-- A writer of the call's own, made since w. -/
def Own (w w1 : World) (p : Nat) (v : Value) (l : List UInt8) : Prop := Wr w1 p v l ∧ Turn (fun _ => False) w w1 ∧ w.heap.size ≤ p ∧ ∀ k, v.ownBlock = some k → w.heap.size ≤ k

theorem Own.put {w w1 w2 : World} {p : Nat} {v u : Value} {l m : List UInt8} (h : Own w w1 p v l) (g : Put w1 p v w2 u m) : Own w w2 p u m := by
  obtain ⟨_, ht, hp, hv⟩ := h
  obtain ⟨hw, gt, gm⟩ := g
  refine ⟨hw, ht.fresh gt ?_, hp, ?_⟩
  · rintro k (rfl | hk)
    · exact hp
    · exact hv k hk
  · intro k hk
    rcases gm with e | e
    · exact hv k (e ▸ hk)
    · have := ht.size
      have := e k hk
      omega

theorem Own.later {w w1 w2 : World} {p : Nat} {v : Value} {l : List UInt8} (h : Own w w1 p v l) (g : Turn (fun _ => False) w1 w2) : Own w w2 p v l :=
  ⟨h.1.turn g (fun f => f) (fun _ _ f => f), h.2.1.fresh g (fun _ f => f.elim), h.2.2⟩

theorem Own.new (w : World) : Own w (w.alloc (.cells #[.slice none 0 0] 45)) w.heap.size (.slice none 0 0) [] :=
  ⟨Wr.new w, (Turn.refl _ w).alloc _, Nat.le_refl _, fun k h => by cases h⟩

end Go.Proofs.Ytieffpngknglpaa

/-
  The document's own reader: its next byte, and that it is no such thing.
-/
namespace Go.Proofs.Ytieffpngknglpaa
open Go.RowKit

/-- The document's reader in block q: of bytes m that are left, in the slice u, with fault f. -/
def XRd (w : World) (q B : Nat) (A : Option Addr) (c : Nat) (m : List UInt8) (f : Nat) : Prop :=
  Box w q 64 #[.slice A m.length c, .int .i64 f] ∧ Rd w (.slice A m.length c) m ∧ ((∀ g, (Value.slice A m.length c).ownBlock = some g → g = B) ∧ B ≠ q) ∧ m.length ≤ c ∧ c ≤ maxLen

/-- Behind a call on it. -/
def XM (w : World) (q B : Nat) (w' : World) (m : List UInt8) (f : Nat) : Prop := (∃ A c, XRd w' q B A c m f) ∧ Turn (fun g => g = q) w w'

theorem XM.refl {w : World} {q B : Nat} {A : Option Addr} {c : Nat} {m : List UInt8} {f : Nat} (h : XRd w q B A c m f) : XM w q B w m f := ⟨⟨_, _, h⟩, Turn.refl _ _⟩
theorem XM.trans {a b c : World} {q B : Nat} {m m' : List UInt8} {f f' : Nat} (h : XM a q B b m f) (g : XM b q B c m' f') : XM a q B c m' f' := ⟨g.1, h.2.trans g.2 (fun _ _ t => t)⟩

theorem XRd.fault {w : World} {q B : Nat} {A : Option Addr} {c : Nat} {m : List UInt8} {f : Nat} (h : XRd w q B A c m f) (g : Int) (f' : Nat) (hg : g = f') : XM w q B (w.setCell ⟨q, 1, none⟩ (.int .i64 g)) m f' := by
  subst hg
  obtain ⟨hb, hr, hn, hc⟩ := h
  have t : Turn (fun k => k = q) w (w.setCell ⟨q, 1, none⟩ (.int .i64 f')) := (Turn.refl (fun k => k = q) w).setCell (p := ⟨q, 1, none⟩) (fun _ => rfl) _
  exact ⟨⟨A, c, by simpa using hb.set 1 (.int .i64 (f' : Int)), hr.turn t (fun k hk e => hn.2 ((hn.1 k hk).symm.trans e)), hn, hc⟩, t⟩

/-- The first n bytes. -/
theorem XRd.front {w : World} {q B : Nat} {A : Option Addr} {c : Nat} {m : List UInt8} {f : Nat} (h : XRd w q B A c m f) (n : Nat) (hn : n ≤ m.length) : Rd w (.slice A n c) (m.take n) := by
  exact h.2.1.front n hn

/-- The first n bytes cut off. -/
theorem XRd.cut {w : World} {q B : Nat} {A : Option Addr} {c : Nat} {m : List UInt8} {f : Nat} (h : XRd w q B A c m f) (n : Nat) (hn : n ≤ m.length) (D : Option Addr) (hD : D = if c = n then A else A.map fun x => x.add n) :
    XM w q B (w.setCell ⟨q, 0, none⟩ (.slice D (m.length - n) (c - n))) (m.drop n) f := by
  subst hD
  obtain ⟨hb, hr, hne, hc, hm⟩ := h
  have hl : (m.drop n).length = m.length - n := List.length_drop
  have t : Turn (fun k => k = q) w (w.setCell ⟨q, 0, none⟩ (.slice (if c = n then A else A.map fun x => x.add n) (m.length - n) (c - n))) := (Turn.refl (fun k => k = q) w).setCell (p := ⟨q, 0, none⟩) (fun _ => rfl) _
  have hr' : Rd _ (.slice A m.length c) m := hr.turn t (fun k hk e => hne.2 ((hne.1 k hk).symm.trans e))
  refine ⟨⟨(if c = n then A else A.map fun x => x.add n), c - n, ?_, ?_, ?_, by omega, by omega⟩, t⟩
  · rw [hl]
    simpa using hb.set 0 (.slice (if c = n then A else A.map fun x => x.add n) (m.length - n) (c - n))
  · rw [hl]
    obtain ⟨A', c', e, _, h1, h2⟩ := hr'
    injection e with e1 e2 e3
    subst e1 e3
    by_cases hcn : c = n
    · have e0 : m.drop n = [] := List.drop_eq_nil_of_le (by omega)
      have e4 : m.length - n = 0 := by omega
      rw [e0, e4]
      refine ⟨_, c - n, rfl, ⟨Nat.zero_le _, by omega⟩, fun _ => ⟨rfl, by omega⟩, fun _ _ j b hj => by simp at hj⟩
    · rw [if_neg hcn] at h2 ⊢
      refine ⟨_, c - n, by rw [hl], ⟨by omega, by omega⟩, fun e => ?_, fun ad had j b hj => ?_⟩
      · have h5 : A = none := by simpa using e
        obtain ⟨h6, h7⟩ := h1 h5
        subst h6
        exact ⟨by simp, by omega⟩
      · obtain ⟨ad0, h5, rfl⟩ := Option.map_eq_some_iff.1 had
        rw [add_of_add]
        exact h2 ad0 h5 (n + j) b (by rw [List.getElem?_drop] at hj; exact hj)
  · rw [hl]
    refine ⟨fun g hg => ?_, hne.2⟩
    cases A with
    | none =>
      have : (Value.slice (if c = n then (none : Option Addr) else Option.map (fun x : Addr => x.add n) none) (m.length - n) (c - n)).ownBlock = none := by split <;> rfl
      rw [this] at hg
      cases hg
    | some a =>
      have : (Value.slice (if c = n then some a else Option.map (fun x : Addr => x.add n) (some a)) (m.length - n) (c - n)).ownBlock = some a.block := by
        split
        · rfl
        · simp [Value.ownBlock, add_block]
      rw [this] at hg
      exact hne.1 g hg

set_option maxRecDepth 100000 in
set_option maxHeartbeats 400000 in
theorem xbad_any (q B : Nat) (A : Option Addr) (c : Nat) (m : List UInt8) (w : World) (h : XRd w q B A c m 0) :
    Calls Try.prog 46 #[.pointer (some ⟨q, 0, none⟩)] w fun e w' => e = .returned (.tuple #[]) ∧ XM w q B w' m 4 := by
  have c1 : w.cell? ⟨q, 1, none⟩ = some (.int .i64 0) := h.1.cell 1
  have f1 : w.frozen? ⟨q, 1, none⟩ = false := h.1.free 1
  have HB := Lib.hid (h.fault 4 4 rfl)
  clear h
  go_enter Try.func46, Try.ntmps46
  go_wp2
  go_end0
  exact ⟨rfl, HB.out⟩

set_option maxRecDepth 100000 in
set_option maxHeartbeats 400000 in
theorem xone_bad (q B : Nat) (A : Option Addr) (c : Nat) (m : List UInt8) (f : Nat) (hf : f ≠ 0) (w : World) (h : XRd w q B A c m f) :
    Calls Try.prog 45 #[.pointer (some ⟨q, 0, none⟩)] w fun e w' => e = .returned (.int .i64 0) ∧ w = w' := by
  have c1 : w.cell? ⟨q, 1, none⟩ = some (.int .i64 f) := h.1.cell 1
  have hf2 : (((f : Int) == 0) = false) := by rw [beq_eq_false_iff_ne]; omega
  have hf3 : (((f : Int) != 0) = true) := by rw [bne_iff_ne]; omega
  clear h hf
  go_enter Try.func45, Try.ntmps45
  go_wp2
  go_ret
  exact ⟨rfl, rfl⟩

set_option maxRecDepth 100000 in
set_option maxHeartbeats 400000 in
theorem xone_none (q B : Nat) (A : Option Addr) (c : Nat) (w : World) (h : XRd w q B A c [] 0) :
    Calls Try.prog 45 #[.pointer (some ⟨q, 0, none⟩)] w fun e w' => e = .returned (.int .i64 0) ∧ XM w q B w' [] 3 := by
  have c0 : w.cell? ⟨q, 0, none⟩ = some (.slice A 0 c) := h.1.cell 0
  have c1 : w.cell? ⟨q, 1, none⟩ = some (.int .i64 0) := h.1.cell 1
  have f1 : w.frozen? ⟨q, 1, none⟩ = false := h.1.free 1
  have HB := Lib.hid (h.fault 3 3 rfl)
  clear h
  go_enter Try.func45, Try.ntmps45
  go_wp2
  go_ret
  exact ⟨rfl, HB.out⟩

set_option maxRecDepth 100000 in
set_option maxHeartbeats 400000 in
theorem xone_some (q B : Nat) (A : Option Addr) (c : Nat) (b : UInt8) (m : List UInt8) (w : World) (h : XRd w q B A c (b :: m) 0) :
    Calls Try.prog 45 #[.pointer (some ⟨q, 0, none⟩)] w fun e w' => e = .returned (.int .i64 (b.toNat : Int)) ∧ XM w q B w' m 0 := by
  have c0 : w.cell? ⟨q, 0, none⟩ = some (.slice A (m.length + 1) c) := h.1.cell 0
  have f0 : w.frozen? ⟨q, 0, none⟩ = false := h.1.free 0
  have c1 : w.cell? ⟨q, 1, none⟩ = some (.int .i64 0) := h.1.cell 1
  have hlen : m.length + 1 ≤ c := h.2.2.2.1
  have hmax : c ≤ 9223372036854775807 := by have := h.2.2.2.2; unfold maxLen at this; omega
  have hbyte : b.toNat < 256 := UInt8.toNat_lt b
  obtain ⟨ad, hA, hcell⟩ : ∃ ad, A = some ad ∧ w.cell? ad = some (.int .u8 (b.toNat : Int)) := by
    obtain ⟨A', c', e, _, h1, h2⟩ := h.2.1
    injection e with e1 e2 e3
    subst e1
    cases A with
    | none => exact absurd (h1 rfl).1 (by simp)
    | some ad =>
      refine ⟨ad, rfl, ?_⟩
      have := h2 ad rfl 0 b rfl
      rwa [show ad.add 0 = ad by simp [Addr.add]] at this
  have HC := Lib.hid (h.cut 1 (by simp) _ rfl)
  clear h
  subst hA
  obtain ⟨x, hx⟩ : ∃ x : Nat, x = b.toNat := ⟨_, rfl⟩
  rw [← hx] at hcell hbyte ⊢
  clear hx
  by_cases hc1 : c = 1
  · subst hc1
    have hm0 : m.length = 0 := by omega
    go_enter Try.func45, Try.ntmps45
    go_wp2
    go_ret
    refine ⟨rfl, ?_⟩
    have := HC.out
    simpa [hm0] using this
  · go_enter Try.func45, Try.ntmps45
    go_wp2
    go_ret
    refine ⟨rfl, ?_⟩
    have := HC.out
    simpa [hc1, Addr.add] using this

end Go.Proofs.Ytieffpngknglpaa
