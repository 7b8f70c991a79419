
/-
  The chapter's example: what must come at any rate.
-/
import Derived.Test.YtieffpngknglpaaOk
namespace Go.Proofs.Ytieffpngknglpaa
open Go.RowKit

def demo1 : List UInt8 := [172, 2, 1, 2, 97, 98]
theorem demo1_eq : ([] ++ enc 300) ++ enc (zig (-1)) ++ (enc (ByteArray.mk #[97, 98]).size ++ (ByteArray.mk #[97, 98]).data.toList) = demo1 := by decide +kernel
theorem demo1_num : rdNum (demo1.drop 0) = (300, 0, 2) := by decide +kernel

theorem By.at {w : World} {v : Value} {l : List UInt8} (h : By w v l) (hl : 0 < l.length) : ∃ g c, v = .slice (some ⟨g, 0, none⟩) l.length c ∧ l.length ≤ c ∧ ∀ j b, l[j]? = some b → w.cell? ⟨g, j, none⟩ = some (.int .u8 (b.toNat : Int)) := by
  rcases h.form with ⟨_, rfl⟩ | ⟨g, cap, cur, rfl, hb, h1, _⟩
  · exact absurd hl (by simp)
  · refine ⟨g, cap, rfl, h1, fun j b hj => ?_⟩
    have := World.ownsRow.cells h (g := g) rfl j (bv b) (by simp [hj])
    have e : (⟨g, 0, none⟩ : Addr).add j = ⟨g, j, none⟩ := by unfold Addr.add; split <;> simp_all
    rw [e] at this
    exact this

theorem Wr.new (w : World) : Wr (w.alloc (.cells #[.slice none 0 0] 45)) w.heap.size (.slice none 0 0) [] := ⟨Box.new _ _ _, By.nil _⟩

theorem hid_int (n : Int) (h : -1000000 ≤ n) (h2 : n ≤ 1000000) : Hid (-9223372036854775808 ≤ n) ∧ Hid (n ≤ 9223372036854775807) := by
  constructor
  · show -9223372036854775808 ≤ n
    omega
  · show n ≤ 9223372036854775807
    omega

theorem Wr.turn {w w' : World} {p : Nat} {v : Value} {l : List UInt8} {S : Nat → Prop} (h : Wr w p v l) (ht : Turn S w w') (h1 : ¬ S p) (h2 : ∀ g, v.ownBlock = some g → ¬ S g) : Wr w' p v l :=
  ⟨h.1.turn ht h1, h.2.turn ht h2⟩

/-- A writer of the call's own, made since w. -/
def Own (w w1 : World) (p : Nat) (v : Value) (l : List UInt8) : Prop := Wr w1 p v l ∧ Turn (fun _ => False) w w1 ∧ w.heap.size ≤ p ∧ ∀ k, v.ownBlock = some k → w.heap.size ≤ k

theorem Own.put {w w1 w2 : World} {p : Nat} {v u : Value} {l m : List UInt8} (h : Own w w1 p v l) (g : Put w1 p v w2 u m) : Own w w2 p u m := by
  obtain ⟨_, ht, hp, hv⟩ := h
  obtain ⟨hw, gt, gm⟩ := g
  refine ⟨hw, ht.fresh gt ?_, hp, ?_⟩
  · rintro k (rfl | hk)
    · exact hp
    · exact hv k hk
  · intro k hk
    rcases gm with e | e
    · exact hv k (e ▸ hk)
    · have := ht.size
      have := e k hk
      omega

theorem Own.later {w w1 w2 : World} {p : Nat} {v : Value} {l : List UInt8} (h : Own w w1 p v l) (g : Turn (fun _ => False) w1 w2) : Own w w2 p v l :=
  ⟨h.1.turn g (fun f => f) (fun _ _ f => f), h.2.1.fresh g (fun _ f => f.elim), h.2.2⟩

theorem Own.new (w : World) : Own w (w.alloc (.cells #[.slice none 0 0] 45)) w.heap.size (.slice none 0 0) [] :=
  ⟨Wr.new w, (Turn.refl _ w).alloc _, Nat.le_refl _, fun k h => by cases h⟩

end Go.Proofs.Ytieffpngknglpaa
