/-
  The chapter's example: what must come at any rate.
-/
import Derived.Test.YtjanmiafnldkgaaOk
namespace Go.Proofs.Ytjanmiafnldkgaa
open Go.RowKit

def demo : List UInt8 := [172, 2, 1, 2, 97, 98]
theorem demo_eq : ([] ++ enc 300) ++ enc (zig (-1)) ++ (enc (ByteArray.mk #[97, 98]).size ++ (ByteArray.mk #[97, 98]).data.toList) = demo := by decide +kernel
theorem demo_num : rdNum (demo.drop 0) = (300, 0, 2) := by decide +kernel

theorem By.at {w : World} {v : Value} {l : List UInt8} (h : By w v l) (hl : 0 < l.length) : ∃ g c, v = .slice (some ⟨g, 0, none⟩) l.length c ∧ l.length ≤ c ∧ ∀ j b, l[j]? = some b → w.cell? ⟨g, j, none⟩ = some (.int .u8 (b.toNat : Int)) := by
  rcases h.form with ⟨_, rfl⟩ | ⟨g, cap, cur, rfl, hb, h1, _⟩
  · exact absurd hl (by simp)
  · refine ⟨g, cap, rfl, h1, fun j b hj => ?_⟩
    have := World.ownsRow.cells h (g := g) rfl j (bv b) (by simp [hj])
    have e : (⟨g, 0, none⟩ : Addr).add j = ⟨g, j, none⟩ := by unfold Addr.add; split <;> simp_all
    rw [e] at this
    exact this

theorem Wr.new (w : World) : Wr (w.alloc (.cells #[.slice none 0 0] 26)) w.heap.size (.slice none 0 0) [] := ⟨Box.new _ _ _, By.nil _⟩

theorem hid_int (n : Int) (h : -1000000 ≤ n) (h2 : n ≤ 1000000) : Hid (-9223372036854775808 ≤ n) ∧ Hid (n ≤ 9223372036854775807) := by
  constructor
  · show -9223372036854775808 ≤ n
    omega
  · show n ≤ 9223372036854775807
    omega

theorem Wr.turn {w w' : World} {p : Nat} {v : Value} {l : List UInt8} {S : Nat → Prop} (h : Wr w p v l) (ht : Turn S w w') (h1 : ¬ S p) (h2 : ∀ g, v.ownBlock = some g → ¬ S g) : Wr w' p v l :=
  ⟨h.1.turn ht h1, h.2.turn ht h2⟩

/-- A call that turns only what is new since w. -/
theorem Turn.fresh {S : Nat → Prop} {w w1 w2 : World} (h : Turn (fun _ => False) w w1) (g : Turn S w1 w2) (hs : ∀ k, S k → w.heap.size ≤ k) : Turn (fun _ => False) w w2 :=
  h.trans g (fun k hk s => by have := hs k s; omega)

/-- A writer of the call's own, made since w. -/
def Own (w w1 : World) (p : Nat) (v : Value) (l : List UInt8) : Prop := Wr w1 p v l ∧ Turn (fun _ => False) w w1 ∧ w.heap.size ≤ p ∧ ∀ k, v.ownBlock = some k → w.heap.size ≤ k

theorem Own.put {w w1 w2 : World} {p : Nat} {v u : Value} {l m : List UInt8} (h : Own w w1 p v l) (g : Put w1 p v w2 u m) : Own w w2 p u m := by
  obtain ⟨_, ht, hp, hv⟩ := h
  obtain ⟨hw, gt, gm⟩ := g
  refine ⟨hw, ht.fresh gt ?_, hp, ?_⟩
  · rintro k (rfl | hk)
    · exact hp
    · exact hv k hk
  · intro k hk
    rcases gm with e | e
    · exact hv k (e ▸ hk)
    · have := ht.size
      have := e k hk
      omega

theorem Own.later {w w1 w2 : World} {p : Nat} {v : Value} {l : List UInt8} (h : Own w w1 p v l) (g : Turn (fun _ => False) w1 w2) : Own w w2 p v l :=
  ⟨h.1.turn g (fun f => f) (fun _ _ f => f), h.2.1.fresh g (fun _ f => f.elim), h.2.2⟩

theorem Own.new (w : World) : Own w (w.alloc (.cells #[.slice none 0 0] 26)) w.heap.size (.slice none 0 0) [] :=
  ⟨Wr.new w, (Turn.refl _ w).alloc _, Nat.le_refl _, fun k h => by cases h⟩

set_option maxRecDepth 100000 in
set_option maxHeartbeats 1000000 in
theorem alive_any (w : World) : Calls Try.prog 12 #[] w fun e w' => e = .returned (.bool true) ∧ Turn (fun _ => False) w w' := by
  have H0 := Lib.hid (Own.new w)
  go_enter Try.func12, Try.ntmps12
  go_wp2_with (first
    | (go_at_call 9; refine (num_put w.heap.size _ [] 300 _ H0.out.1 (hid_small 300 (by omega)) (by simp)).mono ?_; rintro e w1 ⟨rfl, u1, h⟩; have H1 := Lib.hid (H0.out.put h); clear h)
    | (go_at_call 13; refine (int_put w.heap.size u1 _ (-1) w1 H1.out.1 (hid_int (-1) (by omega) (by omega)).1 (hid_int (-1) (by omega) (by omega)).2 (by have := enc_len 300; simp; omega)).mono ?_; rintro e w2 ⟨rfl, u2, h⟩; have H2 := Lib.hid (H1.out.put h); clear h)
    | (go_at_call 29; refine (text_put w.heap.size u2 _ ⟨#[97, 98]⟩ w2 H2.out.1 (by decide) (by have := enc_len 300; have := enc_len (zig (-1)); simp; omega)).mono ?_; rintro e w3 ⟨rfl, u3, h⟩; have H3 := Lib.hid (demo_eq ▸ H2.out.put h); clear h)
    | (go_at_call 10; refine (bytes_any w.heap.size u3 demo w3 H3.out.1 (by decide)).mono ?_; rintro e w4 ⟨v4, rfl, hb, ht, hk⟩; obtain ⟨g, c, hv, hcap, hcell⟩ := hb.at (by decide); subst hv; have c0 : w4.cell? ⟨g, 0, none⟩ = some (.int .u8 172) := hcell 0 _ rfl; have c1 : w4.cell? ⟨g, 1, none⟩ = some (.int .u8 2) := hcell 1 _ rfl; have c2 : w4.cell? ⟨g, 2, none⟩ = some (.int .u8 1) := hcell 2 _ rfl; have c3 : w4.cell? ⟨g, 3, none⟩ = some (.int .u8 2) := hcell 3 _ rfl; have c5 : w4.cell? ⟨g, 5, none⟩ = some (.int .u8 98) := hcell 5 _ rfl; clear hcell hcap hk; have H4 := Lib.hid (H3.out.later ht); have HB := Lib.hid hb; clear ht hb)
    | (go_at_call 18; refine (len_any w.heap.size u3 demo w4 H4.out.1).mono ?_; rintro e w5 ⟨rfl, rfl⟩)
    | (go_at_call 19; refine (new_reader _ demo w4 HB.out.rd (by decide)).mono ?_; rintro e w5 ⟨q, u5, rfl, hr, ht, hq, _⟩; have HR := Lib.hid hr; have HT := Lib.hid (H4.out.2.1.fresh ht (fun _ f => f.elim)); have HQ := Lib.hid (Nat.le_trans H4.out.2.1.size hq); clear hr ht hq)
    | (go_at_call 20; refine (rnum q u5 demo 0 0 w5 HR.out).mono ?_; intro e w6 hg; obtain ⟨rfl, hm⟩ := got_ok hg ⟨rfl, by rw [demo_num]⟩; have HM := Lib.hid hm; clear hm hg; rw [demo_num]))
  go_ret
  exact ⟨rfl, HT.out.fresh HM.out.2 (fun k e => by rw [e]; exact HQ.out)⟩

end Go.Proofs.Ytjanmiafnldkgaa
