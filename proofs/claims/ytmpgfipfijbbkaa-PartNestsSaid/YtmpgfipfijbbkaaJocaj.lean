/-
  Texts laid one behind the other: R3h R3v R3o.
-/
import Derived.Test.YtmpgfipfijbbkaaJocai
import Derived.Test.YtmpgfipfijbbkaaJocag
import Derived.Deep.Strs

/-
  Stage 19: PartNests over any program that answers as is asked.
-/
namespace Go.Proofs.Ytmpgfipfijbbkaa
open Go.RowKit

set_option maxRecDepth 100000

theorem laid19 (P : Prog19) (a : T19) (h : Int) : 0 ≤ h → h ≤ 16777216 → ∃ u v z : Int, Hid (∀ W, Calls Try.prog 9 #[.int .i64 1, .int .i64 h] W fun e w' => e = .returned (.tuple #[tv19 ⟨1, u⟩, .bool true]) ∧ Turn (fun _ => False) W w') ∧ Hid (∀ W, Calls Try.prog 9 #[.int .i64 2, .int .i64 h] W fun e w' => e = .returned (.tuple #[tv19 ⟨2, v⟩, .bool true]) ∧ Turn (fun _ => False) W w') ∧ Hid (∀ W, Calls Try.prog 9 #[.int .i64 3, .int .i64 h] W fun e w' => e = .returned (.tuple #[tv19 ⟨3, z⟩, .bool true]) ∧ Turn (fun _ => False) W w') ∧ Hid (∀ W, Calls Try.prog 16 #[tv19 ⟨1, u⟩, tv19 ⟨2, v⟩] W fun e w' => e = .returned (.bool true) ∧ Turn (fun _ => False) W w') ∧ Hid (∀ W, Calls Try.prog 16 #[tv19 ⟨2, v⟩, tv19 ⟨3, z⟩] W fun e w' => e = .returned (.bool true) ∧ Turn (fun _ => False) W w') ∧ Hid (∀ W, Calls Try.prog 13 #[tv19 ⟨1, u⟩, .int .i64 h] W fun e w' => e = .returned (.bool true) ∧ Turn (fun _ => False) W w') ∧ Hid (∀ W, Calls Try.prog 13 #[tv19 ⟨2, v⟩, .int .i64 h] W fun e w' => e = .returned (.bool true) ∧ Turn (fun _ => False) W w') ∧ Hid (∀ W, Calls Try.prog 13 #[tv19 ⟨3, z⟩, .int .i64 h] W fun e w' => e = .returned (.bool true) ∧ Turn (fun _ => False) W w') ∧ Hid (has19 a h = true → a = ⟨1, u⟩ ∨ a = ⟨2, v⟩ ∨ a = ⟨3, z⟩) ∧ Hid (∀ W, Calls Try.prog 18 #[tv19 ⟨1, u⟩, tv19 ⟨3, z⟩] W fun e w' => e = .returned (.bool true) ∧ Turn (fun _ => False) W w') := by
  intro h0 h1
  obtain ⟨N, rfl⟩ := Int.eq_ofNat_of_zero_le h0
  have hh : N ≤ 16777216 := by omega
  obtain ⟨o1, o2, o3⟩ := ofs19 hh
  obtain ⟨b1, b2, b3⟩ := has_all19 hh
  obtain ⟨c1, c2, -, c4⟩ := within_all19 hh
  refine ⟨_, _, _, fun W => ?_, fun W => ?_, fun W => ?_, fun W => ?_, fun W => ?_, fun W => ?_, fun W => ?_, fun W => ?_, fun e => has_is19 hh e, fun W => ?_⟩
  · have q := P.of 1 N W; unfold OfP19 at q; rw [o1] at q; exact q
  · have q := P.of 2 N W; unfold OfP19 at q; rw [o2] at q; exact q
  · have q := P.of 3 N W; unfold OfP19 at q; rw [o3] at q; exact q
  · have q := P.within (hr19 N) (dy19 N) W; rw [c1] at q; exact q
  · have q := P.within (dy19 N) (mn19 N) W; rw [c2] at q; exact q
  · have q := P.has (hr19 N) N W; rw [b1] at q; exact q
  · have q := P.has (dy19 N) N W; rw [b2] at q; exact q
  · have q := P.has (mn19 N) N W; rw [b3] at q; exact q
  · have q := P.meets (hr19 N) (mn19 N) W; rw [c4] at q; exact q

/-- What a drawn region leaves in slots that nobody reads is of no account. -/
def post19 (A : Value → Value → Value → Value → Value → Value → Value → Value → Value → Value → Value → Value → Value → Value → Value → Value → Value → Value → Value → Value → Value → Value → Value → Act) (R : World → Prop) : Exit → Act → World → Prop
  | .normal, a', w' => (∃ x13 x14 x15 x16 x17 x18 x19 x20 x21 x22 x23 x24 x25 x26 x27 x28 x29 x30 x31 x32 x33 x34 x35, a' = A x13 x14 x15 x16 x17 x18 x19 x20 x21 x22 x23 x24 x25 x26 x27 x28 x29 x30 x31 x32 x33 x34 x35) ∧ R w'
  | _, _, _ => False
theorem wp_abs19 {P : Program} {c : Code} {Q : Exit → Act → World → Prop} {a : Act} {w : World} (A : Value → Value → Value → Value → Value → Value → Value → Value → Value → Value → Value → Value → Value → Value → Value → Value → Value → Value → Value → Value → Value → Value → Value → Act) (R : World → Prop) (h : c.wp P (post19 A R) a w) (hq : ∀ x13 x14 x15 x16 x17 x18 x19 x20 x21 x22 x23 x24 x25 x26 x27 x28 x29 x30 x31 x32 x33 x34 x35 w', R w' → Q .normal (A x13 x14 x15 x16 x17 x18 x19 x20 x21 x22 x23 x24 x25 x26 x27 x28 x29 x30 x31 x32 x33 x34 x35) w') : c.wp P Q a w :=
  Code.wp_mono (fun e a' w' he => by
    cases e with
    | normal =>
      obtain ⟨⟨x13, x14, x15, x16, x17, x18, x19, x20, x21, x22, x23, x24, x25, x26, x27, x28, x29, x30, x31, x32, x33, x34, x35, rfl⟩, hr⟩ := he
      exact hq x13 x14 x15 x16 x17 x18 x19 x20 x21 x22 x23 x24 x25 x26 x27 x28 x29 x30 x31 x32 x33 x34 x35 w' hr
    | _ => exact he.elim) h

set_option maxHeartbeats 32000000 in
theorem nests_any19 (P : Prog19) (a b : T19) (h : Int) (w : World) : Calls Try.prog 6 #[tv19 a, tv19 b, .int .i64 h] w fun e w' => e = .returned (.bool true) ∧ Turn (fun _ => False) w w' := by
  obtain ⟨g, hg⟩ : ∃ g, g = w.heap.size := ⟨_, rfl⟩
  obtain ⟨k, hk⟩ : ∃ k, k = w.heap.size + 1 := ⟨_, rfl⟩
  obtain ⟨wb, hwb⟩ : ∃ wb, wb = (w.alloc (.cells (tcells19 a) 23)).alloc (.cells (tcells19 b) 23) := ⟨_, rfl⟩
  have HT : Hid (Turn (fun _ => False) w wb) := by rw [hwb]; exact ((Turn.refl _ w).alloc _).alloc _
  have HA : Hid (∀ W, Turn (fun _ => False) wb W → Box W g 23 (tcells19 a)) := fun W hW => (show Box wb g _ _ by rw [hwb, hg]; exact (Box.new w _ _).alloc _).turn hW (fun f => f)
  have HB : Hid (∀ W, Turn (fun _ => False) wb W → Box W k 23 (tcells19 b)) := fun W hW => (show Box wb k 23 (tcells19 b) by
    have h := Box.new (w.alloc (.cells (tcells19 a) 23)) 23 (tcells19 b)
    rw [World.size_alloc] at h
    rw [hwb, hk]
    exact h).turn hW (fun f => f)
  have HPM : Hid (∀ W, Calls Try.prog 18 #[tv19 a, tv19 b] W fun e w' => e = .returned (.bool (meets19 a b)) ∧ Turn (fun _ => False) W w') := fun W => P.meets a b W
  have HPN : Hid (∀ W, Calls Try.prog 18 #[tv19 b, tv19 a] W fun e w' => e = .returned (.bool (meets19 a b)) ∧ Turn (fun _ => False) W w') := fun W => meets_comm19 a b ▸ P.meets b a W
  have HPW : Hid (∀ W, Calls Try.prog 16 #[tv19 a, tv19 b] W fun e w' => e = .returned (.bool (within19 a b)) ∧ Turn (fun _ => False) W w') := fun W => P.within a b W
  have HPV : Hid (∀ W, Calls Try.prog 16 #[tv19 b, tv19 a] W fun e w' => e = .returned (.bool (within19 b a)) ∧ Turn (fun _ => False) W w') := fun W => P.within b a W
  have HAL : Hid (∀ W, Calls Try.prog 15 #[] W fun e w' => e = .returned (.bool true) ∧ Turn (fun _ => False) W w') := fun W => alive_any19 P W
  have HOF := Lib.hid (laid19 P a h)
  have HPA : Hid (∀ W, Calls Try.prog 13 #[tv19 a, .int .i64 h] W fun e w' => e = .returned (.bool (has19 a h)) ∧ Turn (fun _ => False) W w') := fun W => P.has a h W
  have HN := Lib.hid (fun e => nests19 (a := a) (b := b) e)
  have HWB := Lib.hid hwb; have HG := Lib.hid hg; have HK := Lib.hid hk
  clear hwb hg hk
  go_enter Try.func6, Try.ntmps6
  go_wp2_with fail
  rw [← HWB.out, ← HK.out, ← HG.out]
  refine wp_abs19 (fun x13 x14 x15 x16 x17 x18 x19 x20 x21 x22 x23 x24 x25 x26 x27 x28 x29 x30 x31 x32 x33 x34 x35 => { tmps := #[tv19 a, tv19 b, .int .i64 h, .pointer (some ⟨g, 0, none⟩), .pointer (some ⟨k, 0, none⟩), undef, .bool false, undef, undef, undef, undef, undef, undef, x13, x14, x15, x16, x17, x18, x19, x20, x21, x22, x23, x24, x25, x26, x27, x28, x29, x30, x31, x32, x33, x34, x35, .bool false, undef, undef, undef, undef, undef, undef, undef, undef, undef, undef, undef, undef, undef, undef, undef, undef, undef, undef, undef, undef, undef, undef, undef, undef, undef, undef, undef, undef, undef, undef, undef, undef, undef, undef, undef, undef, undef, undef, undef, undef, undef, undef, undef, undef, undef, undef, undef, undef, undef, undef, undef, undef, undef, undef, undef, undef, undef, undef, undef, undef, undef, undef, undef, undef, undef, undef, undef, undef, undef, undef, undef, undef, undef, undef, undef, undef, undef, undef, undef, undef, undef, undef, undef, undef, undef, undef], defers := [] }) (fun W => Turn (fun _ => False) wb W) ?reg ?rest
  case rest =>
    rintro x13 x14 x15 x16 x17 x18 x19 x20 x21 x22 x23 x24 x25 x26 x27 x28 x29 x30 x31 x32 x33 x34 x35 wn hS0
    have HTE := Lib.hid (HT.out.trans hS0 (fun _ _ f => f))
    have HBW := Lib.hid hS0
    clear hS0 HPM HPN HPW HPV HN HWB HG HK HB
    generalize wn = wn at *
    by_cases h0 : h < 0
    · have HDUM : Hid True := trivial
      go_wp2_with fail
      refine (HAL.out _).mono ?_
      rintro e w9 ⟨rfl, t9⟩
      have HT9 := Lib.hid (HTE.out.trans t9 (fun _ _ f => f))
      clear t9
      go_wp2
      go_ret
      exact ⟨rfl, HT9.out⟩
    · by_cases h1 : 16777216 < h
      · have HDUM : Hid True := trivial
        go_wp2_with fail
        refine (HAL.out _).mono ?_
        rintro e w9 ⟨rfl, t9⟩
        have HT9 := Lib.hid (HTE.out.trans t9 (fun _ _ f => f))
        clear t9
        go_wp2
        go_ret
        exact ⟨rfl, HT9.out⟩
      · obtain ⟨u, v, z, HO1, HO2, HO3, HXY, HYZ, HHX, HHY, HHZ, HIS, HMZ⟩ := HOF.out (by omega) (by omega)
        clear HOF
        have HDUM : Hid True := trivial
        go_wp2_with fail
        refine (HO1.out _).mono ?_
        rintro e w3 ⟨rfl, t3⟩
        obtain ⟨k1, hkk1⟩ : ∃ k1, k1 = w3.heap.size := ⟨_, rfl⟩
        obtain ⟨w4, hw4⟩ : ∃ w4, w4 = w3.alloc (.cells (tcells19 ⟨1, u⟩) 23) := ⟨_, rfl⟩
        have HX : Hid (∀ W, Turn (fun _ => False) w4 W → Box W k1 23 (tcells19 ⟨1, u⟩)) := fun W hW => (show Box w4 k1 _ _ by rw [hw4, hkk1]; exact Box.new w3 _ _).turn hW (fun f => f)
        have HT4 : Hid (Turn (fun _ => False) wn w4) := by rw [hw4]; exact t3.alloc _
        have HW4 := Lib.hid hw4; have HQ4 := Lib.hid hkk1
        clear t3 hw4 hkk1 HO1
        go_wp2_with fail
        rw [← HW4.out, ← HQ4.out]
        clear HW4 HQ4
        go_wp2_with fail
        refine (HO2.out _).mono ?_
        rintro e w5 ⟨rfl, t3⟩
        obtain ⟨k2, hkk2⟩ : ∃ k2, k2 = w5.heap.size := ⟨_, rfl⟩
        obtain ⟨w6, hw4⟩ : ∃ w6, w6 = w5.alloc (.cells (tcells19 ⟨2, v⟩) 23) := ⟨_, rfl⟩
        have HY : Hid (∀ W, Turn (fun _ => False) w6 W → Box W k2 23 (tcells19 ⟨2, v⟩)) := fun W hW => (show Box w6 k2 _ _ by rw [hw4, hkk2]; exact Box.new w5 _ _).turn hW (fun f => f)
        have HT6 : Hid (Turn (fun _ => False) w4 w6) := by rw [hw4]; exact t3.alloc _
        have HW4 := Lib.hid hw4; have HQ4 := Lib.hid hkk2
        clear t3 hw4 hkk2 HO2
        go_wp2_with fail
        rw [← HW4.out, ← HQ4.out]
        clear HW4 HQ4
        go_wp2_with fail
        refine (HO3.out _).mono ?_
        rintro e w7 ⟨rfl, t3⟩
        obtain ⟨k3, hk3⟩ : ∃ k3, k3 = w7.heap.size := ⟨_, rfl⟩
        obtain ⟨w8, hw8⟩ : ∃ w8, w8 = w7.alloc (.cells (tcells19 ⟨3, z⟩) 23) := ⟨_, rfl⟩
        have HZ8 : Hid (∀ W, Turn (fun _ => False) w8 W → Box W k3 23 (tcells19 ⟨3, z⟩)) := fun W hW => (show Box w8 k3 _ _ by rw [hw8, hk3]; exact Box.new w7 _ _).turn hW (fun f => f)
        have HT8 : Hid (Turn (fun _ => False) w6 w8) := by rw [hw8]; exact t3.alloc _
        have HX8 : Hid (∀ W, Turn (fun _ => False) w8 W → Box W k1 23 (tcells19 ⟨1, u⟩)) := fun W hW => HX.out W ((HT6.out.trans HT8.out (fun _ _ f => f)).trans hW (fun _ _ f => f))
        have HY8 : Hid (∀ W, Turn (fun _ => False) w8 W → Box W k2 23 (tcells19 ⟨2, v⟩)) := fun W hW => HY.out W (HT8.out.trans hW (fun _ _ f => f))
        have HA8 : Hid (∀ W, Turn (fun _ => False) w8 W → Box W g 23 (tcells19 a)) := fun W hW => HA.out W (HBW.out.trans (((HT4.out.trans HT6.out (fun _ _ f => f)).trans HT8.out (fun _ _ f => f)).trans hW (fun _ _ f => f)) (fun _ _ f => f))
        have HTW : Hid (Turn (fun _ => False) w w8) := HTE.out.trans ((HT4.out.trans HT6.out (fun _ _ f => f)).trans HT8.out (fun _ _ f => f)) (fun _ _ f => f)
        obtain ⟨x0, x1⟩ := box_t19 (HX8.out w8 (Turn.refl _ _))
        obtain ⟨y0, y1⟩ := box_t19 (HY8.out w8 (Turn.refl _ _))
        have HW8 := Lib.hid hw8; have HQ8 := Lib.hid hk3
        rw [hw8] at x0 x1 y0 y1
        clear t3 hw8 hk3 HO3 HX HY HA HT4 HT6 HT8 HTE HT HBW
        go_wp2_with fail
        rw [← HW8.out, ← HQ8.out]
        clear HW8 HQ8 x0 x1 y0 y1
        refine (HXY.out _).mono ?_
        rintro e w9 ⟨rfl, tt⟩
        have HT9 : Hid (Turn (fun _ => False) w8 w9) := tt
        clear tt HXY
        obtain ⟨x0, x1⟩ := box_t19 (HX8.out w9 HT9.out)
        obtain ⟨y0, y1⟩ := box_t19 (HY8.out w9 HT9.out)
        obtain ⟨z0, z1⟩ := box_t19 (HZ8.out w9 HT9.out)
        obtain ⟨a0, a1⟩ := box_t19 (HA8.out w9 HT9.out)
        go_wp2_with fail
        refine (HYZ.out _).mono ?_
        rintro e w10 ⟨rfl, tt⟩
        have HT10 : Hid (Turn (fun _ => False) w8 w10) := HT9.out.trans tt (fun _ _ f => f)
        clear tt HYZ HT9 x0 x1 y0 y1 z0 z1 a0 a1
        obtain ⟨x0, x1⟩ := box_t19 (HX8.out w10 HT10.out)
        obtain ⟨y0, y1⟩ := box_t19 (HY8.out w10 HT10.out)
        obtain ⟨z0, z1⟩ := box_t19 (HZ8.out w10 HT10.out)
        obtain ⟨a0, a1⟩ := box_t19 (HA8.out w10 HT10.out)
        go_wp2_with fail
        refine (HHX.out _).mono ?_
        rintro e w11 ⟨rfl, tt⟩
        have HT11 : Hid (Turn (fun _ => False) w8 w11) := HT10.out.trans tt (fun _ _ f => f)
        clear tt HHX HT10 x0 x1 y0 y1 z0 z1 a0 a1
        obtain ⟨x0, x1⟩ := box_t19 (HX8.out w11 HT11.out)
        obtain ⟨y0, y1⟩ := box_t19 (HY8.out w11 HT11.out)
        obtain ⟨z0, z1⟩ := box_t19 (HZ8.out w11 HT11.out)
        obtain ⟨a0, a1⟩ := box_t19 (HA8.out w11 HT11.out)
        go_wp2_with fail
        refine (HHY.out _).mono ?_
        rintro e w12 ⟨rfl, tt⟩
        have HT12 : Hid (Turn (fun _ => False) w8 w12) := HT11.out.trans tt (fun _ _ f => f)
        clear tt HHY HT11 x0 x1 y0 y1 z0 z1 a0 a1
        obtain ⟨x0, x1⟩ := box_t19 (HX8.out w12 HT12.out)
        obtain ⟨y0, y1⟩ := box_t19 (HY8.out w12 HT12.out)
        obtain ⟨z0, z1⟩ := box_t19 (HZ8.out w12 HT12.out)
        obtain ⟨a0, a1⟩ := box_t19 (HA8.out w12 HT12.out)
        go_wp2_with fail
        refine (HHZ.out _).mono ?_
        rintro e w13 ⟨rfl, tt⟩
        have HT13 : Hid (Turn (fun _ => False) w8 w13) := HT12.out.trans tt (fun _ _ f => f)
        clear tt HHZ HT12 x0 x1 y0 y1 z0 z1 a0 a1
        obtain ⟨x0, x1⟩ := box_t19 (HX8.out w13 HT13.out)
        obtain ⟨y0, y1⟩ := box_t19 (HY8.out w13 HT13.out)
        obtain ⟨z0, z1⟩ := box_t19 (HZ8.out w13 HT13.out)
        obtain ⟨a0, a1⟩ := box_t19 (HA8.out w13 HT13.out)
        go_wp2_with fail
        cases hc : has19 a h with
        | false =>
          rw [hc] at HPA
          refine (HPA.out _).mono ?_
          rintro e w14 ⟨rfl, tt⟩
          have HT14 : Hid (Turn (fun _ => False) w8 w14) := HT13.out.trans tt (fun _ _ f => f)
          clear tt HPA HT13 x0 x1 y0 y1 z0 z1 a0 a1
          obtain ⟨x0, x1⟩ := box_t19 (HX8.out w14 HT14.out)
          obtain ⟨y0, y1⟩ := box_t19 (HY8.out w14 HT14.out)
          obtain ⟨z0, z1⟩ := box_t19 (HZ8.out w14 HT14.out)
          obtain ⟨a0, a1⟩ := box_t19 (HA8.out w14 HT14.out)
          go_wp2_with fail
          refine (HMZ.out _).mono ?_
          rintro e w15 ⟨rfl, tt⟩
          have HT15 : Hid (Turn (fun _ => False) w8 w15) := HT14.out.trans tt (fun _ _ f => f)
          clear tt HMZ HT14 x0 x1 y0 y1 z0 z1 a0 a1
          obtain ⟨x0, x1⟩ := box_t19 (HX8.out w15 HT15.out)
          obtain ⟨y0, y1⟩ := box_t19 (HY8.out w15 HT15.out)
          obtain ⟨z0, z1⟩ := box_t19 (HZ8.out w15 HT15.out)
          obtain ⟨a0, a1⟩ := box_t19 (HA8.out w15 HT15.out)
          go_wp2_with fail
          refine (HAL.out _).mono ?_
          rintro e w16 ⟨rfl, tt⟩
          have HT16 := Lib.hid (HTW.out.trans (HT15.out.trans tt (fun _ _ f => f)) (fun _ _ f => f))
          clear tt
          go_wp2
          go_ret
          exact ⟨rfl, HT16.out⟩
        | true =>
          rw [hc] at HPA
          have hi := HIS.out hc
          refine (HPA.out _).mono ?_
          rintro e w14 ⟨rfl, tt⟩
          have HT14 : Hid (Turn (fun _ => False) w8 w14) := HT13.out.trans tt (fun _ _ f => f)
          clear tt HPA HT13 x0 x1 y0 y1 z0 z1 a0 a1
          clear HIS
          rcases hi with rfl | rfl | rfl
          · have n1 : ∀ W, Sem.run Try.prog (binOp .neq 23 (.agg #[.int .i64 1, .int .i64 u]) (.agg #[.int .i64 1, .int .i64 u])) W = .ok (.bool false) W := fun W => (run_neq_part20 ⟨1, u⟩ ⟨1, u⟩ W).trans (by rw [eqT_iff.2 rfl]; rfl)
            clear hc
            obtain ⟨x0, x1⟩ := box_t19 (HX8.out w14 HT14.out)
            obtain ⟨y0, y1⟩ := box_t19 (HY8.out w14 HT14.out)
            obtain ⟨z0, z1⟩ := box_t19 (HZ8.out w14 HT14.out)
            obtain ⟨a0, a1⟩ := box_t19 (HA8.out w14 HT14.out)
            go_wp2_with fail
            refine (HMZ.out _).mono ?_
            rintro e w15 ⟨rfl, tt⟩
            have HT15 : Hid (Turn (fun _ => False) w8 w15) := HT14.out.trans tt (fun _ _ f => f)
            clear tt HMZ HT14 x0 x1 y0 y1 z0 z1 a0 a1
            go_wp2_with fail
            refine (HAL.out _).mono ?_
            rintro e w16 ⟨rfl, tt⟩
            have HT16 := Lib.hid (HTW.out.trans (HT15.out.trans tt (fun _ _ f => f)) (fun _ _ f => f))
            clear tt
            go_wp2
            go_ret
            exact ⟨rfl, HT16.out⟩
          · have n1 : ∀ W, Sem.run Try.prog (binOp .neq 23 (.agg #[.int .i64 2, .int .i64 v]) (.agg #[.int .i64 1, .int .i64 u])) W = .ok (.bool true) W := fun W => (run_neq_part20 ⟨2, v⟩ ⟨1, u⟩ W).trans rfl
            have n2 : ∀ W, Sem.run Try.prog (binOp .neq 23 (.agg #[.int .i64 2, .int .i64 v]) (.agg #[.int .i64 2, .int .i64 v])) W = .ok (.bool false) W := fun W => (run_neq_part20 ⟨2, v⟩ ⟨2, v⟩ W).trans (by rw [eqT_iff.2 rfl]; rfl)
            clear hc
            obtain ⟨x0, x1⟩ := box_t19 (HX8.out w14 HT14.out)
            obtain ⟨y0, y1⟩ := box_t19 (HY8.out w14 HT14.out)
            obtain ⟨z0, z1⟩ := box_t19 (HZ8.out w14 HT14.out)
            obtain ⟨a0, a1⟩ := box_t19 (HA8.out w14 HT14.out)
            go_wp2_with fail
            refine (HMZ.out _).mono ?_
            rintro e w15 ⟨rfl, tt⟩
            have HT15 : Hid (Turn (fun _ => False) w8 w15) := HT14.out.trans tt (fun _ _ f => f)
            clear tt HMZ HT14 x0 x1 y0 y1 z0 z1 a0 a1
            go_wp2_with fail
            refine (HAL.out _).mono ?_
            rintro e w16 ⟨rfl, tt⟩
            have HT16 := Lib.hid (HTW.out.trans (HT15.out.trans tt (fun _ _ f => f)) (fun _ _ f => f))
            clear tt
            go_wp2
            go_ret
            exact ⟨rfl, HT16.out⟩
          · have n1 : ∀ W, Sem.run Try.prog (binOp .neq 23 (.agg #[.int .i64 3, .int .i64 z]) (.agg #[.int .i64 1, .int .i64 u])) W = .ok (.bool true) W := fun W => (run_neq_part20 ⟨3, z⟩ ⟨1, u⟩ W).trans rfl
            have n2 : ∀ W, Sem.run Try.prog (binOp .neq 23 (.agg #[.int .i64 3, .int .i64 z]) (.agg #[.int .i64 2, .int .i64 v])) W = .ok (.bool true) W := fun W => (run_neq_part20 ⟨3, z⟩ ⟨2, v⟩ W).trans rfl
            have n3 : ∀ W, Sem.run Try.prog (binOp .neq 23 (.agg #[.int .i64 3, .int .i64 z]) (.agg #[.int .i64 3, .int .i64 z])) W = .ok (.bool false) W := fun W => (run_neq_part20 ⟨3, z⟩ ⟨3, z⟩ W).trans (by rw [eqT_iff.2 rfl]; rfl)
            clear hc
            obtain ⟨x0, x1⟩ := box_t19 (HX8.out w14 HT14.out)
            obtain ⟨y0, y1⟩ := box_t19 (HY8.out w14 HT14.out)
            obtain ⟨z0, z1⟩ := box_t19 (HZ8.out w14 HT14.out)
            obtain ⟨a0, a1⟩ := box_t19 (HA8.out w14 HT14.out)
            go_wp2_with fail
            refine (HMZ.out _).mono ?_
            rintro e w15 ⟨rfl, tt⟩
            have HT15 : Hid (Turn (fun _ => False) w8 w15) := HT14.out.trans tt (fun _ _ f => f)
            clear tt HMZ HT14 x0 x1 y0 y1 z0 z1 a0 a1
            go_wp2_with fail
            refine (HAL.out _).mono ?_
            rintro e w16 ⟨rfl, tt⟩
            have HT16 := Lib.hid (HTW.out.trans (HT15.out.trans tt (fun _ _ f => f)) (fun _ _ f => f))
            clear tt
            go_wp2
            go_ret
            exact ⟨rfl, HT16.out⟩
  refine drawn_region (fun W => Turn (fun _ => False) wb W) [] (by kernel_rfl) ?_
  have hS0 : Turn (fun _ => False) wb (World.drew wb) := (Turn.refl _ wb).drew
  generalize World.drew wb = wd at *
  refine drawn_take 0 13 (.agg #[.int .i64 a.t, .int .i64 a.i]) rfl rfl (by kernel_rfl) (by kernel_rfl) (by kernel_rfl) (by kernel_rfl) (fun _ _ _ h => h) (by rfl) (by assumption) (by intro w hSw; obtain ⟨b0, b1⟩ := box_t19 (HA.out _ hSw); clear hSw; go_simp) ?_
  try simp only [List.setIfInBounds_toArray, List.set_cons_zero, List.set_cons_succ]
  refine drawn_take 1 14 (.agg #[.int .i64 b.t, .int .i64 b.i]) rfl rfl (by kernel_rfl) (by kernel_rfl) (by kernel_rfl) (by kernel_rfl) (fun _ _ _ h => h) (by rfl) (by assumption) (by intro w hSw; obtain ⟨b0, b1⟩ := box_t19 (HB.out _ hSw); clear hSw; go_simp) ?_
  try simp only [List.setIfInBounds_toArray, List.set_cons_zero, List.set_cons_succ]
  refine drawn_any [2] (by kernel_rfl) (by simp) ?_
  refine drawn_cons rfl (fun K1 hK => ?_) drawn_nil
  go_simp
  refine (HPM.out _).mono ?_
  rintro e wn ⟨rfl, tn⟩
  have hSn := hS0.trans tn (fun _ _ f => f)
  refine hK.out _ _ _ hSn ?_
  clear hK K1 tn hS0
  have hS0 := hSn
  clear hSn
  try simp only [List.setIfInBounds_toArray, List.set_cons_zero, List.set_cons_succ]
  cases hm : meets19 a b with
  | false =>
    rw [hm] at HPM HPN
    refine drawn_take 3 16 (.bool false) rfl rfl (by kernel_rfl) (by kernel_rfl) (by kernel_rfl) (by kernel_rfl) (fun _ _ _ h => h) (by rfl) (by assumption) (by intro w hSw; obtain hS1 := hSw; go_simp) ?_
    try simp only [List.setIfInBounds_toArray, List.set_cons_zero, List.set_cons_succ]
    refine drawn_skip 4 17 rfl rfl (by kernel_rfl) (by kernel_rfl) (by kernel_rfl) (by kernel_rfl) (fun _ _ _ h => h) (by rfl) (fun _ => by assumption) ?_
    try simp only [List.setIfInBounds_toArray, List.set_cons_zero, List.set_cons_succ]
    refine drawn_skip 5 18 rfl rfl (by kernel_rfl) (by kernel_rfl) (by kernel_rfl) (by kernel_rfl) (fun _ _ _ h => h) (by rfl) (fun _ => by assumption) ?_
    try simp only [List.setIfInBounds_toArray, List.set_cons_zero, List.set_cons_succ]
    refine drawn_skip 6 19 rfl rfl (by kernel_rfl) (by kernel_rfl) (by kernel_rfl) (by kernel_rfl) (fun _ _ _ h => h) (by rfl) (fun _ => by assumption) ?_
    try simp only [List.setIfInBounds_toArray, List.set_cons_zero, List.set_cons_succ]
    refine drawn_skip 7 20 rfl rfl (by kernel_rfl) (by kernel_rfl) (by kernel_rfl) (by kernel_rfl) (fun _ _ _ h => h) (by rfl) (fun _ => by assumption) ?_
    try simp only [List.setIfInBounds_toArray, List.set_cons_zero, List.set_cons_succ]
    refine drawn_take 8 21 (.bool false) rfl rfl (by kernel_rfl) (by kernel_rfl) (by kernel_rfl) (by kernel_rfl) (fun _ _ _ h => h) (by rfl) (by assumption) (by intro w hSw; obtain hS1 := hSw; go_simp) ?_
    try simp only [List.setIfInBounds_toArray, List.set_cons_zero, List.set_cons_succ]
    refine drawn_take 9 22 (.bool false) rfl rfl (by kernel_rfl) (by kernel_rfl) (by kernel_rfl) (by kernel_rfl) (fun _ _ _ h => h) (by rfl) (by assumption) (by intro w hSw; obtain hS1 := hSw; go_simp) ?_
    try simp only [List.setIfInBounds_toArray, List.set_cons_zero, List.set_cons_succ]
    refine drawn_skip 10 23 rfl rfl (by kernel_rfl) (by kernel_rfl) (by kernel_rfl) (by kernel_rfl) (fun _ _ _ h => h) (by rfl) (fun _ => by assumption) ?_
    try simp only [List.setIfInBounds_toArray, List.set_cons_zero, List.set_cons_succ]
    refine drawn_skip 11 24 rfl rfl (by kernel_rfl) (by kernel_rfl) (by kernel_rfl) (by kernel_rfl) (fun _ _ _ h => h) (by rfl) (fun _ => by assumption) ?_
    try simp only [List.setIfInBounds_toArray, List.set_cons_zero, List.set_cons_succ]
    refine drawn_skip 12 25 rfl rfl (by kernel_rfl) (by kernel_rfl) (by kernel_rfl) (by kernel_rfl) (fun _ _ _ h => h) (by rfl) (fun _ => by assumption) ?_
    try simp only [List.setIfInBounds_toArray, List.set_cons_zero, List.set_cons_succ]
    refine drawn_skip 13 26 rfl rfl (by kernel_rfl) (by kernel_rfl) (by kernel_rfl) (by kernel_rfl) (fun _ _ _ h => h) (by rfl) (fun _ => by assumption) ?_
    try simp only [List.setIfInBounds_toArray, List.set_cons_zero, List.set_cons_succ]
    have hmm : meets19 a b = false := hm
    refine drawn_take 14 27 (.bool false) rfl rfl (by kernel_rfl) (by kernel_rfl) (by kernel_rfl) (by kernel_rfl) (fun _ _ _ h => h) (by rfl) (by assumption) (by intro w hSw; obtain hS1 := hSw; go_simp) ?_
    try simp only [List.setIfInBounds_toArray, List.set_cons_zero, List.set_cons_succ]
    refine drawn_take 15 28 (.bool false) rfl rfl (by kernel_rfl) (by kernel_rfl) (by kernel_rfl) (by kernel_rfl) (fun _ _ _ h => h) (by rfl) (by assumption) (by intro w hSw; obtain hS1 := hSw; go_simp) ?_
    try simp only [List.setIfInBounds_toArray, List.set_cons_zero, List.set_cons_succ]
    refine drawn_take 16 29 (.agg #[.int .i64 a.t, .int .i64 a.i]) rfl rfl (by kernel_rfl) (by kernel_rfl) (by kernel_rfl) (by kernel_rfl) (fun _ _ _ h => h) (by rfl) (by assumption) (by intro w hSw; obtain ⟨b0, b1⟩ := box_t19 (HA.out _ hSw); clear hSw; go_simp) ?_
    try simp only [List.setIfInBounds_toArray, List.set_cons_zero, List.set_cons_succ]
    refine drawn_take 17 30 (.agg #[.int .i64 b.t, .int .i64 b.i]) rfl rfl (by kernel_rfl) (by kernel_rfl) (by kernel_rfl) (by kernel_rfl) (fun _ _ _ h => h) (by rfl) (by assumption) (by intro w hSw; obtain ⟨b0, b1⟩ := box_t19 (HB.out _ hSw); clear hSw; go_simp) ?_
    try simp only [List.setIfInBounds_toArray, List.set_cons_zero, List.set_cons_succ]
    refine drawn_take 19 32 (.agg #[.int .i64 b.t, .int .i64 b.i]) rfl rfl (by kernel_rfl) (by kernel_rfl) (by kernel_rfl) (by kernel_rfl) (fun _ _ _ h => h) (by rfl) (by assumption) (by intro w hSw; obtain ⟨b0, b1⟩ := box_t19 (HB.out _ hSw); clear hSw; go_simp) ?_
    try simp only [List.setIfInBounds_toArray, List.set_cons_zero, List.set_cons_succ]
    refine drawn_take 20 33 (.agg #[.int .i64 a.t, .int .i64 a.i]) rfl rfl (by kernel_rfl) (by kernel_rfl) (by kernel_rfl) (by kernel_rfl) (fun _ _ _ h => h) (by rfl) (by assumption) (by intro w hSw; obtain ⟨b0, b1⟩ := box_t19 (HA.out _ hSw); clear hSw; go_simp) ?_
    try simp only [List.setIfInBounds_toArray, List.set_cons_zero, List.set_cons_succ]
    refine drawn_any [18] (by kernel_rfl) (by simp) ?_
    refine drawn_cons rfl (fun K1 hK => ?_) drawn_nil
    go_simp
    refine (HPM.out _).mono ?_
    rintro e wn ⟨rfl, tn⟩
    have hSn := hS0.trans tn (fun _ _ f => f)
    refine hK.out _ _ _ hSn ?_
    clear hK K1 tn hS0
    have hS0 := hSn
    clear hSn
    try simp only [List.setIfInBounds_toArray, List.set_cons_zero, List.set_cons_succ]
    refine drawn_any [21] (by kernel_rfl) (by simp) ?_
    refine drawn_cons rfl (fun K1 hK => ?_) drawn_nil
    go_simp
    refine (HPN.out _).mono ?_
    rintro e wn ⟨rfl, tn⟩
    have hSn := hS0.trans tn (fun _ _ f => f)
    refine hK.out _ _ _ hSn ?_
    clear hK K1 tn hS0
    have hS0 := hSn
    clear hSn
    try simp only [List.setIfInBounds_toArray, List.set_cons_zero, List.set_cons_succ]
    refine drawn_take 22 35 (.bool false) rfl rfl (by kernel_rfl) (by kernel_rfl) (by kernel_rfl) (by kernel_rfl) (fun _ _ _ h => h) (by rfl) (by assumption) (by intro w hSw; obtain hS1 := hSw; go_simp) ?_
    try simp only [List.setIfInBounds_toArray, List.set_cons_zero, List.set_cons_succ]
    refine drawn_last1 23 36 (.bool false) rfl rfl (by kernel_rfl) (by kernel_rfl) (by rfl) (by intro w; go_simp) hS0 ?_
    try simp only [List.setIfInBounds_toArray, List.set_cons_zero, List.set_cons_succ]
    exact ⟨⟨_, _, _, _, _, _, _, _, _, _, _, _, _, _, _, _, _, _, _, _, _, _, _, rfl⟩, hS0⟩
  | true =>
    rw [hm] at HPM HPN
    refine drawn_take 3 16 (.bool true) rfl rfl (by kernel_rfl) (by kernel_rfl) (by kernel_rfl) (by kernel_rfl) (fun _ _ _ h => h) (by rfl) (by assumption) (by intro w hSw; obtain hS1 := hSw; go_simp) ?_
    try simp only [List.setIfInBounds_toArray, List.set_cons_zero, List.set_cons_succ]
    refine drawn_take 4 17 (.agg #[.int .i64 a.t, .int .i64 a.i]) rfl rfl (by kernel_rfl) (by kernel_rfl) (by kernel_rfl) (by kernel_rfl) (fun _ _ _ h => h) (by rfl) (by assumption) (by intro w hSw; obtain ⟨b0, b1⟩ := box_t19 (HA.out _ hSw); clear hSw; go_simp) ?_
    try simp only [List.setIfInBounds_toArray, List.set_cons_zero, List.set_cons_succ]
    refine drawn_take 5 18 (.agg #[.int .i64 b.t, .int .i64 b.i]) rfl rfl (by kernel_rfl) (by kernel_rfl) (by kernel_rfl) (by kernel_rfl) (fun _ _ _ h => h) (by rfl) (by assumption) (by intro w hSw; obtain ⟨b0, b1⟩ := box_t19 (HB.out _ hSw); clear hSw; go_simp) ?_
    try simp only [List.setIfInBounds_toArray, List.set_cons_zero, List.set_cons_succ]
    refine drawn_any [6] (by kernel_rfl) (by simp) ?_
    refine drawn_cons rfl (fun K1 hK => ?_) drawn_nil
    go_simp
    refine (HPW.out _).mono ?_
    rintro e wn ⟨rfl, tn⟩
    have hSn := hS0.trans tn (fun _ _ f => f)
    refine hK.out _ _ _ hSn ?_
    clear hK K1 tn hS0
    have hS0 := hSn
    clear hSn
    try simp only [List.setIfInBounds_toArray, List.set_cons_zero, List.set_cons_succ]
    cases hw : within19 a b with
    | true =>
      rw [hw] at HPW
      refine drawn_take 7 20 (.bool false) rfl rfl (by kernel_rfl) (by kernel_rfl) (by kernel_rfl) (by kernel_rfl) (fun _ _ _ h => h) (by rfl) (by assumption) (by intro w hSw; obtain hS1 := hSw; go_simp) ?_
      try simp only [List.setIfInBounds_toArray, List.set_cons_zero, List.set_cons_succ]
      refine drawn_take 8 21 (.bool false) rfl rfl (by kernel_rfl) (by kernel_rfl) (by kernel_rfl) (by kernel_rfl) (fun _ _ _ h => h) (by rfl) (by assumption) (by intro w hSw; obtain hS1 := hSw; go_simp) ?_
      try simp only [List.setIfInBounds_toArray, List.set_cons_zero, List.set_cons_succ]
      refine drawn_take 9 22 (.bool false) rfl rfl (by kernel_rfl) (by kernel_rfl) (by kernel_rfl) (by kernel_rfl) (fun _ _ _ h => h) (by rfl) (by assumption) (by intro w hSw; obtain hS1 := hSw; go_simp) ?_
      try simp only [List.setIfInBounds_toArray, List.set_cons_zero, List.set_cons_succ]
      refine drawn_skip 10 23 rfl rfl (by kernel_rfl) (by kernel_rfl) (by kernel_rfl) (by kernel_rfl) (fun _ _ _ h => h) (by rfl) (fun _ => by assumption) ?_
      try simp only [List.setIfInBounds_toArray, List.set_cons_zero, List.set_cons_succ]
      refine drawn_skip 11 24 rfl rfl (by kernel_rfl) (by kernel_rfl) (by kernel_rfl) (by kernel_rfl) (fun _ _ _ h => h) (by rfl) (fun _ => by assumption) ?_
      try simp only [List.setIfInBounds_toArray, List.set_cons_zero, List.set_cons_succ]
      refine drawn_skip 12 25 rfl rfl (by kernel_rfl) (by kernel_rfl) (by kernel_rfl) (by kernel_rfl) (fun _ _ _ h => h) (by rfl) (fun _ => by assumption) ?_
      try simp only [List.setIfInBounds_toArray, List.set_cons_zero, List.set_cons_succ]
      refine drawn_skip 13 26 rfl rfl (by kernel_rfl) (by kernel_rfl) (by kernel_rfl) (by kernel_rfl) (fun _ _ _ h => h) (by rfl) (fun _ => by assumption) ?_
      try simp only [List.setIfInBounds_toArray, List.set_cons_zero, List.set_cons_succ]
      have hmm : meets19 a b = true := hm
      refine drawn_take 14 27 (.bool false) rfl rfl (by kernel_rfl) (by kernel_rfl) (by kernel_rfl) (by kernel_rfl) (fun _ _ _ h => h) (by rfl) (by assumption) (by intro w hSw; obtain hS1 := hSw; go_simp) ?_
      try simp only [List.setIfInBounds_toArray, List.set_cons_zero, List.set_cons_succ]
      refine drawn_take 15 28 (.bool false) rfl rfl (by kernel_rfl) (by kernel_rfl) (by kernel_rfl) (by kernel_rfl) (fun _ _ _ h => h) (by rfl) (by assumption) (by intro w hSw; obtain hS1 := hSw; go_simp) ?_
      try simp only [List.setIfInBounds_toArray, List.set_cons_zero, List.set_cons_succ]
      refine drawn_take 16 29 (.agg #[.int .i64 a.t, .int .i64 a.i]) rfl rfl (by kernel_rfl) (by kernel_rfl) (by kernel_rfl) (by kernel_rfl) (fun _ _ _ h => h) (by rfl) (by assumption) (by intro w hSw; obtain ⟨b0, b1⟩ := box_t19 (HA.out _ hSw); clear hSw; go_simp) ?_
      try simp only [List.setIfInBounds_toArray, List.set_cons_zero, List.set_cons_succ]
      refine drawn_take 17 30 (.agg #[.int .i64 b.t, .int .i64 b.i]) rfl rfl (by kernel_rfl) (by kernel_rfl) (by kernel_rfl) (by kernel_rfl) (fun _ _ _ h => h) (by rfl) (by assumption) (by intro w hSw; obtain ⟨b0, b1⟩ := box_t19 (HB.out _ hSw); clear hSw; go_simp) ?_
      try simp only [List.setIfInBounds_toArray, List.set_cons_zero, List.set_cons_succ]
      refine drawn_take 19 32 (.agg #[.int .i64 b.t, .int .i64 b.i]) rfl rfl (by kernel_rfl) (by kernel_rfl) (by kernel_rfl) (by kernel_rfl) (fun _ _ _ h => h) (by rfl) (by assumption) (by intro w hSw; obtain ⟨b0, b1⟩ := box_t19 (HB.out _ hSw); clear hSw; go_simp) ?_
      try simp only [List.setIfInBounds_toArray, List.set_cons_zero, List.set_cons_succ]
      refine drawn_take 20 33 (.agg #[.int .i64 a.t, .int .i64 a.i]) rfl rfl (by kernel_rfl) (by kernel_rfl) (by kernel_rfl) (by kernel_rfl) (fun _ _ _ h => h) (by rfl) (by assumption) (by intro w hSw; obtain ⟨b0, b1⟩ := box_t19 (HA.out _ hSw); clear hSw; go_simp) ?_
      try simp only [List.setIfInBounds_toArray, List.set_cons_zero, List.set_cons_succ]
      refine drawn_any [18] (by kernel_rfl) (by simp) ?_
      refine drawn_cons rfl (fun K1 hK => ?_) drawn_nil
      go_simp
      refine (HPM.out _).mono ?_
      rintro e wn ⟨rfl, tn⟩
      have hSn := hS0.trans tn (fun _ _ f => f)
      refine hK.out _ _ _ hSn ?_
      clear hK K1 tn hS0
      have hS0 := hSn
      clear hSn
      try simp only [List.setIfInBounds_toArray, List.set_cons_zero, List.set_cons_succ]
      refine drawn_any [21] (by kernel_rfl) (by simp) ?_
      refine drawn_cons rfl (fun K1 hK => ?_) drawn_nil
      go_simp
      refine (HPN.out _).mono ?_
      rintro e wn ⟨rfl, tn⟩
      have hSn := hS0.trans tn (fun _ _ f => f)
      refine hK.out _ _ _ hSn ?_
      clear hK K1 tn hS0
      have hS0 := hSn
      clear hSn
      try simp only [List.setIfInBounds_toArray, List.set_cons_zero, List.set_cons_succ]
      refine drawn_take 22 35 (.bool false) rfl rfl (by kernel_rfl) (by kernel_rfl) (by kernel_rfl) (by kernel_rfl) (fun _ _ _ h => h) (by rfl) (by assumption) (by intro w hSw; obtain hS1 := hSw; go_simp) ?_
      try simp only [List.setIfInBounds_toArray, List.set_cons_zero, List.set_cons_succ]
      refine drawn_last1 23 36 (.bool false) rfl rfl (by kernel_rfl) (by kernel_rfl) (by rfl) (by intro w; go_simp) hS0 ?_
      try simp only [List.setIfInBounds_toArray, List.set_cons_zero, List.set_cons_succ]
      exact ⟨⟨_, _, _, _, _, _, _, _, _, _, _, _, _, _, _, _, _, _, _, _, _, _, _, rfl⟩, hS0⟩
    | false =>
      rw [hw] at HPW
      have hv : within19 b a = true := by
        rcases HN.out hm with e | e
        · rw [hw] at e; cases e
        · exact e
      rw [hv] at HPV
      refine drawn_take 7 20 (.bool true) rfl rfl (by kernel_rfl) (by kernel_rfl) (by kernel_rfl) (by kernel_rfl) (fun _ _ _ h => h) (by rfl) (by assumption) (by intro w hSw; obtain hS1 := hSw; go_simp) ?_
      try simp only [List.setIfInBounds_toArray, List.set_cons_zero, List.set_cons_succ]
      refine drawn_take 8 21 (.bool true) rfl rfl (by kernel_rfl) (by kernel_rfl) (by kernel_rfl) (by kernel_rfl) (fun _ _ _ h => h) (by rfl) (by assumption) (by intro w hSw; obtain hS1 := hSw; go_simp) ?_
      try simp only [List.setIfInBounds_toArray, List.set_cons_zero, List.set_cons_succ]
      refine drawn_take 9 22 (.bool true) rfl rfl (by kernel_rfl) (by kernel_rfl) (by kernel_rfl) (by kernel_rfl) (fun _ _ _ h => h) (by rfl) (by assumption) (by intro w hSw; obtain hS1 := hSw; go_simp) ?_
      try simp only [List.setIfInBounds_toArray, List.set_cons_zero, List.set_cons_succ]
      refine drawn_take 10 23 (.agg #[.int .i64 b.t, .int .i64 b.i]) rfl rfl (by kernel_rfl) (by kernel_rfl) (by kernel_rfl) (by kernel_rfl) (fun _ _ _ h => h) (by rfl) (by assumption) (by intro w hSw; obtain ⟨b0, b1⟩ := box_t19 (HB.out _ hSw); clear hSw; go_simp) ?_
      try simp only [List.setIfInBounds_toArray, List.set_cons_zero, List.set_cons_succ]
      refine drawn_take 11 24 (.agg #[.int .i64 a.t, .int .i64 a.i]) rfl rfl (by kernel_rfl) (by kernel_rfl) (by kernel_rfl) (by kernel_rfl) (fun _ _ _ h => h) (by rfl) (by assumption) (by intro w hSw; obtain ⟨b0, b1⟩ := box_t19 (HA.out _ hSw); clear hSw; go_simp) ?_
      try simp only [List.setIfInBounds_toArray, List.set_cons_zero, List.set_cons_succ]
      refine drawn_any [12] (by kernel_rfl) (by simp) ?_
      refine drawn_cons rfl (fun K1 hK => ?_) drawn_nil
      go_simp
      refine (HPV.out _).mono ?_
      rintro e wn ⟨rfl, tn⟩
      have hSn := hS0.trans tn (fun _ _ f => f)
      refine hK.out _ _ _ hSn ?_
      clear hK K1 tn hS0
      have hS0 := hSn
      clear hSn
      try simp only [List.setIfInBounds_toArray, List.set_cons_zero, List.set_cons_succ]
      refine drawn_take 13 26 (.bool false) rfl rfl (by kernel_rfl) (by kernel_rfl) (by kernel_rfl) (by kernel_rfl) (fun _ _ _ h => h) (by rfl) (by assumption) (by intro w hSw; obtain hS1 := hSw; go_simp) ?_
      try simp only [List.setIfInBounds_toArray, List.set_cons_zero, List.set_cons_succ]
      have hmm : meets19 a b = true := hm
      refine drawn_take 14 27 (.bool false) rfl rfl (by kernel_rfl) (by kernel_rfl) (by kernel_rfl) (by kernel_rfl) (fun _ _ _ h => h) (by rfl) (by assumption) (by intro w hSw; obtain hS1 := hSw; go_simp) ?_
      try simp only [List.setIfInBounds_toArray, List.set_cons_zero, List.set_cons_succ]
      refine drawn_take 15 28 (.bool false) rfl rfl (by kernel_rfl) (by kernel_rfl) (by kernel_rfl) (by kernel_rfl) (fun _ _ _ h => h) (by rfl) (by assumption) (by intro w hSw; obtain hS1 := hSw; go_simp) ?_
      try simp only [List.setIfInBounds_toArray, List.set_cons_zero, List.set_cons_succ]
      refine drawn_take 16 29 (.agg #[.int .i64 a.t, .int .i64 a.i]) rfl rfl (by kernel_rfl) (by kernel_rfl) (by kernel_rfl) (by kernel_rfl) (fun _ _ _ h => h) (by rfl) (by assumption) (by intro w hSw; obtain ⟨b0, b1⟩ := box_t19 (HA.out _ hSw); clear hSw; go_simp) ?_
      try simp only [List.setIfInBounds_toArray, List.set_cons_zero, List.set_cons_succ]
      refine drawn_take 17 30 (.agg #[.int .i64 b.t, .int .i64 b.i]) rfl rfl (by kernel_rfl) (by kernel_rfl) (by kernel_rfl) (by kernel_rfl) (fun _ _ _ h => h) (by rfl) (by assumption) (by intro w hSw; obtain ⟨b0, b1⟩ := box_t19 (HB.out _ hSw); clear hSw; go_simp) ?_
      try simp only [List.setIfInBounds_toArray, List.set_cons_zero, List.set_cons_succ]
      refine drawn_take 19 32 (.agg #[.int .i64 b.t, .int .i64 b.i]) rfl rfl (by kernel_rfl) (by kernel_rfl) (by kernel_rfl) (by kernel_rfl) (fun _ _ _ h => h) (by rfl) (by assumption) (by intro w hSw; obtain ⟨b0, b1⟩ := box_t19 (HB.out _ hSw); clear hSw; go_simp) ?_
      try simp only [List.setIfInBounds_toArray, List.set_cons_zero, List.set_cons_succ]
      refine drawn_take 20 33 (.agg #[.int .i64 a.t, .int .i64 a.i]) rfl rfl (by kernel_rfl) (by kernel_rfl) (by kernel_rfl) (by kernel_rfl) (fun _ _ _ h => h) (by rfl) (by assumption) (by intro w hSw; obtain ⟨b0, b1⟩ := box_t19 (HA.out _ hSw); clear hSw; go_simp) ?_
      try simp only [List.setIfInBounds_toArray, List.set_cons_zero, List.set_cons_succ]
      refine drawn_any [18] (by kernel_rfl) (by simp) ?_
      refine drawn_cons rfl (fun K1 hK => ?_) drawn_nil
      go_simp
      refine (HPM.out _).mono ?_
      rintro e wn ⟨rfl, tn⟩
      have hSn := hS0.trans tn (fun _ _ f => f)
      refine hK.out _ _ _ hSn ?_
      clear hK K1 tn hS0
      have hS0 := hSn
      clear hSn
      try simp only [List.setIfInBounds_toArray, List.set_cons_zero, List.set_cons_succ]
      refine drawn_any [21] (by kernel_rfl) (by simp) ?_
      refine drawn_cons rfl (fun K1 hK => ?_) drawn_nil
      go_simp
      refine (HPN.out _).mono ?_
      rintro e wn ⟨rfl, tn⟩
      have hSn := hS0.trans tn (fun _ _ f => f)
      refine hK.out _ _ _ hSn ?_
      clear hK K1 tn hS0
      have hS0 := hSn
      clear hSn
      try simp only [List.setIfInBounds_toArray, List.set_cons_zero, List.set_cons_succ]
      refine drawn_take 22 35 (.bool false) rfl rfl (by kernel_rfl) (by kernel_rfl) (by kernel_rfl) (by kernel_rfl) (fun _ _ _ h => h) (by rfl) (by assumption) (by intro w hSw; obtain hS1 := hSw; go_simp) ?_
      try simp only [List.setIfInBounds_toArray, List.set_cons_zero, List.set_cons_succ]
      refine drawn_last1 23 36 (.bool false) rfl rfl (by kernel_rfl) (by kernel_rfl) (by rfl) (by intro w; go_simp) hS0 ?_
      try simp only [List.setIfInBounds_toArray, List.set_cons_zero, List.set_cons_succ]
      exact ⟨⟨_, _, _, _, _, _, _, _, _, _, _, _, _, _, _, _, _, _, _, _, _, _, _, rfl⟩, hS0⟩

end Go.Proofs.Ytmpgfipfijbbkaa

/-
  Stage 19: the program's part answers as is asked of it.
-/
namespace Go.Proofs.Ytmpgfipfijbbkaa
theorem prog19 : Prog19 where
  right := right_any19
  span := span_any19
  of := of_any19
  has := has_any19
  within := within_any19
  meets := meets_any19
  less := less_any19
  due := fun p y h w _ => due_any19 p y h w
  best := fun f y h w _ => best_any19 f y h w
end Go.Proofs.Ytmpgfipfijbbkaa

/-
  Stage 19: partitions that came in.
-/
namespace Go.Proofs.Ytmpgfipfijbbkaa
open Go.RowKit Go.ChangeShapes Go.WideShapes Go.Deep

set_option maxRecDepth 100000

def rng19 (x : Int) : Prop := -9223372036854775808 ≤ x ∧ x ≤ 9223372036854775807
/-- A partition whose numbers are those of an int64. -/
def T19.fits (p : T19) : Prop := rng19 p.t ∧ rng19 p.i
theorem rng_wf19 {x : Int} (h : (Lit.int .i64 x).wf = true) : rng19 x := by
  unfold rng19
  simpa [Lit.wf, IntKind.min, IntKind.max, IntKind.signed, IntKind.bits] using h
theorem open_partc19 {H : Type} {enc : TypeId × Value → H} {W : World} {n : Nat} {cs : List Value} {y : DataW H × List MemPlace} (hl : cs.length = 2) (h : DataW.trod enc Try.prog W 0 (fun _ => true) true n 23 cs = some y) :
    ∃ p : T19, cs = (tcells19 p).toList ∧ p.fits := by
  obtain ⟨xs, n', _, rfl, _, hlen, hf⟩ := DataW.trod_struct Try.underlying23 h
  have e1 : Try.prog.cellsOf 2 = 1 := by kernel_rfl
  have e2 : Try.prog.cellsOf 3 = 1 := by kernel_rfl
  match xs, hlen, cs, hl with
  | [y0, y1], _, [c0, c1], _ =>
    have g0 := hf 0 _ rfl
    have g1 := hf 1 _ rfl
    simp [e1, e2] at g0 g1
    obtain ⟨K0, k0, _, kw0⟩ := DataW.trod_int Try.underlying3 g0
    obtain ⟨K1, k1, _, kw1⟩ := DataW.trod_int Try.underlying2 g1
    simp only [List.cons.injEq, and_true] at k0 k1
    subst k0 k1
    exact ⟨⟨K0, K1⟩, rfl, rng_wf19 kw0, rng_wf19 kw1⟩
theorem open_part19 {H : Type} {enc : TypeId × Value → H} {W : World} {b0 : Nat} {v : Value} {d : DataW H} {p : List MemPlace} (hv : Value.okWide Try.prog W .any b0 23 v) (h : DataW.Trod enc Try.prog W 0 (fun _ => true) true 23 v d p) : ∃ q : T19, v = tv19 q ∧ q.fits := by
  simp only [Value.okWide, Try.underlying23] at hv
  obtain ⟨cs, rfl, hsz, _⟩ := hv
  obtain ⟨fuel, hf⟩ := h
  have e5 : Try.prog.cellsOf 23 = 2 := by kernel_rfl
  obtain ⟨q, hq, hqf⟩ := open_partc19 (by show (Value.cells (.agg cs)).toList.length = 2; simp [Value.cells]; omega) hf
  refine ⟨q, ?_, hqf⟩
  have hq2 : cs.toList = (tcells19 q).toList := hq
  have hq3 : cs = tcells19 q := by rw [← Array.toList_inj]; exact hq2
  rw [hq3]

end Go.Proofs.Ytmpgfipfijbbkaa
