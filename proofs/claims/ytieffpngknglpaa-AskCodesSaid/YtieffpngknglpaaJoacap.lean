/-
  Texts laid one behind the other: Rb Rc.
-/
import Derived.Test.YtieffpngknglpaaJoacao

/-
  A number read by the document's own reader.
-/
namespace Go.Proofs.Ytieffpngknglpaa
open Go.RowKit

def XNum (q B : Nat) (m : List UInt8) (w : World) (e : Ending) (w' : World) : Prop :=
  e = .returned (.int .u64 (rdNum m).1) ∧ XM w q B w' (m.drop (rdNum m).2.2) (rdNum m).2.1

theorem xnum_end {q B : Nat} {m : List UInt8} {w w' : World} {val : Int} {t : List UInt8} {f : Nat} {r : Nat × Nat × Nat} (hr : r = rdNum m) (h1 : val = r.1) (h2 : f = r.2.1) (h3 : t = m.drop r.2.2)
    (hm : XM w q B w' t f) : XNum q B m w (.returned (.int .u64 val)) w' := by
  subst h1 h2 h3 hr
  exact ⟨rfl, hm⟩

def XRel (q B : Nat) (m : List UInt8) (w : World) (x3 x4 x5 : Value) (wr : World) (k acc y : Nat) : Prop :=
  x5 = .int .i64 k ∧ k ≤ 10 ∧ (k < 10 → x3 = .int .u64 acc ∧ x4 = .int .u64 y ∧ Hid (acc < 128 ^ k) ∧ Hid (y = 128 ^ k)) ∧ rdF (10 - k) k acc (m.drop k) = rdNum m ∧ XM w q B wr (m.drop k) 0 ∧ k ≤ m.length

theorem rdF_cons (k acc : Nat) (hk : k < 10) (b : UInt8) (t : List UInt8) (x : Nat) (hx : x = b.toNat) :
    rdF (10 - k) k acc (b :: t) = if 128 ≤ x then rdF (10 - (k + 1)) (k + 1) (acc + (x - 128) * 128 ^ k) t
      else if (0 < k ∧ x = 0) ∨ (k = 9 ∧ 1 < x) then (0, 4, k + 1) else (acc + x * 128 ^ k, 0, k + 1) := by
  have e : 10 - k = (10 - (k + 1)) + 1 := by omega
  rw [e]
  subst hx
  rfl

/-- What the product and the sum come to. -/
theorem xmul (x y k : Nat) (hk : k ≤ 9) (hy : y = 128 ^ k) (hd : k < 9 ∨ x % 128 ≤ 1) : IntKind.u64.wrap ((x : Int) % 128 * (y : Int)) = ((x % 128 * y : Nat) : Int) ∧ x % 128 * y ≤ 9223372036854775808 ∧ (k < 9 → x % 128 * y ≤ 127 * y) := by
  have hp := pow_le k hk
  have h1 : x % 128 * y ≤ 9223372036854775808 := by
    subst hy
    rcases hd with h | h
    · have h2 := pow_le (k + 1) (by omega)
      rw [Nat.pow_succ] at h2
      have h3 : x % 128 * 128 ^ k ≤ 127 * 128 ^ k := Nat.mul_le_mul_right _ (by omega)
      omega
    · have h3 : x % 128 * 128 ^ k ≤ 1 * 128 ^ k := Nat.mul_le_mul_right _ h
      omega
  refine ⟨?_, h1, fun _ => Nat.mul_le_mul_right _ (by omega)⟩
  have e : ((x : Int) % 128 * (y : Int)) = ((x % 128 * y : Nat) : Int) := by
    rw [Int.natCast_mul]
    rfl
  rw [e, IntKind.wrap_u64]
  omega

theorem xadd (acc z : Nat) (h1 : acc < 9223372036854775808) (h2 : z ≤ 9223372036854775808) : IntKind.u64.wrap ((acc : Int) + (z : Int)) = ((acc + z : Nat) : Int) := by
  rw [IntKind.wrap_u64]
  omega

theorem xacc (acc k : Nat) (hk : k ≤ 9) (h : acc < 128 ^ k) : acc < 9223372036854775808 := by
  have := pow_le k hk
  omega

theorem xnext {q B : Nat} {m t : List UInt8} {b : UInt8} {w wr w1 : World} {k acc y x z : Nat} {v : Int} (hk : k < 10) (hacc : acc < 128 ^ k) (hy : y = 128 ^ k) (hx : x = b.toNat) (hx2 : x < 256) (h128 : 128 ≤ x) (hz : z = x % 128 * y)
    (hv : k < 9 → v = ((y * 128 : Nat) : Int)) (hm : m.drop k = b :: t) (hrd : rdF (10 - k) k acc (m.drop k) = rdNum m) (h0 : XM w q B wr (m.drop k) 0) (h1 : XM wr q B w1 t 0) :
    ∃ k' acc' y', XRel q B m w (.int .u64 ((acc + z : Nat) : Int)) (.int .u64 v) (.int .i64 ((k : Int) + 1)) w1 k' acc' y' := by
  have hlen : k < m.length := by
    rcases Nat.lt_or_ge k m.length with h | h
    · exact h
    · rw [List.drop_eq_nil_of_le h] at hm
      cases hm
  have ht : t = m.drop (k + 1) := by
    have h2 : m.drop (k + 1) = (m.drop k).drop 1 := by rw [List.drop_drop]
    rw [h2, hm]
    rfl
  refine ⟨k + 1, acc + z, y * 128, by congr 1, by omega, fun h9 => ⟨rfl, by rw [hv (by omega)], ?_, ?_⟩, ?_, ?_, by omega⟩
  · show acc + z < 128 ^ (k + 1)
    have : z ≤ 127 * y := by rw [hz]; exact Nat.mul_le_mul_right _ (by omega)
    rw [Nat.pow_succ]
    omega
  · show y * 128 = 128 ^ (k + 1)
    rw [Nat.pow_succ, hy]
  · rw [← hrd, hm, rdF_cons k acc hk b t x hx, if_pos h128, ← ht, hz, hy, show x % 128 = x - 128 from by omega]
  · rw [← ht]
    exact h0.trans h1

set_option maxRecDepth 100000 in
set_option maxHeartbeats 2000000 in
theorem xnum_any (q B : Nat) (A : Option Addr) (c : Nat) (m : List UInt8) (w : World) (h : XRd w q B A c m 0) :
    Calls Try.prog 34 #[.pointer (some ⟨q, 0, none⟩)] w (XNum q B m w) := by
  have H := Lib.hid h; clear h
  go_enter Try.func34, Try.ntmps34
  go_wp2
  go_loopw [3, 4, 5] (fun x3 x4 x5 wr => ∃ (k acc y : Nat), XRel q B m w x3 x4 x5 wr k acc y) (fun _ _ x5 _ => 10 - (intOf x5).toNat)
  case atStart => exact ⟨0, 0, 1, rfl, by omega, fun _ => ⟨rfl, rfl, by show 0 < 128 ^ 0; simp, by show 1 = 128 ^ 0; simp⟩, rfl, XM.refl H.out, Nat.zero_le _⟩
  case round =>
    obtain ⟨k, acc, y, rfl, hk, hx, hrd, hm, hkl⟩ := hrel
    by_cases h10 : k < 10
    · obtain ⟨rfl, rfl, HA, HY⟩ := hx h10
      have HD := Lib.hid hrd; clear hrd hkl
      obtain ⟨⟨A1, c1, hx1⟩, ht⟩ := hm
      have HM : Hid (XM w q B wr (m.drop k) 0) := ⟨⟨A1, c1, hx1⟩, ht⟩
      clear ht hx
      cases hdr : m.drop k with
      | nil =>
        rw [hdr] at hx1
        have HX := Lib.hid hx1; clear hx1
        have HE : Hid (rdNum m = (0, 3, k)) := by
          show rdNum m = (0, 3, k)
          rw [← HD.out, hdr, show 10 - k = (10 - (k + 1)) + 1 by omega]
          rfl
        have HN := Lib.hid hdr; clear hdr
        go_wp2_with (go_at_call 45; refine (xone_none q B A1 c1 wr HX.out).mono ?_; rintro e w1 ⟨rfl, ⟨⟨A2, c2, hx2⟩, ht2⟩⟩; have cf : w1.cell? ⟨q, 1, none⟩ = some (.int .i64 3) := hx2.1.cell 1; have HX2 : Hid (XM wr q B w1 [] 3) := ⟨⟨A2, c2, hx2⟩, ht2⟩; clear hx2 ht2)
        go_ret
        exact xnum_end HE.out.symm rfl rfl (by rw [HN.out]) (HM.out.trans HX2.out)
      | cons b t =>
        rw [hdr] at hx1
        obtain ⟨x, hx⟩ : ∃ x : Nat, x = b.toNat := ⟨_, rfl⟩
        have hx256 : x < 256 := by rw [hx]; exact UInt8.toNat_lt _
        have HS := Lib.hid (HD.out.symm.trans ((congrArg _ hdr).trans (rdF_cons k acc h10 b t x hx)))
        have HX := Lib.hid (xone_some q B A1 c1 b t wr hx1)
        rw [← hx] at HX
        have HB := Lib.hid hx; clear hx hx1
        have HT : Hid (t = m.drop (k + 1)) := by
          show t = m.drop (k + 1)
          have h2 : m.drop (k + 1) = (m.drop k).drop 1 := by rw [List.drop_drop]
          rw [h2, hdr]
          rfl
        have HN := Lib.hid hdr; clear hdr
        by_cases h128 : 128 ≤ x
        · by_cases h9 : k < 9
          · have hby : IntKind.u64.wrap ((y : Int) * 128) = (y : Int) * 128 := by
              have h1 := pow_le k (by omega)
              have h2 := pow_le (k + 1) (by omega)
              rw [Nat.pow_succ, ← HY.out] at h2
              rw [IntKind.wrap_u64]
              omega
            obtain ⟨z, hz⟩ : ∃ z : Nat, z = x % 128 * y := ⟨_, rfl⟩
            have hw := xmul x y k (by omega) HY.out (by omega)
            have hadd := xadd acc z (xacc acc k (by omega) HA.out) (by rw [hz]; exact hw.2.1)
            have hmul := hw.1
            rw [← hz] at hmul
            have HZ := Lib.hid hz; clear hz hw
            go_wp2_with (go_at_call 45; refine HX.out.mono ?_; rintro e w1 ⟨rfl, ⟨⟨A2, c2, hx2⟩, ht2⟩⟩; have cf : w1.cell? ⟨q, 1, none⟩ = some (.int .i64 0) := hx2.1.cell 1; have HX2 : Hid (XM wr q B w1 t 0) := ⟨⟨A2, c2, hx2⟩, ht2⟩; have HX3 := Lib.hid hx2; clear hx2 ht2)
            go_roundw
            case rel => exact xnext h10 HA.out HY.out HB.out hx256 h128 HZ.out (fun _ => by omega) HN.out HD.out HM.out HX2.out
            case measure => simp [intOf]; omega
          · have h9b : 9 ≤ k := by omega
            by_cases hd : 1 < x % 128
            · have HQ : Hid (rdNum m = (0, 4, k + 1)) := by
                show rdNum m = (0, 4, k + 1)
                rw [HS.out, if_pos h128, show 10 - (k + 1) = 0 by omega]
                rfl
              go_wp2_with (first
                | (go_at_call 45; refine HX.out.mono ?_; rintro e w1 ⟨rfl, ⟨⟨A2, c2, hx2⟩, ht2⟩⟩; have cf : w1.cell? ⟨q, 1, none⟩ = some (.int .i64 0) := hx2.1.cell 1; have HX2 : Hid (XM wr q B w1 t 0) := ⟨⟨A2, c2, hx2⟩, ht2⟩; have HX3 := Lib.hid hx2; clear hx2 ht2)
                | (go_at_call 46; refine (xbad_any q B A2 c2 t w1 HX3.out).mono ?_; rintro e w2 ⟨rfl, hb⟩; have HBD := Lib.hid hb; clear hb))
              go_ret
              exact xnum_end HQ.out.symm rfl rfl HT.out ((HM.out.trans HX2.out).trans HBD.out)
            · have hd1 : x % 128 ≤ 1 := by omega
              clear hd
              obtain rfl : 9 = k := by omega
              obtain ⟨z, hz⟩ : ∃ z : Nat, z = x % 128 * y := ⟨_, rfl⟩
              have hw := xmul x y 9 (by omega) HY.out (by omega)
              have hadd := xadd acc z (xacc acc 9 (by omega) HA.out) (by rw [hz]; exact hw.2.1)
              have hmul := hw.1
              rw [← hz] at hmul
              have HZ := Lib.hid hz; clear hz hw
              go_wp2_with (go_at_call 45; refine HX.out.mono ?_; rintro e w1 ⟨rfl, ⟨⟨A2, c2, hx2⟩, ht2⟩⟩; have cf : w1.cell? ⟨q, 1, none⟩ = some (.int .i64 0) := hx2.1.cell 1; have HX2 : Hid (XM wr q B w1 t 0) := ⟨⟨A2, c2, hx2⟩, ht2⟩; have HX3 := Lib.hid hx2; clear hx2 ht2)
              go_roundw
              case rel => exact xnext h10 HA.out HY.out HB.out hx256 h128 HZ.out (fun h => absurd h (by omega)) HN.out HD.out HM.out HX2.out
              case measure => simp [intOf]
        · have hx128 : x < 128 := by omega
          by_cases h9 : k < 9
          · by_cases hz0 : x % 128 < 1
            · by_cases hk0 : k < 1
              · obtain ⟨z, hz⟩ : ∃ z : Nat, z = x % 128 * y := ⟨_, rfl⟩
                have hw := xmul x y k (by omega) HY.out (by omega)
                have hadd := xadd acc z (xacc acc k (by omega) HA.out) (by rw [hz]; exact hw.2.1)
                have hmul := hw.1
                rw [← hz] at hmul
                have HZ := Lib.hid hz; clear hz hw
                go_wp2_with (go_at_call 45; refine HX.out.mono ?_; rintro e w1 ⟨rfl, ⟨⟨A2, c2, hx2⟩, ht2⟩⟩; have cf : w1.cell? ⟨q, 1, none⟩ = some (.int .i64 0) := hx2.1.cell 1; have HX2 : Hid (XM wr q B w1 t 0) := ⟨⟨A2, c2, hx2⟩, ht2⟩; have HX3 := Lib.hid hx2; clear hx2 ht2)
                go_ret
                refine xnum_end (r := (acc + x * 128 ^ k, 0, k + 1)) (by rw [HS.out, if_neg h128, if_neg (by omega)]) ?_ rfl HT.out (HM.out.trans HX2.out)
                show ((acc : Int) + (z : Int)) = ((acc + x * 128 ^ k : Nat) : Int)
                rw [HZ.out, HY.out, show x % 128 = x from by omega]
                rfl
              · have hk1 : 0 < k := by omega
                obtain ⟨z, hz⟩ : ∃ z : Nat, z = x % 128 * y := ⟨_, rfl⟩
                have hw := xmul x y k (by omega) HY.out (by omega)
                have hadd := xadd acc z (xacc acc k (by omega) HA.out) (by rw [hz]; exact hw.2.1)
                have hmul := hw.1
                rw [← hz] at hmul
                have HZ := Lib.hid hz; clear hz hw
                go_wp2_with (first
                  | (go_at_call 45; refine HX.out.mono ?_; rintro e w1 ⟨rfl, ⟨⟨A2, c2, hx2⟩, ht2⟩⟩; have cf : w1.cell? ⟨q, 1, none⟩ = some (.int .i64 0) := hx2.1.cell 1; have HX2 : Hid (XM wr q B w1 t 0) := ⟨⟨A2, c2, hx2⟩, ht2⟩; have HX3 := Lib.hid hx2; clear hx2 ht2)
                  | (go_at_call 46; refine (xbad_any q B A2 c2 t w1 HX3.out).mono ?_; rintro e w2 ⟨rfl, hb⟩; have HBD := Lib.hid hb; clear hb))
                go_ret
                exact xnum_end (r := (0, 4, k + 1)) (by rw [HS.out, if_neg h128, if_pos (.inl ⟨by omega, by omega⟩)]) rfl rfl HT.out ((HM.out.trans HX2.out).trans HBD.out)
            · have hz1 : 1 ≤ x % 128 := by omega
              clear hz0
              obtain ⟨z, hz⟩ : ∃ z : Nat, z = x % 128 * y := ⟨_, rfl⟩
              have hw := xmul x y k (by omega) HY.out (by omega)
              have hadd := xadd acc z (xacc acc k (by omega) HA.out) (by rw [hz]; exact hw.2.1)
              have hmul := hw.1
              rw [← hz] at hmul
              have HZ := Lib.hid hz; clear hz hw
              go_wp2_with (go_at_call 45; refine HX.out.mono ?_; rintro e w1 ⟨rfl, ⟨⟨A2, c2, hx2⟩, ht2⟩⟩; have cf : w1.cell? ⟨q, 1, none⟩ = some (.int .i64 0) := hx2.1.cell 1; have HX2 : Hid (XM wr q B w1 t 0) := ⟨⟨A2, c2, hx2⟩, ht2⟩; have HX3 := Lib.hid hx2; clear hx2 ht2)
              go_ret
              refine xnum_end (r := (acc + x * 128 ^ k, 0, k + 1)) (by rw [HS.out, if_neg h128, if_neg (by omega)]) ?_ rfl HT.out (HM.out.trans HX2.out)
              show ((acc : Int) + (z : Int)) = ((acc + x * 128 ^ k : Nat) : Int)
              rw [HZ.out, HY.out, show x % 128 = x from by omega]
              rfl
          · have h9b : 9 ≤ k := by omega
            by_cases hd : 1 < x % 128
            · go_wp2_with (first
                | (go_at_call 45; refine HX.out.mono ?_; rintro e w1 ⟨rfl, ⟨⟨A2, c2, hx2⟩, ht2⟩⟩; have cf : w1.cell? ⟨q, 1, none⟩ = some (.int .i64 0) := hx2.1.cell 1; have HX2 : Hid (XM wr q B w1 t 0) := ⟨⟨A2, c2, hx2⟩, ht2⟩; have HX3 := Lib.hid hx2; clear hx2 ht2)
                | (go_at_call 46; refine (xbad_any q B A2 c2 t w1 HX3.out).mono ?_; rintro e w2 ⟨rfl, hb⟩; have HBD := Lib.hid hb; clear hb))
              go_ret
              exact xnum_end (r := (0, 4, k + 1)) (by rw [HS.out, if_neg h128, if_pos (.inr ⟨by omega, by omega⟩)]) rfl rfl HT.out ((HM.out.trans HX2.out).trans HBD.out)
            · have hd1 : x % 128 ≤ 1 := by omega
              clear hd
              by_cases hz0 : x % 128 < 1
              · obtain ⟨z, hz⟩ : ∃ z : Nat, z = x % 128 * y := ⟨_, rfl⟩
                have hw := xmul x y k (by omega) HY.out (by omega)
                have hadd := xadd acc z (xacc acc k (by omega) HA.out) (by rw [hz]; exact hw.2.1)
                have hmul := hw.1
                rw [← hz] at hmul
                have HZ := Lib.hid hz; clear hz hw
                go_wp2_with (first
                  | (go_at_call 45; refine HX.out.mono ?_; rintro e w1 ⟨rfl, ⟨⟨A2, c2, hx2⟩, ht2⟩⟩; have cf : w1.cell? ⟨q, 1, none⟩ = some (.int .i64 0) := hx2.1.cell 1; have HX2 : Hid (XM wr q B w1 t 0) := ⟨⟨A2, c2, hx2⟩, ht2⟩; have HX3 := Lib.hid hx2; clear hx2 ht2)
                  | (go_at_call 46; refine (xbad_any q B A2 c2 t w1 HX3.out).mono ?_; rintro e w2 ⟨rfl, hb⟩; have HBD := Lib.hid hb; clear hb))
                go_ret
                exact xnum_end (r := (0, 4, k + 1)) (by rw [HS.out, if_neg h128, if_pos (.inl ⟨by omega, by omega⟩)]) rfl rfl HT.out ((HM.out.trans HX2.out).trans HBD.out)
              · have hz1 : 1 ≤ x % 128 := by omega
                clear hz0
                obtain ⟨z, hz⟩ : ∃ z : Nat, z = x % 128 * y := ⟨_, rfl⟩
                have hw := xmul x y k (by omega) HY.out (by omega)
                have hadd := xadd acc z (xacc acc k (by omega) HA.out) (by rw [hz]; exact hw.2.1)
                have hmul := hw.1
                rw [← hz] at hmul
                have HZ := Lib.hid hz; clear hz hw
                go_wp2_with (go_at_call 45; refine HX.out.mono ?_; rintro e w1 ⟨rfl, ⟨⟨A2, c2, hx2⟩, ht2⟩⟩; have cf : w1.cell? ⟨q, 1, none⟩ = some (.int .i64 0) := hx2.1.cell 1; have HX2 : Hid (XM wr q B w1 t 0) := ⟨⟨A2, c2, hx2⟩, ht2⟩; have HX3 := Lib.hid hx2; clear hx2 ht2)
                go_ret
                refine xnum_end (r := (acc + x * 128 ^ k, 0, k + 1)) (by rw [HS.out, if_neg h128, if_neg (by omega)]) ?_ rfl HT.out (HM.out.trans HX2.out)
                show ((acc : Int) + (z : Int)) = ((acc + x * 128 ^ k : Nat) : Int)
                rw [HZ.out, HY.out, show x % 128 = x from by omega]
                rfl
    · have e10 : k = 10 := by omega
      subst e10
      have HD := Lib.hid hrd; clear hrd
      obtain ⟨⟨A1, c1, hx1⟩, ht⟩ := hm
      have HM : Hid (XM w q B wr (m.drop 10) 0) := ⟨⟨A1, c1, hx1⟩, ht⟩
      have HX := Lib.hid hx1; clear hx1 ht hx hkl
      go_wp2_with (go_at_call 46; refine (xbad_any q B A1 c1 _ wr HX.out).mono ?_; rintro e w2 ⟨rfl, hb⟩; have HBD := Lib.hid hb; clear hb)
      go_ret
      exact xnum_end HD.out rfl rfl rfl (HM.out.trans HBD.out)

end Go.Proofs.Ytieffpngknglpaa

/-
  What else the document's own reader reads.
-/
namespace Go.Proofs.Ytieffpngknglpaa
open Go.RowKit

/-- Behind a call on the document's reader: val, and what is left, and the fault; behind a fault nothing. -/
def XPost (q B : Nat) (m : List UInt8) (f : Nat) (w : World) (none val : Value) (t : List UInt8) (f1 : Nat) (e : Ending) (w' : World) : Prop :=
  (f = 0 → e = .returned val ∧ XM w q B w' t f1) ∧ (f ≠ 0 → e = .returned none ∧ XM w q B w' m f)

theorem XPost.ok {q B : Nat} {m : List UInt8} {w : World} {none val : Value} {t : List UInt8} {f1 : Nat} {e : Ending} {w' : World} (h1 : e = .returned val) (h : XM w q B w' t f1) : XPost q B m 0 w none val t f1 e w' :=
  ⟨fun _ => ⟨h1, h⟩, fun n => absurd rfl n⟩
theorem XPost.bad {q B : Nat} {m : List UInt8} {f : Nat} {w : World} {none val : Value} {t : List UInt8} {f1 : Nat} {e : Ending} {w' : World} (hf : f ≠ 0) (h1 : e = .returned none) (h : XM w q B w' m f) : XPost q B m f w none val t f1 e w' :=
  ⟨fun n => absurd n hf, fun _ => ⟨h1, h⟩⟩

set_option maxRecDepth 100000 in
set_option maxHeartbeats 1000000 in
theorem xnum_bad (q B : Nat) (A : Option Addr) (c : Nat) (m : List UInt8) (f : Nat) (hf : f ≠ 0) (w : World) (h : XRd w q B A c m f) :
    Calls Try.prog 34 #[.pointer (some ⟨q, 0, none⟩)] w fun e w' => e = .returned (.int .u64 0) ∧ w = w' := by
  have HX := Lib.hid (xone_bad q B A c m f hf w h)
  have c1 : w.cell? ⟨q, 1, none⟩ = some (.int .i64 f) := h.1.cell 1
  have hf2 : (((f : Int) == 0) = false) := by rw [beq_eq_false_iff_ne]; omega
  have hf3 : (((f : Int) != 0) = true) := by rw [bne_iff_ne]; omega
  clear h hf
  go_enter Try.func34, Try.ntmps34
  go_wp2
  go_loopw [3, 4, 5] (fun x3 x4 x5 wr => x5 = .int .i64 0 ∧ wr = w) (fun _ _ x5 _ => 10 - (intOf x5).toNat)
  case atStart => exact ⟨rfl, rfl⟩
  case round =>
    obtain ⟨rfl, rfl⟩ := hrel
    go_wp2_with (go_at_call 45; refine HX.out.mono ?_; rintro e w1 ⟨rfl, rfl⟩)
    go_ret
    exact ⟨rfl, rfl⟩

theorem xnum (q B : Nat) (A : Option Addr) (c : Nat) (m : List UInt8) (f : Nat) (w : World) (h : XRd w q B A c m f) :
    Calls Try.prog 34 #[.pointer (some ⟨q, 0, none⟩)] w (XPost q B m f w (.int .u64 0) (.int .u64 (rdNum m).1) (m.drop (rdNum m).2.2) (rdNum m).2.1) := by
  by_cases hf : f = 0
  · subst hf
    exact (xnum_any q B A c m w h).mono fun e w' hx => XPost.ok hx.1 hx.2
  · exact (xnum_bad q B A c m f hf w h).mono fun e w' hx => XPost.bad hf hx.1 (hx.2 ▸ XM.refl h)

theorem zag_even (n : Nat) (h : n % 2 < 1) (hn : Hid (n < 18446744073709551616)) : wrap64 (IntKind.u64.wrap ((n : Int) / 2)) = zag n := by
  have a : n < 18446744073709551616 := hn
  rw [IntKind.wrap_u64]
  unfold zag wrap64
  rw [if_pos (by omega)]
  omega
theorem zag_odd (n : Nat) (h : 1 ≤ n % 2) (hn : Hid (n < 18446744073709551616)) : wrap64 (wrap64 (-wrap64 (IntKind.u64.wrap ((n : Int) / 2))) - 1) = zag n := by
  have a : n < 18446744073709551616 := hn
  have e1 : wrap64 (IntKind.u64.wrap ((n : Int) / 2)) = (n : Int) / 2 := by rw [IntKind.wrap_u64]; unfold wrap64; omega
  have e2 : wrap64 (-((n : Int) / 2)) = -((n : Int) / 2) := by unfold wrap64; omega
  rw [e1, e2]
  unfold zag wrap64
  rw [if_neg (by omega)]
  omega

set_option maxRecDepth 100000 in
set_option maxHeartbeats 1000000 in
theorem xbool (q B : Nat) (A : Option Addr) (c : Nat) (m : List UInt8) (f : Nat) (w : World) (h : XRd w q B A c m f) :
    Calls Try.prog 35 #[.pointer (some ⟨q, 0, none⟩)] w (XPost q B m f w (.bool false) (.bool (rdFlag m).1) (m.drop (rdFlag m).2.2) (rdFlag m).2.1) := by
  by_cases hf : f = 0
  · subst hf
    cases m with
    | nil =>
      have HX := Lib.hid (xone_none q B A c w h)
      clear h
      go_enter Try.func35, Try.ntmps35
      go_wp2_with (go_at_call 45; refine HX.out.mono ?_; rintro e w1 ⟨rfl, hk⟩; have HK := Lib.hid hk; clear hk)
      go_ret
      exact XPost.ok rfl HK.out
    | cons b t =>
      obtain ⟨x, hx⟩ : ∃ x : Nat, x = b.toNat := ⟨_, rfl⟩
      have HX := Lib.hid (xone_some q B A c b t w h)
      rw [← hx] at HX
      have hE : rdFlag (b :: t) = if 1 < x then (false, 4, 1) else (x == 1, 0, 1) := by subst hx; rfl
      have HE := Lib.hid hE; clear hE hx h
      by_cases h1 : 1 < x
      · go_enter Try.func35, Try.ntmps35
        go_wp2_with (first
          | (go_at_call 45; refine HX.out.mono ?_; rintro e w1 ⟨rfl, ⟨⟨A2, c2, hx2⟩, ht2⟩⟩; have HX2 : Hid (XM w q B w1 t 0) := ⟨⟨A2, c2, hx2⟩, ht2⟩; have HX3 := Lib.hid hx2; clear hx2 ht2)
          | (go_at_call 46; refine (xbad_any q B A2 c2 t w1 HX3.out).mono ?_; rintro e w2 ⟨rfl, hb⟩; have HBD := Lib.hid hb; clear hb))
        go_ret
        rw [HE.out, if_pos h1]
        exact XPost.ok rfl (HX2.out.trans HBD.out)
      · go_enter Try.func35, Try.ntmps35
        go_wp2_with (go_at_call 45; refine HX.out.mono ?_; rintro e w1 ⟨rfl, hk⟩; have HK := Lib.hid hk; clear hk)
        go_ret
        rw [HE.out, if_neg h1]
        refine XPost.ok ?_ HK.out
        show Ending.returned (.bool ((x : Int) == 1)) = .returned (.bool (x == 1))
        congr 2
        rw [Bool.eq_iff_iff, beq_iff_eq, beq_iff_eq]
        omega
  · have HX := Lib.hid (xone_bad q B A c m f hf w h)
    have HR := Lib.hid (XM.refl h)
    have HF := Lib.hid hf
    clear h hf
    go_enter Try.func35, Try.ntmps35
    go_wp2_with (go_at_call 45; refine HX.out.mono ?_; rintro e w1 ⟨rfl, rfl⟩)
    go_ret
    exact XPost.bad HF.out rfl HR.out

set_option maxRecDepth 100000 in
set_option maxHeartbeats 1000000 in
theorem xtext (q B : Nat) (A : Option Addr) (c : Nat) (m : List UInt8) (f : Nat) (most : Nat) (hmost : most ≤ 1000000) (w : World) (h : XRd w q B A c m f) :
    Calls Try.prog 36 #[.pointer (some ⟨q, 0, none⟩), .int .i64 most] w (XPost q B m f w (.string ⟨#[]⟩) (.string ⟨(rdText most m).1.toArray⟩) (m.drop (rdText most m).2.2) (rdText most m).2.1) := by
  by_cases hf : f = 0
  · subst hf
    have HN := xnum_any q B A c m w h
    unfold XNum at HN
    have hlen : m.length ≤ 9223372036854775807 := by have := h.2.2.2; unfold maxLen at this; omega
    clear h
    obtain ⟨⟨n, g, k⟩, hr⟩ : ∃ r, r = rdNum m := ⟨_, rfl⟩
    rw [← hr] at HN
    have hE : rdText most m = if g ≠ 0 then ([], g, k) else if most < n then ([], 4, k) else if (m.drop k).length < n then ([], 3, k) else ((m.drop k).take n, 0, k + n) := by
      unfold rdText rdCount
      rw [← hr]
      by_cases hg : g = 0
      · subst hg
        by_cases hm : most < n <;> simp [hm]
      · simp [hg]
    have HE := Lib.hid hE; clear hE hr
    have hlen2 : (m.drop k).length ≤ 9223372036854775807 := by rw [List.length_drop]; omega
    obtain ⟨t, ht⟩ : ∃ t, t = m.drop k := ⟨_, rfl⟩
    simp only [← ht] at HN HE hlen2
    have HTT := Lib.hid ht; clear ht hlen
    have HN2 := Lib.hid HN; clear HN
    by_cases hg : g = 0
    · subst hg
      by_cases hm : most < n
      · go_enter Try.func36, Try.ntmps36
        go_wp2_with (first
          | (go_at_call 34; refine HN2.out.mono ?_; rintro e w1 ⟨rfl, ⟨⟨A2, c2, hx2⟩, ht2⟩⟩; have cf : w1.cell? ⟨q, 1, none⟩ = some (.int .i64 0) := hx2.1.cell 1; have HX2 : Hid (XM w q B w1 t 0) := ⟨⟨A2, c2, hx2⟩, ht2⟩; have HX3 := Lib.hid hx2; clear hx2 ht2)
          | (go_at_call 46; refine (xbad_any q B A2 c2 t w1 HX3.out).mono ?_; rintro e w2 ⟨rfl, hb⟩; have HBD := Lib.hid hb; clear hb))
        go_ret
        rw [HE.out, if_neg (by omega), if_pos hm]
        exact XPost.ok rfl (by rw [← HTT.out]; exact HX2.out.trans HBD.out)
      · by_cases hl : t.length < n
        · go_enter Try.func36, Try.ntmps36
          go_wp2_with (go_at_call 34; refine HN2.out.mono ?_; rintro e w1 ⟨rfl, ⟨⟨A2, c2, hx2⟩, ht2⟩⟩; have cf : w1.cell? ⟨q, 1, none⟩ = some (.int .i64 0) := hx2.1.cell 1; have cg : w1.cell? ⟨q, 0, none⟩ = some (.slice A2 t.length c2) := hx2.1.cell 0; have ff : w1.frozen? ⟨q, 1, none⟩ = false := hx2.1.free 1; have HX2 : Hid (XM w q B w1 t 0) := ⟨⟨A2, c2, hx2⟩, ht2⟩; have HX3 := Lib.hid (hx2.fault 3 3 rfl); clear hx2 ht2)
          go_ret
          rw [HE.out, if_neg (by omega), if_neg hm, if_pos hl]
          exact XPost.ok rfl (by rw [← HTT.out]; exact HX2.out.trans HX3.out)
        · go_enter Try.func36, Try.ntmps36
          go_wp2_with (go_at_call 34; refine HN2.out.mono ?_; rintro e w1 ⟨rfl, ⟨⟨A2, c2, hx2⟩, ht2⟩⟩; have cf : w1.cell? ⟨q, 1, none⟩ = some (.int .i64 0) := hx2.1.cell 1; have cg : w1.cell? ⟨q, 0, none⟩ = some (.slice A2 t.length c2) := hx2.1.cell 0; have fg : w1.frozen? ⟨q, 0, none⟩ = false := hx2.1.free 0; have hc2 : t.length ≤ c2 := hx2.2.2.2.1; have hst := (hx2.front n (by omega)).string; have HX2 : Hid (XM w q B w1 t 0) := ⟨⟨A2, c2, hx2⟩, ht2⟩; have HX3 := Lib.hid (hx2.cut n (by omega) _ rfl); clear hx2 ht2)
          all_goals
            go_ret
            rw [HE.out, if_neg (by omega), if_neg hm, if_neg hl]
            refine XPost.ok rfl ?_
            have h3 := HX2.out.trans HX3.out
            have e : m.drop (k + n) = t.drop n := by rw [HTT.out, List.drop_drop]
            rw [e]
            first | simpa [‹c2 = n›] using h3 | simpa [‹¬ c2 = n›] using h3
    · have hf2 : (((g : Int) == 0) = false) := by rw [beq_eq_false_iff_ne]; omega
      have hf3 : (((g : Int) != 0) = true) := by rw [bne_iff_ne]; omega
      have HG := Lib.hid hg; clear hg
      go_enter Try.func36, Try.ntmps36
      go_wp2_with (go_at_call 34; refine HN2.out.mono ?_; rintro e w1 ⟨rfl, ⟨⟨A2, c2, hx2⟩, ht2⟩⟩; have cf : w1.cell? ⟨q, 1, none⟩ = some (.int .i64 g) := hx2.1.cell 1; have HX2 : Hid (XM w q B w1 t g) := ⟨⟨A2, c2, hx2⟩, ht2⟩; clear hx2 ht2)
      go_ret
      rw [HE.out, if_pos HG.out]
      exact XPost.ok rfl (by rw [← HTT.out]; exact HX2.out)
  · have hf2 : (((f : Int) == 0) = false) := by rw [beq_eq_false_iff_ne]; omega
    have hf3 : (((f : Int) != 0) = true) := by rw [bne_iff_ne]; omega
    have HN := Lib.hid (xnum_bad q B A c m f hf w h)
    have cf : w.cell? ⟨q, 1, none⟩ = some (.int .i64 f) := h.1.cell 1
    have HR := Lib.hid (XM.refl h)
    have HF := Lib.hid hf; clear hf h
    go_enter Try.func36, Try.ntmps36
    go_wp2_with (go_at_call 34; refine HN.out.mono ?_; rintro e w1 ⟨rfl, rfl⟩)
    go_ret
    exact XPost.bad HF.out rfl HR.out

end Go.Proofs.Ytieffpngknglpaa
