/-
  Texts laid one behind the other: Rb Fc.
-/
import Derived.Test.YtgchfckmhibeaaaJocac

/-
  A number read by the document's own reader.
-/
namespace Go.Proofs.Ytgchfckmhibeaaa
open Go.RowKit

def XNum (q B : Nat) (m : List UInt8) (w : World) (e : Ending) (w' : World) : Prop :=
  e = .returned (.int .u64 (rdNum m).1) ∧ XM w q B w' (m.drop (rdNum m).2.2) (rdNum m).2.1

theorem xnum_end {q B : Nat} {m : List UInt8} {w w' : World} {val : Int} {t : List UInt8} {f : Nat} {r : Nat × Nat × Nat} (hr : r = rdNum m) (h1 : val = r.1) (h2 : f = r.2.1) (h3 : t = m.drop r.2.2)
    (hm : XM w q B w' t f) : XNum q B m w (.returned (.int .u64 val)) w' := by
  subst h1 h2 h3 hr
  exact ⟨rfl, hm⟩

def XRel (q B : Nat) (m : List UInt8) (w : World) (x3 x4 x5 : Value) (wr : World) (k acc y : Nat) : Prop :=
  x5 = .int .i64 k ∧ k ≤ 10 ∧ (k < 10 → x3 = .int .u64 acc ∧ x4 = .int .u64 y ∧ Hid (acc < 128 ^ k) ∧ Hid (y = 128 ^ k)) ∧ rdF (10 - k) k acc (m.drop k) = rdNum m ∧ XM w q B wr (m.drop k) 0 ∧ k ≤ m.length

theorem rdF_cons (k acc : Nat) (hk : k < 10) (b : UInt8) (t : List UInt8) (x : Nat) (hx : x = b.toNat) :
    rdF (10 - k) k acc (b :: t) = if 128 ≤ x then rdF (10 - (k + 1)) (k + 1) (acc + (x - 128) * 128 ^ k) t
      else if (0 < k ∧ x = 0) ∨ (k = 9 ∧ 1 < x) then (0, 4, k + 1) else (acc + x * 128 ^ k, 0, k + 1) := by
  have e : 10 - k = (10 - (k + 1)) + 1 := by omega
  rw [e]
  subst hx
  rfl

/-- What the product and the sum come to. -/
theorem xmul (x y k : Nat) (hk : k ≤ 9) (hy : y = 128 ^ k) (hd : k < 9 ∨ x % 128 ≤ 1) : IntKind.u64.wrap ((x : Int) % 128 * (y : Int)) = ((x % 128 * y : Nat) : Int) ∧ x % 128 * y ≤ 9223372036854775808 ∧ (k < 9 → x % 128 * y ≤ 127 * y) := by
  have hp := pow_le k hk
  have h1 : x % 128 * y ≤ 9223372036854775808 := by
    subst hy
    rcases hd with h | h
    · have h2 := pow_le (k + 1) (by omega)
      rw [Nat.pow_succ] at h2
      have h3 : x % 128 * 128 ^ k ≤ 127 * 128 ^ k := Nat.mul_le_mul_right _ (by omega)
      omega
    · have h3 : x % 128 * 128 ^ k ≤ 1 * 128 ^ k := Nat.mul_le_mul_right _ h
      omega
  refine ⟨?_, h1, fun _ => Nat.mul_le_mul_right _ (by omega)⟩
  have e : ((x : Int) % 128 * (y : Int)) = ((x % 128 * y : Nat) : Int) := by
    rw [Int.natCast_mul]
    rfl
  rw [e, IntKind.wrap_u64]
  omega

theorem xadd (acc z : Nat) (h1 : acc < 9223372036854775808) (h2 : z ≤ 9223372036854775808) : IntKind.u64.wrap ((acc : Int) + (z : Int)) = ((acc + z : Nat) : Int) := by
  rw [IntKind.wrap_u64]
  omega

theorem xacc (acc k : Nat) (hk : k ≤ 9) (h : acc < 128 ^ k) : acc < 9223372036854775808 := by
  have := pow_le k hk
  omega

theorem xnext {q B : Nat} {m t : List UInt8} {b : UInt8} {w wr w1 : World} {k acc y x z : Nat} {v : Int} (hk : k < 10) (hacc : acc < 128 ^ k) (hy : y = 128 ^ k) (hx : x = b.toNat) (hx2 : x < 256) (h128 : 128 ≤ x) (hz : z = x % 128 * y)
    (hv : k < 9 → v = ((y * 128 : Nat) : Int)) (hm : m.drop k = b :: t) (hrd : rdF (10 - k) k acc (m.drop k) = rdNum m) (h0 : XM w q B wr (m.drop k) 0) (h1 : XM wr q B w1 t 0) :
    ∃ k' acc' y', XRel q B m w (.int .u64 ((acc + z : Nat) : Int)) (.int .u64 v) (.int .i64 ((k : Int) + 1)) w1 k' acc' y' := by
  have hlen : k < m.length := by
    rcases Nat.lt_or_ge k m.length with h | h
    · exact h
    · rw [List.drop_eq_nil_of_le h] at hm
      cases hm
  have ht : t = m.drop (k + 1) := by
    have h2 : m.drop (k + 1) = (m.drop k).drop 1 := by rw [List.drop_drop]
    rw [h2, hm]
    rfl
  refine ⟨k + 1, acc + z, y * 128, by congr 1, by omega, fun h9 => ⟨rfl, by rw [hv (by omega)], ?_, ?_⟩, ?_, ?_, by omega⟩
  · show acc + z < 128 ^ (k + 1)
    have : z ≤ 127 * y := by rw [hz]; exact Nat.mul_le_mul_right _ (by omega)
    rw [Nat.pow_succ]
    omega
  · show y * 128 = 128 ^ (k + 1)
    rw [Nat.pow_succ, hy]
  · rw [← hrd, hm, rdF_cons k acc hk b t x hx, if_pos h128, ← ht, hz, hy, show x % 128 = x - 128 from by omega]
  · rw [← ht]
    exact h0.trans h1

set_option maxRecDepth 100000 in
set_option maxHeartbeats 2000000 in
theorem xnum_any (q B : Nat) (A : Option Addr) (c : Nat) (m : List UInt8) (w : World) (h : XRd w q B A c m 0) :
    Calls Try.prog 51 #[.pointer (some ⟨q, 0, none⟩)] w (XNum q B m w) := by
  have H := Lib.hid h; clear h
  go_enter Try.func51, Try.ntmps51
  go_wp2
  go_loopw [3, 4, 5] (fun x3 x4 x5 wr => ∃ (k acc y : Nat), XRel q B m w x3 x4 x5 wr k acc y) (fun _ _ x5 _ => 10 - (intOf x5).toNat)
  case atStart => exact ⟨0, 0, 1, rfl, by omega, fun _ => ⟨rfl, rfl, by show 0 < 128 ^ 0; simp, by show 1 = 128 ^ 0; simp⟩, rfl, XM.refl H.out, Nat.zero_le _⟩
  case round =>
    obtain ⟨k, acc, y, rfl, hk, hx, hrd, hm, hkl⟩ := hrel
    by_cases h10 : k < 10
    · obtain ⟨rfl, rfl, HA, HY⟩ := hx h10
      have HD := Lib.hid hrd; clear hrd hkl
      obtain ⟨⟨A1, c1, hx1⟩, ht⟩ := hm
      have HM : Hid (XM w q B wr (m.drop k) 0) := ⟨⟨A1, c1, hx1⟩, ht⟩
      clear ht hx
      cases hdr : m.drop k with
      | nil =>
        rw [hdr] at hx1
        have HX := Lib.hid hx1; clear hx1
        have HE : Hid (rdNum m = (0, 3, k)) := by
          show rdNum m = (0, 3, k)
          rw [← HD.out, hdr, show 10 - k = (10 - (k + 1)) + 1 by omega]
          rfl
        have HN := Lib.hid hdr; clear hdr
        go_wp2_with (go_at_call 70; refine (xone_none q B A1 c1 wr HX.out).mono ?_; rintro e w1 ⟨rfl, ⟨⟨A2, c2, hx2⟩, ht2⟩⟩; have cf : w1.cell? ⟨q, 1, none⟩ = some (.int .i64 3) := hx2.1.cell 1; have HX2 : Hid (XM wr q B w1 [] 3) := ⟨⟨A2, c2, hx2⟩, ht2⟩; clear hx2 ht2)
        go_ret
        exact xnum_end HE.out.symm rfl rfl (by rw [HN.out]) (HM.out.trans HX2.out)
      | cons b t =>
        rw [hdr] at hx1
        obtain ⟨x, hx⟩ : ∃ x : Nat, x = b.toNat := ⟨_, rfl⟩
        have hx256 : x < 256 := by rw [hx]; exact UInt8.toNat_lt _
        have HS := Lib.hid (HD.out.symm.trans ((congrArg _ hdr).trans (rdF_cons k acc h10 b t x hx)))
        have HX := Lib.hid (xone_some q B A1 c1 b t wr hx1)
        rw [← hx] at HX
        have HB := Lib.hid hx; clear hx hx1
        have HT : Hid (t = m.drop (k + 1)) := by
          show t = m.drop (k + 1)
          have h2 : m.drop (k + 1) = (m.drop k).drop 1 := by rw [List.drop_drop]
          rw [h2, hdr]
          rfl
        have HN := Lib.hid hdr; clear hdr
        by_cases h128 : 128 ≤ x
        · by_cases h9 : k < 9
          · have hby : IntKind.u64.wrap ((y : Int) * 128) = (y : Int) * 128 := by
              have h1 := pow_le k (by omega)
              have h2 := pow_le (k + 1) (by omega)
              rw [Nat.pow_succ, ← HY.out] at h2
              rw [IntKind.wrap_u64]
              omega
            obtain ⟨z, hz⟩ : ∃ z : Nat, z = x % 128 * y := ⟨_, rfl⟩
            have hw := xmul x y k (by omega) HY.out (by omega)
            have hadd := xadd acc z (xacc acc k (by omega) HA.out) (by rw [hz]; exact hw.2.1)
            have hmul := hw.1
            rw [← hz] at hmul
            have HZ := Lib.hid hz; clear hz hw
            go_wp2_with (go_at_call 70; refine HX.out.mono ?_; rintro e w1 ⟨rfl, ⟨⟨A2, c2, hx2⟩, ht2⟩⟩; have cf : w1.cell? ⟨q, 1, none⟩ = some (.int .i64 0) := hx2.1.cell 1; have HX2 : Hid (XM wr q B w1 t 0) := ⟨⟨A2, c2, hx2⟩, ht2⟩; have HX3 := Lib.hid hx2; clear hx2 ht2)
            go_roundw
            case rel => exact xnext h10 HA.out HY.out HB.out hx256 h128 HZ.out (fun _ => by omega) HN.out HD.out HM.out HX2.out
            case measure => simp [intOf]; omega
          · have h9b : 9 ≤ k := by omega
            by_cases hd : 1 < x % 128
            · have HQ : Hid (rdNum m = (0, 4, k + 1)) := by
                show rdNum m = (0, 4, k + 1)
                rw [HS.out, if_pos h128, show 10 - (k + 1) = 0 by omega]
                rfl
              go_wp2_with (first
                | (go_at_call 70; refine HX.out.mono ?_; rintro e w1 ⟨rfl, ⟨⟨A2, c2, hx2⟩, ht2⟩⟩; have cf : w1.cell? ⟨q, 1, none⟩ = some (.int .i64 0) := hx2.1.cell 1; have HX2 : Hid (XM wr q B w1 t 0) := ⟨⟨A2, c2, hx2⟩, ht2⟩; have HX3 := Lib.hid hx2; clear hx2 ht2)
                | (go_at_call 71; refine (xbad_any q B A2 c2 t w1 HX3.out).mono ?_; rintro e w2 ⟨rfl, hb⟩; have HBD := Lib.hid hb; clear hb))
              go_ret
              exact xnum_end HQ.out.symm rfl rfl HT.out ((HM.out.trans HX2.out).trans HBD.out)
            · have hd1 : x % 128 ≤ 1 := by omega
              clear hd
              obtain rfl : 9 = k := by omega
              obtain ⟨z, hz⟩ : ∃ z : Nat, z = x % 128 * y := ⟨_, rfl⟩
              have hw := xmul x y 9 (by omega) HY.out (by omega)
              have hadd := xadd acc z (xacc acc 9 (by omega) HA.out) (by rw [hz]; exact hw.2.1)
              have hmul := hw.1
              rw [← hz] at hmul
              have HZ := Lib.hid hz; clear hz hw
              go_wp2_with (go_at_call 70; refine HX.out.mono ?_; rintro e w1 ⟨rfl, ⟨⟨A2, c2, hx2⟩, ht2⟩⟩; have cf : w1.cell? ⟨q, 1, none⟩ = some (.int .i64 0) := hx2.1.cell 1; have HX2 : Hid (XM wr q B w1 t 0) := ⟨⟨A2, c2, hx2⟩, ht2⟩; have HX3 := Lib.hid hx2; clear hx2 ht2)
              go_roundw
              case rel => exact xnext h10 HA.out HY.out HB.out hx256 h128 HZ.out (fun h => absurd h (by omega)) HN.out HD.out HM.out HX2.out
              case measure => simp [intOf]
        · have hx128 : x < 128 := by omega
          by_cases h9 : k < 9
          · by_cases hz0 : x % 128 < 1
            · by_cases hk0 : k < 1
              · obtain ⟨z, hz⟩ : ∃ z : Nat, z = x % 128 * y := ⟨_, rfl⟩
                have hw := xmul x y k (by omega) HY.out (by omega)
                have hadd := xadd acc z (xacc acc k (by omega) HA.out) (by rw [hz]; exact hw.2.1)
                have hmul := hw.1
                rw [← hz] at hmul
                have HZ := Lib.hid hz; clear hz hw
                go_wp2_with (go_at_call 70; refine HX.out.mono ?_; rintro e w1 ⟨rfl, ⟨⟨A2, c2, hx2⟩, ht2⟩⟩; have cf : w1.cell? ⟨q, 1, none⟩ = some (.int .i64 0) := hx2.1.cell 1; have HX2 : Hid (XM wr q B w1 t 0) := ⟨⟨A2, c2, hx2⟩, ht2⟩; have HX3 := Lib.hid hx2; clear hx2 ht2)
                go_ret
                refine xnum_end (r := (acc + x * 128 ^ k, 0, k + 1)) (by rw [HS.out, if_neg h128, if_neg (by omega)]) ?_ rfl HT.out (HM.out.trans HX2.out)
                show ((acc : Int) + (z : Int)) = ((acc + x * 128 ^ k : Nat) : Int)
                rw [HZ.out, HY.out, show x % 128 = x from by omega]
                rfl
              · have hk1 : 0 < k := by omega
                obtain ⟨z, hz⟩ : ∃ z : Nat, z = x % 128 * y := ⟨_, rfl⟩
                have hw := xmul x y k (by omega) HY.out (by omega)
                have hadd := xadd acc z (xacc acc k (by omega) HA.out) (by rw [hz]; exact hw.2.1)
                have hmul := hw.1
                rw [← hz] at hmul
                have HZ := Lib.hid hz; clear hz hw
                go_wp2_with (first
                  | (go_at_call 70; refine HX.out.mono ?_; rintro e w1 ⟨rfl, ⟨⟨A2, c2, hx2⟩, ht2⟩⟩; have cf : w1.cell? ⟨q, 1, none⟩ = some (.int .i64 0) := hx2.1.cell 1; have HX2 : Hid (XM wr q B w1 t 0) := ⟨⟨A2, c2, hx2⟩, ht2⟩; have HX3 := Lib.hid hx2; clear hx2 ht2)
                  | (go_at_call 71; refine (xbad_any q B A2 c2 t w1 HX3.out).mono ?_; rintro e w2 ⟨rfl, hb⟩; have HBD := Lib.hid hb; clear hb))
                go_ret
                exact xnum_end (r := (0, 4, k + 1)) (by rw [HS.out, if_neg h128, if_pos (.inl ⟨by omega, by omega⟩)]) rfl rfl HT.out ((HM.out.trans HX2.out).trans HBD.out)
            · have hz1 : 1 ≤ x % 128 := by omega
              clear hz0
              obtain ⟨z, hz⟩ : ∃ z : Nat, z = x % 128 * y := ⟨_, rfl⟩
              have hw := xmul x y k (by omega) HY.out (by omega)
              have hadd := xadd acc z (xacc acc k (by omega) HA.out) (by rw [hz]; exact hw.2.1)
              have hmul := hw.1
              rw [← hz] at hmul
              have HZ := Lib.hid hz; clear hz hw
              go_wp2_with (go_at_call 70; refine HX.out.mono ?_; rintro e w1 ⟨rfl, ⟨⟨A2, c2, hx2⟩, ht2⟩⟩; have cf : w1.cell? ⟨q, 1, none⟩ = some (.int .i64 0) := hx2.1.cell 1; have HX2 : Hid (XM wr q B w1 t 0) := ⟨⟨A2, c2, hx2⟩, ht2⟩; have HX3 := Lib.hid hx2; clear hx2 ht2)
              go_ret
              refine xnum_end (r := (acc + x * 128 ^ k, 0, k + 1)) (by rw [HS.out, if_neg h128, if_neg (by omega)]) ?_ rfl HT.out (HM.out.trans HX2.out)
              show ((acc : Int) + (z : Int)) = ((acc + x * 128 ^ k : Nat) : Int)
              rw [HZ.out, HY.out, show x % 128 = x from by omega]
              rfl
          · have h9b : 9 ≤ k := by omega
            by_cases hd : 1 < x % 128
            · go_wp2_with (first
                | (go_at_call 70; refine HX.out.mono ?_; rintro e w1 ⟨rfl, ⟨⟨A2, c2, hx2⟩, ht2⟩⟩; have cf : w1.cell? ⟨q, 1, none⟩ = some (.int .i64 0) := hx2.1.cell 1; have HX2 : Hid (XM wr q B w1 t 0) := ⟨⟨A2, c2, hx2⟩, ht2⟩; have HX3 := Lib.hid hx2; clear hx2 ht2)
                | (go_at_call 71; refine (xbad_any q B A2 c2 t w1 HX3.out).mono ?_; rintro e w2 ⟨rfl, hb⟩; have HBD := Lib.hid hb; clear hb))
              go_ret
              exact xnum_end (r := (0, 4, k + 1)) (by rw [HS.out, if_neg h128, if_pos (.inr ⟨by omega, by omega⟩)]) rfl rfl HT.out ((HM.out.trans HX2.out).trans HBD.out)
            · have hd1 : x % 128 ≤ 1 := by omega
              clear hd
              by_cases hz0 : x % 128 < 1
              · obtain ⟨z, hz⟩ : ∃ z : Nat, z = x % 128 * y := ⟨_, rfl⟩
                have hw := xmul x y k (by omega) HY.out (by omega)
                have hadd := xadd acc z (xacc acc k (by omega) HA.out) (by rw [hz]; exact hw.2.1)
                have hmul := hw.1
                rw [← hz] at hmul
                have HZ := Lib.hid hz; clear hz hw
                go_wp2_with (first
                  | (go_at_call 70; refine HX.out.mono ?_; rintro e w1 ⟨rfl, ⟨⟨A2, c2, hx2⟩, ht2⟩⟩; have cf : w1.cell? ⟨q, 1, none⟩ = some (.int .i64 0) := hx2.1.cell 1; have HX2 : Hid (XM wr q B w1 t 0) := ⟨⟨A2, c2, hx2⟩, ht2⟩; have HX3 := Lib.hid hx2; clear hx2 ht2)
                  | (go_at_call 71; refine (xbad_any q B A2 c2 t w1 HX3.out).mono ?_; rintro e w2 ⟨rfl, hb⟩; have HBD := Lib.hid hb; clear hb))
                go_ret
                exact xnum_end (r := (0, 4, k + 1)) (by rw [HS.out, if_neg h128, if_pos (.inl ⟨by omega, by omega⟩)]) rfl rfl HT.out ((HM.out.trans HX2.out).trans HBD.out)
              · have hz1 : 1 ≤ x % 128 := by omega
                clear hz0
                obtain ⟨z, hz⟩ : ∃ z : Nat, z = x % 128 * y := ⟨_, rfl⟩
                have hw := xmul x y k (by omega) HY.out (by omega)
                have hadd := xadd acc z (xacc acc k (by omega) HA.out) (by rw [hz]; exact hw.2.1)
                have hmul := hw.1
                rw [← hz] at hmul
                have HZ := Lib.hid hz; clear hz hw
                go_wp2_with (go_at_call 70; refine HX.out.mono ?_; rintro e w1 ⟨rfl, ⟨⟨A2, c2, hx2⟩, ht2⟩⟩; have cf : w1.cell? ⟨q, 1, none⟩ = some (.int .i64 0) := hx2.1.cell 1; have HX2 : Hid (XM wr q B w1 t 0) := ⟨⟨A2, c2, hx2⟩, ht2⟩; have HX3 := Lib.hid hx2; clear hx2 ht2)
                go_ret
                refine xnum_end (r := (acc + x * 128 ^ k, 0, k + 1)) (by rw [HS.out, if_neg h128, if_neg (by omega)]) ?_ rfl HT.out (HM.out.trans HX2.out)
                show ((acc : Int) + (z : Int)) = ((acc + x * 128 ^ k : Nat) : Int)
                rw [HZ.out, HY.out, show x % 128 = x from by omega]
                rfl
    · have e10 : k = 10 := by omega
      subst e10
      have HD := Lib.hid hrd; clear hrd
      obtain ⟨⟨A1, c1, hx1⟩, ht⟩ := hm
      have HM : Hid (XM w q B wr (m.drop 10) 0) := ⟨⟨A1, c1, hx1⟩, ht⟩
      have HX := Lib.hid hx1; clear hx1 ht hx hkl
      go_wp2_with (go_at_call 71; refine (xbad_any q B A1 c1 _ wr HX.out).mono ?_; rintro e w2 ⟨rfl, hb⟩; have HBD := Lib.hid hb; clear hb)
      go_ret
      exact xnum_end HD.out rfl rfl rfl (HM.out.trans HBD.out)

end Go.Proofs.Ytgchfckmhibeaaa

/-
  A frame taken: by the program, and by the document.
-/
namespace Go.Proofs.Ytgchfckmhibeaaa
open Go.RowKit

theorem moved_later {p : Nat} {v : Value} {l : List UInt8} {k f : Nat} {w w1 w2 : World} (h : Turn (fun _ => False) w w1) (hp : w.heap.size ≤ p) (g : Moved w1 p v l w2 k f) : Turn (fun _ => False) w w2 :=
  h.fresh g.2 (fun k e => by rw [e]; exact hp)

/-- How many bytes the payload has, where it begins, the fault. -/
def heads (l : List UInt8) : Nat × Nat × Nat := if (rdCount 4194304 l).2.1 ≠ 0 then (0, 0, (rdCount 4194304 l).2.1) else ((rdCount 4194304 l).1, (rdCount 4194304 l).2.2, 0)

theorem heads_bad {l : List UInt8} {f : Nat} (h : (rdCount 4194304 l).2.1 = f) (h0 : f ≠ 0) : heads l = (0, 0, f) := by
  unfold heads
  rw [h, if_pos h0]
theorem heads_ok {l : List UInt8} (h : (rdCount 4194304 l).2.1 = 0) : heads l = ((rdCount 4194304 l).1, (rdCount 4194304 l).2.2, 0) := by
  unfold heads
  rw [h, if_neg (by simp)]

def HeadPost (w : World) (l : List UInt8) (e : Ending) (w' : World) : Prop :=
  e = .returned (.tuple #[.int .i64 (heads l).1, .int .i64 (heads l).2.1, .int .i64 (heads l).2.2]) ∧ Turn (fun _ => False) w w'

theorem head_end {w w' : World} {l : List UInt8} {a b c : Int} {r : Nat × Nat × Nat} (h : heads l = r) (ha : a = r.1) (hb : b = r.2.1) (hc : c = r.2.2) (ht : Turn (fun _ => False) w w') :
    HeadPost w l (.returned (.tuple #[.int .i64 a, .int .i64 b, .int .i64 c])) w' := by
  subst ha hb hc h
  exact ⟨rfl, ht⟩

set_option maxRecDepth 100000 in
set_option maxHeartbeats 1000000 in
theorem length_m (m : Nat) (v : Value) (l : List UInt8) (w : World) (hv : Rd w v l) (hl : l.length ≤ 1000000) (hm : m ≤ l.length) (hmin : (m = 10 ∧ 10 < l.length) ∨ (m = l.length ∧ l.length ≤ 10)) (hcut : Hid (l.take m = l.take 10)) :
    Calls Try.prog 64 #[v] w (HeadPost w l) := by
  have HV := Lib.hid hv
  obtain ⟨A, c, rfl, hcc, hxx⟩ := hv
  clear hxx
  have hcap : c ≤ 9223372036854775807 := by have := hcc.2; unfold maxLen at this; omega
  have hcl := hcc.1
  clear hcc
  have HF := Lib.hid (HV.out.front m hm)
  have hml : Hid ((l.take m).length = m) := by rw [List.length_take]; exact Nat.min_eq_left hm
  obtain ⟨t, ht⟩ : ∃ t, t = l.take m := ⟨_, rfl⟩
  rw [← ht] at HF hml hcut
  have HR : Hid (rdCount 4194304 t = rdCount 4194304 l) := by rw [hcut.out]; exact rdCount_take _ _
  have HRL : Hid ((rdCount 4194304 t).2.2 ≤ m) := by rw [rdCount_at, ← hml.out]; exact rdNum_long t
  clear ht
  obtain ⟨r, hr⟩ : ∃ r, r = rdCount 4194304 l := ⟨_, rfl⟩
  rw [HR.out, ← hr] at HRL
  have HE : Hid (heads l = if r.2.1 ≠ 0 then (0, 0, r.2.1) else (r.1, r.2.2, 0)) := by rw [hr]; rfl
  have HD : Hid (rdCount 4194304 (t.drop 0) = r) := by rw [List.drop_zero, HR.out, hr]; trivial
  clear hr HR
  rcases hmin with ⟨rfl, h10⟩ | ⟨rfl, h10⟩
  all_goals
    by_cases h0 : r.2.1 = 0
    · obtain ⟨⟨x, f, k⟩, hq⟩ : ∃ q, q = r := ⟨_, rfl⟩
      subst hq
      obtain rfl : f = 0 := h0
      have hk : k ≤ _ := HRL.out
      go_enter Try.func64, Try.ntmps64
      go_wp2_with (first
        | (go_at_call 44; refine (new_reader _ t w HF.out (by rw [hml.out]; omega)).mono ?_; rintro e w1 ⟨p, u, rfl, hr1, ht1, hp1, _⟩; have HR1 := Lib.hid hr1; have HT1 := Lib.hid ht1; have HP1 := Lib.hid hp1; clear hr1 ht1 hp1)
        | (go_at_call 85; refine (rcount p u t 0 0 w1 4194304 (by omega) HR1.out).mono ?_; intro e w2 hg; obtain ⟨rfl, hm2⟩ := got_ok hg ⟨rfl, by rw [HD.out]⟩; rw [HD.out] at hm2 ⊢; have HM2 := Lib.hid hm2; clear hm2 hg)
        | (go_at_call 46; refine (fault_any p u t _ _ w2 HM2.out.1).mono ?_; rintro e w3 ⟨rfl, rfl⟩)
        | (go_at_call 48; refine (left_any p u t _ _ w2 HM2.out.1).mono ?_; rintro e w3 ⟨rfl, n3, rfl⟩; rw [hml.out]))
      go_ret3
      exact head_end (r := (x, k, 0)) (by rw [HE.out]; rfl) rfl (by simp; omega) rfl ((moved_later HT1.out HP1.out HM2.out).drewN _)
    · obtain ⟨⟨x, f, k⟩, hq⟩ : ∃ q, q = r := ⟨_, rfl⟩
      subst hq
      have hf : f ≠ 0 := h0
      have hf2 : (((f : Int) == 0) = false) := by rw [beq_eq_false_iff_ne]; omega
      have hf3 : (((f : Int) != 0) = true) := by rw [bne_iff_ne]; omega
      have H0 := Lib.hid hf; clear h0 hf
      go_enter Try.func64, Try.ntmps64
      go_wp2_with (first
        | (go_at_call 44; refine (new_reader _ t w HF.out (by rw [hml.out]; omega)).mono ?_; rintro e w1 ⟨p, u, rfl, hr1, ht1, hp1, _⟩; have HR1 := Lib.hid hr1; have HT1 := Lib.hid ht1; have HP1 := Lib.hid hp1; clear hr1 ht1 hp1)
        | (go_at_call 85; refine (rcount p u t 0 0 w1 4194304 (by omega) HR1.out).mono ?_; intro e w2 hg; obtain ⟨rfl, hm2⟩ := got_bad hg (fun h => H0.out (by have := h.2; rw [HD.out] at this; exact this)); rw [if_pos rfl, HD.out] at hm2; have HM2 := Lib.hid hm2; clear hm2 hg)
        | (go_at_call 46; refine (fault_any p u t _ _ w2 HM2.out.1).mono ?_; rintro e w3 ⟨rfl, rfl⟩))
      go_ret3
      exact head_end (r := (0, 0, f)) (by rw [HE.out, if_pos H0.out]) rfl rfl rfl (moved_later HT1.out HP1.out HM2.out)

theorem length_any (v : Value) (l : List UInt8) (w : World) (hv : Rd w v l) (hl : l.length ≤ 1000000) : Calls Try.prog 64 #[v] w (HeadPost w l) := by
  by_cases h : l.length ≤ 10
  · exact length_m l.length v l w hv hl (Nat.le_refl _) (.inr ⟨rfl, h⟩) (by show _ = _; rw [List.take_of_length_le (Nat.le_refl _), List.take_of_length_le h])
  · exact length_m 10 v l w hv hl (by omega) (.inl ⟨rfl, by omega⟩) (by show _ = _; rfl)

def TakePost (w : World) (l : List UInt8) (e : Ending) (w' : World) : Prop :=
  ∃ v', e = .returned (.tuple #[v', .int .i64 (takes l).2.1, .int .i64 (takes l).2.2]) ∧ Rd w' v' (takes l).1 ∧ Turn (fun _ => False) w w'
/-- Likewise, and where it lies. -/
def TakeAt (Loc : Nat → Prop) (w : World) (l : List UInt8) (e : Ending) (w' : World) : Prop :=
  ∃ v', e = .returned (.tuple #[v', .int .i64 (takes l).2.1, .int .i64 (takes l).2.2]) ∧ Rd w' v' (takes l).1 ∧ Turn (fun _ => False) w w' ∧ ∀ k, v'.ownBlock = some k → Loc k
theorem TakeAt.post {Loc : Nat → Prop} {w w' : World} {l : List UInt8} {e : Ending} (h : TakeAt Loc w l e w') : TakePost w l e w' := by
  obtain ⟨v', h1, h2, h3, _⟩ := h
  exact ⟨v', h1, h2, h3⟩

theorem take_end {Loc : Nat → Prop} {w w' : World} {l : List UInt8} {v : Value} {b c : Int} {r : List UInt8 × Nat × Nat} (h : takes l = r) (hv : Rd w' v r.1) (hk : ∀ k, v.ownBlock = some k → Loc k) (hb : b = r.2.1) (hc : c = r.2.2) (ht : Turn (fun _ => False) w w') :
    TakeAt Loc w l (.returned (.tuple #[v, .int .i64 b, .int .i64 c])) w' := by
  subst hb hc h
  exact ⟨v, rfl, hv, ht, hk⟩
theorem nowhere {Loc : Nat → Prop} : ∀ k, (Value.slice none 0 0).ownBlock = some k → Loc k := fun _ h => by cases h

theorem rdCount_le (most : Nat) (l : List UInt8) : (rdCount most l).1 ≤ most := by
  unfold rdCount
  split
  · exact Nat.zero_le _
  · split
    · exact Nat.zero_le _
    · show (rdNum l).1 ≤ most
      omega

set_option maxRecDepth 100000 in
set_option maxHeartbeats 2000000 in
theorem frame_take_at (Loc : Nat → Prop) (v : Value) (l : List UInt8) (w : World) (hv : Rd w v l) (hl : l.length ≤ 1000000) (hloc : Hid (∀ k, w.heap.size ≤ k → Loc k)) :
    Calls Try.prog 43 #[v] w (TakeAt Loc w l) := by
  have HV := Lib.hid hv
  obtain ⟨A, c, rfl, hcc, hxx⟩ := hv
  have hcap : c ≤ 9223372036854775807 := by have := hcc.2; unfold maxLen at this; omega
  have hcl := hcc.1
  clear hxx hcc
  have HLN := Lib.hid (fun W (h : Rd W (.slice A l.length c) l) => length_any _ l W h hl)
  obtain ⟨r, hr⟩ : ∃ r, r = rdCount 4194304 l := ⟨_, rfl⟩
  have hn : r.1 ≤ 4194304 := by rw [hr]; exact rdCount_le _ _
  have hk : r.2.2 ≤ l.length := by rw [hr, rdCount_at]; exact rdNum_long l
  have HTK : Hid (takes l = if r.2.1 ≠ 0 then ([], 0, r.2.1) else if l.length < r.2.2 + r.1 + 4 then ([], 0, 3) else
      if (gets ((l.drop r.2.2).take (r.1 + 4))).2 ≠ 0 then ([], 0, (gets ((l.drop r.2.2).take (r.1 + 4))).2) else ((gets ((l.drop r.2.2).take (r.1 + 4))).1, r.2.2 + r.1 + 4, 0)) := by rw [hr]; rfl
  have HHD : Hid (heads l = if r.2.1 ≠ 0 then (0, 0, r.2.1) else (r.1, r.2.2, 0)) := by rw [hr]; rfl
  clear hr
  obtain ⟨⟨n, f, k⟩, rfl⟩ : ∃ q, q = r := ⟨_, rfl⟩
  replace hn : n ≤ 4194304 := hn
  replace hk : k ≤ l.length := hk
  have HHP : Hid (∀ W e W', HeadPost W l e W' → e = .returned (.tuple #[.int .i64 (if f ≠ 0 then (0, 0, f) else (n, k, 0) : Nat × Nat × Nat).1, .int .i64 (if f ≠ 0 then (0, 0, f) else (n, k, 0) : Nat × Nat × Nat).2.1, .int .i64 (if f ≠ 0 then (0, 0, f) else (n, k, 0) : Nat × Nat × Nat).2.2]) ∧ Turn (fun _ => False) W W') := by
    rintro W e W' ⟨he, ht⟩
    rw [HHD.out] at he
    exact ⟨he, ht⟩
  clear HHD
  by_cases hf : f = 0
  · subst hf
    rw [if_neg (by simp)] at HTK HHP
    by_cases hsh : l.length < k + n + 4
    · rw [if_pos hsh] at HTK
      go_enter Try.func43, Try.ntmps43
      go_wp2_with (go_at_call 64; refine (HLN.out w HV.out).mono ?_; intro e w1 hp; obtain ⟨rfl, ht⟩ := HHP.out _ _ _ hp; have HT := Lib.hid ht; clear hp ht)
      go_ret3
      exact take_end HTK.out (Rd.none _) nowhere rfl rfl HT.out
    · rw [if_neg hsh] at HTK
      obtain ⟨x, hx⟩ : ∃ x, x = (l.drop k).take (n + 4) := ⟨_, rfl⟩
      have HXL : Hid (x.length = n + 4) := by rw [hx, List.length_take, List.length_drop]; exact Nat.min_eq_left (by omega)
      obtain ⟨ad, rfl⟩ := HV.out.some_at (by omega)
      have HX : Hid (Rd w (.slice (some (ad.add k)) (n + 4) (c - k)) x) := by rw [hx]; exact (HV.out.back k hk).front (n + 4) (by omega)
      rw [← hx] at HTK
      clear hx
      obtain ⟨g, hg⟩ : ∃ g, g = gets x := ⟨_, rfl⟩
      have HGP : Hid (∀ W e W', GetAt Loc W x e W' → ∃ A c, e = .returned (.tuple #[.slice A g.1.length c, .int .i64 g.2]) ∧ Rd W' (.slice A g.1.length c) g.1 ∧ Turn (fun _ => False) W W' ∧ ∀ k, (Value.slice A g.1.length c).ownBlock = some k → Loc k) := by
        rintro W e W' ⟨v', he, hr, ht, hk⟩
        rw [← hg] at he hr
        obtain ⟨A, c, rfl⟩ := Rd.shape hr
        exact ⟨A, c, he, hr, ht, hk⟩
      rw [← hg] at HTK
      clear hg
      obtain ⟨⟨p, f2⟩, rfl⟩ : ∃ q, q = g := ⟨_, rfl⟩
      have hck : ¬ c = k := by omega
      by_cases hg2 : f2 = 0
      · subst hg2
        rw [if_neg (by simp)] at HTK
        go_enter Try.func43, Try.ntmps43
        go_wp2_with (first
          | (go_at_call 64; refine (HLN.out w HV.out).mono ?_; intro e w1 hp; obtain ⟨rfl, ht⟩ := HHP.out _ _ _ hp; have HT := Lib.hid ht; clear hp ht)
          | (go_at_call 65; rw [show k + n + 4 - k = n + 4 by omega]; refine (crc_get_at Loc _ x w1 (HX.out.later HT.out) (by rw [HXL.out]; omega) (fun k hk => hloc.out k (Nat.le_trans HT.out.size hk))).mono ?_; intro e w2 hp; obtain ⟨A2, c2, rfl, hr2, ht2, hk2⟩ := HGP.out _ _ _ hp; have HR2 := Lib.hid hr2; have HT2 := Lib.hid ht2; have HK2 := Lib.hid hk2; clear hp hr2 ht2 hk2))
        go_ret3
        exact take_end HTK.out HR2.out HK2.out rfl rfl (HT.out.trans HT2.out (fun _ _ f => f))
      · have hf2 : (((f2 : Int) == 0) = false) := by rw [beq_eq_false_iff_ne]; omega
        have hf3 : (((f2 : Int) != 0) = true) := by rw [bne_iff_ne]; omega
        rw [if_pos hg2] at HTK
        clear hg2
        go_enter Try.func43, Try.ntmps43
        go_wp2_with (first
          | (go_at_call 64; refine (HLN.out w HV.out).mono ?_; intro e w1 hp; obtain ⟨rfl, ht⟩ := HHP.out _ _ _ hp; have HT := Lib.hid ht; clear hp ht)
          | (go_at_call 65; rw [show k + n + 4 - k = n + 4 by omega]; refine (crc_get_at Loc _ x w1 (HX.out.later HT.out) (by rw [HXL.out]; omega) (fun k hk => hloc.out k (Nat.le_trans HT.out.size hk))).mono ?_; intro e w2 hp; obtain ⟨A2, c2, rfl, hr2, ht2, hk2⟩ := HGP.out _ _ _ hp; have HR2 := Lib.hid hr2; have HT2 := Lib.hid ht2; have HK2 := Lib.hid hk2; clear hp hr2 ht2 hk2))
        go_ret3
        exact take_end HTK.out (Rd.none _) nowhere rfl rfl (HT.out.trans HT2.out (fun _ _ f => f))
  · have hf2 : (((f : Int) == 0) = false) := by rw [beq_eq_false_iff_ne]; omega
    have hf3 : (((f : Int) != 0) = true) := by rw [bne_iff_ne]; omega
    rw [if_pos hf] at HTK HHP
    clear hf
    go_enter Try.func43, Try.ntmps43
    go_wp2_with (go_at_call 64; refine (HLN.out w HV.out).mono ?_; intro e w1 hp; obtain ⟨rfl, ht⟩ := HHP.out _ _ _ hp; have HT := Lib.hid ht; clear hp ht)
    go_ret3
    exact take_end HTK.out (Rd.none _) nowhere rfl rfl HT.out

theorem frame_take (v : Value) (l : List UInt8) (w : World) (hv : Rd w v l) (hl : l.length ≤ 1000000) : Calls Try.prog 43 #[v] w (TakePost w l) :=
  (frame_take_at (fun _ => True) v l w hv hl (fun _ _ => trivial)).mono fun _ _ h => h.post

end Go.Proofs.Ytgchfckmhibeaaa
