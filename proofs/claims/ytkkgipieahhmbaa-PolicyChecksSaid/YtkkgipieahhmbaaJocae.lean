/-
  Texts laid one behind the other: Ra Rb Rc Zl R2a R2b R2c Es.
-/
import Derived.Test.YtkkgipieahhmbaaJocad
import Derived.Test.YtkkgipieahhmbaaJocaa
import Derived.Test.YtkkgipieahhmbaaJocab
import Derived.Lib.MinMax
import Derived.Laws.OwnMore

/-
  The document's own reader: its next byte, and that it is no such thing.
-/
namespace Go.Proofs.Ytkkgipieahhmbaa
open Go.RowKit

/-- The document's reader in block q: of bytes m that are left, in the slice u, with fault f. -/
def XRd (w : World) (q B : Nat) (A : Option Addr) (c : Nat) (m : List UInt8) (f : Nat) : Prop :=
  Box w q 36 #[.slice A m.length c, .int .i64 f] ∧ Rd w (.slice A m.length c) m ∧ ((∀ g, (Value.slice A m.length c).ownBlock = some g → g = B) ∧ B ≠ q) ∧ m.length ≤ c ∧ c ≤ maxLen

/-- Behind a call on it. -/
def XM (w : World) (q B : Nat) (w' : World) (m : List UInt8) (f : Nat) : Prop := (∃ A c, XRd w' q B A c m f) ∧ Turn (fun g => g = q) w w'

theorem XM.refl {w : World} {q B : Nat} {A : Option Addr} {c : Nat} {m : List UInt8} {f : Nat} (h : XRd w q B A c m f) : XM w q B w m f := ⟨⟨_, _, h⟩, Turn.refl _ _⟩
theorem XM.trans {a b c : World} {q B : Nat} {m m' : List UInt8} {f f' : Nat} (h : XM a q B b m f) (g : XM b q B c m' f') : XM a q B c m' f' := ⟨g.1, h.2.trans g.2 (fun _ _ t => t)⟩

theorem XRd.fault {w : World} {q B : Nat} {A : Option Addr} {c : Nat} {m : List UInt8} {f : Nat} (h : XRd w q B A c m f) (g : Int) (f' : Nat) (hg : g = f') : XM w q B (w.setCell ⟨q, 1, none⟩ (.int .i64 g)) m f' := by
  subst hg
  obtain ⟨hb, hr, hn, hc⟩ := h
  have t : Turn (fun k => k = q) w (w.setCell ⟨q, 1, none⟩ (.int .i64 f')) := (Turn.refl (fun k => k = q) w).setCell (p := ⟨q, 1, none⟩) (fun _ => rfl) _
  exact ⟨⟨A, c, by simpa using hb.set 1 (.int .i64 (f' : Int)), hr.turn t (fun k hk e => hn.2 ((hn.1 k hk).symm.trans e)), hn, hc⟩, t⟩

/-- The first n bytes. -/
theorem XRd.front {w : World} {q B : Nat} {A : Option Addr} {c : Nat} {m : List UInt8} {f : Nat} (h : XRd w q B A c m f) (n : Nat) (hn : n ≤ m.length) : Rd w (.slice A n c) (m.take n) := by
  exact h.2.1.front n hn

/-- The first n bytes cut off. -/
theorem XRd.cut {w : World} {q B : Nat} {A : Option Addr} {c : Nat} {m : List UInt8} {f : Nat} (h : XRd w q B A c m f) (n : Nat) (hn : n ≤ m.length) (D : Option Addr) (hD : D = if c = n then A else A.map fun x => x.add n) :
    XM w q B (w.setCell ⟨q, 0, none⟩ (.slice D (m.length - n) (c - n))) (m.drop n) f := by
  subst hD
  obtain ⟨hb, hr, hne, hc, hm⟩ := h
  have hl : (m.drop n).length = m.length - n := List.length_drop
  have t : Turn (fun k => k = q) w (w.setCell ⟨q, 0, none⟩ (.slice (if c = n then A else A.map fun x => x.add n) (m.length - n) (c - n))) := (Turn.refl (fun k => k = q) w).setCell (p := ⟨q, 0, none⟩) (fun _ => rfl) _
  have hr' : Rd _ (.slice A m.length c) m := hr.turn t (fun k hk e => hne.2 ((hne.1 k hk).symm.trans e))
  refine ⟨⟨(if c = n then A else A.map fun x => x.add n), c - n, ?_, ?_, ?_, by omega, by omega⟩, t⟩
  · rw [hl]
    simpa using hb.set 0 (.slice (if c = n then A else A.map fun x => x.add n) (m.length - n) (c - n))
  · rw [hl]
    obtain ⟨A', c', e, _, h1, h2⟩ := hr'
    injection e with e1 e2 e3
    subst e1 e3
    by_cases hcn : c = n
    · have e0 : m.drop n = [] := List.drop_eq_nil_of_le (by omega)
      have e4 : m.length - n = 0 := by omega
      rw [e0, e4]
      refine ⟨_, c - n, rfl, ⟨Nat.zero_le _, by omega⟩, fun _ => ⟨rfl, by omega⟩, fun _ _ j b hj => by simp at hj⟩
    · rw [if_neg hcn] at h2 ⊢
      refine ⟨_, c - n, by rw [hl], ⟨by omega, by omega⟩, fun e => ?_, fun ad had j b hj => ?_⟩
      · have h5 : A = none := by simpa using e
        obtain ⟨h6, h7⟩ := h1 h5
        subst h6
        exact ⟨by simp, by omega⟩
      · obtain ⟨ad0, h5, rfl⟩ := Option.map_eq_some_iff.1 had
        rw [add_of_add]
        exact h2 ad0 h5 (n + j) b (by rw [List.getElem?_drop] at hj; exact hj)
  · rw [hl]
    refine ⟨fun g hg => ?_, hne.2⟩
    cases A with
    | none =>
      have : (Value.slice (if c = n then (none : Option Addr) else Option.map (fun x : Addr => x.add n) none) (m.length - n) (c - n)).ownBlock = none := by split <;> rfl
      rw [this] at hg
      cases hg
    | some a =>
      have : (Value.slice (if c = n then some a else Option.map (fun x : Addr => x.add n) (some a)) (m.length - n) (c - n)).ownBlock = some a.block := by
        split
        · rfl
        · simp [Value.ownBlock, add_block]
      rw [this] at hg
      exact hne.1 g hg

set_option maxRecDepth 100000 in
set_option maxHeartbeats 400000 in
theorem xbad_any (q B : Nat) (A : Option Addr) (c : Nat) (m : List UInt8) (w : World) (h : XRd w q B A c m 0) :
    Calls Try.prog 42 #[.pointer (some ⟨q, 0, none⟩)] w fun e w' => e = .returned (.tuple #[]) ∧ XM w q B w' m 4 := by
  have c1 : w.cell? ⟨q, 1, none⟩ = some (.int .i64 0) := h.1.cell 1
  have f1 : w.frozen? ⟨q, 1, none⟩ = false := h.1.free 1
  have HB := Lib.hid (h.fault 4 4 rfl)
  clear h
  go_enter Try.func42, Try.ntmps42
  go_wp2
  go_end0
  exact ⟨rfl, HB.out⟩

set_option maxRecDepth 100000 in
set_option maxHeartbeats 400000 in
theorem xone_bad (q B : Nat) (A : Option Addr) (c : Nat) (m : List UInt8) (f : Nat) (hf : f ≠ 0) (w : World) (h : XRd w q B A c m f) :
    Calls Try.prog 41 #[.pointer (some ⟨q, 0, none⟩)] w fun e w' => e = .returned (.int .i64 0) ∧ w = w' := by
  have c1 : w.cell? ⟨q, 1, none⟩ = some (.int .i64 f) := h.1.cell 1
  have hf2 : (((f : Int) == 0) = false) := by rw [beq_eq_false_iff_ne]; omega
  have hf3 : (((f : Int) != 0) = true) := by rw [bne_iff_ne]; omega
  clear h hf
  go_enter Try.func41, Try.ntmps41
  go_wp2
  go_ret
  exact ⟨rfl, rfl⟩

set_option maxRecDepth 100000 in
set_option maxHeartbeats 400000 in
theorem xone_none (q B : Nat) (A : Option Addr) (c : Nat) (w : World) (h : XRd w q B A c [] 0) :
    Calls Try.prog 41 #[.pointer (some ⟨q, 0, none⟩)] w fun e w' => e = .returned (.int .i64 0) ∧ XM w q B w' [] 3 := by
  have c0 : w.cell? ⟨q, 0, none⟩ = some (.slice A 0 c) := h.1.cell 0
  have c1 : w.cell? ⟨q, 1, none⟩ = some (.int .i64 0) := h.1.cell 1
  have f1 : w.frozen? ⟨q, 1, none⟩ = false := h.1.free 1
  have HB := Lib.hid (h.fault 3 3 rfl)
  clear h
  go_enter Try.func41, Try.ntmps41
  go_wp2
  go_ret
  exact ⟨rfl, HB.out⟩

set_option maxRecDepth 100000 in
set_option maxHeartbeats 400000 in
theorem xone_some (q B : Nat) (A : Option Addr) (c : Nat) (b : UInt8) (m : List UInt8) (w : World) (h : XRd w q B A c (b :: m) 0) :
    Calls Try.prog 41 #[.pointer (some ⟨q, 0, none⟩)] w fun e w' => e = .returned (.int .i64 (b.toNat : Int)) ∧ XM w q B w' m 0 := by
  have c0 : w.cell? ⟨q, 0, none⟩ = some (.slice A (m.length + 1) c) := h.1.cell 0
  have f0 : w.frozen? ⟨q, 0, none⟩ = false := h.1.free 0
  have c1 : w.cell? ⟨q, 1, none⟩ = some (.int .i64 0) := h.1.cell 1
  have hlen : m.length + 1 ≤ c := h.2.2.2.1
  have hmax : c ≤ 9223372036854775807 := by have := h.2.2.2.2; unfold maxLen at this; omega
  have hbyte : b.toNat < 256 := UInt8.toNat_lt b
  obtain ⟨ad, hA, hcell⟩ : ∃ ad, A = some ad ∧ w.cell? ad = some (.int .u8 (b.toNat : Int)) := by
    obtain ⟨A', c', e, _, h1, h2⟩ := h.2.1
    injection e with e1 e2 e3
    subst e1
    cases A with
    | none => exact absurd (h1 rfl).1 (by simp)
    | some ad =>
      refine ⟨ad, rfl, ?_⟩
      have := h2 ad rfl 0 b rfl
      rwa [show ad.add 0 = ad by simp [Addr.add]] at this
  have HC := Lib.hid (h.cut 1 (by simp) _ rfl)
  clear h
  subst hA
  obtain ⟨x, hx⟩ : ∃ x : Nat, x = b.toNat := ⟨_, rfl⟩
  rw [← hx] at hcell hbyte ⊢
  clear hx
  by_cases hc1 : c = 1
  · subst hc1
    have hm0 : m.length = 0 := by omega
    go_enter Try.func41, Try.ntmps41
    go_wp2
    go_ret
    refine ⟨rfl, ?_⟩
    have := HC.out
    simpa [hm0] using this
  · go_enter Try.func41, Try.ntmps41
    go_wp2
    go_ret
    refine ⟨rfl, ?_⟩
    have := HC.out
    simpa [hc1, Addr.add] using this

end Go.Proofs.Ytkkgipieahhmbaa

/-
  A number read by the document's own reader.
-/
namespace Go.Proofs.Ytkkgipieahhmbaa
open Go.RowKit

def XNum (q B : Nat) (m : List UInt8) (w : World) (e : Ending) (w' : World) : Prop :=
  e = .returned (.int .u64 (rdNum m).1) ∧ XM w q B w' (m.drop (rdNum m).2.2) (rdNum m).2.1

theorem xnum_end {q B : Nat} {m : List UInt8} {w w' : World} {val : Int} {t : List UInt8} {f : Nat} {r : Nat × Nat × Nat} (hr : r = rdNum m) (h1 : val = r.1) (h2 : f = r.2.1) (h3 : t = m.drop r.2.2)
    (hm : XM w q B w' t f) : XNum q B m w (.returned (.int .u64 val)) w' := by
  subst h1 h2 h3 hr
  exact ⟨rfl, hm⟩

def XRel (q B : Nat) (m : List UInt8) (w : World) (x3 x4 x5 : Value) (wr : World) (k acc y : Nat) : Prop :=
  x5 = .int .i64 k ∧ k ≤ 10 ∧ (k < 10 → x3 = .int .u64 acc ∧ x4 = .int .u64 y ∧ Hid (acc < 128 ^ k) ∧ Hid (y = 128 ^ k)) ∧ rdF (10 - k) k acc (m.drop k) = rdNum m ∧ XM w q B wr (m.drop k) 0 ∧ k ≤ m.length

theorem rdF_cons (k acc : Nat) (hk : k < 10) (b : UInt8) (t : List UInt8) (x : Nat) (hx : x = b.toNat) :
    rdF (10 - k) k acc (b :: t) = if 128 ≤ x then rdF (10 - (k + 1)) (k + 1) (acc + (x - 128) * 128 ^ k) t
      else if (0 < k ∧ x = 0) ∨ (k = 9 ∧ 1 < x) then (0, 4, k + 1) else (acc + x * 128 ^ k, 0, k + 1) := by
  have e : 10 - k = (10 - (k + 1)) + 1 := by omega
  rw [e]
  subst hx
  rfl

/-- What the product and the sum come to. -/
theorem xmul (x y k : Nat) (hk : k ≤ 9) (hy : y = 128 ^ k) (hd : k < 9 ∨ x % 128 ≤ 1) : IntKind.u64.wrap ((x : Int) % 128 * (y : Int)) = ((x % 128 * y : Nat) : Int) ∧ x % 128 * y ≤ 9223372036854775808 ∧ (k < 9 → x % 128 * y ≤ 127 * y) := by
  have hp := pow_le k hk
  have h1 : x % 128 * y ≤ 9223372036854775808 := by
    subst hy
    rcases hd with h | h
    · have h2 := pow_le (k + 1) (by omega)
      rw [Nat.pow_succ] at h2
      have h3 : x % 128 * 128 ^ k ≤ 127 * 128 ^ k := Nat.mul_le_mul_right _ (by omega)
      omega
    · have h3 : x % 128 * 128 ^ k ≤ 1 * 128 ^ k := Nat.mul_le_mul_right _ h
      omega
  refine ⟨?_, h1, fun _ => Nat.mul_le_mul_right _ (by omega)⟩
  have e : ((x : Int) % 128 * (y : Int)) = ((x % 128 * y : Nat) : Int) := by
    rw [Int.natCast_mul]
    rfl
  rw [e, IntKind.wrap_u64]
  omega

theorem xadd (acc z : Nat) (h1 : acc < 9223372036854775808) (h2 : z ≤ 9223372036854775808) : IntKind.u64.wrap ((acc : Int) + (z : Int)) = ((acc + z : Nat) : Int) := by
  rw [IntKind.wrap_u64]
  omega

theorem xacc (acc k : Nat) (hk : k ≤ 9) (h : acc < 128 ^ k) : acc < 9223372036854775808 := by
  have := pow_le k hk
  omega

theorem xnext {q B : Nat} {m t : List UInt8} {b : UInt8} {w wr w1 : World} {k acc y x z : Nat} {v : Int} (hk : k < 10) (hacc : acc < 128 ^ k) (hy : y = 128 ^ k) (hx : x = b.toNat) (hx2 : x < 256) (h128 : 128 ≤ x) (hz : z = x % 128 * y)
    (hv : k < 9 → v = ((y * 128 : Nat) : Int)) (hm : m.drop k = b :: t) (hrd : rdF (10 - k) k acc (m.drop k) = rdNum m) (h0 : XM w q B wr (m.drop k) 0) (h1 : XM wr q B w1 t 0) :
    ∃ k' acc' y', XRel q B m w (.int .u64 ((acc + z : Nat) : Int)) (.int .u64 v) (.int .i64 ((k : Int) + 1)) w1 k' acc' y' := by
  have hlen : k < m.length := by
    rcases Nat.lt_or_ge k m.length with h | h
    · exact h
    · rw [List.drop_eq_nil_of_le h] at hm
      cases hm
  have ht : t = m.drop (k + 1) := by
    have h2 : m.drop (k + 1) = (m.drop k).drop 1 := by rw [List.drop_drop]
    rw [h2, hm]
    rfl
  refine ⟨k + 1, acc + z, y * 128, by congr 1, by omega, fun h9 => ⟨rfl, by rw [hv (by omega)], ?_, ?_⟩, ?_, ?_, by omega⟩
  · show acc + z < 128 ^ (k + 1)
    have : z ≤ 127 * y := by rw [hz]; exact Nat.mul_le_mul_right _ (by omega)
    rw [Nat.pow_succ]
    omega
  · show y * 128 = 128 ^ (k + 1)
    rw [Nat.pow_succ, hy]
  · rw [← hrd, hm, rdF_cons k acc hk b t x hx, if_pos h128, ← ht, hz, hy, show x % 128 = x - 128 from by omega]
  · rw [← ht]
    exact h0.trans h1

set_option maxRecDepth 100000 in
set_option maxHeartbeats 2000000 in
theorem xnum_any (q B : Nat) (A : Option Addr) (c : Nat) (m : List UInt8) (w : World) (h : XRd w q B A c m 0) :
    Calls Try.prog 36 #[.pointer (some ⟨q, 0, none⟩)] w (XNum q B m w) := by
  have H := Lib.hid h; clear h
  go_enter Try.func36, Try.ntmps36
  go_wp2
  go_loopw [3, 4, 5] (fun x3 x4 x5 wr => ∃ (k acc y : Nat), XRel q B m w x3 x4 x5 wr k acc y) (fun _ _ x5 _ => 10 - (intOf x5).toNat)
  case atStart => exact ⟨0, 0, 1, rfl, by omega, fun _ => ⟨rfl, rfl, by show 0 < 128 ^ 0; simp, by show 1 = 128 ^ 0; simp⟩, rfl, XM.refl H.out, Nat.zero_le _⟩
  case round =>
    obtain ⟨k, acc, y, rfl, hk, hx, hrd, hm, hkl⟩ := hrel
    by_cases h10 : k < 10
    · obtain ⟨rfl, rfl, HA, HY⟩ := hx h10
      have HD := Lib.hid hrd; clear hrd hkl
      obtain ⟨⟨A1, c1, hx1⟩, ht⟩ := hm
      have HM : Hid (XM w q B wr (m.drop k) 0) := ⟨⟨A1, c1, hx1⟩, ht⟩
      clear ht hx
      cases hdr : m.drop k with
      | nil =>
        rw [hdr] at hx1
        have HX := Lib.hid hx1; clear hx1
        have HE : Hid (rdNum m = (0, 3, k)) := by
          show rdNum m = (0, 3, k)
          rw [← HD.out, hdr, show 10 - k = (10 - (k + 1)) + 1 by omega]
          rfl
        have HN := Lib.hid hdr; clear hdr
        go_wp2_with (go_at_call 41; refine (xone_none q B A1 c1 wr HX.out).mono ?_; rintro e w1 ⟨rfl, ⟨⟨A2, c2, hx2⟩, ht2⟩⟩; have cf : w1.cell? ⟨q, 1, none⟩ = some (.int .i64 3) := hx2.1.cell 1; have HX2 : Hid (XM wr q B w1 [] 3) := ⟨⟨A2, c2, hx2⟩, ht2⟩; clear hx2 ht2)
        go_ret
        exact xnum_end HE.out.symm rfl rfl (by rw [HN.out]) (HM.out.trans HX2.out)
      | cons b t =>
        rw [hdr] at hx1
        obtain ⟨x, hx⟩ : ∃ x : Nat, x = b.toNat := ⟨_, rfl⟩
        have hx256 : x < 256 := by rw [hx]; exact UInt8.toNat_lt _
        have HS := Lib.hid (HD.out.symm.trans ((congrArg _ hdr).trans (rdF_cons k acc h10 b t x hx)))
        have HX := Lib.hid (xone_some q B A1 c1 b t wr hx1)
        rw [← hx] at HX
        have HB := Lib.hid hx; clear hx hx1
        have HT : Hid (t = m.drop (k + 1)) := by
          show t = m.drop (k + 1)
          have h2 : m.drop (k + 1) = (m.drop k).drop 1 := by rw [List.drop_drop]
          rw [h2, hdr]
          rfl
        have HN := Lib.hid hdr; clear hdr
        by_cases h128 : 128 ≤ x
        · by_cases h9 : k < 9
          · have hby : IntKind.u64.wrap ((y : Int) * 128) = (y : Int) * 128 := by
              have h1 := pow_le k (by omega)
              have h2 := pow_le (k + 1) (by omega)
              rw [Nat.pow_succ, ← HY.out] at h2
              rw [IntKind.wrap_u64]
              omega
            obtain ⟨z, hz⟩ : ∃ z : Nat, z = x % 128 * y := ⟨_, rfl⟩
            have hw := xmul x y k (by omega) HY.out (by omega)
            have hadd := xadd acc z (xacc acc k (by omega) HA.out) (by rw [hz]; exact hw.2.1)
            have hmul := hw.1
            rw [← hz] at hmul
            have HZ := Lib.hid hz; clear hz hw
            go_wp2_with (go_at_call 41; refine HX.out.mono ?_; rintro e w1 ⟨rfl, ⟨⟨A2, c2, hx2⟩, ht2⟩⟩; have cf : w1.cell? ⟨q, 1, none⟩ = some (.int .i64 0) := hx2.1.cell 1; have HX2 : Hid (XM wr q B w1 t 0) := ⟨⟨A2, c2, hx2⟩, ht2⟩; have HX3 := Lib.hid hx2; clear hx2 ht2)
            go_roundw
            case rel => exact xnext h10 HA.out HY.out HB.out hx256 h128 HZ.out (fun _ => by omega) HN.out HD.out HM.out HX2.out
            case measure => simp [intOf]; omega
          · have h9b : 9 ≤ k := by omega
            by_cases hd : 1 < x % 128
            · have HQ : Hid (rdNum m = (0, 4, k + 1)) := by
                show rdNum m = (0, 4, k + 1)
                rw [HS.out, if_pos h128, show 10 - (k + 1) = 0 by omega]
                rfl
              go_wp2_with (first
                | (go_at_call 41; refine HX.out.mono ?_; rintro e w1 ⟨rfl, ⟨⟨A2, c2, hx2⟩, ht2⟩⟩; have cf : w1.cell? ⟨q, 1, none⟩ = some (.int .i64 0) := hx2.1.cell 1; have HX2 : Hid (XM wr q B w1 t 0) := ⟨⟨A2, c2, hx2⟩, ht2⟩; have HX3 := Lib.hid hx2; clear hx2 ht2)
                | (go_at_call 42; refine (xbad_any q B A2 c2 t w1 HX3.out).mono ?_; rintro e w2 ⟨rfl, hb⟩; have HBD := Lib.hid hb; clear hb))
              go_ret
              exact xnum_end HQ.out.symm rfl rfl HT.out ((HM.out.trans HX2.out).trans HBD.out)
            · have hd1 : x % 128 ≤ 1 := by omega
              clear hd
              obtain rfl : 9 = k := by omega
              obtain ⟨z, hz⟩ : ∃ z : Nat, z = x % 128 * y := ⟨_, rfl⟩
              have hw := xmul x y 9 (by omega) HY.out (by omega)
              have hadd := xadd acc z (xacc acc 9 (by omega) HA.out) (by rw [hz]; exact hw.2.1)
              have hmul := hw.1
              rw [← hz] at hmul
              have HZ := Lib.hid hz; clear hz hw
              go_wp2_with (go_at_call 41; refine HX.out.mono ?_; rintro e w1 ⟨rfl, ⟨⟨A2, c2, hx2⟩, ht2⟩⟩; have cf : w1.cell? ⟨q, 1, none⟩ = some (.int .i64 0) := hx2.1.cell 1; have HX2 : Hid (XM wr q B w1 t 0) := ⟨⟨A2, c2, hx2⟩, ht2⟩; have HX3 := Lib.hid hx2; clear hx2 ht2)
              go_roundw
              case rel => exact xnext h10 HA.out HY.out HB.out hx256 h128 HZ.out (fun h => absurd h (by omega)) HN.out HD.out HM.out HX2.out
              case measure => simp [intOf]
        · have hx128 : x < 128 := by omega
          by_cases h9 : k < 9
          · by_cases hz0 : x % 128 < 1
            · by_cases hk0 : k < 1
              · obtain ⟨z, hz⟩ : ∃ z : Nat, z = x % 128 * y := ⟨_, rfl⟩
                have hw := xmul x y k (by omega) HY.out (by omega)
                have hadd := xadd acc z (xacc acc k (by omega) HA.out) (by rw [hz]; exact hw.2.1)
                have hmul := hw.1
                rw [← hz] at hmul
                have HZ := Lib.hid hz; clear hz hw
                go_wp2_with (go_at_call 41; refine HX.out.mono ?_; rintro e w1 ⟨rfl, ⟨⟨A2, c2, hx2⟩, ht2⟩⟩; have cf : w1.cell? ⟨q, 1, none⟩ = some (.int .i64 0) := hx2.1.cell 1; have HX2 : Hid (XM wr q B w1 t 0) := ⟨⟨A2, c2, hx2⟩, ht2⟩; have HX3 := Lib.hid hx2; clear hx2 ht2)
                go_ret
                refine xnum_end (r := (acc + x * 128 ^ k, 0, k + 1)) (by rw [HS.out, if_neg h128, if_neg (by omega)]) ?_ rfl HT.out (HM.out.trans HX2.out)
                show ((acc : Int) + (z : Int)) = ((acc + x * 128 ^ k : Nat) : Int)
                rw [HZ.out, HY.out, show x % 128 = x from by omega]
                rfl
              · have hk1 : 0 < k := by omega
                obtain ⟨z, hz⟩ : ∃ z : Nat, z = x % 128 * y := ⟨_, rfl⟩
                have hw := xmul x y k (by omega) HY.out (by omega)
                have hadd := xadd acc z (xacc acc k (by omega) HA.out) (by rw [hz]; exact hw.2.1)
                have hmul := hw.1
                rw [← hz] at hmul
                have HZ := Lib.hid hz; clear hz hw
                go_wp2_with (first
                  | (go_at_call 41; refine HX.out.mono ?_; rintro e w1 ⟨rfl, ⟨⟨A2, c2, hx2⟩, ht2⟩⟩; have cf : w1.cell? ⟨q, 1, none⟩ = some (.int .i64 0) := hx2.1.cell 1; have HX2 : Hid (XM wr q B w1 t 0) := ⟨⟨A2, c2, hx2⟩, ht2⟩; have HX3 := Lib.hid hx2; clear hx2 ht2)
                  | (go_at_call 42; refine (xbad_any q B A2 c2 t w1 HX3.out).mono ?_; rintro e w2 ⟨rfl, hb⟩; have HBD := Lib.hid hb; clear hb))
                go_ret
                exact xnum_end (r := (0, 4, k + 1)) (by rw [HS.out, if_neg h128, if_pos (.inl ⟨by omega, by omega⟩)]) rfl rfl HT.out ((HM.out.trans HX2.out).trans HBD.out)
            · have hz1 : 1 ≤ x % 128 := by omega
              clear hz0
              obtain ⟨z, hz⟩ : ∃ z : Nat, z = x % 128 * y := ⟨_, rfl⟩
              have hw := xmul x y k (by omega) HY.out (by omega)
              have hadd := xadd acc z (xacc acc k (by omega) HA.out) (by rw [hz]; exact hw.2.1)
              have hmul := hw.1
              rw [← hz] at hmul
              have HZ := Lib.hid hz; clear hz hw
              go_wp2_with (go_at_call 41; refine HX.out.mono ?_; rintro e w1 ⟨rfl, ⟨⟨A2, c2, hx2⟩, ht2⟩⟩; have cf : w1.cell? ⟨q, 1, none⟩ = some (.int .i64 0) := hx2.1.cell 1; have HX2 : Hid (XM wr q B w1 t 0) := ⟨⟨A2, c2, hx2⟩, ht2⟩; have HX3 := Lib.hid hx2; clear hx2 ht2)
              go_ret
              refine xnum_end (r := (acc + x * 128 ^ k, 0, k + 1)) (by rw [HS.out, if_neg h128, if_neg (by omega)]) ?_ rfl HT.out (HM.out.trans HX2.out)
              show ((acc : Int) + (z : Int)) = ((acc + x * 128 ^ k : Nat) : Int)
              rw [HZ.out, HY.out, show x % 128 = x from by omega]
              rfl
          · have h9b : 9 ≤ k := by omega
            by_cases hd : 1 < x % 128
            · go_wp2_with (first
                | (go_at_call 41; refine HX.out.mono ?_; rintro e w1 ⟨rfl, ⟨⟨A2, c2, hx2⟩, ht2⟩⟩; have cf : w1.cell? ⟨q, 1, none⟩ = some (.int .i64 0) := hx2.1.cell 1; have HX2 : Hid (XM wr q B w1 t 0) := ⟨⟨A2, c2, hx2⟩, ht2⟩; have HX3 := Lib.hid hx2; clear hx2 ht2)
                | (go_at_call 42; refine (xbad_any q B A2 c2 t w1 HX3.out).mono ?_; rintro e w2 ⟨rfl, hb⟩; have HBD := Lib.hid hb; clear hb))
              go_ret
              exact xnum_end (r := (0, 4, k + 1)) (by rw [HS.out, if_neg h128, if_pos (.inr ⟨by omega, by omega⟩)]) rfl rfl HT.out ((HM.out.trans HX2.out).trans HBD.out)
            · have hd1 : x % 128 ≤ 1 := by omega
              clear hd
              by_cases hz0 : x % 128 < 1
              · obtain ⟨z, hz⟩ : ∃ z : Nat, z = x % 128 * y := ⟨_, rfl⟩
                have hw := xmul x y k (by omega) HY.out (by omega)
                have hadd := xadd acc z (xacc acc k (by omega) HA.out) (by rw [hz]; exact hw.2.1)
                have hmul := hw.1
                rw [← hz] at hmul
                have HZ := Lib.hid hz; clear hz hw
                go_wp2_with (first
                  | (go_at_call 41; refine HX.out.mono ?_; rintro e w1 ⟨rfl, ⟨⟨A2, c2, hx2⟩, ht2⟩⟩; have cf : w1.cell? ⟨q, 1, none⟩ = some (.int .i64 0) := hx2.1.cell 1; have HX2 : Hid (XM wr q B w1 t 0) := ⟨⟨A2, c2, hx2⟩, ht2⟩; have HX3 := Lib.hid hx2; clear hx2 ht2)
                  | (go_at_call 42; refine (xbad_any q B A2 c2 t w1 HX3.out).mono ?_; rintro e w2 ⟨rfl, hb⟩; have HBD := Lib.hid hb; clear hb))
                go_ret
                exact xnum_end (r := (0, 4, k + 1)) (by rw [HS.out, if_neg h128, if_pos (.inl ⟨by omega, by omega⟩)]) rfl rfl HT.out ((HM.out.trans HX2.out).trans HBD.out)
              · have hz1 : 1 ≤ x % 128 := by omega
                clear hz0
                obtain ⟨z, hz⟩ : ∃ z : Nat, z = x % 128 * y := ⟨_, rfl⟩
                have hw := xmul x y k (by omega) HY.out (by omega)
                have hadd := xadd acc z (xacc acc k (by omega) HA.out) (by rw [hz]; exact hw.2.1)
                have hmul := hw.1
                rw [← hz] at hmul
                have HZ := Lib.hid hz; clear hz hw
                go_wp2_with (go_at_call 41; refine HX.out.mono ?_; rintro e w1 ⟨rfl, ⟨⟨A2, c2, hx2⟩, ht2⟩⟩; have cf : w1.cell? ⟨q, 1, none⟩ = some (.int .i64 0) := hx2.1.cell 1; have HX2 : Hid (XM wr q B w1 t 0) := ⟨⟨A2, c2, hx2⟩, ht2⟩; have HX3 := Lib.hid hx2; clear hx2 ht2)
                go_ret
                refine xnum_end (r := (acc + x * 128 ^ k, 0, k + 1)) (by rw [HS.out, if_neg h128, if_neg (by omega)]) ?_ rfl HT.out (HM.out.trans HX2.out)
                show ((acc : Int) + (z : Int)) = ((acc + x * 128 ^ k : Nat) : Int)
                rw [HZ.out, HY.out, show x % 128 = x from by omega]
                rfl
    · have e10 : k = 10 := by omega
      subst e10
      have HD := Lib.hid hrd; clear hrd
      obtain ⟨⟨A1, c1, hx1⟩, ht⟩ := hm
      have HM : Hid (XM w q B wr (m.drop 10) 0) := ⟨⟨A1, c1, hx1⟩, ht⟩
      have HX := Lib.hid hx1; clear hx1 ht hx hkl
      go_wp2_with (go_at_call 42; refine (xbad_any q B A1 c1 _ wr HX.out).mono ?_; rintro e w2 ⟨rfl, hb⟩; have HBD := Lib.hid hb; clear hb)
      go_ret
      exact xnum_end HD.out rfl rfl rfl (HM.out.trans HBD.out)

end Go.Proofs.Ytkkgipieahhmbaa

/-
  What else the document's own reader reads.
-/
namespace Go.Proofs.Ytkkgipieahhmbaa
open Go.RowKit

/-- Behind a call on the document's reader: val, and what is left, and the fault; behind a fault nothing. -/
def XPost (q B : Nat) (m : List UInt8) (f : Nat) (w : World) (none val : Value) (t : List UInt8) (f1 : Nat) (e : Ending) (w' : World) : Prop :=
  (f = 0 → e = .returned val ∧ XM w q B w' t f1) ∧ (f ≠ 0 → e = .returned none ∧ XM w q B w' m f)

theorem XPost.ok {q B : Nat} {m : List UInt8} {w : World} {none val : Value} {t : List UInt8} {f1 : Nat} {e : Ending} {w' : World} (h1 : e = .returned val) (h : XM w q B w' t f1) : XPost q B m 0 w none val t f1 e w' :=
  ⟨fun _ => ⟨h1, h⟩, fun n => absurd rfl n⟩
theorem XPost.bad {q B : Nat} {m : List UInt8} {f : Nat} {w : World} {none val : Value} {t : List UInt8} {f1 : Nat} {e : Ending} {w' : World} (hf : f ≠ 0) (h1 : e = .returned none) (h : XM w q B w' m f) : XPost q B m f w none val t f1 e w' :=
  ⟨fun n => absurd n hf, fun _ => ⟨h1, h⟩⟩

set_option maxRecDepth 100000 in
set_option maxHeartbeats 1000000 in
theorem xnum_bad (q B : Nat) (A : Option Addr) (c : Nat) (m : List UInt8) (f : Nat) (hf : f ≠ 0) (w : World) (h : XRd w q B A c m f) :
    Calls Try.prog 36 #[.pointer (some ⟨q, 0, none⟩)] w fun e w' => e = .returned (.int .u64 0) ∧ w = w' := by
  have HX := Lib.hid (xone_bad q B A c m f hf w h)
  have c1 : w.cell? ⟨q, 1, none⟩ = some (.int .i64 f) := h.1.cell 1
  have hf2 : (((f : Int) == 0) = false) := by rw [beq_eq_false_iff_ne]; omega
  have hf3 : (((f : Int) != 0) = true) := by rw [bne_iff_ne]; omega
  clear h hf
  go_enter Try.func36, Try.ntmps36
  go_wp2
  go_loopw [3, 4, 5] (fun x3 x4 x5 wr => x5 = .int .i64 0 ∧ wr = w) (fun _ _ x5 _ => 10 - (intOf x5).toNat)
  case atStart => exact ⟨rfl, rfl⟩
  case round =>
    obtain ⟨rfl, rfl⟩ := hrel
    go_wp2_with (go_at_call 41; refine HX.out.mono ?_; rintro e w1 ⟨rfl, rfl⟩)
    go_ret
    exact ⟨rfl, rfl⟩

theorem xnum (q B : Nat) (A : Option Addr) (c : Nat) (m : List UInt8) (f : Nat) (w : World) (h : XRd w q B A c m f) :
    Calls Try.prog 36 #[.pointer (some ⟨q, 0, none⟩)] w (XPost q B m f w (.int .u64 0) (.int .u64 (rdNum m).1) (m.drop (rdNum m).2.2) (rdNum m).2.1) := by
  by_cases hf : f = 0
  · subst hf
    exact (xnum_any q B A c m w h).mono fun e w' hx => XPost.ok hx.1 hx.2
  · exact (xnum_bad q B A c m f hf w h).mono fun e w' hx => XPost.bad hf hx.1 (hx.2 ▸ XM.refl h)

theorem zag_even (n : Nat) (h : n % 2 < 1) (hn : Hid (n < 18446744073709551616)) : wrap64 (IntKind.u64.wrap ((n : Int) / 2)) = zag n := by
  have a : n < 18446744073709551616 := hn
  rw [IntKind.wrap_u64]
  unfold zag wrap64
  rw [if_pos (by omega)]
  omega
theorem zag_odd (n : Nat) (h : 1 ≤ n % 2) (hn : Hid (n < 18446744073709551616)) : wrap64 (wrap64 (-wrap64 (IntKind.u64.wrap ((n : Int) / 2))) - 1) = zag n := by
  have a : n < 18446744073709551616 := hn
  have e1 : wrap64 (IntKind.u64.wrap ((n : Int) / 2)) = (n : Int) / 2 := by rw [IntKind.wrap_u64]; unfold wrap64; omega
  have e2 : wrap64 (-((n : Int) / 2)) = -((n : Int) / 2) := by unfold wrap64; omega
  rw [e1, e2]
  unfold zag wrap64
  rw [if_neg (by omega)]
  omega

end Go.Proofs.Ytkkgipieahhmbaa

/-
  Stage 9: the document's reader, by its state; its Count.
-/
namespace Go.Proofs.Ytkkgipieahhmbaa
open Go.RowKit

set_option maxRecDepth 100000

theorem rdF_bad : ∀ (k i acc : Nat) (l : List UInt8), (rdF k i acc l).2.1 ≠ 0 → (rdF k i acc l).1 = 0
  | 0, _, _, _, _ => rfl
  | _ + 1, _, _, [], _ => rfl
  | k + 1, i, acc, b :: l, h => by
    unfold rdF at h ⊢
    split
    · rename_i hb
      rw [if_pos hb] at h
      exact rdF_bad k _ _ l h
    · rename_i hb
      rw [if_neg hb] at h
      split
      · rfl
      · rename_i hc
        rw [if_neg hc] at h
        exact absurd rfl h
theorem rdNum_bad {l : List UInt8} (h : (rdNum l).2.1 ≠ 0) : (rdNum l).1 = 0 := rdF_bad 10 0 0 l h

/-- A reader's state: the bytes that are left, the fault. -/
abbrev RS9 := List UInt8 × Nat
/-- The document's reader in that state. -/
def XS (w : World) (q B : Nat) (s : RS9) : Prop := ∃ A c, XRd w q B A c s.1 s.2
def sNum (s : RS9) : Nat := if s.2 = 0 then (rdNum s.1).1 else 0
def sNum' (s : RS9) : RS9 := if s.2 = 0 then (s.1.drop (rdNum s.1).2.2, (rdNum s.1).2.1) else s
def sInt (s : RS9) : Int := if s.2 = 0 then zag (rdNum s.1).1 else 0
def sText (s : RS9) : List UInt8 := if s.2 = 0 then (rdText 16 s.1).1 else []
def sText' (s : RS9) : RS9 := if s.2 = 0 then (s.1.drop (rdText 16 s.1).2.2, (rdText 16 s.1).2.1) else s
def sCount (s : RS9) : Nat := if s.2 = 0 then (rdCount 50 s.1).1 else 0
def sCount' (s : RS9) : RS9 := if s.2 = 0 then (s.1.drop (rdCount 50 s.1).2.2, (rdCount 50 s.1).2.1) else s
theorem xs_of {q B : Nat} {s : RS9} {w w' : World} {none val : Value} {t : List UInt8} {f1 : Nat} {e : Ending} (h : XPost q B s.1 s.2 w none val t f1 e w') :
    e = .returned (if s.2 = 0 then val else none) ∧ XS w' q B (if s.2 = 0 then (t, f1) else s) ∧ Turn (fun g => g = q) w w' := by
  by_cases hf : s.2 = 0
  · obtain ⟨h1, h2⟩ := h.1 hf
    rw [if_pos hf, if_pos hf]
    exact ⟨h1, h2.1, h2.2⟩
  · obtain ⟨h1, h2⟩ := h.2 hf
    rw [if_neg hf, if_neg hf]
    exact ⟨h1, h2.1, h2.2⟩
section
variable {q B : Nat} {s : RS9} {w : World}
theorem XS.turn {S : Nat → Prop} {w' : World} (h : XS w q B s) (ht : Turn S w w') (h1 : ¬ S q) (h2 : ¬ S B) : XS w' q B s := by
  obtain ⟨A, c, g1, g2, g3, g4, g5⟩ := h
  exact ⟨A, c, g1.turn ht h1, g2.turn ht (fun b hb e => h2 (g3.1 b hb ▸ e)), g3, g4, g5⟩
theorem XS.later {w' : World} (h : XS w q B s) (ht : Turn (fun _ => False) w w') : XS w' q B s := h.turn ht (fun f => f) (fun f => f)
theorem xs_num (h : XS w q B s) : Calls Try.prog 36 #[.pointer (some ⟨q, 0, none⟩)] w fun e w' => e = .returned (.int .u64 (sNum s : Int)) ∧ XS w' q B (sNum' s) ∧ Turn (fun g => g = q) w w' := by
  obtain ⟨A, c, h⟩ := h
  refine (xnum q B A c s.1 s.2 w h).mono fun e w' hx => ?_
  obtain ⟨h1, h2, h3⟩ := xs_of hx
  refine ⟨?_, h2, h3⟩
  rw [h1]
  unfold sNum
  split <;> rfl
theorem XS.fault (h : XS w q B s) : w.cell? ⟨q, 1, none⟩ = some (.int .i64 (s.2 : Int)) := by
  obtain ⟨A, c, h⟩ := h
  exact h.1.cell 1
theorem XS.left (h : XS w q B s) : ∃ A c, w.cell? ⟨q, 0, none⟩ = some (.slice A s.1.length c) := by
  obtain ⟨A, c, h⟩ := h
  exact ⟨A, c, h.1.cell 0⟩
theorem XS.new {A : Option Addr} {n c : Nat} {l : List UInt8} (h : Rd w (.slice A n c) l) (hB : ∀ g, (Value.slice A n c).ownBlock = some g → g < w.heap.size) :
    ∃ B, (l ≠ [] → B < w.heap.size) ∧ XS (w.alloc (.cells #[.slice A n c, .int .i64 0] 36)) w.heap.size B (l, 0) := by
  obtain ⟨e1, h2, h3⟩ := h.fits
  subst e1
  refine ⟨((Value.slice A l.length c).ownBlock).getD (w.heap.size + 1), fun hl => ?_, A, c, Box.new w _ _, h.later ((Turn.refl _ w).alloc _), ⟨fun g hg => by rw [hg]; rfl, ?_⟩, h2, h3⟩
  · cases hA : (Value.slice A l.length c).ownBlock with
    | none =>
      have hA' : A = none := by
        cases A with
        | none => rfl
        | some a => simp [Value.ownBlock] at hA
      subst hA'
      obtain ⟨ad, e⟩ := h.some_at (List.length_pos_iff.2 hl)
      cases e
    | some g => exact hB g hA
  · cases hA : (Value.slice A l.length c).ownBlock with
    | none => show w.heap.size + 1 ≠ w.heap.size; omega
    | some g => have := hB g hA; show g ≠ _; omega
end

end Go.Proofs.Ytkkgipieahhmbaa

/-
  Stage 18: policies, plain; the document's Plain, in, Check, Lag, Cutoff, Delay.
-/
namespace Go.Proofs.Ytkkgipieahhmbaa
open Go.RowKit

set_option maxRecDepth 100000

/-- A policy. -/
structure Y18 where
  rt : Int
  sl : Int
  dl : Int
  ml : Int
  cl : Int
  ba : Int
  ca : Int
  qu : Int
  wa : Int
abbrev ycells18 (p : Y18) : Array Value := #[.int .i64 p.rt, .int .i64 p.sl, .int .i64 p.dl, .int .i64 p.ml, .int .i64 p.cl, .int .i64 p.ba, .int .i64 p.ca, .int .i64 p.qu, .int .i64 p.wa]
abbrev yv18 (p : Y18) : Value := .agg (ycells18 p)
def zeroY : Y18 := ⟨0, 0, 0, 0, 0, 0, 0, 0, 0⟩
def plainY : Y18 := ⟨2000, 1, 2, 24, 48, 2, 60, 16, 4000⟩
def in18 (n a b : Int) : Bool := decide (a ≤ n) && decide (n ≤ b)
def okY (p : Y18) : Bool := in18 p.rt 1 1048576 && (in18 p.sl 0 1048576 && (in18 p.dl 0 1048576 && (in18 p.ml 0 1048576 && (in18 p.cl 0 1048576 && (in18 p.ba 1 1048576 && (in18 p.ca 1 1048576 && (in18 p.qu 1 64 && in18 p.wa 100 1048576)))))))
def chkY (p : Y18) : Int := if okY p then 0 else 2
def numsY (p : Y18) : List Int := [p.rt, p.sl, p.dl, p.ml, p.cl, p.ba, p.ca, p.qu, p.wa]
def formY (p : Y18) : List UInt8 := (numsY p).flatMap fun n => enc n.toNat
def encY (p : Y18) : List UInt8 × Int := if okY p then (formY p, 0) else ([], 2)
def lagY (p : Y18) (t : Int) : Int × Bool := if t = 1 then (p.sl, true) else if t = 2 then (p.dl, true) else if t = 3 then (p.ml, true) else (0, false)
def cutY (p : Y18) (h : Int) : Int := max (h - p.rt) 0
def dbl18 (c : Int) : Int → Nat → Int
  | n, 0 => n
  | n, k + 1 => if n < c then dbl18 c (2 * n) k else n
def delayY (p : Y18) (t : Int) : Int := min (dbl18 p.ca p.ba t.toNat) p.ca
theorem in_iff18 {n a b : Int} : in18 n a b = true ↔ a ≤ n ∧ n ≤ b := by
  unfold in18
  rw [Bool.and_eq_true, decide_eq_true_iff, decide_eq_true_iff]
/-- What a policy that is right holds. -/
structure OkY (p : Y18) : Prop where
  rt : 1 ≤ p.rt ∧ p.rt ≤ 1048576
  sl : 0 ≤ p.sl ∧ p.sl ≤ 1048576
  dl : 0 ≤ p.dl ∧ p.dl ≤ 1048576
  ml : 0 ≤ p.ml ∧ p.ml ≤ 1048576
  cl : 0 ≤ p.cl ∧ p.cl ≤ 1048576
  ba : 1 ≤ p.ba ∧ p.ba ≤ 1048576
  ca : 1 ≤ p.ca ∧ p.ca ≤ 1048576
  qu : 1 ≤ p.qu ∧ p.qu ≤ 64
  wa : 100 ≤ p.wa ∧ p.wa ≤ 1048576
theorem ok_iff18 {p : Y18} : okY p = true ↔ OkY p := by
  unfold okY
  simp only [Bool.and_eq_true, in_iff18]
  exact ⟨fun ⟨a, b, c, d, e, f, g, h, i⟩ => ⟨a, b, c, d, e, f, g, h, i⟩, fun h => ⟨h.rt, h.sl, h.dl, h.ml, h.cl, h.ba, h.ca, h.qu, h.wa⟩⟩
theorem box_y18 {W : World} {g : Nat} {t : TypeId} {p : Y18} (h : Box W g t (ycells18 p)) :
    W.cell? ⟨g, 0, none⟩ = some (.int .i64 p.rt) ∧ W.cell? ⟨g, 1, none⟩ = some (.int .i64 p.sl) ∧ W.cell? ⟨g, 2, none⟩ = some (.int .i64 p.dl) ∧ W.cell? ⟨g, 3, none⟩ = some (.int .i64 p.ml) ∧ W.cell? ⟨g, 4, none⟩ = some (.int .i64 p.cl) ∧
      W.cell? ⟨g, 5, none⟩ = some (.int .i64 p.ba) ∧ W.cell? ⟨g, 6, none⟩ = some (.int .i64 p.ca) ∧ W.cell? ⟨g, 7, none⟩ = some (.int .i64 p.qu) ∧ W.cell? ⟨g, 8, none⟩ = some (.int .i64 p.wa) :=
  ⟨h.cell 0, h.cell 1, h.cell 2, h.cell 3, h.cell 4, h.cell 5, h.cell 6, h.cell 7, h.cell 8⟩
/-- A double doubled. -/
theorem dbl_done18 {c n : Int} (h : ¬ n < c) : ∀ k, dbl18 c n k = n
  | 0 => rfl
  | k + 1 => by unfold dbl18; rw [if_neg h]
theorem dbl_step18 {c n : Int} {k : Nat} (h : n < c) : dbl18 c n (k + 1) = dbl18 c (2 * n) k := by
  conv => lhs; unfold dbl18
  rw [if_pos h]
theorem dbl_ge18 {c : Int} : ∀ (k : Nat) {n : Int}, 1 ≤ n → n ≤ dbl18 c n k
  | 0, _, _ => Int.le_refl _
  | k + 1, n, h => by
    unfold dbl18
    split
    · have := dbl_ge18 (c := c) k (n := 2 * n) (by omega)
      omega
    · exact Int.le_refl _
theorem dbl_mono18 {c : Int} : ∀ {a b : Nat} {n : Int}, 1 ≤ n → a ≤ b → dbl18 c n a ≤ dbl18 c n b
  | 0, b, n, h, _ => dbl_ge18 b h
  | a + 1, 0, _, _, hab => by omega
  | a + 1, b + 1, n, h, hab => by
    unfold dbl18
    split
    · exact dbl_mono18 (by omega) (by omega)
    · exact Int.le_refl _
theorem delay_laws18 {p : Y18} (h : OkY p) {a b : Int} (hab : a ≤ b) : 1 ≤ delayY p a ∧ delayY p a ≤ delayY p b ∧ delayY p b ≤ p.ca := by
  have h1 := dbl_ge18 (c := p.ca) a.toNat h.ba.1
  have h2 := dbl_mono18 (c := p.ca) h.ba.1 (show a.toNat ≤ b.toNat by omega)
  have h3 := h.ba.1
  have h4 := h.ca.1
  unfold delayY
  omega

theorem ref_in18 (n a b : Int) (w : World) : Calls Try.prog 29 #[.int .i64 n, .int .i64 a, .int .i64 b] w fun e w' => e = .returned (.bool (in18 n a b)) ∧ w' = w := by
  by_cases h1 : a ≤ n
  · by_cases h2 : n ≤ b
    · have HB : Hid (in18 n a b = true) := in_iff18.2 ⟨h1, h2⟩
      go_enter Try.func29, Try.ntmps29
      go_wp2
      go_ret
      exact ⟨by rw [HB.out]; first | rfl | exact ret_bool (decide_eq_true (by omega)), rfl⟩
    · have HB : Hid (in18 n a b = false) := by show _ = _; unfold in18; rw [decide_eq_false h2, Bool.and_false]
      have h3 : b < n := by omega
      clear h2
      go_enter Try.func29, Try.ntmps29
      go_wp2
      go_ret
      exact ⟨by rw [HB.out]; first | rfl | exact ret_bool (decide_eq_false (by omega)), rfl⟩
  · have HB : Hid (in18 n a b = false) := by show _ = _; unfold in18; rw [decide_eq_false h1, Bool.false_and]
    have h3 : n < a := by omega
    clear h1
    go_enter Try.func29, Try.ntmps29
    go_wp2
    go_ret
    exact ⟨by rw [HB.out]; first | rfl | exact ret_bool (decide_eq_false (by omega)), rfl⟩

set_option maxHeartbeats 4000000 in
theorem ref_plain18 (w : World) : Calls Try.prog 31 #[] w fun e w' => e = .returned (yv18 plainY) ∧ Turn (fun _ => False) w w' := by
  go_enter Try.func31, Try.ntmps31
  go_wp2_with fail
  refine bodyPost_ret (v := yv18 plainY) ?_ rfl ⟨rfl, (Turn.refl _ w).alloc _⟩
  rw [results_cell rfl]
  unfold plainY yv18 ycells18
  dsimp only
  go_simp

set_option maxHeartbeats 4000000 in
theorem ref_cut18 (p : Y18) (h : Int) (w : World) (hr : p.rt ≤ 1048576 ∧ 0 ≤ p.rt) (hh : 0 ≤ h ∧ h ≤ 4611686018427387904) : Calls Try.prog 20 #[yv18 p, .int .i64 h] w fun e w' => e = .returned (.int .i64 (cutY p h)) ∧ Turn (fun _ => False) w w' := by
  have HW : Hid (IntKind.i64.wrap (h - p.rt) = h - p.rt) := IntWalk.i64_in _ (by omega)
  have HC : Hid (cutY p h = max (h - p.rt) 0) := rfl
  generalize cutY p h = X at *
  have hb := Box.new w 23 (ycells18 p)
  have c0 := hb.cell 0
  have HT : Hid (Turn (fun _ => False) w (w.alloc (.cells (ycells18 p) 23))) := (Turn.refl _ w).alloc _
  have hw := HW.out
  have hc := HC.out
  clear hr hh hb
  go_enter Try.func20, Try.ntmps20
  go_wp2
  go_ret
  exact ⟨by rw [HC.out]; rfl, HT.out⟩

end Go.Proofs.Ytkkgipieahhmbaa

/-
  Stage 18: the document's Check, Lag, Delay, Form, Encode.
-/
namespace Go.Proofs.Ytkkgipieahhmbaa
open Go.RowKit

set_option maxRecDepth 100000

set_option maxHeartbeats 16000000 in
theorem ref_check18 (p : Y18) (w : World) : Calls Try.prog 10 #[yv18 p] w fun e w' => e = .returned (.int .i64 (chkY p)) ∧ Turn (fun _ => False) w w' := by
  have HI1 : Hid (∀ W, Calls Try.prog 29 #[.int .i64 p.rt, .int .i64 1, .int .i64 1048576] W fun e w' => e = .returned (.bool (in18 p.rt 1 1048576)) ∧ w' = W) := fun W => ref_in18 _ _ _ W
  have HI2 : Hid (∀ W, Calls Try.prog 29 #[.int .i64 p.sl, .int .i64 0, .int .i64 1048576] W fun e w' => e = .returned (.bool (in18 p.sl 0 1048576)) ∧ w' = W) := fun W => ref_in18 _ _ _ W
  have HI3 : Hid (∀ W, Calls Try.prog 29 #[.int .i64 p.dl, .int .i64 0, .int .i64 1048576] W fun e w' => e = .returned (.bool (in18 p.dl 0 1048576)) ∧ w' = W) := fun W => ref_in18 _ _ _ W
  have HI4 : Hid (∀ W, Calls Try.prog 29 #[.int .i64 p.ml, .int .i64 0, .int .i64 1048576] W fun e w' => e = .returned (.bool (in18 p.ml 0 1048576)) ∧ w' = W) := fun W => ref_in18 _ _ _ W
  have HI5 : Hid (∀ W, Calls Try.prog 29 #[.int .i64 p.cl, .int .i64 0, .int .i64 1048576] W fun e w' => e = .returned (.bool (in18 p.cl 0 1048576)) ∧ w' = W) := fun W => ref_in18 _ _ _ W
  have HI6 : Hid (∀ W, Calls Try.prog 29 #[.int .i64 p.ba, .int .i64 1, .int .i64 1048576] W fun e w' => e = .returned (.bool (in18 p.ba 1 1048576)) ∧ w' = W) := fun W => ref_in18 _ _ _ W
  have HI7 : Hid (∀ W, Calls Try.prog 29 #[.int .i64 p.ca, .int .i64 1, .int .i64 1048576] W fun e w' => e = .returned (.bool (in18 p.ca 1 1048576)) ∧ w' = W) := fun W => ref_in18 _ _ _ W
  have HI8 : Hid (∀ W, Calls Try.prog 29 #[.int .i64 p.qu, .int .i64 1, .int .i64 64] W fun e w' => e = .returned (.bool (in18 p.qu 1 64)) ∧ w' = W) := fun W => ref_in18 _ _ _ W
  have HI9 : Hid (∀ W, Calls Try.prog 29 #[.int .i64 p.wa, .int .i64 100, .int .i64 1048576] W fun e w' => e = .returned (.bool (in18 p.wa 100 1048576)) ∧ w' = W) := fun W => ref_in18 _ _ _ W
  have HR : Hid (chkY p = if okY p then 0 else 2) := rfl
  unfold okY at HR
  generalize in18 p.rt 1 1048576 = q1 at *
  generalize in18 p.sl 0 1048576 = q2 at *
  generalize in18 p.dl 0 1048576 = q3 at *
  generalize in18 p.ml 0 1048576 = q4 at *
  generalize in18 p.cl 0 1048576 = q5 at *
  generalize in18 p.ba 1 1048576 = q6 at *
  generalize in18 p.ca 1 1048576 = q7 at *
  generalize in18 p.qu 1 64 = q8 at *
  generalize in18 p.wa 100 1048576 = q9 at *
  generalize chkY p = x at *
  obtain ⟨y0, y1, y2, y3, y4, y5, y6, y7, y8⟩ := box_y18 (Box.new w 23 (ycells18 p))
  have HT : Hid (Turn (fun _ => False) w (w.alloc (.cells (ycells18 p) 23))) := (Turn.refl _ w).alloc _
  cases q1 with
  | false =>
    have HB : Hid (x = 2) := HR.out
    clear HR
    go_enter Try.func10, Try.ntmps10
    go_wp2_with (first | (with_reducible refine (HI1.out _).mono ?_; rintro e w' ⟨rfl, rfl⟩) | (with_reducible refine (HI2.out _).mono ?_; rintro e w' ⟨rfl, rfl⟩) | (with_reducible refine (HI3.out _).mono ?_; rintro e w' ⟨rfl, rfl⟩) | (with_reducible refine (HI4.out _).mono ?_; rintro e w' ⟨rfl, rfl⟩) | (with_reducible refine (HI5.out _).mono ?_; rintro e w' ⟨rfl, rfl⟩) | (with_reducible refine (HI6.out _).mono ?_; rintro e w' ⟨rfl, rfl⟩) | (with_reducible refine (HI7.out _).mono ?_; rintro e w' ⟨rfl, rfl⟩) | (with_reducible refine (HI8.out _).mono ?_; rintro e w' ⟨rfl, rfl⟩) | (with_reducible refine (HI9.out _).mono ?_; rintro e w' ⟨rfl, rfl⟩) | fail)
    go_ret
    exact ⟨by rw [HB.out]; rfl, HT.out⟩
  | true =>
    cases q2 with
    | false =>
      have HB : Hid (x = 2) := HR.out
      clear HR
      go_enter Try.func10, Try.ntmps10
      go_wp2_with (first | (with_reducible refine (HI1.out _).mono ?_; rintro e w' ⟨rfl, rfl⟩) | (with_reducible refine (HI2.out _).mono ?_; rintro e w' ⟨rfl, rfl⟩) | (with_reducible refine (HI3.out _).mono ?_; rintro e w' ⟨rfl, rfl⟩) | (with_reducible refine (HI4.out _).mono ?_; rintro e w' ⟨rfl, rfl⟩) | (with_reducible refine (HI5.out _).mono ?_; rintro e w' ⟨rfl, rfl⟩) | (with_reducible refine (HI6.out _).mono ?_; rintro e w' ⟨rfl, rfl⟩) | (with_reducible refine (HI7.out _).mono ?_; rintro e w' ⟨rfl, rfl⟩) | (with_reducible refine (HI8.out _).mono ?_; rintro e w' ⟨rfl, rfl⟩) | (with_reducible refine (HI9.out _).mono ?_; rintro e w' ⟨rfl, rfl⟩) | fail)
      go_ret
      exact ⟨by rw [HB.out]; rfl, HT.out⟩
    | true =>
      cases q3 with
      | false =>
        have HB : Hid (x = 2) := HR.out
        clear HR
        go_enter Try.func10, Try.ntmps10
        go_wp2_with (first | (with_reducible refine (HI1.out _).mono ?_; rintro e w' ⟨rfl, rfl⟩) | (with_reducible refine (HI2.out _).mono ?_; rintro e w' ⟨rfl, rfl⟩) | (with_reducible refine (HI3.out _).mono ?_; rintro e w' ⟨rfl, rfl⟩) | (with_reducible refine (HI4.out _).mono ?_; rintro e w' ⟨rfl, rfl⟩) | (with_reducible refine (HI5.out _).mono ?_; rintro e w' ⟨rfl, rfl⟩) | (with_reducible refine (HI6.out _).mono ?_; rintro e w' ⟨rfl, rfl⟩) | (with_reducible refine (HI7.out _).mono ?_; rintro e w' ⟨rfl, rfl⟩) | (with_reducible refine (HI8.out _).mono ?_; rintro e w' ⟨rfl, rfl⟩) | (with_reducible refine (HI9.out _).mono ?_; rintro e w' ⟨rfl, rfl⟩) | fail)
        go_ret
        exact ⟨by rw [HB.out]; rfl, HT.out⟩
      | true =>
        cases q4 with
        | false =>
          have HB : Hid (x = 2) := HR.out
          clear HR
          go_enter Try.func10, Try.ntmps10
          go_wp2_with (first | (with_reducible refine (HI1.out _).mono ?_; rintro e w' ⟨rfl, rfl⟩) | (with_reducible refine (HI2.out _).mono ?_; rintro e w' ⟨rfl, rfl⟩) | (with_reducible refine (HI3.out _).mono ?_; rintro e w' ⟨rfl, rfl⟩) | (with_reducible refine (HI4.out _).mono ?_; rintro e w' ⟨rfl, rfl⟩) | (with_reducible refine (HI5.out _).mono ?_; rintro e w' ⟨rfl, rfl⟩) | (with_reducible refine (HI6.out _).mono ?_; rintro e w' ⟨rfl, rfl⟩) | (with_reducible refine (HI7.out _).mono ?_; rintro e w' ⟨rfl, rfl⟩) | (with_reducible refine (HI8.out _).mono ?_; rintro e w' ⟨rfl, rfl⟩) | (with_reducible refine (HI9.out _).mono ?_; rintro e w' ⟨rfl, rfl⟩) | fail)
          go_ret
          exact ⟨by rw [HB.out]; rfl, HT.out⟩
        | true =>
          cases q5 with
          | false =>
            have HB : Hid (x = 2) := HR.out
            clear HR
            go_enter Try.func10, Try.ntmps10
            go_wp2_with (first | (with_reducible refine (HI1.out _).mono ?_; rintro e w' ⟨rfl, rfl⟩) | (with_reducible refine (HI2.out _).mono ?_; rintro e w' ⟨rfl, rfl⟩) | (with_reducible refine (HI3.out _).mono ?_; rintro e w' ⟨rfl, rfl⟩) | (with_reducible refine (HI4.out _).mono ?_; rintro e w' ⟨rfl, rfl⟩) | (with_reducible refine (HI5.out _).mono ?_; rintro e w' ⟨rfl, rfl⟩) | (with_reducible refine (HI6.out _).mono ?_; rintro e w' ⟨rfl, rfl⟩) | (with_reducible refine (HI7.out _).mono ?_; rintro e w' ⟨rfl, rfl⟩) | (with_reducible refine (HI8.out _).mono ?_; rintro e w' ⟨rfl, rfl⟩) | (with_reducible refine (HI9.out _).mono ?_; rintro e w' ⟨rfl, rfl⟩) | fail)
            go_ret
            exact ⟨by rw [HB.out]; rfl, HT.out⟩
          | true =>
            cases q6 with
            | false =>
              have HB : Hid (x = 2) := HR.out
              clear HR
              go_enter Try.func10, Try.ntmps10
              go_wp2_with (first | (with_reducible refine (HI1.out _).mono ?_; rintro e w' ⟨rfl, rfl⟩) | (with_reducible refine (HI2.out _).mono ?_; rintro e w' ⟨rfl, rfl⟩) | (with_reducible refine (HI3.out _).mono ?_; rintro e w' ⟨rfl, rfl⟩) | (with_reducible refine (HI4.out _).mono ?_; rintro e w' ⟨rfl, rfl⟩) | (with_reducible refine (HI5.out _).mono ?_; rintro e w' ⟨rfl, rfl⟩) | (with_reducible refine (HI6.out _).mono ?_; rintro e w' ⟨rfl, rfl⟩) | (with_reducible refine (HI7.out _).mono ?_; rintro e w' ⟨rfl, rfl⟩) | (with_reducible refine (HI8.out _).mono ?_; rintro e w' ⟨rfl, rfl⟩) | (with_reducible refine (HI9.out _).mono ?_; rintro e w' ⟨rfl, rfl⟩) | fail)
              go_ret
              exact ⟨by rw [HB.out]; rfl, HT.out⟩
            | true =>
              cases q7 with
              | false =>
                have HB : Hid (x = 2) := HR.out
                clear HR
                go_enter Try.func10, Try.ntmps10
                go_wp2_with (first | (with_reducible refine (HI1.out _).mono ?_; rintro e w' ⟨rfl, rfl⟩) | (with_reducible refine (HI2.out _).mono ?_; rintro e w' ⟨rfl, rfl⟩) | (with_reducible refine (HI3.out _).mono ?_; rintro e w' ⟨rfl, rfl⟩) | (with_reducible refine (HI4.out _).mono ?_; rintro e w' ⟨rfl, rfl⟩) | (with_reducible refine (HI5.out _).mono ?_; rintro e w' ⟨rfl, rfl⟩) | (with_reducible refine (HI6.out _).mono ?_; rintro e w' ⟨rfl, rfl⟩) | (with_reducible refine (HI7.out _).mono ?_; rintro e w' ⟨rfl, rfl⟩) | (with_reducible refine (HI8.out _).mono ?_; rintro e w' ⟨rfl, rfl⟩) | (with_reducible refine (HI9.out _).mono ?_; rintro e w' ⟨rfl, rfl⟩) | fail)
                go_ret
                exact ⟨by rw [HB.out]; rfl, HT.out⟩
              | true =>
                cases q8 with
                | false =>
                  have HB : Hid (x = 2) := HR.out
                  clear HR
                  go_enter Try.func10, Try.ntmps10
                  go_wp2_with (first | (with_reducible refine (HI1.out _).mono ?_; rintro e w' ⟨rfl, rfl⟩) | (with_reducible refine (HI2.out _).mono ?_; rintro e w' ⟨rfl, rfl⟩) | (with_reducible refine (HI3.out _).mono ?_; rintro e w' ⟨rfl, rfl⟩) | (with_reducible refine (HI4.out _).mono ?_; rintro e w' ⟨rfl, rfl⟩) | (with_reducible refine (HI5.out _).mono ?_; rintro e w' ⟨rfl, rfl⟩) | (with_reducible refine (HI6.out _).mono ?_; rintro e w' ⟨rfl, rfl⟩) | (with_reducible refine (HI7.out _).mono ?_; rintro e w' ⟨rfl, rfl⟩) | (with_reducible refine (HI8.out _).mono ?_; rintro e w' ⟨rfl, rfl⟩) | (with_reducible refine (HI9.out _).mono ?_; rintro e w' ⟨rfl, rfl⟩) | fail)
                  go_ret
                  exact ⟨by rw [HB.out]; rfl, HT.out⟩
                | true =>
                  cases q9 with
                  | false =>
                    have HB : Hid (x = 2) := HR.out
                    clear HR
                    go_enter Try.func10, Try.ntmps10
                    go_wp2_with (first | (with_reducible refine (HI1.out _).mono ?_; rintro e w' ⟨rfl, rfl⟩) | (with_reducible refine (HI2.out _).mono ?_; rintro e w' ⟨rfl, rfl⟩) | (with_reducible refine (HI3.out _).mono ?_; rintro e w' ⟨rfl, rfl⟩) | (with_reducible refine (HI4.out _).mono ?_; rintro e w' ⟨rfl, rfl⟩) | (with_reducible refine (HI5.out _).mono ?_; rintro e w' ⟨rfl, rfl⟩) | (with_reducible refine (HI6.out _).mono ?_; rintro e w' ⟨rfl, rfl⟩) | (with_reducible refine (HI7.out _).mono ?_; rintro e w' ⟨rfl, rfl⟩) | (with_reducible refine (HI8.out _).mono ?_; rintro e w' ⟨rfl, rfl⟩) | (with_reducible refine (HI9.out _).mono ?_; rintro e w' ⟨rfl, rfl⟩) | fail)
                    go_ret
                    exact ⟨by rw [HB.out]; rfl, HT.out⟩
                  | true =>
                    have HB : Hid (x = 0) := HR.out
                    clear HR
                    go_enter Try.func10, Try.ntmps10
                    go_wp2_with (first | (with_reducible refine (HI1.out _).mono ?_; rintro e w' ⟨rfl, rfl⟩) | (with_reducible refine (HI2.out _).mono ?_; rintro e w' ⟨rfl, rfl⟩) | (with_reducible refine (HI3.out _).mono ?_; rintro e w' ⟨rfl, rfl⟩) | (with_reducible refine (HI4.out _).mono ?_; rintro e w' ⟨rfl, rfl⟩) | (with_reducible refine (HI5.out _).mono ?_; rintro e w' ⟨rfl, rfl⟩) | (with_reducible refine (HI6.out _).mono ?_; rintro e w' ⟨rfl, rfl⟩) | (with_reducible refine (HI7.out _).mono ?_; rintro e w' ⟨rfl, rfl⟩) | (with_reducible refine (HI8.out _).mono ?_; rintro e w' ⟨rfl, rfl⟩) | (with_reducible refine (HI9.out _).mono ?_; rintro e w' ⟨rfl, rfl⟩) | fail)
                    go_ret
                    exact ⟨by rw [HB.out]; rfl, HT.out⟩

set_option maxHeartbeats 4000000 in
theorem ref_lag18 (p : Y18) (t : Int) (w : World) : Calls Try.prog 18 #[yv18 p, .int .i64 t] w fun e w' => e = .returned (.tuple #[.int .i64 (lagY p t).1, .bool (lagY p t).2]) ∧ Turn (fun _ => False) w w' := by
  obtain ⟨y0, y1, y2, y3, y4, y5, y6, y7, y8⟩ := box_y18 (Box.new w 23 (ycells18 p))
  have HT : Hid (Turn (fun _ => False) w (w.alloc (.cells (ycells18 p) 23))) := (Turn.refl _ w).alloc _
  by_cases h1 : t = 1
  · have HL : Hid (lagY p t = (p.sl, true)) := if_pos h1
    have e1 : (t == 1) = true := by rw [beq_iff_eq]; exact h1
    clear h1
    go_enter Try.func18, Try.ntmps18
    go_wp2
    go_ret2
    exact ⟨by rw [HL.out]; rfl, HT.out⟩
  · have e1 : (t == 1) = false := by rw [beq_eq_false_iff_ne]; exact h1
    by_cases h2 : t = 2
    · have HL : Hid (lagY p t = (p.dl, true)) := (if_neg h1).trans (if_pos h2)
      have e2 : (t == 2) = true := by rw [beq_iff_eq]; exact h2
      clear h1 h2
      go_enter Try.func18, Try.ntmps18
      go_wp2
      go_ret2
      exact ⟨by rw [HL.out]; rfl, HT.out⟩
    · have e2 : (t == 2) = false := by rw [beq_eq_false_iff_ne]; exact h2
      by_cases h3 : t = 3
      · have HL : Hid (lagY p t = (p.ml, true)) := (if_neg h1).trans ((if_neg h2).trans (if_pos h3))
        have e3 : (t == 3) = true := by rw [beq_iff_eq]; exact h3
        clear h1 h2 h3
        go_enter Try.func18, Try.ntmps18
        go_wp2
        go_ret2
        exact ⟨by rw [HL.out]; rfl, HT.out⟩
      · have HL : Hid (lagY p t = (0, false)) := (if_neg h1).trans ((if_neg h2).trans (if_neg h3))
        have e3 : (t == 3) = false := by rw [beq_eq_false_iff_ne]; exact h3
        clear h1 h2 h3
        go_enter Try.func18, Try.ntmps18
        go_wp2
        go_ret2
        exact ⟨by rw [HL.out]; rfl, HT.out⟩

set_option maxHeartbeats 8000000 in
theorem ref_delay18 (p : Y18) (t : Int) (w : World) (hp : OkY p) : Calls Try.prog 22 #[yv18 p, .int .i64 t] w fun e w' => e = .returned (.int .i64 (delayY p t)) ∧ Turn (fun _ => False) w w' := by
  obtain ⟨wb, hwb⟩ : ∃ wb, wb = w.alloc (.cells (ycells18 p) 23) := ⟨_, rfl⟩
  have HT : Hid (Turn (fun _ => False) w wb) := by rw [hwb]; exact (Turn.refl _ w).alloc _
  have HBX : Hid (Box wb w.heap.size 23 (ycells18 p)) := by rw [hwb]; exact Box.new w _ _
  obtain ⟨y0, y1, y2, y3, y4, y5, y6, y7, y8⟩ := box_y18 HBX.out
  obtain ⟨z0, z1, z2, z3, z4, z5, z6, z7, z8⟩ := box_y18 (Box.new w 23 (ycells18 p))
  have hb1 := hp.ba; have hc1 := hp.ca
  have HD : Hid (delayY p t = min (dbl18 p.ca p.ba (t - ((0 : Nat) : Int)).toNat) p.ca) := by show _ = _; unfold delayY; rw [show t - ((0 : Nat) : Int) = t by omega]
  have HWB := Lib.hid hwb
  generalize p.ca = C at *
  generalize p.ba = A at *
  generalize delayY p t = D at *
  clear hwb hp
  go_enter Try.func22, Try.ntmps22
  go_wp2_with fail
  rw [← HWB.out]
  clear z0 z1 z2 z3 z4 z5 z6 z7 z8
  go_loopw [5, 6] (fun x5 x6 wr => ∃ (i : Nat) (n : Int), x6 = .int .i64 (i : Int) ∧ x5 = .int .i64 n ∧ 1 ≤ n ∧ (i : Int) + 1 ≤ n ∧ n ≤ 2097152 ∧ wr = wb ∧ D = min (dbl18 C n (t - (i : Int)).toNat) C) (fun x5 _ _ => (C - intOf x5).toNat)
  case atStart => exact ⟨0, A, rfl, rfl, hb1.1, by omega, by omega, rfl, HD.out⟩
  case round =>
    clear HD
    obtain ⟨i, n, rfl, rfl, hn1, hin, hn2, rfl, hd⟩ := hrel
    have HD := Lib.hid hd
    clear hd
    by_cases hit : (i : Int) < t
    · by_cases hnc : n < C
      · have HW : Hid (IntKind.i64.wrap (2 * n) = 2 * n) := IntWalk.i64_in _ (by omega)
        have hw := HW.out
        have HX : Hid (D = min (dbl18 C (2 * n) (t - ((i + 1 : Nat) : Int)).toNat) C) := by
          show _ = _
          rw [HD.out, show (t - (i : Int)).toNat = (t - ((i + 1 : Nat) : Int)).toNat + 1 by omega, dbl_step18 hnc]
        go_wp2
        go_roundw
        case rel => exact ⟨i + 1, 2 * n, by go_num, rfl, by omega, by omega, by omega, by first | trivial | rfl, HX.out⟩
        case measure => simp [intOf]; omega
      · have HX : Hid (D = min n C) := by show _ = _; rw [HD.out, dbl_done18 hnc]
        go_wp2
        go_ret
        exact ⟨by rw [HX.out]; rfl, HT.out⟩
    · have HX : Hid (D = min n C) := by
        show _ = _
        rw [HD.out, show (t - (i : Int)).toNat = 0 by omega]
        rfl
      go_wp2
      go_ret
      exact ⟨by rw [HX.out]; rfl, HT.out⟩

end Go.Proofs.Ytkkgipieahhmbaa

/-
  Stage 18: the document's Form, Encode.
-/
namespace Go.Proofs.Ytkkgipieahhmbaa
open Go.RowKit

set_option maxRecDepth 100000

theorem made_more18 {w wr w2 w3 : World} {A A3 : Option Addr} {n c n3 c3 : Nat} {acc m : List UInt8} (h : Made w wr (.slice A n c) acc) (ht : Turn (fun _ => False) wr w2) (hb : By w3 (.slice A3 n3 c3) (acc ++ m))
    (hg : w2.grownBy w3 (Value.slice A n c).ownBlock) (ha : (Value.slice A3 n3 c3).ownBlock = (Value.slice A n c).ownBlock ∨ (Value.slice A3 n3 c3).ownBlock = some w2.heap.size) : Made w w3 (.slice A3 n3 c3) (acc ++ m) := made_app h ht hb hg ha rfl
theorem made_none18 {w w' : World} (h : Turn (fun _ => False) w w') : Made w w' (.slice none 0 0) [] := ⟨By.nil w', h, fun k hk => by cases hk⟩
/-- The bytes of the first numbers. -/
def formTo18 (p : Y18) (i : Nat) : List UInt8 := ((numsY p).take i).flatMap fun n => enc n.toNat
theorem form_next18 {p : Y18} {i : Nat} {n : Int} (h : (numsY p)[i]? = some n) : formTo18 p (i + 1) = formTo18 p i ++ enc n.toNat := by
  obtain ⟨h0, e⟩ := List.getElem?_eq_some_iff.1 h
  unfold formTo18
  rw [List.take_succ_eq_append_getElem h0, e, List.flatMap_append]
  simp
theorem form_all18 (p : Y18) : formTo18 p 9 = formY p := rfl
theorem nums_nat18 {p : Y18} (hp : OkY p) : ∀ n ∈ numsY p, 0 ≤ n ∧ n ≤ 1048576 := fun n hn => by
  unfold numsY at hn
  simp only [List.mem_cons, List.not_mem_nil, or_false] at hn
  have h1 := hp.rt; have h2 := hp.sl; have h3 := hp.dl; have h4 := hp.ml; have h5 := hp.cl; have h6 := hp.ba; have h7 := hp.ca; have h8 := hp.qu; have h9 := hp.wa
  rcases hn with rfl | rfl | rfl | rfl | rfl | rfl | rfl | rfl | rfl <;> omega
theorem form_len18 (p : Y18) : ∀ i, (formTo18 p i).length ≤ 10 * i
  | 0 => Nat.le_refl _
  | i + 1 => by
    have ih := form_len18 p i
    cases h : (numsY p)[i]? with
    | none =>
      have e : formTo18 p (i + 1) = formTo18 p i := by
        unfold formTo18
        have := List.getElem?_eq_none_iff.1 h
        rw [List.take_of_length_le (by omega), List.take_of_length_le (by omega)]
      rw [e]
      omega
    | some n =>
      rw [form_next18 h, List.length_append]
      have := enc_len n.toNat
      omega

set_option maxHeartbeats 8000000 in
theorem ref_form18 (p : Y18) (w : World) (hp : OkY p) : Calls Try.prog 27 #[yv18 p] w fun e w' => ∃ v, e = .returned v ∧ Made w w' v (formY p) := by
  have hbx := Box.new w 23 (ycells18 p)
  obtain ⟨z0, z1, z2, z3, z4, z5, z6, z7, z8⟩ := box_y18 hbx
  obtain ⟨wb, hwb⟩ : ∃ wb, wb = (w.alloc (.cells (ycells18 p) 23)).alloc (.cells (ycells18 p) 2) := ⟨_, rfl⟩
  have HT : Hid (Turn (fun _ => False) w wb) := by rw [hwb]; exact ((Turn.refl _ w).alloc _).alloc _
  have HRW : Hid (RdE EN9 wb (.slice (some ⟨w.heap.size + 1, 0, none⟩) 9 9) (numsY p)) := by
    have h := (OwE.made (E := EN9) (e := 2) (w.alloc (.cells (ycells18 p) 23)) (numsY p) (by show (9 : Nat) ≤ maxLen; simp [maxLen])).rd
    rw [World.size_alloc] at h
    rw [hwb]
    exact h
  have HWB := Lib.hid hwb
  have HNN := Lib.hid (nums_nat18 hp)
  have HLN : Hid ((numsY p).length = 9) := rfl
  clear hwb hp hbx
  go_enter Try.func27, Try.ntmps27
  go_wp2_with fail
  rw [← HWB.out]
  clear z0 z1 z2 z3 z4 z5 z6 z7 z8
  go_loopw [4, 5] (fun x4 x5 wr => ∃ i : Nat, x5 = .int .i64 (i : Int) ∧ i ≤ 9 ∧ Made wb wr x4 (formTo18 p i)) (fun _ x5 _ => 9 - (intOf x5).toNat)
  case atStart => exact ⟨0, rfl, Nat.zero_le _, made_none18 (Turn.refl _ wb)⟩
  case round =>
    obtain ⟨i, rfl, hi, hm⟩ := hrel
    have HM := Lib.hid hm
    obtain ⟨A4, c4, rfl⟩ := hm.1.shape
    clear hm
    by_cases hlt : i < 9
    · have hil : (i : Int) < 9 := by omega
      obtain ⟨n, hn⟩ : ∃ n, (numsY p)[i]? = some n := ⟨_, List.getElem?_eq_getElem (by rw [HLN.out]; exact hlt)⟩
      obtain ⟨N, rfl⟩ := Int.eq_ofNat_of_zero_le (HNN.out n (List.mem_of_getElem? hn)).1
      have hNb := (HNN.out _ (List.mem_of_getElem? hn)).2
      obtain ⟨ad, hA, hc⟩ := num_at9 HRW.out hn
      cases hA
      have a0 : wr.cell? ⟨w.heap.size + 1, i, none⟩ = some (.int .i64 (N : Int)) := by have h := hc wr HM.out.2.1; rwa [own_add] at h
      have hwr : IntKind.u64.wrap (N : Int) = (N : Int) := by rw [IntKind.wrap_u64]; omega
      have HNX : Hid (formTo18 p (i + 1) = formTo18 p i ++ enc N) := by show _ = _; rw [form_next18 hn, Int.toNat_natCast]
      have HN1 : Hid (N < 18446744073709551616) := by show _ < _; omega
      have hfl := form_len18 p i
      clear hn hc
      go_wp2_with fail
      refine (ref_num N wr HN1).mono ?_
      rintro e w2 ⟨v2, rfl, hm2⟩
      obtain ⟨A2, c2, rfl⟩ := hm2.1.shape
      have HM2 := Lib.hid hm2
      have HB2 : Hid (By w2 (.slice A4 (formTo18 p i).length c4) (formTo18 p i)) := HM.out.1.turn hm2.2.1 (fun _ _ f => f)
      have HLA : Hid ((formTo18 p i).length + (enc N).length ≤ 1000000000) := by show _ ≤ _; have := enc_len N; omega
      clear hm2 a0
      go_wp2_with (at_builtin; go_must (refine wpList_app _ rfl _ _ _ rfl _ (formTo18 p i) rfl HB2.out _ rfl (enc N) HM2.out.1.yields HLA.out ?_))
      intro A3 n3 c3 w3 hby hg ha
      have HM3 := Lib.hid (made_more18 HM.out HM2.out.2.1 hby hg ha)
      clear hby hg ha
      go_wp2
      go_roundw
      case rel => exact ⟨i + 1, by go_num, hlt, by rw [HNX.out]; exact HM3.out⟩
      case measure => simp [intOf]; omega
    · obtain rfl : i = 9 := by omega
      go_wp2
      go_ret
      have hm := HM.out
      rw [form_all18] at hm
      exact ⟨_, rfl, hm.1, HT.out.trans hm.2.1 (fun _ _ f => f), fun k hk => Nat.le_trans HT.out.size (hm.2.2 k hk)⟩

/-- Behind Encode: bytes in new memory, and what is wrong. -/
def Enc18 (w : World) (r : List UInt8 × Int) (e : Ending) (w' : World) : Prop := ∃ v, e = .returned (.tuple #[v, .int .i64 r.2]) ∧ Made w w' v r.1
set_option maxHeartbeats 4000000 in
theorem ref_encode18 (p : Y18) (w : World) : Calls Try.prog 8 #[yv18 p] w fun e w' => Enc18 w (encY p) e w' := by
  obtain ⟨wb, hwb⟩ : ∃ wb, wb = w.alloc (.cells (ycells18 p) 23) := ⟨_, rfl⟩
  have HTB : Hid (Turn (fun _ => False) w wb) := by rw [hwb]; exact (Turn.refl _ w).alloc _
  have HBX : Hid (Box wb w.heap.size 23 (ycells18 p)) := by rw [hwb]; exact Box.new w _ _
  obtain ⟨z0, z1, z2, z3, z4, z5, z6, z7, z8⟩ := box_y18 (Box.new w 23 (ycells18 p))
  have HCK := Lib.hid (ref_check18 p wb)
  have HWB := Lib.hid hwb
  clear hwb
  cases ho : okY p with
  | false =>
    have HE : Hid (encY p = ([], 2)) := by show _ = _; unfold encY; rw [ho]; rfl
    have HX : Hid (chkY p = 2) := by show _ = _; unfold chkY; rw [ho]; rfl
    rw [HX.out] at HCK
    clear ho
    go_enter Try.func8, Try.ntmps8
    go_wp2_with fail
    rw [← HWB.out]
    refine HCK.out.mono ?_
    rintro e w1 ⟨rfl, t1⟩
    have HT1 := Lib.hid (HTB.out.trans t1 (fun _ _ f => f))
    clear t1 HCK z0 z1 z2 z3 z4 z5 z6 z7 z8
    go_wp2
    go_ret2
    rw [HE.out]
    exact ⟨_, rfl, made_none18 HT1.out⟩
  | true =>
    have HE : Hid (encY p = (formY p, 0)) := by show _ = _; unfold encY; rw [ho]; rfl
    have HX : Hid (chkY p = 0) := by show _ = _; unfold chkY; rw [ho]; rfl
    have HF : Hid (∀ W, Calls Try.prog 27 #[yv18 p] W fun e w' => ∃ v, e = .returned v ∧ Made W w' v (formY p)) := fun W => ref_form18 p W (ok_iff18.1 ho)
    rw [HX.out] at HCK
    clear ho
    go_enter Try.func8, Try.ntmps8
    go_wp2_with fail
    rw [← HWB.out]
    refine HCK.out.mono ?_
    rintro e w1 ⟨rfl, t1⟩
    have HT1 := Lib.hid (HTB.out.trans t1 (fun _ _ f => f))
    obtain ⟨y0, y1, y2, y3, y4, y5, y6, y7, y8⟩ := box_y18 (HBX.out.turn t1 (fun f => f))
    clear t1 HCK z0 z1 z2 z3 z4 z5 z6 z7 z8
    go_wp2_with fail
    refine (HF.out w1).mono ?_
    rintro e w2 ⟨v2, rfl, hm2⟩
    have HM2 := Lib.hid hm2
    obtain ⟨A2, c2, rfl⟩ := hm2.1.shape
    clear hm2 y0 y1 y2 y3 y4 y5 y6 y7 y8
    go_wp2
    go_ret2
    rw [HE.out]
    exact ⟨_, rfl, HM2.out.1, HT1.out.trans HM2.out.2.1 (fun _ _ f => f), fun k hk => Nat.le_trans HT1.out.size (HM2.out.2.2 k hk)⟩

end Go.Proofs.Ytkkgipieahhmbaa

/-
  A struct stored whole into a box, in a region that draws. No type is named here.
-/
namespace Go.Proofs.Ytkkgipieahhmbaa
open Go.RowKit

theorem put_box {P : Program} {ops : Array Oper} {ty rt : TypeId} {pos : String} {af : Array Edge} {px vx : Operand} {a : Act} {w : World} {K : Act → World → Prop} {Q : Exit → Act → World → Prop} {F : Prop}
    (b o : Nat) (cs : Array Value) (ht : w.there b o cs.size) (hp : a.eval px = .pointer (some ⟨b, o, none⟩)) (hv : a.eval vx = .agg cs) (hi : (P.info? ty).map (·.size) = some cs.size) (h1 : cs.all (·.oneCell') = true)
    (h : K a (w.setCells b o cs.toList)) :
    if Region.wanted { dst := none, op := .store ty px vx, type := rt, pos := pos, after := af, guard := none } (yielded ops a.tmps) = true then Oper.wp P { dst := none, op := .store ty px vx, type := rt, pos := pos, after := af, guard := none } a w K Q else F := by
  rw [if_pos (by rfl)]
  exact wp_store_mid ty px vx rfl b o cs hp hv ht hi h1 h
/-- A box, whole: there to be stored into. -/
theorem Box.there {w : World} {g : Nat} {t : TypeId} {cs : Array Value} (h : Box w g t cs) {n : Nat} (hn : n ≤ cs.size) : w.there g 0 n := fun i hi => by
  refine ⟨?_, h.free _⟩
  rw [h.cell, Nat.zero_add, Array.getElem?_eq_getElem (by omega)]
  rfl
/-- A box stored whole. -/
theorem Box.all {w : World} {g : Nat} {t : TypeId} {cs : Array Value} (h : Box w g t cs) (ds : Array Value) (hd : ds.size = cs.size) : Box (w.setCells g 0 ds.toList) g t ds := by
  have h1 := h.setCells ds.toList 0 cs w (by rw [Array.length_toList]; omega)
  have e : (cs.toList.take 0 ++ ds.toList ++ cs.toList.drop (0 + ds.toList.length)).toArray = ds := by
    rw [List.take_zero, List.nil_append, Nat.zero_add, List.drop_of_length_le (by rw [Array.length_toList, Array.length_toList]; omega), List.append_nil, Array.toArray_toList]
  rwa [e] at h1

section
variable {T : Type} {E : El T} {e : TypeId} {w : World} {ad : Addr} {n c : Nat} {L : List T}
/-- One element stored into a row, in a region that draws nothing. -/
theorem wpList_put {P : Program} {ops : Array Oper} {rest : List Oper} {op : Oper} {a : Act} {Q : Exit → Act → World → Prop} (hgd : op.guard = none) (ty : TypeId) (x y : Operand) (ho : op.op = .store ty x y)
    (hown : OwE E e w (.slice (some ad) n c) L) (j : Nat) (t : T) (hj : j < L.length) (hx : a.eval x = .pointer (some (ad.add (j * E.sz)))) (hy : a.eval y = .agg (E.enc t).toArray) (hi : (P.info? ty).map (·.size) = some E.sz)
    (h : ∀ w', OwE E e w' (.slice (some ad) n c) (L.set j t) → Turn (fun k => k = ad.block) w w' → wpList P ops Q rest (a.put op.dst undef) w') : wpList P ops Q (op :: rest) a w := by
  obtain ⟨cur, ha, -⟩ := hown.home
  have hadd : ad.add (j * E.sz) = ⟨ad.block, ad.off + j * E.sz, none⟩ := by
    obtain ⟨b, o, s⟩ := ad
    simp only [Addr.mk.injEq, true_and] at ha
    obtain ⟨rfl, rfl⟩ := ha
    rw [own_add, Nat.zero_add]
  refine wpList_store_mid hgd ty x y ho ad.block (ad.off + j * E.sz) (E.enc t).toArray (by rw [hx, hadd]) hy (by rw [List.size_toArray, E.len]; exact hown.there hj) (by rw [List.size_toArray, E.len]; exact hi) (all_oneCell_toArray (E.one t)) ?_
  exact h _ (hown.put hj t) (turn_setCells (S := fun k => k = ad.block) rfl _ _ _)
/-- The cells that make lays: so many zeros. -/
theorem made_flat (t : T) (h0 : 0 < E.sz) (N : Nat) : (madeCells (E.enc t).toArray (N * E.sz)).toList = E.flat (List.replicate N t) := by
  refine List.ext_getElem? fun j => ?_
  have hfl : (E.flat (List.replicate N t)).length = N * E.sz := by rw [E.flat_len, List.length_replicate]
  by_cases hj : j < N * E.sz
  · have hm : j % E.sz < E.sz := Nat.mod_lt _ h0
    have hd : j / E.sz < N := Nat.div_lt_of_lt_mul (by rw [Nat.mul_comm]; exact hj)
    have e := E.flat_at (l := List.replicate N t) (j := j / E.sz) (t := t) (by rw [List.getElem?_replicate, if_pos hd]) hm
    rw [Nat.mul_comm, Nat.div_add_mod] at e
    rw [e]
    have hmz : j % E.sz < (E.enc t).length := by rw [E.len]; exact hm
    simp [madeCells, hj, E.len]
    rw [List.getElem?_eq_getElem hmz]
    rfl
  · rw [List.getElem?_eq_none (by rw [Array.length_toList, size_madeCells]; omega), List.getElem?_eq_none (by omega)]
end

end Go.Proofs.Ytkkgipieahhmbaa
