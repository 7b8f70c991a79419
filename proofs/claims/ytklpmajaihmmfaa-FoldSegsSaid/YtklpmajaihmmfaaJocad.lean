/-
  Texts laid one behind the other: Oh Oi Oj Ok Ol Ra Rb Rc.
-/
import Derived.Test.YtklpmajaihmmfaaJocac

/-
  What a reader's calls read: all of a thing, or a fault.
-/
namespace Go.Proofs.Ytklpmajaihmmfaa
open Go.RowKit

end Go.Proofs.Ytklpmajaihmmfaa

/-
  What is read of a reader: numbers, counts, texts, flags.
-/
namespace Go.Proofs.Ytklpmajaihmmfaa
open Go.RowKit

def rdFlag : List UInt8 → Bool × Nat × Nat
  | [] => (false, 3, 0)
  | b :: _ => if 1 < b.toNat then (false, 4, 1) else (b.toNat == 1, 0, 1)

def rdCount (most : Nat) (l : List UInt8) : Nat × Nat × Nat :=
  if (rdNum l).2.1 ≠ 0 then (0, (rdNum l).2.1, (rdNum l).2.2) else if most < (rdNum l).1 then (0, 4, (rdNum l).2.2) else ((rdNum l).1, 0, (rdNum l).2.2)

def rdText (most : Nat) (l : List UInt8) : List UInt8 × Nat × Nat :=
  if (rdCount most l).2.1 ≠ 0 then ([], (rdCount most l).2.1, (rdCount most l).2.2)
  else if (l.drop (rdCount most l).2.2).length < (rdCount most l).1 then ([], 3, (rdCount most l).2.2)
  else ((l.drop (rdCount most l).2.2).take (rdCount most l).1, 0, (rdCount most l).2.2 + (rdCount most l).1)

theorem rdFlag_at (l : List UInt8) (k : Nat) (hl : k < l.length) (x : Nat) (hx : x = (l[k]?.getD 0).toNat) : rdFlag (l.drop k) = if 1 < x then (false, 4, 1) else (x == 1, 0, 1) := by
  rw [List.drop_eq_getElem_cons hl]
  have h2 : (l[k]?.getD 0) = l[k] := by rw [List.getElem?_eq_getElem hl]; rfl
  rw [h2] at hx
  subst hx
  rfl

end Go.Proofs.Ytklpmajaihmmfaa

/-
  A reader's calls, whole.
-/
namespace Go.Proofs.Ytklpmajaihmmfaa
open Go.RowKit

theorem count_le (most : Nat) (l : List UInt8) : (rdCount most l).1 ≤ most := by
  unfold rdCount
  split
  · exact Nat.zero_le _
  · split <;> simp_all <;> omega

theorem rdF_lt : ∀ (g i acc : Nat) (l : List UInt8), g + i = 10 → acc < 128 ^ i → (rdF g i acc l).1 < 18446744073709551616
  | 0, i, acc, l, _, _ => by simp [rdF]
  | g + 1, i, acc, [], _, _ => by simp [rdF]
  | g + 1, i, acc, b :: l, h, ha => by
    unfold rdF
    have hb := UInt8.toNat_lt b
    have hp := pow_le i (by omega)
    split
    · refine rdF_lt g (i + 1) _ l (by omega) ?_
      have h1 : (b.toNat - 128) * 128 ^ i ≤ 127 * 128 ^ i := Nat.mul_le_mul_right _ (by omega)
      rw [Nat.pow_succ]
      omega
    · split
      · omega
      · rename_i h1 h2
        show acc + b.toNat * 128 ^ i < 18446744073709551616
        by_cases h9 : i = 9
        · have : b.toNat * 128 ^ i ≤ 1 * 128 ^ i := Nat.mul_le_mul_right _ (by omega)
          omega
        · have h3 : b.toNat * 128 ^ i ≤ 127 * 128 ^ i := Nat.mul_le_mul_right _ (by omega)
          have h4 := pow_le (i + 1) (by omega)
          rw [Nat.pow_succ] at h4
          omega

theorem rdNum_lt (l : List UInt8) : Hid ((rdNum l).1 < 18446744073709551616) := rdF_lt 10 0 0 l (by omega) (by simp)

theorem zag_zero : zag 0 = 0 := by decide

end Go.Proofs.Ytklpmajaihmmfaa

/-
  What is put is read as it was, and of fewer bytes it is not: on lists of bytes. A new reader.
-/
namespace Go.Proofs.Ytklpmajaihmmfaa
open Go.RowKit

theorem rdF_enc : ∀ (g n i acc : Nat) (rest : List UInt8), g + i = 9 → (i = 0 ∨ 0 < n) → n < 128 ^ (g + 1) → n * 128 ^ i < 18446744073709551616 →
    rdF (g + 1) i acc (encF g n ++ rest) = (acc + n * 128 ^ i, 0, i + (encF g n).length)
  | 0, n, i, acc, rest, hg, h0, hn, hb => by
    have e9 : i = 9 := by omega
    subst e9
    have h2 : n < 2 := by omega
    have h3 : (low n).toNat = n := low_toNat n (by omega)
    show (if 128 ≤ (low n).toNat then _ else if (0 < 9 ∧ (low n).toNat = 0) ∨ (9 = 9 ∧ 1 < (low n).toNat) then _ else _) = _
    rw [h3, if_neg (by omega), if_neg (by omega)]
    rfl
  | g + 1, n, i, acc, rest, hg, h0, hn, hb => by
    by_cases h : n < 128
    · have e : encF (g + 1) n = [low n] := by unfold encF; rw [if_pos h]
      have h3 : (low n).toNat = n := low_toNat n (by omega)
      rw [e]
      show (if 128 ≤ (low n).toNat then _ else if (0 < i ∧ (low n).toNat = 0) ∨ (i = 9 ∧ 1 < (low n).toNat) then _ else _) = _
      rw [h3, if_neg (by omega), if_neg (by omega)]
      rfl
    · have e : encF (g + 1) n = mid n :: encF g (n / 128) := by
        show (if n < 128 then [low n] else mid n :: encF g (n / 128)) = _
        rw [if_neg h]
      have h3 := mid_toNat n
      have hp : 0 < 128 ^ i := Nat.pow_pos (by omega)
      rw [e]
      show (if 128 ≤ (mid n).toNat then rdF (g + 1) (i + 1) (acc + ((mid n).toNat - 128) * 128 ^ i) (encF g (n / 128) ++ rest) else _) = _
      rw [if_pos (by omega), h3]
      have hd : n / 128 < 128 ^ (g + 1) := by
        rw [Nat.div_lt_iff_lt_mul (by omega), ← Nat.pow_succ]
        exact hn
      have hm : n / 128 * 128 ^ (i + 1) ≤ n * 128 ^ i := by
        rw [Nat.pow_succ, Nat.mul_comm (128 ^ i) 128, ← Nat.mul_assoc]
        exact Nat.mul_le_mul_right (128 ^ i) (Nat.div_mul_le_self n 128)
      have hlt : n / 128 * 128 ^ (i + 1) < 18446744073709551616 := Nat.lt_of_le_of_lt hm hb
      have hq : 0 < n / 128 := Nat.div_pos (by omega) (by omega)
      rw [rdF_enc g (n / 128) (i + 1) _ rest (by omega) (.inr hq) hd hlt]
      refine Prod.ext ?_ (Prod.ext rfl ?_)
      · show acc + (n % 128 + 128 - 128) * 128 ^ i + n / 128 * 128 ^ (i + 1) = acc + n * 128 ^ i
        have e1 : n % 128 + 128 - 128 = n % 128 := by omega
        have e2 : n * 128 ^ i = (n % 128) * 128 ^ i + n / 128 * 128 ^ (i + 1) := by
          rw [Nat.pow_succ, Nat.mul_comm (128 ^ i) 128, ← Nat.mul_assoc, ← Nat.add_mul, show n % 128 + n / 128 * 128 = n from by omega]
        rw [e1, e2]
        omega
      · show i + 1 + (encF g (n / 128)).length = i + (mid n :: encF g (n / 128)).length
        simp only [List.length_cons]
        omega

theorem rdNum_enc (n : Nat) (rest : List UInt8) (hn : Hid (n < 18446744073709551616)) : rdNum (enc n ++ rest) = (n, 0, (enc n).length) := by
  have h : n < 18446744073709551616 := hn
  have := rdF_enc 9 n 0 0 rest rfl (.inl rfl) (num_bound n hn) (by simpa using h)
  unfold rdNum enc
  rw [this]
  simp

theorem rdF_cut : ∀ (g n i acc m : Nat), g + i = 9 → m < (encF g n).length → rdF (g + 1) i acc ((encF g n).take m) = (0, 3, i + m)
  | g, n, i, acc, 0, _, _ => by
    rw [List.take_zero]
    rfl
  | 0, n, i, acc, m + 1, _, hm => absurd hm (by simp [encF])
  | g + 1, n, i, acc, m + 1, hg, hm => by
    by_cases h : n < 128
    · have e : encF (g + 1) n = [low n] := by unfold encF; rw [if_pos h]
      rw [e] at hm
      exact absurd hm (by simp)
    · have e : encF (g + 1) n = mid n :: encF g (n / 128) := by
        show (if n < 128 then [low n] else mid n :: encF g (n / 128)) = _
        rw [if_neg h]
      have h3 := mid_toNat n
      rw [e] at hm ⊢
      rw [List.take_succ_cons]
      show (if 128 ≤ (mid n).toNat then rdF (g + 1) (i + 1) (acc + ((mid n).toNat - 128) * 128 ^ i) ((encF g (n / 128)).take m) else _) = _
      rw [if_pos (by omega), rdF_cut g (n / 128) (i + 1) _ m (by omega) (by simpa using hm)]
      refine Prod.ext rfl (Prod.ext rfl ?_)
      show i + 1 + m = i + (m + 1)
      omega

theorem rdNum_cut (n m : Nat) (hm : m < (enc n).length) : rdNum ((enc n).take m) = (0, 3, m) := by
  have := rdF_cut 9 n 0 0 m rfl hm
  unfold rdNum enc
  rw [this]
  simp

theorem enc_pos (n : Nat) : 0 < (enc n).length := by
  unfold enc encF
  split <;> simp

end Go.Proofs.Ytklpmajaihmmfaa

/-
  The chapter's example: what must come at any rate.
-/
namespace Go.Proofs.Ytklpmajaihmmfaa
open Go.RowKit

def demo1 : List UInt8 := [172, 2, 1, 2, 97, 98]
theorem demo1_eq : ([] ++ enc 300) ++ enc (zig (-1)) ++ (enc (ByteArray.mk #[97, 98]).size ++ (ByteArray.mk #[97, 98]).data.toList) = demo1 := by decide +kernel
theorem demo1_num : rdNum (demo1.drop 0) = (300, 0, 2) := by decide +kernel

theorem By.at {w : World} {v : Value} {l : List UInt8} (h : By w v l) (hl : 0 < l.length) : ∃ g c, v = .slice (some ⟨g, 0, none⟩) l.length c ∧ l.length ≤ c ∧ ∀ j b, l[j]? = some b → w.cell? ⟨g, j, none⟩ = some (.int .u8 (b.toNat : Int)) := by
  rcases h.form with ⟨_, rfl⟩ | ⟨g, cap, cur, rfl, hb, h1, _⟩
  · exact absurd hl (by simp)
  · refine ⟨g, cap, rfl, h1, fun j b hj => ?_⟩
    have := World.ownsRow.cells h (g := g) rfl j (bv b) (by simp [hj])
    have e : (⟨g, 0, none⟩ : Addr).add j = ⟨g, j, none⟩ := by unfold Addr.add; split <;> simp_all
    rw [e] at this
    exact this

theorem hid_int (n : Int) (h : -1000000 ≤ n) (h2 : n ≤ 1000000) : Hid (-9223372036854775808 ≤ n) ∧ Hid (n ≤ 9223372036854775807) := by
  constructor
  · show -9223372036854775808 ≤ n
    omega
  · show n ≤ 9223372036854775807
    omega

end Go.Proofs.Ytklpmajaihmmfaa

/-
  The document's own reader: its next byte, and that it is no such thing.
-/
namespace Go.Proofs.Ytklpmajaihmmfaa
open Go.RowKit

end Go.Proofs.Ytklpmajaihmmfaa

/-
  A number read by the document's own reader.
-/
namespace Go.Proofs.Ytklpmajaihmmfaa
open Go.RowKit

theorem rdF_cons (k acc : Nat) (hk : k < 10) (b : UInt8) (t : List UInt8) (x : Nat) (hx : x = b.toNat) :
    rdF (10 - k) k acc (b :: t) = if 128 ≤ x then rdF (10 - (k + 1)) (k + 1) (acc + (x - 128) * 128 ^ k) t
      else if (0 < k ∧ x = 0) ∨ (k = 9 ∧ 1 < x) then (0, 4, k + 1) else (acc + x * 128 ^ k, 0, k + 1) := by
  have e : 10 - k = (10 - (k + 1)) + 1 := by omega
  rw [e]
  subst hx
  rfl

/-- What the product and the sum come to. -/
theorem xmul (x y k : Nat) (hk : k ≤ 9) (hy : y = 128 ^ k) (hd : k < 9 ∨ x % 128 ≤ 1) : IntKind.u64.wrap ((x : Int) % 128 * (y : Int)) = ((x % 128 * y : Nat) : Int) ∧ x % 128 * y ≤ 9223372036854775808 ∧ (k < 9 → x % 128 * y ≤ 127 * y) := by
  have hp := pow_le k hk
  have h1 : x % 128 * y ≤ 9223372036854775808 := by
    subst hy
    rcases hd with h | h
    · have h2 := pow_le (k + 1) (by omega)
      rw [Nat.pow_succ] at h2
      have h3 : x % 128 * 128 ^ k ≤ 127 * 128 ^ k := Nat.mul_le_mul_right _ (by omega)
      omega
    · have h3 : x % 128 * 128 ^ k ≤ 1 * 128 ^ k := Nat.mul_le_mul_right _ h
      omega
  refine ⟨?_, h1, fun _ => Nat.mul_le_mul_right _ (by omega)⟩
  have e : ((x : Int) % 128 * (y : Int)) = ((x % 128 * y : Nat) : Int) := by
    rw [Int.natCast_mul]
    rfl
  rw [e, IntKind.wrap_u64]
  omega

theorem xadd (acc z : Nat) (h1 : acc < 9223372036854775808) (h2 : z ≤ 9223372036854775808) : IntKind.u64.wrap ((acc : Int) + (z : Int)) = ((acc + z : Nat) : Int) := by
  rw [IntKind.wrap_u64]
  omega

theorem xacc (acc k : Nat) (hk : k ≤ 9) (h : acc < 128 ^ k) : acc < 9223372036854775808 := by
  have := pow_le k hk
  omega

end Go.Proofs.Ytklpmajaihmmfaa

/-
  What else the document's own reader reads.
-/
namespace Go.Proofs.Ytklpmajaihmmfaa
open Go.RowKit

theorem zag_even (n : Nat) (h : n % 2 < 1) (hn : Hid (n < 18446744073709551616)) : wrap64 (IntKind.u64.wrap ((n : Int) / 2)) = zag n := by
  have a : n < 18446744073709551616 := hn
  rw [IntKind.wrap_u64]
  unfold zag wrap64
  rw [if_pos (by omega)]
  omega
theorem zag_odd (n : Nat) (h : 1 ≤ n % 2) (hn : Hid (n < 18446744073709551616)) : wrap64 (wrap64 (-wrap64 (IntKind.u64.wrap ((n : Int) / 2))) - 1) = zag n := by
  have a : n < 18446744073709551616 := hn
  have e1 : wrap64 (IntKind.u64.wrap ((n : Int) / 2)) = (n : Int) / 2 := by rw [IntKind.wrap_u64]; unfold wrap64; omega
  have e2 : wrap64 (-((n : Int) / 2)) = -((n : Int) / 2) := by unfold wrap64; omega
  rw [e1, e2]
  unfold zag wrap64
  rw [if_neg (by omega)]
  omega

end Go.Proofs.Ytklpmajaihmmfaa
