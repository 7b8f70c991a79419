/-
  Texts laid one behind the other: Of Og Oh Oi Oj Ok Ol Cm.
-/
import Derived.Test.YtclljogbingjiaaJocaa
import Derived.RegionTactic
import Derived.ChangeAlike
import Derived.Deep.QuietTactic
import Derived.BigQuiet
import Derived.WalkMore
import Derived.WalkKit
import Derived.WalkSmall
import Derived.Laws.BitsAllLaws

/-
  The reader.
-/
namespace Go.Proofs.Ytclljogbingjiaa
open Go.RowKit

end Go.Proofs.Ytclljogbingjiaa

/-
  A number read.
-/
namespace Go.Proofs.Ytclljogbingjiaa
open Go.RowKit

/-- What is read as a number, behind i bytes that came to acc: its value, the fault, how many bytes were taken. -/
def rdF : Nat → Nat → Nat → List UInt8 → Nat × Nat × Nat
  | 0, i, _, _ => (0, 4, i)
  | _ + 1, i, _, [] => (0, 3, i)
  | f + 1, i, acc, b :: l =>
    if 128 ≤ b.toNat then rdF f (i + 1) (acc + (b.toNat - 128) * 128 ^ i) l
    else if (0 < i ∧ b.toNat = 0) ∨ (i = 9 ∧ 1 < b.toNat) then (0, 4, i + 1) else (acc + b.toNat * 128 ^ i, 0, i + 1)
def rdNum (l : List UInt8) : Nat × Nat × Nat := rdF 10 0 0 l

theorem rdF_step (l : List UInt8) (k i acc : Nat) (hi : i < 10) (hl : k + i < l.length) (x : Nat) (hx : x = (l[k+i]?.getD 0).toNat) :
    rdF (10 - i) i acc (l.drop (k + i)) = if 128 ≤ x then rdF (10 - (i + 1)) (i + 1) (acc + (x - 128) * 128 ^ i) (l.drop (k + (i + 1)))
      else if (0 < i ∧ x = 0) ∨ (i = 9 ∧ 1 < x) then (0, 4, i + 1) else (acc + x * 128 ^ i, 0, i + 1) := by
  have e : 10 - i = (10 - (i + 1)) + 1 := by omega
  rw [e, List.drop_eq_getElem_cons hl]
  have h2 : (l[k+i]?.getD 0) = l[k+i] := by rw [List.getElem?_eq_getElem hl]; rfl
  rw [h2] at hx
  subst hx
  rfl

theorem rdF_none (l : List UInt8) (k i acc : Nat) (hi : i < 10) (hl : ¬ k + i < l.length) : rdF (10 - i) i acc (l.drop (k + i)) = (0, 3, i) := by
  have e : 10 - i = (10 - (i + 1)) + 1 := by omega
  rw [e, List.drop_eq_nil_of_le (by omega)]
  rfl

end Go.Proofs.Ytclljogbingjiaa

/-
  What a reader's calls read: all of a thing, or a fault.
-/
namespace Go.Proofs.Ytclljogbingjiaa
open Go.RowKit

end Go.Proofs.Ytclljogbingjiaa

/-
  What is read of a reader: numbers, counts, texts, flags.
-/
namespace Go.Proofs.Ytclljogbingjiaa
open Go.RowKit

def rdFlag : List UInt8 → Bool × Nat × Nat
  | [] => (false, 3, 0)
  | b :: _ => if 1 < b.toNat then (false, 4, 1) else (b.toNat == 1, 0, 1)

def rdCount (most : Nat) (l : List UInt8) : Nat × Nat × Nat :=
  if (rdNum l).2.1 ≠ 0 then (0, (rdNum l).2.1, (rdNum l).2.2) else if most < (rdNum l).1 then (0, 4, (rdNum l).2.2) else ((rdNum l).1, 0, (rdNum l).2.2)

def rdText (most : Nat) (l : List UInt8) : List UInt8 × Nat × Nat :=
  if (rdCount most l).2.1 ≠ 0 then ([], (rdCount most l).2.1, (rdCount most l).2.2)
  else if (l.drop (rdCount most l).2.2).length < (rdCount most l).1 then ([], 3, (rdCount most l).2.2)
  else ((l.drop (rdCount most l).2.2).take (rdCount most l).1, 0, (rdCount most l).2.2 + (rdCount most l).1)

theorem rdFlag_at (l : List UInt8) (k : Nat) (hl : k < l.length) (x : Nat) (hx : x = (l[k]?.getD 0).toNat) : rdFlag (l.drop k) = if 1 < x then (false, 4, 1) else (x == 1, 0, 1) := by
  rw [List.drop_eq_getElem_cons hl]
  have h2 : (l[k]?.getD 0) = l[k] := by rw [List.getElem?_eq_getElem hl]; rfl
  rw [h2] at hx
  subst hx
  rfl

end Go.Proofs.Ytclljogbingjiaa

/-
  A reader's calls, whole.
-/
namespace Go.Proofs.Ytclljogbingjiaa
open Go.RowKit

theorem count_le (most : Nat) (l : List UInt8) : (rdCount most l).1 ≤ most := by
  unfold rdCount
  split
  · exact Nat.zero_le _
  · split <;> simp_all <;> omega

theorem rdF_lt : ∀ (g i acc : Nat) (l : List UInt8), g + i = 10 → acc < 128 ^ i → (rdF g i acc l).1 < 18446744073709551616
  | 0, i, acc, l, _, _ => by simp [rdF]
  | g + 1, i, acc, [], _, _ => by simp [rdF]
  | g + 1, i, acc, b :: l, h, ha => by
    unfold rdF
    have hb := UInt8.toNat_lt b
    have hp := pow_le i (by omega)
    split
    · refine rdF_lt g (i + 1) _ l (by omega) ?_
      have h1 : (b.toNat - 128) * 128 ^ i ≤ 127 * 128 ^ i := Nat.mul_le_mul_right _ (by omega)
      rw [Nat.pow_succ]
      omega
    · split
      · omega
      · rename_i h1 h2
        show acc + b.toNat * 128 ^ i < 18446744073709551616
        by_cases h9 : i = 9
        · have : b.toNat * 128 ^ i ≤ 1 * 128 ^ i := Nat.mul_le_mul_right _ (by omega)
          omega
        · have h3 : b.toNat * 128 ^ i ≤ 127 * 128 ^ i := Nat.mul_le_mul_right _ (by omega)
          have h4 := pow_le (i + 1) (by omega)
          rw [Nat.pow_succ] at h4
          omega

theorem rdNum_lt (l : List UInt8) : Hid ((rdNum l).1 < 18446744073709551616) := rdF_lt 10 0 0 l (by omega) (by simp)

theorem zag_zero : zag 0 = 0 := by decide

end Go.Proofs.Ytclljogbingjiaa

/-
  What is put is read as it was, and of fewer bytes it is not: on lists of bytes. A new reader.
-/
namespace Go.Proofs.Ytclljogbingjiaa
open Go.RowKit

theorem rdF_enc : ∀ (g n i acc : Nat) (rest : List UInt8), g + i = 9 → (i = 0 ∨ 0 < n) → n < 128 ^ (g + 1) → n * 128 ^ i < 18446744073709551616 →
    rdF (g + 1) i acc (encF g n ++ rest) = (acc + n * 128 ^ i, 0, i + (encF g n).length)
  | 0, n, i, acc, rest, hg, h0, hn, hb => by
    have e9 : i = 9 := by omega
    subst e9
    have h2 : n < 2 := by omega
    have h3 : (low n).toNat = n := low_toNat n (by omega)
    show (if 128 ≤ (low n).toNat then _ else if (0 < 9 ∧ (low n).toNat = 0) ∨ (9 = 9 ∧ 1 < (low n).toNat) then _ else _) = _
    rw [h3, if_neg (by omega), if_neg (by omega)]
    rfl
  | g + 1, n, i, acc, rest, hg, h0, hn, hb => by
    by_cases h : n < 128
    · have e : encF (g + 1) n = [low n] := by unfold encF; rw [if_pos h]
      have h3 : (low n).toNat = n := low_toNat n (by omega)
      rw [e]
      show (if 128 ≤ (low n).toNat then _ else if (0 < i ∧ (low n).toNat = 0) ∨ (i = 9 ∧ 1 < (low n).toNat) then _ else _) = _
      rw [h3, if_neg (by omega), if_neg (by omega)]
      rfl
    · have e : encF (g + 1) n = mid n :: encF g (n / 128) := by
        show (if n < 128 then [low n] else mid n :: encF g (n / 128)) = _
        rw [if_neg h]
      have h3 := mid_toNat n
      have hp : 0 < 128 ^ i := Nat.pow_pos (by omega)
      rw [e]
      show (if 128 ≤ (mid n).toNat then rdF (g + 1) (i + 1) (acc + ((mid n).toNat - 128) * 128 ^ i) (encF g (n / 128) ++ rest) else _) = _
      rw [if_pos (by omega), h3]
      have hd : n / 128 < 128 ^ (g + 1) := by
        rw [Nat.div_lt_iff_lt_mul (by omega), ← Nat.pow_succ]
        exact hn
      have hm : n / 128 * 128 ^ (i + 1) ≤ n * 128 ^ i := by
        rw [Nat.pow_succ, Nat.mul_comm (128 ^ i) 128, ← Nat.mul_assoc]
        exact Nat.mul_le_mul_right (128 ^ i) (Nat.div_mul_le_self n 128)
      have hlt : n / 128 * 128 ^ (i + 1) < 18446744073709551616 := Nat.lt_of_le_of_lt hm hb
      have hq : 0 < n / 128 := Nat.div_pos (by omega) (by omega)
      rw [rdF_enc g (n / 128) (i + 1) _ rest (by omega) (.inr hq) hd hlt]
      refine Prod.ext ?_ (Prod.ext rfl ?_)
      · show acc + (n % 128 + 128 - 128) * 128 ^ i + n / 128 * 128 ^ (i + 1) = acc + n * 128 ^ i
        have e1 : n % 128 + 128 - 128 = n % 128 := by omega
        have e2 : n * 128 ^ i = (n % 128) * 128 ^ i + n / 128 * 128 ^ (i + 1) := by
          rw [Nat.pow_succ, Nat.mul_comm (128 ^ i) 128, ← Nat.mul_assoc, ← Nat.add_mul, show n % 128 + n / 128 * 128 = n from by omega]
        rw [e1, e2]
        omega
      · show i + 1 + (encF g (n / 128)).length = i + (mid n :: encF g (n / 128)).length
        simp only [List.length_cons]
        omega

theorem rdNum_enc (n : Nat) (rest : List UInt8) (hn : Hid (n < 18446744073709551616)) : rdNum (enc n ++ rest) = (n, 0, (enc n).length) := by
  have h : n < 18446744073709551616 := hn
  have := rdF_enc 9 n 0 0 rest rfl (.inl rfl) (num_bound n hn) (by simpa using h)
  unfold rdNum enc
  rw [this]
  simp

theorem rdF_cut : ∀ (g n i acc m : Nat), g + i = 9 → m < (encF g n).length → rdF (g + 1) i acc ((encF g n).take m) = (0, 3, i + m)
  | g, n, i, acc, 0, _, _ => by
    rw [List.take_zero]
    rfl
  | 0, n, i, acc, m + 1, _, hm => absurd hm (by simp [encF])
  | g + 1, n, i, acc, m + 1, hg, hm => by
    by_cases h : n < 128
    · have e : encF (g + 1) n = [low n] := by unfold encF; rw [if_pos h]
      rw [e] at hm
      exact absurd hm (by simp)
    · have e : encF (g + 1) n = mid n :: encF g (n / 128) := by
        show (if n < 128 then [low n] else mid n :: encF g (n / 128)) = _
        rw [if_neg h]
      have h3 := mid_toNat n
      rw [e] at hm ⊢
      rw [List.take_succ_cons]
      show (if 128 ≤ (mid n).toNat then rdF (g + 1) (i + 1) (acc + ((mid n).toNat - 128) * 128 ^ i) ((encF g (n / 128)).take m) else _) = _
      rw [if_pos (by omega), rdF_cut g (n / 128) (i + 1) _ m (by omega) (by simpa using hm)]
      refine Prod.ext rfl (Prod.ext rfl ?_)
      show i + 1 + m = i + (m + 1)
      omega

theorem rdNum_cut (n m : Nat) (hm : m < (enc n).length) : rdNum ((enc n).take m) = (0, 3, m) := by
  have := rdF_cut 9 n 0 0 m rfl hm
  unfold rdNum enc
  rw [this]
  simp

theorem enc_pos (n : Nat) : 0 < (enc n).length := by
  unfold enc encF
  split <;> simp

end Go.Proofs.Ytclljogbingjiaa

/-
  The chapter's example: what must come at any rate.
-/
namespace Go.Proofs.Ytclljogbingjiaa
open Go.RowKit

def demo1 : List UInt8 := [172, 2, 1, 2, 97, 98]
theorem demo1_eq : ([] ++ enc 300) ++ enc (zig (-1)) ++ (enc (ByteArray.mk #[97, 98]).size ++ (ByteArray.mk #[97, 98]).data.toList) = demo1 := by decide +kernel
theorem demo1_num : rdNum (demo1.drop 0) = (300, 0, 2) := by decide +kernel

theorem By.at {w : World} {v : Value} {l : List UInt8} (h : By w v l) (hl : 0 < l.length) : ∃ g c, v = .slice (some ⟨g, 0, none⟩) l.length c ∧ l.length ≤ c ∧ ∀ j b, l[j]? = some b → w.cell? ⟨g, j, none⟩ = some (.int .u8 (b.toNat : Int)) := by
  rcases h.form with ⟨_, rfl⟩ | ⟨g, cap, cur, rfl, hb, h1, _⟩
  · exact absurd hl (by simp)
  · refine ⟨g, cap, rfl, h1, fun j b hj => ?_⟩
    have := World.ownsRow.cells h (g := g) rfl j (bv b) (by simp [hj])
    have e : (⟨g, 0, none⟩ : Addr).add j = ⟨g, j, none⟩ := by unfold Addr.add; split <;> simp_all
    rw [e] at this
    exact this

theorem hid_int (n : Int) (h : -1000000 ≤ n) (h2 : n ≤ 1000000) : Hid (-9223372036854775808 ≤ n) ∧ Hid (n ≤ 9223372036854775807) := by
  constructor
  · show -9223372036854775808 ≤ n
    omega
  · show n ≤ 9223372036854775807
    omega

end Go.Proofs.Ytclljogbingjiaa

/-
  Plain facts on a check's words: one bit, a byte, many bytes; that a word is known by what it becomes.
-/
namespace Go.Proofs.Ytclljogbingjiaa
open Go.RowKit

/-- One bit. -/
def stp (w : Nat) : Nat := if w % 2 = 1 then (w / 2) ^^^ 3988292384 else w / 2
/-- n bits. -/
def stps : Nat → Nat → Nat
  | 0, w => w
  | n + 1, w => stp (stps n w)
/-- A byte. -/
def eat (w : Nat) (b : UInt8) : Nat := stps 8 (w ^^^ b.toNat)
/-- Bytes. -/
def eats (w : Nat) (l : List UInt8) : Nat := l.foldl eat w
/-- The check of bytes behind those whose check is s. -/
def more (s : Nat) (l : List UInt8) : Nat := 4294967295 - eats (4294967295 - s) l

theorem stp_lt {w : Nat} (h : w < 4294967296) : stp w < 4294967296 := by
  unfold stp
  split
  · exact Nat.xor_lt_two_pow (n := 32) (by omega) (by omega)
  · omega
theorem stps_lt (n : Nat) {w : Nat} (h : w < 4294967296) : stps n w < 4294967296 := by
  induction n with
  | zero => exact h
  | succ n ih => exact stp_lt ih
theorem mix_lt {w : Nat} (b : UInt8) (h : w < 4294967296) : w ^^^ b.toNat < 4294967296 :=
  Nat.xor_lt_two_pow (n := 32) h (by have := b.toNat_lt; omega)
theorem eat_lt {w : Nat} (b : UInt8) (h : w < 4294967296) : eat w b < 4294967296 := stps_lt 8 (mix_lt b h)
theorem eats_lt {w : Nat} (l : List UInt8) (h : w < 4294967296) : eats w l < 4294967296 := by
  induction l generalizing w with
  | nil => exact h
  | cons b l ih => exact ih (eat_lt b h)
theorem eats_append (w : Nat) (l m : List UInt8) : eats w (l ++ m) = eats (eats w l) m := by unfold eats; rw [List.foldl_append]
theorem eats_take {w : Nat} {l : List UInt8} {k : Nat} {b : UInt8} (h : l[k]? = some b) : eats w (l.take (k + 1)) = eat (eats w (l.take k)) b := by
  obtain ⟨hk, e⟩ := List.getElem?_eq_some_iff.1 h
  rw [List.take_succ_eq_append_getElem hk, eats_append, e]
  rfl
theorem more_lt (s : Nat) (l : List UInt8) : more s l < 4294967296 := by unfold more; omega
theorem more_more (s : Nat) (l m : List UInt8) : more (more s l) m = more s (l ++ m) := by
  unfold more
  rw [eats_append]
  have h := eats_lt l (show 4294967295 - s < 4294967296 by omega)
  have e : 4294967295 - (4294967295 - eats (4294967295 - s) l) = eats (4294967295 - s) l := by omega
  rw [e]

theorem xor_right {a b c : Nat} (h : a ^^^ c = b ^^^ c) : a = b := by
  have := congrArg (· ^^^ c) h
  simpa [Nat.xor_assoc] using this
theorem xor_left {a b c : Nat} (h : c ^^^ a = c ^^^ b) : a = b := by
  rw [Nat.xor_comm c a, Nat.xor_comm c b] at h
  exact xor_right h

/-- The bit that falls is told by the greatest bit behind. -/
theorem stp_inj {a b : Nat} (ha : a < 4294967296) (hb : b < 4294967296) (h : stp a = stp b) : a = b := by
  have key : ∀ x y : Nat, x < 2147483648 → y < 2147483648 → x ^^^ 3988292384 ≠ y := by
    intro x y hx hy e
    have h1 : x ^^^ y < 2 ^ 31 := Nat.xor_lt_two_pow (by omega) (by omega)
    have h2 : x ^^^ y = 3988292384 := by rw [← e, ← Nat.xor_assoc, Nat.xor_self, Nat.zero_xor]
    omega
  unfold stp at h
  split at h
  · split at h
    · have := xor_right h
      omega
    · exact absurd h (key _ _ (by omega) (by omega))
  · split at h
    · exact absurd h.symm (key _ _ (by omega) (by omega))
    · omega
theorem stps_inj (n : Nat) {a b : Nat} (ha : a < 4294967296) (hb : b < 4294967296) (h : stps n a = stps n b) : a = b := by
  induction n with
  | zero => exact h
  | succ n ih => exact ih (stp_inj (stps_lt n ha) (stps_lt n hb) h)
theorem eat_word {a b : Nat} {x : UInt8} (ha : a < 4294967296) (hb : b < 4294967296) (h : eat a x = eat b x) : a = b :=
  xor_right (stps_inj 8 (mix_lt x ha) (mix_lt x hb) h)
theorem eat_byte {w : Nat} {x y : UInt8} (hw : w < 4294967296) (h : eat w x = eat w y) : x = y :=
  UInt8.toNat_inj.1 (xor_left (stps_inj 8 (mix_lt x hw) (mix_lt y hw) h))
theorem eats_word {a b : Nat} (l : List UInt8) (ha : a < 4294967296) (hb : b < 4294967296) (h : eats a l = eats b l) : a = b := by
  induction l generalizing a b with
  | nil => exact h
  | cons x l ih => exact eat_word ha hb (ih (eat_lt x ha) (eat_lt x hb) h)

theorem more_set (s : Nat) (l : List UInt8) (i : Nat) (x y : UInt8) (hi : l[i]? = some x) (h : more s l = more s (l.set i y)) : x = y := by
  obtain ⟨hlt, hx⟩ := List.getElem?_eq_some_iff.1 hi
  have e1 : l = l.take i ++ x :: l.drop (i + 1) := by
    rw [← hx, ← List.drop_eq_getElem_cons hlt, List.take_append_drop]
  have e2 : l.set i y = l.take i ++ y :: l.drop (i + 1) := by
    rw [List.set_eq_take_append_cons_drop, if_pos hlt]
  have hw : 4294967295 - s < 4294967296 := by omega
  have h3 := eats_lt l hw
  have h4 := eats_lt (l.set i y) hw
  have h5 : eats (4294967295 - s) l = eats (4294967295 - s) (l.set i y) := by unfold more at h; omega
  rw [e2] at h5
  have h6 : eats (4294967295 - s) (l.take i ++ x :: l.drop (i + 1)) = eats (4294967295 - s) (l.take i ++ y :: l.drop (i + 1)) := by rw [← e1]; exact h5
  rw [eats_append, eats_append] at h6
  have hw2 := eats_lt (l.take i) hw
  exact eat_byte hw2 (eats_word _ (eat_lt x hw2) (eat_lt y hw2) h6)

/-- The bytes of a check, the lowest first. -/
def tl (n : Nat) : List UInt8 := [UInt8.ofNat (n % 256), UInt8.ofNat (n / 256 % 256), UInt8.ofNat (n / 65536 % 256), UInt8.ofNat (n / 16777216 % 256)]
theorem tl_inj {a b : Nat} (ha : a < 4294967296) (hb : b < 4294967296) (h : tl a = tl b) : a = b := by
  unfold tl at h
  simp only [List.cons.injEq, and_true] at h
  obtain ⟨h0, h1, h2, h3⟩ := h
  have g : ∀ x y : Nat, x < 256 → y < 256 → UInt8.ofNat x = UInt8.ofNat y → x = y := by
    intro x y hx hy e
    have := congrArg UInt8.toNat e
    simpa [UInt8.toNat_ofNat', Nat.mod_eq_of_lt hx, Nat.mod_eq_of_lt hy] using this
  have := g _ _ (by omega) (by omega) h0
  have := g _ _ (by omega) (by omega) h1
  have := g _ _ (by omega) (by omega) h2
  have := g _ _ (by omega) (by omega) h3
  omega

def demo2 : List UInt8 := [49, 50, 51, 52, 53, 54, 55, 56, 57]
theorem demo2_sum : more 0 demo2 = 3421780262 := by decide +kernel

/-- The bit that falls, as a mask. -/
theorem move_val (w : Nat) (h : w < 4294967296) :
    bits BinOp.xor IntKind.u32 ((w / 2 : Nat) : Int) (bits BinOp.and IntKind.u32 3988292384 (IntKind.u32.wrap (-bits BinOp.and IntKind.u32 (w : Int) 1))) = (stp w : Int) := by
  have e1 : bits BinOp.and IntKind.u32 (w : Int) 1 = ((w % 2 : Nat) : Int) := by
    rw [show (1 : Int) = ((1 : Nat) : Int) from rfl, u32_and_nat w 1 h (by omega), nat_mask1]
  rw [e1, IntKind.wrap_u32']
  unfold stp
  split
  · rename_i hp
    have e2 : -((w % 2 : Nat) : Int) % 4294967296 = ((4294967295 : Nat) : Int) := by omega
    rw [e2, show (3988292384 : Int) = ((3988292384 : Nat) : Int) from rfl, u32_and_nat _ _ (by omega) (by omega)]
    have e3 : 3988292384 &&& 4294967295 = 3988292384 := by decide +kernel
    rw [e3, u32_xor_nat _ _ (by omega) (by omega)]
  · rename_i hp
    have e2 : -((w % 2 : Nat) : Int) % 4294967296 = ((0 : Nat) : Int) := by omega
    rw [e2, show (3988292384 : Int) = ((3988292384 : Nat) : Int) from rfl, u32_and_nat _ _ (by omega) (by omega), Nat.and_zero, u32_xor_nat _ _ (by omega) (by omega), Nat.xor_zero]

theorem turn_u32 (w : Nat) (h : w < 4294967296) : bits BinOp.xor IntKind.u32 (w : Int) 4294967295 = ((4294967295 - w : Nat) : Int) := by
  show IntKind.u32.wrap ((BitVec.ofInt 32 (w : Int) ^^^ BitVec.ofInt 32 4294967295).toNat : Int) = _
  have h1 : BitVec.ofInt 32 4294967295 = BitVec.allOnes 32 := by decide +kernel
  rw [h1, BitVec.xor_allOnes, BitVec.toNat_not, ofInt_u32 w h, IntKind.wrap_u32']
  omega

end Go.Proofs.Ytclljogbingjiaa
