
/-
  Plain facts on a check's words: one bit, a byte, many bytes; that a word is known by what it becomes.
-/
import Derived.WalkKit
import Derived.WalkSmall
import Derived.Laws.BitsAllLaws
namespace Go.Proofs.Ytjhgbbmghgeeoaa
open Go.RowKit

/-- One bit. -/
def stp (w : Nat) : Nat := if w % 2 = 1 then (w / 2) ^^^ 3988292384 else w / 2
/-- n bits. -/
def stps : Nat → Nat → Nat
  | 0, w => w
  | n + 1, w => stp (stps n w)
/-- A byte. -/
def eat (w : Nat) (b : UInt8) : Nat := stps 8 (w ^^^ b.toNat)
/-- Bytes. -/
def eats (w : Nat) (l : List UInt8) : Nat := l.foldl eat w
/-- The check of bytes behind those whose check is s. -/
def more (s : Nat) (l : List UInt8) : Nat := 4294967295 - eats (4294967295 - s) l

theorem stp_lt {w : Nat} (h : w < 4294967296) : stp w < 4294967296 := by
  unfold stp
  split
  · exact Nat.xor_lt_two_pow (n := 32) (by omega) (by omega)
  · omega
theorem stps_lt (n : Nat) {w : Nat} (h : w < 4294967296) : stps n w < 4294967296 := by
  induction n with
  | zero => exact h
  | succ n ih => exact stp_lt ih
theorem mix_lt {w : Nat} (b : UInt8) (h : w < 4294967296) : w ^^^ b.toNat < 4294967296 :=
  Nat.xor_lt_two_pow (n := 32) h (by have := b.toNat_lt; omega)
theorem eat_lt {w : Nat} (b : UInt8) (h : w < 4294967296) : eat w b < 4294967296 := stps_lt 8 (mix_lt b h)
theorem eats_lt {w : Nat} (l : List UInt8) (h : w < 4294967296) : eats w l < 4294967296 := by
  induction l generalizing w with
  | nil => exact h
  | cons b l ih => exact ih (eat_lt b h)
theorem eats_append (w : Nat) (l m : List UInt8) : eats w (l ++ m) = eats (eats w l) m := by unfold eats; rw [List.foldl_append]
theorem eats_take {w : Nat} {l : List UInt8} {k : Nat} {b : UInt8} (h : l[k]? = some b) : eats w (l.take (k + 1)) = eat (eats w (l.take k)) b := by
  obtain ⟨hk, e⟩ := List.getElem?_eq_some_iff.1 h
  rw [List.take_succ_eq_append_getElem hk, eats_append, e]
  rfl
theorem more_lt (s : Nat) (l : List UInt8) : more s l < 4294967296 := by unfold more; omega
theorem more_more (s : Nat) (l m : List UInt8) : more (more s l) m = more s (l ++ m) := by
  unfold more
  rw [eats_append]
  have h := eats_lt l (show 4294967295 - s < 4294967296 by omega)
  have e : 4294967295 - (4294967295 - eats (4294967295 - s) l) = eats (4294967295 - s) l := by omega
  rw [e]

theorem xor_right {a b c : Nat} (h : a ^^^ c = b ^^^ c) : a = b := by
  have := congrArg (· ^^^ c) h
  simpa [Nat.xor_assoc] using this
theorem xor_left {a b c : Nat} (h : c ^^^ a = c ^^^ b) : a = b := by
  rw [Nat.xor_comm c a, Nat.xor_comm c b] at h
  exact xor_right h

/-- The bit that falls is told by the greatest bit behind. -/
theorem stp_inj {a b : Nat} (ha : a < 4294967296) (hb : b < 4294967296) (h : stp a = stp b) : a = b := by
  have key : ∀ x y : Nat, x < 2147483648 → y < 2147483648 → x ^^^ 3988292384 ≠ y := by
    intro x y hx hy e
    have h1 : x ^^^ y < 2 ^ 31 := Nat.xor_lt_two_pow (by omega) (by omega)
    have h2 : x ^^^ y = 3988292384 := by rw [← e, ← Nat.xor_assoc, Nat.xor_self, Nat.zero_xor]
    omega
  unfold stp at h
  split at h
  · split at h
    · have := xor_right h
      omega
    · exact absurd h (key _ _ (by omega) (by omega))
  · split at h
    · exact absurd h.symm (key _ _ (by omega) (by omega))
    · omega
theorem stps_inj (n : Nat) {a b : Nat} (ha : a < 4294967296) (hb : b < 4294967296) (h : stps n a = stps n b) : a = b := by
  induction n with
  | zero => exact h
  | succ n ih => exact ih (stp_inj (stps_lt n ha) (stps_lt n hb) h)
theorem eat_word {a b : Nat} {x : UInt8} (ha : a < 4294967296) (hb : b < 4294967296) (h : eat a x = eat b x) : a = b :=
  xor_right (stps_inj 8 (mix_lt x ha) (mix_lt x hb) h)
theorem eat_byte {w : Nat} {x y : UInt8} (hw : w < 4294967296) (h : eat w x = eat w y) : x = y :=
  UInt8.toNat_inj.1 (xor_left (stps_inj 8 (mix_lt x hw) (mix_lt y hw) h))
theorem eats_word {a b : Nat} (l : List UInt8) (ha : a < 4294967296) (hb : b < 4294967296) (h : eats a l = eats b l) : a = b := by
  induction l generalizing a b with
  | nil => exact h
  | cons x l ih => exact eat_word ha hb (ih (eat_lt x ha) (eat_lt x hb) h)

theorem more_set (s : Nat) (l : List UInt8) (i : Nat) (x y : UInt8) (hi : l[i]? = some x) (h : more s l = more s (l.set i y)) : x = y := by
  obtain ⟨hlt, hx⟩ := List.getElem?_eq_some_iff.1 hi
  have e1 : l = l.take i ++ x :: l.drop (i + 1) := by
    rw [← hx, ← List.drop_eq_getElem_cons hlt, List.take_append_drop]
  have e2 : l.set i y = l.take i ++ y :: l.drop (i + 1) := by
    rw [List.set_eq_take_append_cons_drop, if_pos hlt]
  have hw : 4294967295 - s < 4294967296 := by omega
  have h3 := eats_lt l hw
  have h4 := eats_lt (l.set i y) hw
  have h5 : eats (4294967295 - s) l = eats (4294967295 - s) (l.set i y) := by unfold more at h; omega
  rw [e2] at h5
  have h6 : eats (4294967295 - s) (l.take i ++ x :: l.drop (i + 1)) = eats (4294967295 - s) (l.take i ++ y :: l.drop (i + 1)) := by rw [← e1]; exact h5
  rw [eats_append, eats_append] at h6
  have hw2 := eats_lt (l.take i) hw
  exact eat_byte hw2 (eats_word _ (eat_lt x hw2) (eat_lt y hw2) h6)

/-- The bytes of a check, the lowest first. -/
def tl (n : Nat) : List UInt8 := [UInt8.ofNat (n % 256), UInt8.ofNat (n / 256 % 256), UInt8.ofNat (n / 65536 % 256), UInt8.ofNat (n / 16777216 % 256)]
theorem tl_inj {a b : Nat} (ha : a < 4294967296) (hb : b < 4294967296) (h : tl a = tl b) : a = b := by
  unfold tl at h
  simp only [List.cons.injEq, and_true] at h
  obtain ⟨h0, h1, h2, h3⟩ := h
  have g : ∀ x y : Nat, x < 256 → y < 256 → UInt8.ofNat x = UInt8.ofNat y → x = y := by
    intro x y hx hy e
    have := congrArg UInt8.toNat e
    simpa [UInt8.toNat_ofNat', Nat.mod_eq_of_lt hx, Nat.mod_eq_of_lt hy] using this
  have := g _ _ (by omega) (by omega) h0
  have := g _ _ (by omega) (by omega) h1
  have := g _ _ (by omega) (by omega) h2
  have := g _ _ (by omega) (by omega) h3
  omega

def demo2 : List UInt8 := [49, 50, 51, 52, 53, 54, 55, 56, 57]
theorem demo2_sum : more 0 demo2 = 3421780262 := by decide +kernel

/-- The bit that falls, as a mask. -/
theorem move_val (w : Nat) (h : w < 4294967296) :
    bits BinOp.xor IntKind.u32 ((w / 2 : Nat) : Int) (bits BinOp.and IntKind.u32 3988292384 (IntKind.u32.wrap (-bits BinOp.and IntKind.u32 (w : Int) 1))) = (stp w : Int) := by
  have e1 : bits BinOp.and IntKind.u32 (w : Int) 1 = ((w % 2 : Nat) : Int) := by
    rw [show (1 : Int) = ((1 : Nat) : Int) from rfl, u32_and_nat w 1 h (by omega), nat_mask1]
  rw [e1, IntKind.wrap_u32']
  unfold stp
  split
  · rename_i hp
    have e2 : -((w % 2 : Nat) : Int) % 4294967296 = ((4294967295 : Nat) : Int) := by omega
    rw [e2, show (3988292384 : Int) = ((3988292384 : Nat) : Int) from rfl, u32_and_nat _ _ (by omega) (by omega)]
    have e3 : 3988292384 &&& 4294967295 = 3988292384 := by decide +kernel
    rw [e3, u32_xor_nat _ _ (by omega) (by omega)]
  · rename_i hp
    have e2 : -((w % 2 : Nat) : Int) % 4294967296 = ((0 : Nat) : Int) := by omega
    rw [e2, show (3988292384 : Int) = ((3988292384 : Nat) : Int) from rfl, u32_and_nat _ _ (by omega) (by omega), Nat.and_zero, u32_xor_nat _ _ (by omega) (by omega), Nat.xor_zero]

theorem turn_u32 (w : Nat) (h : w < 4294967296) : bits BinOp.xor IntKind.u32 (w : Int) 4294967295 = ((4294967295 - w : Nat) : Int) := by
  show IntKind.u32.wrap ((BitVec.ofInt 32 (w : Int) ^^^ BitVec.ofInt 32 4294967295).toNat : Int) = _
  have h1 : BitVec.ofInt 32 4294967295 = BitVec.allOnes 32 := by decide +kernel
  rw [h1, BitVec.xor_allOnes, BitVec.toNat_not, ofInt_u32 w h, IntKind.wrap_u32']
  omega

end Go.Proofs.Ytjhgbbmghgeeoaa
