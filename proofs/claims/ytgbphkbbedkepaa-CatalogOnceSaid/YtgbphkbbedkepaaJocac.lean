/-
  Texts laid one behind the other: Zd Ze Ob Bs Oc Om Od Oe.
-/
import Derived.Test.YtgbphkbbedkepaaJocab
import Derived.Test.YtgbphkbbedkepaaJocaa
import Derived.WalkKit
import Derived.WalkSmall
import Derived.Laws.BitsAllLaws

/-
  Stage 9: the document's Check and All.
-/
namespace Go.Proofs.Ytgbphkbbedkepaa
open Go.RowKit

set_option maxRecDepth 100000

theorem chk_dims {f : F9} {n : Int} (h : ¬ (1 ≤ n ∧ n ≤ 4)) : chkF f n = 1 := by
  unfold chkF okDims
  rw [if_neg (by simpa using h)]
theorem chk_range {f : F9} {n : Int} (hn : 1 ≤ n ∧ n ≤ 4) (h : ¬ (0 ≤ f.k.h ∧ f.k.h ≤ 16777216 ∧ f.v ≤ 1152921504606846976 ∧ -1152921504606846976 ≤ f.v)) : chkF f n = 2 := by
  unfold chkF okDims
  rw [if_pos (by simpa using hn), if_neg h]
theorem chk_text {f : F9} {n : Int} (hn : 1 ≤ n ∧ n ≤ 4) (h : 0 ≤ f.k.h ∧ f.k.h ≤ 16777216 ∧ f.v ≤ 1152921504606846976 ∧ -1152921504606846976 ≤ f.v) (ht : okTexts n f.k = false) : chkF f n = 4 := by
  unfold chkF okDims
  rw [if_pos (by simpa using hn), if_pos h, ht]
  rfl
theorem chk_ok {f : F9} {n : Int} (hn : 1 ≤ n ∧ n ≤ 4) (h : 0 ≤ f.k.h ∧ f.k.h ≤ 16777216 ∧ f.v ≤ 1152921504606846976 ∧ -1152921504606846976 ≤ f.v) (ht : okTexts n f.k = true) : chkF f n = 0 := by
  unfold chkF okDims
  rw [if_pos (by simpa using hn), if_pos h, ht]
  rfl

end Go.Proofs.Ytgbphkbbedkepaa

/-
  Stage 9: the document's All; facts held against each other.
-/
namespace Go.Proofs.Ytgbphkbbedkepaa
open Go.RowKit

set_option maxRecDepth 100000

/-- What All answers, as a value. -/
def allV (l : List F9) (n : Int) : Value := .tuple #[.int .i64 (allB l n).1, .int .i64 (allB l n).2]
theorem allV_bad {l : List F9} {n : Int} (h : ¬ (1 ≤ n ∧ n ≤ 4 ∧ 1 ≤ l.length ∧ l.length ≤ 50)) : allV l n = .tuple #[.int .i64 1, .int .i64 0] := by
  unfold allV allB
  rw [if_neg]
  intro ⟨h1, h2, h3⟩
  unfold okDims at h1
  simp only [Bool.and_eq_true, decide_eq_true_iff] at h1
  exact h ⟨h1.1, h1.2, h2, h3⟩
theorem allV_at {l : List F9} {n : Int} (h : 1 ≤ n ∧ n ≤ 4 ∧ 1 ≤ l.length ∧ l.length ≤ 50) {a b : Int} (e : badAt n l 0 = (a, b)) : allV l n = .tuple #[.int .i64 a, .int .i64 b] := by
  unfold allV allB
  rw [if_pos ⟨by unfold okDims; simp [h.1, h.2.1], h.2.2⟩, e]

end Go.Proofs.Ytgbphkbbedkepaa

/-
  The writer: its bytes, and what its calls put behind.
-/
namespace Go.Proofs.Ytgbphkbbedkepaa
open Go.RowKit

/-- A byte that is not a number's last one. -/
def mid (n : Nat) : UInt8 := UInt8.ofNat (n % 128 + 128)
theorem mid_toNat (n : Nat) : (mid n).toNat = n % 128 + 128 := by
  unfold mid
  rw [UInt8.toNat_ofNat']
  omega
def low (n : Nat) : UInt8 := UInt8.ofNat n
theorem low_toNat (n : Nat) (h : n < 256) : (low n).toNat = n := by
  unfold low
  rw [UInt8.toNat_ofNat']
  omega

def encF : Nat → Nat → List UInt8
  | 0, n => [low n]
  | k + 1, n => if n < 128 then [low n] else mid n :: encF k (n / 128)
/-- The bytes of a number. -/
def enc (n : Nat) : List UInt8 := encF 9 n

theorem num_bound (n : Nat) (hn : Hid (n < 18446744073709551616)) : n < 128 ^ (9 + 1) := by
  have h : n < 18446744073709551616 := hn
  omega

theorem or_128 (r : Nat) : bits BinOp.or IntKind.u8 ((r : Int) % 256) 128 = ((mid r).toNat : Int) := by
  have h1 : ((r : Int) % 256) = ((r % 256 : Nat) : Int) := by omega
  have h := u8_or_nat (r % 256) 128 (by omega) (by omega)
  rw [h1]
  refine h.trans ?_
  have e : r % 256 ||| 128 = r % 128 + 128 := by
    have : ∀ x : Fin 256, x.val ||| 128 = x.val % 128 + 128 := by decide +kernel
    have := this ⟨r % 256, by omega⟩
    simp only at this
    rw [this]
    omega
  rw [e, mid_toNat]

end Go.Proofs.Ytgbphkbbedkepaa

/-
  Two rows of bytes held against each other.
-/
namespace Go.Proofs.Ytgbphkbbedkepaa
open Go.RowKit

end Go.Proofs.Ytgbphkbbedkepaa

/-
  Copies, and what else is said of a writer.
-/
namespace Go.Proofs.Ytgbphkbbedkepaa
open Go.RowKit

end Go.Proofs.Ytgbphkbbedkepaa

/-
  Plain facts on numbers: bits, turned numbers, groups of seven bits.
-/
namespace Go.Proofs.Ytgbphkbbedkepaa
open Go.RowKit

/-- A number turned, so that one near 0 is small. -/
def zig (n : Int) : Nat := if 0 ≤ n then (2 * n).toNat else (-2 * n - 1).toNat
/-- .. and turned back. -/
def zag (n : Nat) : Int := if n % 2 = 0 then ((n / 2 : Nat) : Int) else -((n / 2 : Nat) : Int) - 1

theorem zag_zig (n : Int) : zag (zig n) = n := by
  unfold zag zig
  split <;> split <;> omega

theorem zig_lt (n : Int) (h1 : Hid (-9223372036854775808 ≤ n)) (h2 : Hid (n ≤ 9223372036854775807)) : zig n < 18446744073709551616 := by
  have a : -9223372036854775808 ≤ n := h1
  have b : n ≤ 9223372036854775807 := h2
  unfold zig
  split <;> omega

theorem xor_ones (a : Nat) (h : a < 18446744073709551616) : bits BinOp.xor IntKind.u64 (a : Int) 18446744073709551615 = ((18446744073709551615 - a : Nat) : Int) := by
  show IntKind.u64.wrap ((BitVec.ofInt 64 (a : Int) ^^^ BitVec.ofInt 64 18446744073709551615).toNat : Int) = _
  have h1 : BitVec.ofInt 64 18446744073709551615 = BitVec.allOnes 64 := by decide +kernel
  rw [h1, BitVec.xor_allOnes, BitVec.toNat_not, ofInt_u64 a h, IntKind.wrap_u64]
  omega

theorem turn_val (n : Int) (h1 : Hid (-9223372036854775808 ≤ n)) (h2 : Hid (n ≤ 9223372036854775807)) :
    bits BinOp.xor IntKind.u64 (IntKind.u64.wrap (IntKind.u64.wrap n * 2)) (IntKind.u64.wrap (n / 9223372036854775808)) = (zig n : Int) := by
  have a : -9223372036854775808 ≤ n := h1
  have b : n ≤ 9223372036854775807 := h2
  by_cases h : 0 ≤ n
  · have e0 : n / 9223372036854775808 = 0 := by omega
    have e1 : IntKind.u64.wrap (n / 9223372036854775808) = ((0 : Nat) : Int) := by rw [e0, IntKind.wrap_u64]; omega
    have e2 : IntKind.u64.wrap (IntKind.u64.wrap n * 2) = (((2 * n).toNat : Nat) : Int) := by rw [IntKind.wrap_u64, IntKind.wrap_u64]; omega
    rw [e1, e2, u64_xor_nat _ _ (by omega) (by omega), Nat.xor_zero]
    unfold zig
    rw [if_pos h]
  · have e0 : n / 9223372036854775808 = -1 := by omega
    have e1 : IntKind.u64.wrap (n / 9223372036854775808) = 18446744073709551615 := by rw [e0, IntKind.wrap_u64]; omega
    have e2 : IntKind.u64.wrap (IntKind.u64.wrap n * 2) = (((2 * n + 18446744073709551616).toNat : Nat) : Int) := by rw [IntKind.wrap_u64, IntKind.wrap_u64]; omega
    rw [e1, e2, xor_ones _ (by omega)]
    unfold zig
    rw [if_neg h]
    omega

theorem i64_xor_ones (a : Nat) (h : a < 9223372036854775808) : bits BinOp.xor IntKind.i64 (a : Int) (-1) = -(a : Int) - 1 := by
  show IntKind.i64.wrap ((BitVec.ofInt 64 (a : Int) ^^^ BitVec.ofInt 64 (-1)).toNat : Int) = _
  have h1 : BitVec.ofInt 64 (-1) = BitVec.allOnes 64 := by decide
  rw [h1, BitVec.xor_allOnes, BitVec.toNat_not, ofInt_u64 a (by omega)]
  simp [IntKind.wrap, IntKind.bits, IntKind.signed]
  omega

theorem i64_xor_zero (a : Nat) (h : a < 9223372036854775808) : bits BinOp.xor IntKind.i64 (a : Int) 0 = (a : Int) := by
  show IntKind.i64.wrap ((BitVec.ofInt 64 (a : Int) ^^^ BitVec.ofInt 64 0).toNat : Int) = _
  have h1 : BitVec.ofInt 64 0 = 0#64 := by decide
  rw [h1, BitVec.xor_zero, ofInt_u64 a (by omega)]
  simp [IntKind.wrap, IntKind.bits, IntKind.signed]
  omega

theorem back_val (n : Nat) (h1 : Hid (n < 18446744073709551616)) :
    bits BinOp.xor IntKind.i64 (wrap64 ((n : Int) / 2)) (wrap64 (-wrap64 (bits BinOp.and IntKind.u64 (n : Int) 1))) = zag n := by
  have a : n < 18446744073709551616 := h1
  rw [and_one_u64 (n : Int) (by omega) (by omega)]
  have e1 : wrap64 ((n : Int) / 2) = ((n / 2 : Nat) : Int) := by unfold wrap64; omega
  have e2 : wrap64 (-wrap64 ((n : Int) % 2)) = -((n : Int) % 2) := by unfold wrap64; omega
  rw [e1, e2]
  unfold zag
  split
  · have e3 : -((n : Int) % 2) = 0 := by omega
    rw [e3, i64_xor_zero _ (by omega)]
  · have e3 : -((n : Int) % 2) = -1 := by omega
    rw [e3, i64_xor_ones _ (by omega)]

theorem pow_7 (i : Nat) : (2 : Int) ^ (7 * i) = ((128 ^ i : Nat) : Int) := by
  rw [Int.pow_mul]
  simp

theorem pow_le (i : Nat) (h : i ≤ 9) : 128 ^ i ≤ 9223372036854775808 := by
  have := Nat.pow_le_pow_right (n := 128) (by omega) h
  have e : (128 : Nat) ^ 9 = 9223372036854775808 := by decide +kernel
  omega

theorem or_val (acc c i : Nat) (hi : i ≤ 9) (hacc : acc < 128 ^ i) (hb : c * 128 ^ i < 18446744073709551616) :
    bits BinOp.or IntKind.u64 (acc : Int) (IntKind.u64.wrap ((c : Int) * 2 ^ (7 * i))) = ((acc + c * 128 ^ i : Nat) : Int) := by
  have hp := pow_le i hi
  have e : IntKind.u64.wrap ((c : Int) * 2 ^ (7 * i)) = ((c * 128 ^ i : Nat) : Int) := by
    rw [pow_7, ← Int.natCast_mul, IntKind.wrap_u64]
    omega
  rw [e, bits_or_u64_nat _ _ (by omega) hb]
  have h2 : (128 : Nat) ^ i = 2 ^ (7 * i) := by rw [Nat.pow_mul]
  rw [h2] at hacc ⊢
  have := Nat.shiftLeft_add_eq_or_of_lt hacc c
  rw [Nat.shiftLeft_eq] at this
  rw [Nat.or_comm, ← this, Nat.add_comm]

theorem or_mid (acc x i : Nat) (hx : 128 ≤ x) (hx2 : x < 256) (hi : i ≤ 8) (hacc : acc < 128 ^ i) :
    bits BinOp.or IntKind.u64 (acc : Int) (IntKind.u64.wrap (((x : Int) - 128) * 2 ^ (7 * i))) = ((acc + (x - 128) * 128 ^ i : Nat) : Int) ∧ acc + (x - 128) * 128 ^ i < 128 ^ (i + 1) := by
  have e : ((x : Int) - 128) = ((x - 128 : Nat) : Int) := by omega
  have h1 : (x - 128) * 128 ^ i ≤ 127 * 128 ^ i := Nat.mul_le_mul_right _ (by omega)
  have h2 := pow_le (i + 1) (by omega)
  rw [Nat.pow_succ] at h2 ⊢
  rw [e]
  exact ⟨or_val acc (x - 128) i (by omega) hacc (by omega), by omega⟩

end Go.Proofs.Ytgbphkbbedkepaa

/-
  Numbers with a sign, texts and flags, as the program and as the document put them.
-/
namespace Go.Proofs.Ytgbphkbbedkepaa
open Go.RowKit


end Go.Proofs.Ytgbphkbbedkepaa

/-
  A text put; and the document's own bytes.
-/
namespace Go.Proofs.Ytgbphkbbedkepaa
open Go.RowKit

theorem hid_small (n : Nat) (h : n ≤ 1000000) : Hid (n < 18446744073709551616) := by
  show n < 18446744073709551616
  omega

theorem enc_len (n : Nat) : (enc n).length ≤ 10 := by
  have h : ∀ k n, (encF k n).length ≤ k + 1 := by
    intro k
    induction k with
    | zero => intro n; simp [encF]
    | succ k ih =>
      intro n
      unfold encF
      split
      · simp
      · have := ih (n / 128)
        simp only [List.length_cons]
        omega
  exact h 9 n

/-- The document's bytes of a number, so far. -/
def RefRel (n : Nat) (w : World) (x out : Value) (wr : World) (k r : Nat) (acc : List UInt8) : Prop :=
  x = .int .u64 r ∧ r < 128 ^ (k + 1) ∧ k ≤ 9 ∧ acc.length + k ≤ 9 ∧ acc ++ encF k r = enc n ∧ r ≤ n ∧ Made w wr out acc

theorem ref_start (n : Nat) (w : World) (hn : Hid (n < 18446744073709551616)) : RefRel n w (.int .u64 n) (.slice none 0 0) w 9 n [] := by
  unfold RefRel enc
  exact ⟨rfl, num_bound n hn, Nat.le_refl _, Nat.le_refl _, rfl, Nat.le_refl _, By.nil _, Turn.refl _ _, fun _ h => by cases h⟩

theorem made_step {w wr w1 : World} {v : Value} {acc news : List UInt8} {A : Option Addr} {n c : Nat} {o : Obj} (h : Made w wr v acc) (hby : By w1 (.slice A n c) (acc ++ news))
    (hg : (wr.alloc o).grownBy w1 v.ownBlock) (hat : (Value.slice A n c).ownBlock = v.ownBlock ∨ (Value.slice A n c).ownBlock = some (wr.heap.size + 1)) :
    Made w w1 (.slice A n c) (acc ++ news) := by
  obtain ⟨_, ht, hk⟩ := h
  refine ⟨hby, (ht.alloc o).grown hg (fun k hlt e => by have := hk k e; omega), fun k e => ?_⟩
  rcases hat with e1 | e1
  · exact hk k (e1 ▸ e)
  · rw [e1] at e
    have := ht.size
    simp at e
    omega

theorem made_step0 {w wr w1 : World} {v : Value} {acc news : List UInt8} {A : Option Addr} {n c : Nat} (h : Made w wr v acc) (hby : By w1 (.slice A n c) (acc ++ news))
    (hg : wr.grownBy w1 v.ownBlock) (hat : (Value.slice A n c).ownBlock = v.ownBlock ∨ (Value.slice A n c).ownBlock = some wr.heap.size) :
    Made w w1 (.slice A n c) (acc ++ news) := by
  obtain ⟨_, ht, hk⟩ := h
  refine ⟨hby, ht.grown hg (fun k hlt e => by have := hk k e; omega), fun k e => ?_⟩
  rcases hat with e1 | e1
  · exact hk k (e1 ▸ e)
  · rw [e1] at e
    have := ht.size
    simp at e
    omega

theorem ref_last {n : Nat} {w wr w1 : World} {k r : Nat} {acc : List UInt8} {v : Value} {A : Option Addr} {m c : Nat} {o : Obj} (h : r < 128) (henc : acc ++ encF k r = enc n) (hm : Made w wr v acc)
    (hby : By w1 (.slice A m c) (acc ++ [low r])) (hg : (wr.alloc o).grownBy w1 v.ownBlock) (hat : (Value.slice A m c).ownBlock = v.ownBlock ∨ (Value.slice A m c).ownBlock = some (wr.heap.size + 1)) :
    Made w w1 (.slice A m c) (enc n) := by
  have h2 := made_step hm hby hg hat
  have e : encF k r = [low r] := by
    cases k with
    | zero => rfl
    | succ k => simp [encF, h]
  rw [e] at henc
  rw [← henc]
  exact h2

theorem ref_round {n : Nat} {w wr w1 : World} {k r : Nat} {acc : List UInt8} {v : Value} {A : Option Addr} {m c : Nat} {o : Obj} (h : ¬ r < 128) (hr : r < 128 ^ (k + 1)) (hk : k ≤ 9) (hlen : acc.length + k ≤ 9)
    (henc : acc ++ encF k r = enc n) (hrn : r ≤ n) (hm : Made w wr v acc)
    (hby : By w1 (.slice A m c) (acc ++ [mid r])) (hg : (wr.alloc o).grownBy w1 v.ownBlock) (hat : (Value.slice A m c).ownBlock = v.ownBlock ∨ (Value.slice A m c).ownBlock = some (wr.heap.size + 1)) :
    ∃ k' r' acc', RefRel n w (.int .u64 ((r : Int) / 128)) (.slice A m c) w1 k' r' acc' := by
  cases k with
  | zero => exact absurd hr (by simp; omega)
  | succ k =>
    refine ⟨k, r / 128, _, ?_, ?_, by omega, ?_, ?_, by omega, made_step hm hby hg hat⟩
    · congr 1
    · rw [Nat.div_lt_iff_lt_mul (by omega)]
      rw [Nat.pow_succ] at hr
      exact hr
    · simp only [List.length_append, List.length_cons, List.length_nil]; omega
    · rw [← henc]
      simp [encF, h]

theorem ref_wrap (r n : Nat) (h : r ≤ n) (hn : Hid (n < 18446744073709551616)) : IntKind.u64.wrap ((r : Int) / 128) = (r : Int) / 128 := by
  have a : n < 18446744073709551616 := hn
  rw [IntKind.wrap_u64]
  omega

theorem ref_int1 (n : Int) (h : 0 ≤ n) (h2 : Hid (n ≤ 9223372036854775807)) : IntKind.u64.wrap (2 * IntKind.u64.wrap n) = (zig n : Int) := by
  have b : n ≤ 9223372036854775807 := h2
  unfold zig
  rw [if_pos h, IntKind.wrap_u64, IntKind.wrap_u64]
  omega

theorem ref_int2 (n : Int) (h : ¬ 0 ≤ n) (h1 : Hid (-9223372036854775808 ≤ n)) :
    IntKind.u64.wrap (IntKind.u64.wrap (2 * IntKind.u64.wrap (wrap64 (-wrap64 (n + 1)))) + 1) = (zig n : Int) := by
  have a : -9223372036854775808 ≤ n := h1
  have e : wrap64 (-wrap64 (n + 1)) = -(n + 1) := by unfold wrap64; omega
  unfold zig
  rw [if_neg h, e, IntKind.wrap_u64, IntKind.wrap_u64, IntKind.wrap_u64]
  omega

theorem By.one (w : World) (b : UInt8) (c : Int) (hc : c = (b.toNat : Int)) : By (w.alloc (.cells #[.int .u8 c] 5)) (.slice (some ⟨w.heap.size, 0, none⟩) 1 1) [b] := by
  subst hc
  exact World.ownsRow_lit (base := 0) w #[bv b] 1 (Nat.zero_le _) (by simp [maxLen]) rfl

theorem enc_small (n : Nat) (h : n < 128) : enc n = [low n] := by
  unfold enc encF
  rw [if_pos h]

end Go.Proofs.Ytgbphkbbedkepaa
