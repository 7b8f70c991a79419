/-
  Texts laid one behind the other: Bs Oc Om Od Oe Zj Of Og.
-/
import Derived.Test.YtklpmajaihmmfaaJocaa
import Derived.Test.YtklpmajaihmmfaaJocab
import Derived.WalkKit
import Derived.WalkSmall
import Derived.Laws.BitsAllLaws
import Derived.RegionTactic
import Derived.ChangeAlike
import Derived.Deep.QuietTactic
import Derived.BigQuiet
import Derived.WalkMore

/-
  Two rows of bytes held against each other.
-/
namespace Go.Proofs.Ytklpmajaihmmfaa
open Go.RowKit

end Go.Proofs.Ytklpmajaihmmfaa

/-
  Copies, and what else is said of a writer.
-/
namespace Go.Proofs.Ytklpmajaihmmfaa
open Go.RowKit

end Go.Proofs.Ytklpmajaihmmfaa

/-
  Plain facts on numbers: bits, turned numbers, groups of seven bits.
-/
namespace Go.Proofs.Ytklpmajaihmmfaa
open Go.RowKit

/-- A number turned, so that one near 0 is small. -/
def zig (n : Int) : Nat := if 0 ≤ n then (2 * n).toNat else (-2 * n - 1).toNat
/-- .. and turned back. -/
def zag (n : Nat) : Int := if n % 2 = 0 then ((n / 2 : Nat) : Int) else -((n / 2 : Nat) : Int) - 1

theorem zag_zig (n : Int) : zag (zig n) = n := by
  unfold zag zig
  split <;> split <;> omega

theorem zig_lt (n : Int) (h1 : Hid (-9223372036854775808 ≤ n)) (h2 : Hid (n ≤ 9223372036854775807)) : zig n < 18446744073709551616 := by
  have a : -9223372036854775808 ≤ n := h1
  have b : n ≤ 9223372036854775807 := h2
  unfold zig
  split <;> omega

theorem xor_ones (a : Nat) (h : a < 18446744073709551616) : bits BinOp.xor IntKind.u64 (a : Int) 18446744073709551615 = ((18446744073709551615 - a : Nat) : Int) := by
  show IntKind.u64.wrap ((BitVec.ofInt 64 (a : Int) ^^^ BitVec.ofInt 64 18446744073709551615).toNat : Int) = _
  have h1 : BitVec.ofInt 64 18446744073709551615 = BitVec.allOnes 64 := by decide +kernel
  rw [h1, BitVec.xor_allOnes, BitVec.toNat_not, ofInt_u64 a h, IntKind.wrap_u64]
  omega

theorem turn_val (n : Int) (h1 : Hid (-9223372036854775808 ≤ n)) (h2 : Hid (n ≤ 9223372036854775807)) :
    bits BinOp.xor IntKind.u64 (IntKind.u64.wrap (IntKind.u64.wrap n * 2)) (IntKind.u64.wrap (n / 9223372036854775808)) = (zig n : Int) := by
  have a : -9223372036854775808 ≤ n := h1
  have b : n ≤ 9223372036854775807 := h2
  by_cases h : 0 ≤ n
  · have e0 : n / 9223372036854775808 = 0 := by omega
    have e1 : IntKind.u64.wrap (n / 9223372036854775808) = ((0 : Nat) : Int) := by rw [e0, IntKind.wrap_u64]; omega
    have e2 : IntKind.u64.wrap (IntKind.u64.wrap n * 2) = (((2 * n).toNat : Nat) : Int) := by rw [IntKind.wrap_u64, IntKind.wrap_u64]; omega
    rw [e1, e2, u64_xor_nat _ _ (by omega) (by omega), Nat.xor_zero]
    unfold zig
    rw [if_pos h]
  · have e0 : n / 9223372036854775808 = -1 := by omega
    have e1 : IntKind.u64.wrap (n / 9223372036854775808) = 18446744073709551615 := by rw [e0, IntKind.wrap_u64]; omega
    have e2 : IntKind.u64.wrap (IntKind.u64.wrap n * 2) = (((2 * n + 18446744073709551616).toNat : Nat) : Int) := by rw [IntKind.wrap_u64, IntKind.wrap_u64]; omega
    rw [e1, e2, xor_ones _ (by omega)]
    unfold zig
    rw [if_neg h]
    omega

theorem i64_xor_ones (a : Nat) (h : a < 9223372036854775808) : bits BinOp.xor IntKind.i64 (a : Int) (-1) = -(a : Int) - 1 := by
  show IntKind.i64.wrap ((BitVec.ofInt 64 (a : Int) ^^^ BitVec.ofInt 64 (-1)).toNat : Int) = _
  have h1 : BitVec.ofInt 64 (-1) = BitVec.allOnes 64 := by decide
  rw [h1, BitVec.xor_allOnes, BitVec.toNat_not, ofInt_u64 a (by omega)]
  simp [IntKind.wrap, IntKind.bits, IntKind.signed]
  omega

theorem i64_xor_zero (a : Nat) (h : a < 9223372036854775808) : bits BinOp.xor IntKind.i64 (a : Int) 0 = (a : Int) := by
  show IntKind.i64.wrap ((BitVec.ofInt 64 (a : Int) ^^^ BitVec.ofInt 64 0).toNat : Int) = _
  have h1 : BitVec.ofInt 64 0 = 0#64 := by decide
  rw [h1, BitVec.xor_zero, ofInt_u64 a (by omega)]
  simp [IntKind.wrap, IntKind.bits, IntKind.signed]
  omega

theorem back_val (n : Nat) (h1 : Hid (n < 18446744073709551616)) :
    bits BinOp.xor IntKind.i64 (wrap64 ((n : Int) / 2)) (wrap64 (-wrap64 (bits BinOp.and IntKind.u64 (n : Int) 1))) = zag n := by
  have a : n < 18446744073709551616 := h1
  rw [and_one_u64 (n : Int) (by omega) (by omega)]
  have e1 : wrap64 ((n : Int) / 2) = ((n / 2 : Nat) : Int) := by unfold wrap64; omega
  have e2 : wrap64 (-wrap64 ((n : Int) % 2)) = -((n : Int) % 2) := by unfold wrap64; omega
  rw [e1, e2]
  unfold zag
  split
  · have e3 : -((n : Int) % 2) = 0 := by omega
    rw [e3, i64_xor_zero _ (by omega)]
  · have e3 : -((n : Int) % 2) = -1 := by omega
    rw [e3, i64_xor_ones _ (by omega)]

theorem pow_7 (i : Nat) : (2 : Int) ^ (7 * i) = ((128 ^ i : Nat) : Int) := by
  rw [Int.pow_mul]
  simp

theorem pow_le (i : Nat) (h : i ≤ 9) : 128 ^ i ≤ 9223372036854775808 := by
  have := Nat.pow_le_pow_right (n := 128) (by omega) h
  have e : (128 : Nat) ^ 9 = 9223372036854775808 := by decide +kernel
  omega

theorem or_val (acc c i : Nat) (hi : i ≤ 9) (hacc : acc < 128 ^ i) (hb : c * 128 ^ i < 18446744073709551616) :
    bits BinOp.or IntKind.u64 (acc : Int) (IntKind.u64.wrap ((c : Int) * 2 ^ (7 * i))) = ((acc + c * 128 ^ i : Nat) : Int) := by
  have hp := pow_le i hi
  have e : IntKind.u64.wrap ((c : Int) * 2 ^ (7 * i)) = ((c * 128 ^ i : Nat) : Int) := by
    rw [pow_7, ← Int.natCast_mul, IntKind.wrap_u64]
    omega
  rw [e, bits_or_u64_nat _ _ (by omega) hb]
  have h2 : (128 : Nat) ^ i = 2 ^ (7 * i) := by rw [Nat.pow_mul]
  rw [h2] at hacc ⊢
  have := Nat.shiftLeft_add_eq_or_of_lt hacc c
  rw [Nat.shiftLeft_eq] at this
  rw [Nat.or_comm, ← this, Nat.add_comm]

theorem or_mid (acc x i : Nat) (hx : 128 ≤ x) (hx2 : x < 256) (hi : i ≤ 8) (hacc : acc < 128 ^ i) :
    bits BinOp.or IntKind.u64 (acc : Int) (IntKind.u64.wrap (((x : Int) - 128) * 2 ^ (7 * i))) = ((acc + (x - 128) * 128 ^ i : Nat) : Int) ∧ acc + (x - 128) * 128 ^ i < 128 ^ (i + 1) := by
  have e : ((x : Int) - 128) = ((x - 128 : Nat) : Int) := by omega
  have h1 : (x - 128) * 128 ^ i ≤ 127 * 128 ^ i := Nat.mul_le_mul_right _ (by omega)
  have h2 := pow_le (i + 1) (by omega)
  rw [Nat.pow_succ] at h2 ⊢
  rw [e]
  exact ⟨or_val acc (x - 128) i (by omega) hacc (by omega), by omega⟩

end Go.Proofs.Ytklpmajaihmmfaa

/-
  Numbers with a sign, texts and flags, as the program and as the document put them.
-/
namespace Go.Proofs.Ytklpmajaihmmfaa
open Go.RowKit


end Go.Proofs.Ytklpmajaihmmfaa

/-
  A text put; and the document's own bytes.
-/
namespace Go.Proofs.Ytklpmajaihmmfaa
open Go.RowKit

theorem hid_small (n : Nat) (h : n ≤ 1000000) : Hid (n < 18446744073709551616) := by
  show n < 18446744073709551616
  omega

theorem enc_len (n : Nat) : (enc n).length ≤ 10 := by
  have h : ∀ k n, (encF k n).length ≤ k + 1 := by
    intro k
    induction k with
    | zero => intro n; simp [encF]
    | succ k ih =>
      intro n
      unfold encF
      split
      · simp
      · have := ih (n / 128)
        simp only [List.length_cons]
        omega
  exact h 9 n

/-- The document's bytes of a number, so far. -/
def RefRel (n : Nat) (w : World) (x out : Value) (wr : World) (k r : Nat) (acc : List UInt8) : Prop :=
  x = .int .u64 r ∧ r < 128 ^ (k + 1) ∧ k ≤ 9 ∧ acc.length + k ≤ 9 ∧ acc ++ encF k r = enc n ∧ r ≤ n ∧ Made w wr out acc

theorem ref_start (n : Nat) (w : World) (hn : Hid (n < 18446744073709551616)) : RefRel n w (.int .u64 n) (.slice none 0 0) w 9 n [] := by
  unfold RefRel enc
  exact ⟨rfl, num_bound n hn, Nat.le_refl _, Nat.le_refl _, rfl, Nat.le_refl _, By.nil _, Turn.refl _ _, fun _ h => by cases h⟩

theorem made_step {w wr w1 : World} {v : Value} {acc news : List UInt8} {A : Option Addr} {n c : Nat} {o : Obj} (h : Made w wr v acc) (hby : By w1 (.slice A n c) (acc ++ news))
    (hg : (wr.alloc o).grownBy w1 v.ownBlock) (hat : (Value.slice A n c).ownBlock = v.ownBlock ∨ (Value.slice A n c).ownBlock = some (wr.heap.size + 1)) :
    Made w w1 (.slice A n c) (acc ++ news) := by
  obtain ⟨_, ht, hk⟩ := h
  refine ⟨hby, (ht.alloc o).grown hg (fun k hlt e => by have := hk k e; omega), fun k e => ?_⟩
  rcases hat with e1 | e1
  · exact hk k (e1 ▸ e)
  · rw [e1] at e
    have := ht.size
    simp at e
    omega

theorem made_step0 {w wr w1 : World} {v : Value} {acc news : List UInt8} {A : Option Addr} {n c : Nat} (h : Made w wr v acc) (hby : By w1 (.slice A n c) (acc ++ news))
    (hg : wr.grownBy w1 v.ownBlock) (hat : (Value.slice A n c).ownBlock = v.ownBlock ∨ (Value.slice A n c).ownBlock = some wr.heap.size) :
    Made w w1 (.slice A n c) (acc ++ news) := by
  obtain ⟨_, ht, hk⟩ := h
  refine ⟨hby, ht.grown hg (fun k hlt e => by have := hk k e; omega), fun k e => ?_⟩
  rcases hat with e1 | e1
  · exact hk k (e1 ▸ e)
  · rw [e1] at e
    have := ht.size
    simp at e
    omega

theorem ref_last {n : Nat} {w wr w1 : World} {k r : Nat} {acc : List UInt8} {v : Value} {A : Option Addr} {m c : Nat} {o : Obj} (h : r < 128) (henc : acc ++ encF k r = enc n) (hm : Made w wr v acc)
    (hby : By w1 (.slice A m c) (acc ++ [low r])) (hg : (wr.alloc o).grownBy w1 v.ownBlock) (hat : (Value.slice A m c).ownBlock = v.ownBlock ∨ (Value.slice A m c).ownBlock = some (wr.heap.size + 1)) :
    Made w w1 (.slice A m c) (enc n) := by
  have h2 := made_step hm hby hg hat
  have e : encF k r = [low r] := by
    cases k with
    | zero => rfl
    | succ k => simp [encF, h]
  rw [e] at henc
  rw [← henc]
  exact h2

theorem ref_round {n : Nat} {w wr w1 : World} {k r : Nat} {acc : List UInt8} {v : Value} {A : Option Addr} {m c : Nat} {o : Obj} (h : ¬ r < 128) (hr : r < 128 ^ (k + 1)) (hk : k ≤ 9) (hlen : acc.length + k ≤ 9)
    (henc : acc ++ encF k r = enc n) (hrn : r ≤ n) (hm : Made w wr v acc)
    (hby : By w1 (.slice A m c) (acc ++ [mid r])) (hg : (wr.alloc o).grownBy w1 v.ownBlock) (hat : (Value.slice A m c).ownBlock = v.ownBlock ∨ (Value.slice A m c).ownBlock = some (wr.heap.size + 1)) :
    ∃ k' r' acc', RefRel n w (.int .u64 ((r : Int) / 128)) (.slice A m c) w1 k' r' acc' := by
  cases k with
  | zero => exact absurd hr (by simp; omega)
  | succ k =>
    refine ⟨k, r / 128, _, ?_, ?_, by omega, ?_, ?_, by omega, made_step hm hby hg hat⟩
    · congr 1
    · rw [Nat.div_lt_iff_lt_mul (by omega)]
      rw [Nat.pow_succ] at hr
      exact hr
    · simp only [List.length_append, List.length_cons, List.length_nil]; omega
    · rw [← henc]
      simp [encF, h]

theorem ref_wrap (r n : Nat) (h : r ≤ n) (hn : Hid (n < 18446744073709551616)) : IntKind.u64.wrap ((r : Int) / 128) = (r : Int) / 128 := by
  have a : n < 18446744073709551616 := hn
  rw [IntKind.wrap_u64]
  omega

theorem ref_int1 (n : Int) (h : 0 ≤ n) (h2 : Hid (n ≤ 9223372036854775807)) : IntKind.u64.wrap (2 * IntKind.u64.wrap n) = (zig n : Int) := by
  have b : n ≤ 9223372036854775807 := h2
  unfold zig
  rw [if_pos h, IntKind.wrap_u64, IntKind.wrap_u64]
  omega

theorem ref_int2 (n : Int) (h : ¬ 0 ≤ n) (h1 : Hid (-9223372036854775808 ≤ n)) :
    IntKind.u64.wrap (IntKind.u64.wrap (2 * IntKind.u64.wrap (wrap64 (-wrap64 (n + 1)))) + 1) = (zig n : Int) := by
  have a : -9223372036854775808 ≤ n := h1
  have e : wrap64 (-wrap64 (n + 1)) = -(n + 1) := by unfold wrap64; omega
  unfold zig
  rw [if_neg h, e, IntKind.wrap_u64, IntKind.wrap_u64, IntKind.wrap_u64]
  omega

theorem By.one (w : World) (b : UInt8) (c : Int) (hc : c = (b.toNat : Int)) : By (w.alloc (.cells #[.int .u8 c] 5)) (.slice (some ⟨w.heap.size, 0, none⟩) 1 1) [b] := by
  subst hc
  exact World.ownsRow_lit (base := 0) w #[bv b] 1 (Nat.zero_le _) (by simp [maxLen]) rfl

theorem enc_small (n : Nat) (h : n < 128) : enc n = [low n] := by
  unfold enc encF
  rw [if_pos h]

end Go.Proofs.Ytklpmajaihmmfaa

/-
  Stage 9: the document's Encode.
-/
namespace Go.Proofs.Ytklpmajaihmmfaa
open Go.RowKit

set_option maxRecDepth 100000

theorem made_behind9 {a b c : World} {v : Value} {l : List UInt8} (h : Turn (fun _ => False) a b) (g : Made b c v l) : Made a c v l :=
  ⟨g.1, h.trans g.2.1 (fun _ _ f => f), fun k hk => Nat.le_trans h.size (g.2.2 k hk)⟩
/-- Bytes put behind bytes of one's own. -/
theorem made_more9 {w wr w2 w3 : World} {A A3 : Option Addr} {n c n3 c3 : Nat} {acc m : List UInt8} (h : Made w wr (.slice A n c) acc) (ht : Turn (fun _ => False) wr w2) (hb : By w3 (.slice A3 n3 c3) (acc ++ m))
    (hg : w2.grownBy w3 (Value.slice A n c).ownBlock) (ha : (Value.slice A3 n3 c3).ownBlock = (Value.slice A n c).ownBlock ∨ (Value.slice A3 n3 c3).ownBlock = some w2.heap.size) : Made w w3 (.slice A3 n3 c3) (acc ++ m) := made_app h ht hb hg ha rfl
/-- A fact's bytes; a batch's. -/
def textB (t : List UInt8) : List UInt8 := enc t.length ++ t
def textsB (k : K9) : Nat → List UInt8
  | 0 => []
  | i + 1 => textsB k i ++ textB (k.dim i)
def factB (n : Nat) (f : F9) : List UInt8 := enc f.k.h.toNat ++ textsB f.k n ++ enc (zig f.v)
def batchB (l : List F9) (n : Nat) : List UInt8 := enc l.length ++ l.flatMap (factB n)
/-- A fact that is right. -/
structure Good9 (f : F9) : Prop where
  h0 : 0 ≤ f.k.h
  h1 : f.k.h ≤ 16777216
  v0 : -1152921504606846976 ≤ f.v
  v1 : f.v ≤ 1152921504606846976
  t : ∀ i, i < 4 → (f.k.dim i).length ≤ 16
theorem good_chk {f : F9} {n : Int} (h : chkF f n = 0) : Good9 f := by
  unfold chkF at h
  split at h
  · split at h
    · rename_i hr
      split at h
      · rename_i ht
        refine ⟨hr.1, hr.2.1, hr.2.2.2, hr.2.2.1, fun i hi => ?_⟩
        simp only [okTexts, okText, Bool.and_eq_true, decide_eq_true_iff] at ht
        match i, hi with
        | 0, _ => exact ht.1.1.1.1
        | 1, _ => exact ht.1.1.2.1
        | 2, _ => exact ht.1.2.1
        | 3, _ => exact ht.2.1
      · cases h
    · cases h
  · cases h
theorem bad_none {n : Int} : ∀ {l : List F9} {i : Nat}, (badAt n l i).1 = 0 → ∀ f ∈ l, chkF f n = 0
  | [], _, _, f, hf => by cases hf
  | g :: t, i, h, f, hf => by
    unfold badAt at h
    split at h
    · rename_i hg
      rcases List.mem_cons.1 hf with rfl | hf
      · exact hg
      · exact bad_none h f hf
    · rename_i hg
      exact absurd h hg
theorem bad_fst {n : Int} : ∀ {l : List F9} {i : Nat}, (badAt n l i).1 = 0 → badAt n l i = (0, 0)
  | [], _, _ => rfl
  | g :: t, i, h => by
    unfold badAt at h ⊢
    split
    · rename_i hg
      rw [if_pos hg] at h
      exact bad_fst h
    · rename_i hg
      rw [if_neg hg] at h
      exact absurd h hg
theorem all_good {l : List F9} {n : Int} (h : (allB l n).1 = 0) : (1 ≤ n ∧ n ≤ 4) ∧ (1 ≤ l.length ∧ l.length ≤ 50) ∧ (∀ f ∈ l, chkF f n = 0) ∧ allB l n = (0, 0) := by
  unfold allB at h ⊢
  split
  · rename_i hc
    rw [if_pos hc] at h
    obtain ⟨h1, h2, h3⟩ := hc
    unfold okDims at h1
    simp only [Bool.and_eq_true, decide_eq_true_iff] at h1
    exact ⟨h1, ⟨h2, h3⟩, bad_none h, bad_fst h⟩
  · rename_i hc
    rw [if_neg hc] at h
    cases h
theorem texts_len (f : F9) (hg : Good9 f) : ∀ k, k ≤ 4 → (textsB f.k k).length ≤ 26 * k
  | 0, _ => Nat.zero_le _
  | k + 1, hk => by
    have ih := texts_len f hg k (by omega)
    have h1 := hg.t k (by omega)
    have h2 := enc_len (f.k.dim k).length
    show (textsB f.k k ++ (enc (f.k.dim k).length ++ f.k.dim k)).length ≤ _
    rw [List.length_append, List.length_append]
    omega
theorem fact_len {f : F9} (hg : Good9 f) {n : Nat} (hn : n ≤ 4) : (factB n f).length ≤ 200 := by
  have h1 := texts_len f hg n hn
  have h2 := enc_len f.k.h.toNat
  have h3 := enc_len (zig f.v)
  unfold factB
  rw [List.length_append, List.length_append]
  omega
/-- What was laid of a batch. -/
def partB (l : List F9) (n i : Nat) : List UInt8 := enc l.length ++ (l.take i).flatMap (factB n)
theorem partB_step {l : List F9} {n i : Nat} {f : F9} (h : l[i]? = some f) : partB l n (i + 1) = partB l n i ++ factB n f := by
  obtain ⟨h0, e⟩ := List.getElem?_eq_some_iff.1 h
  unfold partB
  rw [List.take_succ_eq_append_getElem h0, e, List.flatMap_append, List.append_assoc]
  simp
theorem partB_len {l : List F9} {n : Nat} (hn : n ≤ 4) (hg : ∀ f ∈ l, Good9 f) : ∀ i, (partB l n i).length ≤ 10 + 200 * i
  | 0 => by
    unfold partB
    have := enc_len l.length
    simp
    omega
  | i + 1 => by
    have ih := partB_len hn hg i
    cases h : l[i]? with
    | none =>
      have e : partB l n (i + 1) = partB l n i := by
        unfold partB
        have := List.getElem?_eq_none_iff.1 h
        rw [List.take_of_length_le (by omega), List.take_of_length_le (by omega)]
      rw [e]
      omega
    | some f =>
      rw [partB_step h, List.length_append]
      have := fact_len (hg f (List.mem_of_getElem? h)) hn
      omega
theorem partB_all (l : List F9) (n : Nat) : partB l n l.length = batchB l n := by unfold partB batchB; rw [List.take_length]
/-- Behind Encode: the bytes, or none. -/
def Encd (w : World) (l : List F9) (n : Int) (e : Ending) (w' : World) : Prop :=
  ∃ v, e = .returned (.tuple #[v, .int .i64 (allB l n).1]) ∧ Made w w' v (if (allB l n).1 = 0 then batchB l n.toNat else [])

end Go.Proofs.Ytklpmajaihmmfaa

/-
  The reader.
-/
namespace Go.Proofs.Ytklpmajaihmmfaa
open Go.RowKit

end Go.Proofs.Ytklpmajaihmmfaa

/-
  A number read.
-/
namespace Go.Proofs.Ytklpmajaihmmfaa
open Go.RowKit

/-- What is read as a number, behind i bytes that came to acc: its value, the fault, how many bytes were taken. -/
def rdF : Nat → Nat → Nat → List UInt8 → Nat × Nat × Nat
  | 0, i, _, _ => (0, 4, i)
  | _ + 1, i, _, [] => (0, 3, i)
  | f + 1, i, acc, b :: l =>
    if 128 ≤ b.toNat then rdF f (i + 1) (acc + (b.toNat - 128) * 128 ^ i) l
    else if (0 < i ∧ b.toNat = 0) ∨ (i = 9 ∧ 1 < b.toNat) then (0, 4, i + 1) else (acc + b.toNat * 128 ^ i, 0, i + 1)
def rdNum (l : List UInt8) : Nat × Nat × Nat := rdF 10 0 0 l

theorem rdF_step (l : List UInt8) (k i acc : Nat) (hi : i < 10) (hl : k + i < l.length) (x : Nat) (hx : x = (l[k+i]?.getD 0).toNat) :
    rdF (10 - i) i acc (l.drop (k + i)) = if 128 ≤ x then rdF (10 - (i + 1)) (i + 1) (acc + (x - 128) * 128 ^ i) (l.drop (k + (i + 1)))
      else if (0 < i ∧ x = 0) ∨ (i = 9 ∧ 1 < x) then (0, 4, i + 1) else (acc + x * 128 ^ i, 0, i + 1) := by
  have e : 10 - i = (10 - (i + 1)) + 1 := by omega
  rw [e, List.drop_eq_getElem_cons hl]
  have h2 : (l[k+i]?.getD 0) = l[k+i] := by rw [List.getElem?_eq_getElem hl]; rfl
  rw [h2] at hx
  subst hx
  rfl

theorem rdF_none (l : List UInt8) (k i acc : Nat) (hi : i < 10) (hl : ¬ k + i < l.length) : rdF (10 - i) i acc (l.drop (k + i)) = (0, 3, i) := by
  have e : 10 - i = (10 - (i + 1)) + 1 := by omega
  rw [e, List.drop_eq_nil_of_le (by omega)]
  rfl

end Go.Proofs.Ytklpmajaihmmfaa
