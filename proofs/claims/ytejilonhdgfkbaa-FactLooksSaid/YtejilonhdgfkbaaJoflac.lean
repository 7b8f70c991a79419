/-
  Texts laid one behind the other: Bs Oc Om Od Oe Zj Zck Ew.
-/
import Derived.Test.YtejilonhdgfkbaaJoflaa
import Derived.Test.YtejilonhdgfkbaaJoflab
import Derived.WalkKit
import Derived.WalkSmall
import Derived.Laws.BitsAllLaws
import Derived.Laws.IdiomArrays

/-
  Two rows of bytes held against each other.
-/
namespace Go.Proofs.Ytejilonhdgfkbaa
open Go.RowKit

set_option maxRecDepth 100000 in
set_option maxHeartbeats 400000 in
theorem same_any (u v : Value) (l m : List UInt8) (w : World) (hu : Rd w u l) (hv : Rd w v m) :
    Calls Try.prog 28 #[u, v] w fun e w' => e = .returned (.bool (l == m)) ∧ w = w' := by
  have h1 := hu.string
  have h2 := hv.string
  obtain ⟨A, c, rfl, _⟩ := hu
  obtain ⟨B, d, rfl, _⟩ := hv
  go_enter Try.func28, Try.ntmps28
  go_wp2
  go_ret
  exact ⟨rfl, rfl⟩

end Go.Proofs.Ytejilonhdgfkbaa

/-
  Copies, and what else is said of a writer.
-/
namespace Go.Proofs.Ytejilonhdgfkbaa
open Go.RowKit

set_option maxRecDepth 100000 in
set_option maxHeartbeats 400000 in
theorem clone_any (v : Value) (l : List UInt8) (w : World) (hv : Rd w v l) (hl : l.length ≤ 1000000) :
    Calls Try.prog 64 #[v] w fun e w' => ∃ v', e = .returned v' ∧ By w' v' l ∧ Turn (fun _ => False) w w' ∧ ∀ k, v'.ownBlock = some k → w.heap.size ≤ k := by
  obtain ⟨A, c, rfl, hk, hn, hc⟩ := hv
  cases A with
  | none =>
    obtain ⟨rfl, rfl⟩ := hn rfl
    clear hn hc
    have heq := fun (w : World) => Lib.run_eql_slice_nil (P := Try.prog) w 44 5 none 0 0 0 0 Try.underlying44
    go_enter Try.func64, Try.ntmps64
    go_wp2
    go_ret
    exact ⟨_, rfl, By.nil _, Turn.refl _ _, fun _ h => by cases h⟩
  | some ad =>
    have heq := fun (w : World) => Lib.run_eql_slice_nil (P := Try.prog) w 44 5 (some ad) l.length c 0 0 Try.underlying44
    have hY : ∀ o, Yields (w.alloc o) 44 (.slice (some ad) l.length c) l := fun o => by
      refine Rd.yields (Rd.turn (w := w) ⟨_, _, rfl, hk, hn, hc⟩ ((Turn.refl (fun _ => False) w).alloc o) (fun _ _ f => f))
    clear hn hc
    have HY := Lib.hid hY; clear hY
    go_enter Try.func64, Try.ntmps64
    go_wp2_with (at_builtin; go_must (refine wpList_app _ rfl _ _ _ rfl _ [] rfl (By.empty w) _ rfl l (HY.out _) (by simp; omega) ?_))
    intro A' n' c' w1 hby hg hat
    have HB := Lib.hid hby; clear hby
    have HG := Lib.hid hg; clear hg
    have HA := Lib.hid hat; clear hat
    go_wp2
    go_ret
    refine ⟨.slice A' n' c', rfl, HB.out, ((Turn.refl _ w).alloc _).grown HG.out ?_, ?_⟩
    · intro k hk e
      simp [Value.ownBlock] at e
      omega
    · intro k hk
      rcases HA.out with e | e
      · rw [e] at hk
        simp [Value.ownBlock] at hk
        omega
      · rw [e] at hk
        simp at hk
        omega

set_option maxRecDepth 100000 in
set_option maxHeartbeats 400000 in
theorem bytes_any (p : Nat) (v : Value) (l : List UInt8) (w : World) (hw : Wr w p v l) (hl : l.length ≤ 1000000) :
    Calls Try.prog 45 #[.pointer (some ⟨p, 0, none⟩)] w fun e w' => ∃ v', e = .returned v' ∧ By w' v' l ∧ Turn (fun _ => False) w w' ∧ ∀ k, v'.ownBlock = some k → w.heap.size ≤ k := by
  have hc : w.cell? ⟨p, 0, none⟩ = some v := hw.1.cell 0
  have HR := Lib.hid hw.2.rd
  clear hw
  go_enter Try.func45, Try.ntmps45
  go_wp2_with (go_at_call 64; refine (clone_any v l w HR.out hl).mono ?_; rintro e w' ⟨v', rfl, hb, ht, hk⟩; have HB := Lib.hid hb; clear hb; have HT := Lib.hid ht; clear ht; have HK := Lib.hid hk; clear hk)
  go_ret
  exact ⟨_, rfl, HB.out, HT.out, HK.out⟩

end Go.Proofs.Ytejilonhdgfkbaa

/-
  Plain facts on numbers: bits, turned numbers, groups of seven bits.
-/
namespace Go.Proofs.Ytejilonhdgfkbaa
open Go.RowKit

/-- A number turned, so that one near 0 is small. -/
def zig (n : Int) : Nat := if 0 ≤ n then (2 * n).toNat else (-2 * n - 1).toNat
/-- .. and turned back. -/
def zag (n : Nat) : Int := if n % 2 = 0 then ((n / 2 : Nat) : Int) else -((n / 2 : Nat) : Int) - 1

theorem zag_zig (n : Int) : zag (zig n) = n := by
  unfold zag zig
  split <;> split <;> omega

theorem zig_lt (n : Int) (h1 : Hid (-9223372036854775808 ≤ n)) (h2 : Hid (n ≤ 9223372036854775807)) : zig n < 18446744073709551616 := by
  have a : -9223372036854775808 ≤ n := h1
  have b : n ≤ 9223372036854775807 := h2
  unfold zig
  split <;> omega

theorem xor_ones (a : Nat) (h : a < 18446744073709551616) : bits BinOp.xor IntKind.u64 (a : Int) 18446744073709551615 = ((18446744073709551615 - a : Nat) : Int) := by
  show IntKind.u64.wrap ((BitVec.ofInt 64 (a : Int) ^^^ BitVec.ofInt 64 18446744073709551615).toNat : Int) = _
  have h1 : BitVec.ofInt 64 18446744073709551615 = BitVec.allOnes 64 := by decide +kernel
  rw [h1, BitVec.xor_allOnes, BitVec.toNat_not, ofInt_u64 a h, IntKind.wrap_u64]
  omega

theorem turn_val (n : Int) (h1 : Hid (-9223372036854775808 ≤ n)) (h2 : Hid (n ≤ 9223372036854775807)) :
    bits BinOp.xor IntKind.u64 (IntKind.u64.wrap (IntKind.u64.wrap n * 2)) (IntKind.u64.wrap (n / 9223372036854775808)) = (zig n : Int) := by
  have a : -9223372036854775808 ≤ n := h1
  have b : n ≤ 9223372036854775807 := h2
  by_cases h : 0 ≤ n
  · have e0 : n / 9223372036854775808 = 0 := by omega
    have e1 : IntKind.u64.wrap (n / 9223372036854775808) = ((0 : Nat) : Int) := by rw [e0, IntKind.wrap_u64]; omega
    have e2 : IntKind.u64.wrap (IntKind.u64.wrap n * 2) = (((2 * n).toNat : Nat) : Int) := by rw [IntKind.wrap_u64, IntKind.wrap_u64]; omega
    rw [e1, e2, u64_xor_nat _ _ (by omega) (by omega), Nat.xor_zero]
    unfold zig
    rw [if_pos h]
  · have e0 : n / 9223372036854775808 = -1 := by omega
    have e1 : IntKind.u64.wrap (n / 9223372036854775808) = 18446744073709551615 := by rw [e0, IntKind.wrap_u64]; omega
    have e2 : IntKind.u64.wrap (IntKind.u64.wrap n * 2) = (((2 * n + 18446744073709551616).toNat : Nat) : Int) := by rw [IntKind.wrap_u64, IntKind.wrap_u64]; omega
    rw [e1, e2, xor_ones _ (by omega)]
    unfold zig
    rw [if_neg h]
    omega

theorem i64_xor_ones (a : Nat) (h : a < 9223372036854775808) : bits BinOp.xor IntKind.i64 (a : Int) (-1) = -(a : Int) - 1 := by
  show IntKind.i64.wrap ((BitVec.ofInt 64 (a : Int) ^^^ BitVec.ofInt 64 (-1)).toNat : Int) = _
  have h1 : BitVec.ofInt 64 (-1) = BitVec.allOnes 64 := by decide
  rw [h1, BitVec.xor_allOnes, BitVec.toNat_not, ofInt_u64 a (by omega)]
  simp [IntKind.wrap, IntKind.bits, IntKind.signed]
  omega

theorem i64_xor_zero (a : Nat) (h : a < 9223372036854775808) : bits BinOp.xor IntKind.i64 (a : Int) 0 = (a : Int) := by
  show IntKind.i64.wrap ((BitVec.ofInt 64 (a : Int) ^^^ BitVec.ofInt 64 0).toNat : Int) = _
  have h1 : BitVec.ofInt 64 0 = 0#64 := by decide
  rw [h1, BitVec.xor_zero, ofInt_u64 a (by omega)]
  simp [IntKind.wrap, IntKind.bits, IntKind.signed]
  omega

theorem back_val (n : Nat) (h1 : Hid (n < 18446744073709551616)) :
    bits BinOp.xor IntKind.i64 (wrap64 ((n : Int) / 2)) (wrap64 (-wrap64 (bits BinOp.and IntKind.u64 (n : Int) 1))) = zag n := by
  have a : n < 18446744073709551616 := h1
  rw [and_one_u64 (n : Int) (by omega) (by omega)]
  have e1 : wrap64 ((n : Int) / 2) = ((n / 2 : Nat) : Int) := by unfold wrap64; omega
  have e2 : wrap64 (-wrap64 ((n : Int) % 2)) = -((n : Int) % 2) := by unfold wrap64; omega
  rw [e1, e2]
  unfold zag
  split
  · have e3 : -((n : Int) % 2) = 0 := by omega
    rw [e3, i64_xor_zero _ (by omega)]
  · have e3 : -((n : Int) % 2) = -1 := by omega
    rw [e3, i64_xor_ones _ (by omega)]

theorem pow_7 (i : Nat) : (2 : Int) ^ (7 * i) = ((128 ^ i : Nat) : Int) := by
  rw [Int.pow_mul]
  simp

theorem pow_le (i : Nat) (h : i ≤ 9) : 128 ^ i ≤ 9223372036854775808 := by
  have := Nat.pow_le_pow_right (n := 128) (by omega) h
  have e : (128 : Nat) ^ 9 = 9223372036854775808 := by decide +kernel
  omega

theorem or_val (acc c i : Nat) (hi : i ≤ 9) (hacc : acc < 128 ^ i) (hb : c * 128 ^ i < 18446744073709551616) :
    bits BinOp.or IntKind.u64 (acc : Int) (IntKind.u64.wrap ((c : Int) * 2 ^ (7 * i))) = ((acc + c * 128 ^ i : Nat) : Int) := by
  have hp := pow_le i hi
  have e : IntKind.u64.wrap ((c : Int) * 2 ^ (7 * i)) = ((c * 128 ^ i : Nat) : Int) := by
    rw [pow_7, ← Int.natCast_mul, IntKind.wrap_u64]
    omega
  rw [e, bits_or_u64_nat _ _ (by omega) hb]
  have h2 : (128 : Nat) ^ i = 2 ^ (7 * i) := by rw [Nat.pow_mul]
  rw [h2] at hacc ⊢
  have := Nat.shiftLeft_add_eq_or_of_lt hacc c
  rw [Nat.shiftLeft_eq] at this
  rw [Nat.or_comm, ← this, Nat.add_comm]

theorem or_mid (acc x i : Nat) (hx : 128 ≤ x) (hx2 : x < 256) (hi : i ≤ 8) (hacc : acc < 128 ^ i) :
    bits BinOp.or IntKind.u64 (acc : Int) (IntKind.u64.wrap (((x : Int) - 128) * 2 ^ (7 * i))) = ((acc + (x - 128) * 128 ^ i : Nat) : Int) ∧ acc + (x - 128) * 128 ^ i < 128 ^ (i + 1) := by
  have e : ((x : Int) - 128) = ((x - 128 : Nat) : Int) := by omega
  have h1 : (x - 128) * 128 ^ i ≤ 127 * 128 ^ i := Nat.mul_le_mul_right _ (by omega)
  have h2 := pow_le (i + 1) (by omega)
  rw [Nat.pow_succ] at h2 ⊢
  rw [e]
  exact ⟨or_val acc (x - 128) i (by omega) hacc (by omega), by omega⟩

end Go.Proofs.Ytejilonhdgfkbaa

/-
  Numbers with a sign, texts and flags, as the program and as the document put them.
-/
namespace Go.Proofs.Ytejilonhdgfkbaa
open Go.RowKit


set_option maxRecDepth 100000 in
set_option maxHeartbeats 400000 in
theorem turn_any (n : Int) (w : World) (h1 : Hid (-9223372036854775808 ≤ n)) (h2 : Hid (n ≤ 9223372036854775807)) :
    Calls Try.prog 63 #[.int .i64 n] w fun e w' => e = .returned (.int .u64 (zig n)) ∧ w = w' := by
  go_enter Try.func63, Try.ntmps63
  go_wp2
  go_ret
  exact ⟨ret_int (turn_val n h1 h2), rfl⟩

set_option maxRecDepth 100000 in
set_option maxHeartbeats 400000 in
theorem back_any (n : Nat) (w : World) (h1 : Hid (n < 18446744073709551616)) :
    Calls Try.prog 109 #[.int .u64 n] w fun e w' => e = .returned (.int .i64 (zag n)) ∧ w = w' := by
  go_enter Try.func109, Try.ntmps109
  go_wp2
  go_ret
  exact ⟨ret_int (back_val n h1), rfl⟩

set_option maxRecDepth 100000 in
set_option maxHeartbeats 400000 in
theorem int_put (p : Nat) (v : Value) (l : List UInt8) (n : Int) (w : World) (hw : Wr w p v l) (h1 : Hid (-9223372036854775808 ≤ n)) (h2 : Hid (n ≤ 9223372036854775807)) (hl : l.length ≤ 1000000) :
    Calls Try.prog 44 #[.pointer (some ⟨p, 0, none⟩), .int .i64 n] w fun e w' => e = .returned (.pointer (some ⟨p, 0, none⟩)) ∧
      ∃ v', Put w p v w' v' (l ++ enc (zig n)) := by
  have HW := Lib.hid hw; clear hw
  go_enter Try.func44, Try.ntmps44
  go_wp2_with (first
    | (go_at_call 63; refine (turn_any n w h1 h2).mono ?_; rintro e w' ⟨rfl, rfl⟩)
    | (go_at_call 42; refine (num_put p v l (zig n) w HW.out (zig_lt n h1 h2) hl).mono ?_; rintro e w' ⟨rfl, hp⟩; have HP := Lib.hid hp; clear hp))
  go_ret
  exact ⟨rfl, HP.out⟩

end Go.Proofs.Ytejilonhdgfkbaa

/-
  A text put; and the document's own bytes.
-/
namespace Go.Proofs.Ytejilonhdgfkbaa
open Go.RowKit

theorem hid_small (n : Nat) (h : n ≤ 1000000) : Hid (n < 18446744073709551616) := by
  show n < 18446744073709551616
  omega

theorem enc_len (n : Nat) : (enc n).length ≤ 10 := by
  have h : ∀ k n, (encF k n).length ≤ k + 1 := by
    intro k
    induction k with
    | zero => intro n; simp [encF]
    | succ k ih =>
      intro n
      unfold encF
      split
      · simp
      · have := ih (n / 128)
        simp only [List.length_cons]
        omega
  exact h 9 n

set_option maxRecDepth 100000 in
set_option maxHeartbeats 400000 in
theorem text_put (p : Nat) (v : Value) (l : List UInt8) (s : ByteArray) (w : World) (hw : Wr w p v l) (hs : s.size ≤ 900000) (hl : l.length ≤ 900000) :
    Calls Try.prog 43 #[.pointer (some ⟨p, 0, none⟩), .string s] w fun e w' => e = .returned (.pointer (some ⟨p, 0, none⟩)) ∧
      ∃ v', Put w p v w' v' (l ++ (enc s.size ++ s.data.toList)) := by
  have HW := Lib.hid hw; clear hw
  have hx := enc_len s.size
  go_enter Try.func43, Try.ntmps43
  go_wp2_with (first
    | (go_at_call 42; refine (num_put p v l s.size w HW.out (hid_small _ (by omega)) (by omega)).mono ?_; rintro e w1 ⟨rfl, u, hp⟩; have hc : w1.cell? ⟨p, 0, none⟩ = some u := hp.1.1.cell 0; have HP := Lib.hid hp; clear hp)
    | (at_builtin; go_must (refine wpList_app _ rfl _ _ _ rfl u (l ++ enc s.size) rfl HP.out.1.2 _ rfl s.data.toList (yields_string w1 s) (by simp; omega) ?_)))
  intro A n c w2 hby hg hat
  have hc2 : w2.cell? ⟨p, 0, none⟩ = some u := (writer_far0 HP.out.1 w2 hg).1
  have hf2 : w2.frozen? ⟨p, 0, none⟩ = false := (writer_far0 HP.out.1 w2 hg).2
  have hby2 : By w2 (.slice A n c) (l ++ enc s.size ++ s.data.toList) := by rw [List.append_assoc]; exact hby
  have HB := Lib.hid (put_step0 HP.out.1 hby2 hg hat); clear hby hby2 hg hat
  go_wp2
  go_ret
  exact ⟨rfl, _, by rw [← List.append_assoc]; exact HP.out.trans HB.out⟩

/-- The document's bytes of a number, so far. -/
def RefRel (n : Nat) (w : World) (x out : Value) (wr : World) (k r : Nat) (acc : List UInt8) : Prop :=
  x = .int .u64 r ∧ r < 128 ^ (k + 1) ∧ k ≤ 9 ∧ acc.length + k ≤ 9 ∧ acc ++ encF k r = enc n ∧ r ≤ n ∧ Made w wr out acc

theorem ref_start (n : Nat) (w : World) (hn : Hid (n < 18446744073709551616)) : RefRel n w (.int .u64 n) (.slice none 0 0) w 9 n [] := by
  unfold RefRel enc
  exact ⟨rfl, num_bound n hn, Nat.le_refl _, Nat.le_refl _, rfl, Nat.le_refl _, By.nil _, Turn.refl _ _, fun _ h => by cases h⟩

theorem made_step {w wr w1 : World} {v : Value} {acc news : List UInt8} {A : Option Addr} {n c : Nat} {o : Obj} (h : Made w wr v acc) (hby : By w1 (.slice A n c) (acc ++ news))
    (hg : (wr.alloc o).grownBy w1 v.ownBlock) (hat : (Value.slice A n c).ownBlock = v.ownBlock ∨ (Value.slice A n c).ownBlock = some (wr.heap.size + 1)) :
    Made w w1 (.slice A n c) (acc ++ news) := by
  obtain ⟨_, ht, hk⟩ := h
  refine ⟨hby, (ht.alloc o).grown hg (fun k hlt e => by have := hk k e; omega), fun k e => ?_⟩
  rcases hat with e1 | e1
  · exact hk k (e1 ▸ e)
  · rw [e1] at e
    have := ht.size
    simp at e
    omega

theorem made_step0 {w wr w1 : World} {v : Value} {acc news : List UInt8} {A : Option Addr} {n c : Nat} (h : Made w wr v acc) (hby : By w1 (.slice A n c) (acc ++ news))
    (hg : wr.grownBy w1 v.ownBlock) (hat : (Value.slice A n c).ownBlock = v.ownBlock ∨ (Value.slice A n c).ownBlock = some wr.heap.size) :
    Made w w1 (.slice A n c) (acc ++ news) := by
  obtain ⟨_, ht, hk⟩ := h
  refine ⟨hby, ht.grown hg (fun k hlt e => by have := hk k e; omega), fun k e => ?_⟩
  rcases hat with e1 | e1
  · exact hk k (e1 ▸ e)
  · rw [e1] at e
    have := ht.size
    simp at e
    omega

theorem ref_last {n : Nat} {w wr w1 : World} {k r : Nat} {acc : List UInt8} {v : Value} {A : Option Addr} {m c : Nat} {o : Obj} (h : r < 128) (henc : acc ++ encF k r = enc n) (hm : Made w wr v acc)
    (hby : By w1 (.slice A m c) (acc ++ [low r])) (hg : (wr.alloc o).grownBy w1 v.ownBlock) (hat : (Value.slice A m c).ownBlock = v.ownBlock ∨ (Value.slice A m c).ownBlock = some (wr.heap.size + 1)) :
    Made w w1 (.slice A m c) (enc n) := by
  have h2 := made_step hm hby hg hat
  have e : encF k r = [low r] := by
    cases k with
    | zero => rfl
    | succ k => simp [encF, h]
  rw [e] at henc
  rw [← henc]
  exact h2

theorem ref_round {n : Nat} {w wr w1 : World} {k r : Nat} {acc : List UInt8} {v : Value} {A : Option Addr} {m c : Nat} {o : Obj} (h : ¬ r < 128) (hr : r < 128 ^ (k + 1)) (hk : k ≤ 9) (hlen : acc.length + k ≤ 9)
    (henc : acc ++ encF k r = enc n) (hrn : r ≤ n) (hm : Made w wr v acc)
    (hby : By w1 (.slice A m c) (acc ++ [mid r])) (hg : (wr.alloc o).grownBy w1 v.ownBlock) (hat : (Value.slice A m c).ownBlock = v.ownBlock ∨ (Value.slice A m c).ownBlock = some (wr.heap.size + 1)) :
    ∃ k' r' acc', RefRel n w (.int .u64 ((r : Int) / 128)) (.slice A m c) w1 k' r' acc' := by
  cases k with
  | zero => exact absurd hr (by simp; omega)
  | succ k =>
    refine ⟨k, r / 128, _, ?_, ?_, by omega, ?_, ?_, by omega, made_step hm hby hg hat⟩
    · congr 1
    · rw [Nat.div_lt_iff_lt_mul (by omega)]
      rw [Nat.pow_succ] at hr
      exact hr
    · simp only [List.length_append, List.length_cons, List.length_nil]; omega
    · rw [← henc]
      simp [encF, h]

theorem ref_wrap (r n : Nat) (h : r ≤ n) (hn : Hid (n < 18446744073709551616)) : IntKind.u64.wrap ((r : Int) / 128) = (r : Int) / 128 := by
  have a : n < 18446744073709551616 := hn
  rw [IntKind.wrap_u64]
  omega

set_option maxRecDepth 100000 in
set_option maxHeartbeats 400000 in
theorem ref_num (n : Nat) (w : World) (hn : Hid (n < 18446744073709551616)) :
    Calls Try.prog 46 #[.int .u64 n] w fun e w' => ∃ v, e = .returned v ∧ Made w w' v (enc n) := by
  go_enter Try.func46, Try.ntmps46
  go_wp2
  go_loopw [0, 3] (fun x out wr => ∃ (k r : Nat) (acc : List UInt8), RefRel n w x out wr k r acc) (fun x _ _ => (intOf x).toNat)
  case atStart => exact ⟨_, _, _, ref_start n w hn⟩
  case round =>
    obtain ⟨k, r, acc, rfl, hr, hk, hlen, henc, hrn, hm⟩ := hrel
    have hwrap := ref_wrap r n hrn hn
    have HN := Lib.hid hrn; clear hrn
    have HR := Lib.hid hr; clear hr
    have HE := Lib.hid henc; clear henc
    have HM := Lib.hid hm; clear hm
    have HL := Lib.hid hlen; clear hlen
    by_cases h128 : r < 128
    · go_wp2_with (at_builtin; go_must (refine wpList_app _ rfl _ _ _ rfl _ acc rfl (HM.out.1.alloc _) _ rfl [low r] (yields_one wr _ _ (by rw [low_toNat r (by omega)])) (by have := HL.out; simp; omega) ?_))
      intro A m c w1 hby hg hat
      have HB := Lib.hid (ref_last h128 HE.out HM.out hby hg hat); clear hby hg hat
      go_wp2
      go_ret
      exact ⟨_, rfl, HB.out⟩
    · go_wp2_with (at_builtin; go_must (refine wpList_app _ rfl _ _ _ rfl _ acc rfl (HM.out.1.alloc _) _ rfl [mid r] (yields_one wr _ _ (by rw [mid_toNat]; omega)) (by have := HL.out; simp; omega) ?_))
      intro A m c w1 hby hg hat
      have HB := Lib.hid (ref_round h128 HR.out hk HL.out HE.out HN.out HM.out hby hg hat); clear hby hg hat
      go_wp2
      go_roundw
      case rel => exact HB.out
      case measure => simp [intOf]; omega

theorem ref_int1 (n : Int) (h : 0 ≤ n) (h2 : Hid (n ≤ 9223372036854775807)) : IntKind.u64.wrap (2 * IntKind.u64.wrap n) = (zig n : Int) := by
  have b : n ≤ 9223372036854775807 := h2
  unfold zig
  rw [if_pos h, IntKind.wrap_u64, IntKind.wrap_u64]
  omega

theorem ref_int2 (n : Int) (h : ¬ 0 ≤ n) (h1 : Hid (-9223372036854775808 ≤ n)) :
    IntKind.u64.wrap (IntKind.u64.wrap (2 * IntKind.u64.wrap (wrap64 (-wrap64 (n + 1)))) + 1) = (zig n : Int) := by
  have a : -9223372036854775808 ≤ n := h1
  have e : wrap64 (-wrap64 (n + 1)) = -(n + 1) := by unfold wrap64; omega
  unfold zig
  rw [if_neg h, e, IntKind.wrap_u64, IntKind.wrap_u64, IntKind.wrap_u64]
  omega

theorem By.one (w : World) (b : UInt8) (c : Int) (hc : c = (b.toNat : Int)) : By (w.alloc (.cells #[.int .u8 c] 5)) (.slice (some ⟨w.heap.size, 0, none⟩) 1 1) [b] := by
  subst hc
  exact World.ownsRow_lit (base := 0) w #[bv b] 1 (Nat.zero_le _) (by simp [maxLen]) rfl

theorem enc_small (n : Nat) (h : n < 128) : enc n = [low n] := by
  unfold enc encF
  rw [if_pos h]

set_option maxRecDepth 100000 in
set_option maxHeartbeats 400000 in
theorem ref_int (n : Int) (w : World) (h1 : Hid (-9223372036854775808 ≤ n)) (h2 : Hid (n ≤ 9223372036854775807)) :
    Calls Try.prog 48 #[.int .i64 n] w fun e w' => ∃ v, e = .returned v ∧ Made w w' v (enc (zig n)) := by
  have hz := zig_lt n h1 h2
  by_cases h : 0 ≤ n
  · have hv := ref_int1 n h h2
    have HZ := Lib.hid hz; clear hz
    go_enter Try.func48, Try.ntmps48
    go_wp2_with (go_at_call 46; refine (ref_num (zig n) w HZ).mono ?_; rintro e w1 ⟨v, rfl, hm⟩; have HM := Lib.hid hm; clear hm)
    go_ret
    exact ⟨_, rfl, HM.out⟩
  · have hv := ref_int2 n h h1
    have HZ := Lib.hid hz; clear hz
    go_enter Try.func48, Try.ntmps48
    go_wp2_with (go_at_call 46; refine (ref_num (zig n) w HZ).mono ?_; rintro e w1 ⟨v, rfl, hm⟩; have HM := Lib.hid hm; clear hm)
    go_ret
    exact ⟨_, rfl, HM.out⟩

set_option maxRecDepth 100000 in
set_option maxHeartbeats 400000 in
theorem ref_text (s : ByteArray) (w : World) (hs : s.size ≤ 900000) :
    Calls Try.prog 47 #[.string s] w fun e w' => ∃ v, e = .returned v ∧ Made w w' v (enc s.size ++ s.data.toList) := by
  have hx := enc_len s.size
  go_enter Try.func47, Try.ntmps47
  go_wp2_with (first
    | (go_at_call 46; refine (ref_num s.size w (hid_small _ (by omega))).mono ?_; rintro e w1 ⟨v, rfl, hm⟩; have HM := Lib.hid hm; clear hm)
    | (at_builtin; go_must (refine wpList_app _ rfl _ _ _ rfl _ (enc s.size) rfl HM.out.1 _ rfl s.data.toList (yields_string w1 s) (by simp; omega) ?_)))
  intro A n c w2 hby hg hat
  have HB := Lib.hid (made_step0 HM.out hby hg hat); clear hby hg hat
  go_wp2
  go_ret
  exact ⟨_, rfl, HB.out⟩

end Go.Proofs.Ytejilonhdgfkbaa

/-
  Stage 9: the document's Encode.
-/
namespace Go.Proofs.Ytejilonhdgfkbaa
open Go.RowKit

set_option maxRecDepth 100000

theorem made_behind9 {a b c : World} {v : Value} {l : List UInt8} (h : Turn (fun _ => False) a b) (g : Made b c v l) : Made a c v l :=
  ⟨g.1, h.trans g.2.1 (fun _ _ f => f), fun k hk => Nat.le_trans h.size (g.2.2 k hk)⟩
/-- Bytes put behind bytes of one's own. -/
theorem made_more9 {w wr w2 w3 : World} {A A3 : Option Addr} {n c n3 c3 : Nat} {acc m : List UInt8} (h : Made w wr (.slice A n c) acc) (ht : Turn (fun _ => False) wr w2) (hb : By w3 (.slice A3 n3 c3) (acc ++ m))
    (hg : w2.grownBy w3 (Value.slice A n c).ownBlock) (ha : (Value.slice A3 n3 c3).ownBlock = (Value.slice A n c).ownBlock ∨ (Value.slice A3 n3 c3).ownBlock = some w2.heap.size) : Made w w3 (.slice A3 n3 c3) (acc ++ m) := made_app h ht hb hg ha rfl
/-- A fact's bytes; a batch's. -/
def textB (t : List UInt8) : List UInt8 := enc t.length ++ t
def textsB (k : K9) : Nat → List UInt8
  | 0 => []
  | i + 1 => textsB k i ++ textB (k.dim i)
def factB (n : Nat) (f : F9) : List UInt8 := enc f.k.h.toNat ++ textsB f.k n ++ enc (zig f.v)
def batchB (l : List F9) (n : Nat) : List UInt8 := enc l.length ++ l.flatMap (factB n)
/-- A fact that is right. -/
structure Good9 (f : F9) : Prop where
  h0 : 0 ≤ f.k.h
  h1 : f.k.h ≤ 16777216
  v0 : -1152921504606846976 ≤ f.v
  v1 : f.v ≤ 1152921504606846976
  t : ∀ i, i < 4 → (f.k.dim i).length ≤ 16
theorem good_chk {f : F9} {n : Int} (h : chkF f n = 0) : Good9 f := by
  unfold chkF at h
  split at h
  · split at h
    · rename_i hr
      split at h
      · rename_i ht
        refine ⟨hr.1, hr.2.1, hr.2.2.2, hr.2.2.1, fun i hi => ?_⟩
        simp only [okTexts, okText, Bool.and_eq_true, decide_eq_true_iff] at ht
        match i, hi with
        | 0, _ => exact ht.1.1.1.1
        | 1, _ => exact ht.1.1.2.1
        | 2, _ => exact ht.1.2.1
        | 3, _ => exact ht.2.1
      · cases h
    · cases h
  · cases h
theorem bad_none {n : Int} : ∀ {l : List F9} {i : Nat}, (badAt n l i).1 = 0 → ∀ f ∈ l, chkF f n = 0
  | [], _, _, f, hf => by cases hf
  | g :: t, i, h, f, hf => by
    unfold badAt at h
    split at h
    · rename_i hg
      rcases List.mem_cons.1 hf with rfl | hf
      · exact hg
      · exact bad_none h f hf
    · rename_i hg
      exact absurd h hg
theorem bad_fst {n : Int} : ∀ {l : List F9} {i : Nat}, (badAt n l i).1 = 0 → badAt n l i = (0, 0)
  | [], _, _ => rfl
  | g :: t, i, h => by
    unfold badAt at h ⊢
    split
    · rename_i hg
      rw [if_pos hg] at h
      exact bad_fst h
    · rename_i hg
      rw [if_neg hg] at h
      exact absurd h hg
theorem all_good {l : List F9} {n : Int} (h : (allB l n).1 = 0) : (1 ≤ n ∧ n ≤ 4) ∧ (1 ≤ l.length ∧ l.length ≤ 50) ∧ (∀ f ∈ l, chkF f n = 0) ∧ allB l n = (0, 0) := by
  unfold allB at h ⊢
  split
  · rename_i hc
    rw [if_pos hc] at h
    obtain ⟨h1, h2, h3⟩ := hc
    unfold okDims at h1
    simp only [Bool.and_eq_true, decide_eq_true_iff] at h1
    exact ⟨h1, ⟨h2, h3⟩, bad_none h, bad_fst h⟩
  · rename_i hc
    rw [if_neg hc] at h
    cases h
theorem texts_len (f : F9) (hg : Good9 f) : ∀ k, k ≤ 4 → (textsB f.k k).length ≤ 26 * k
  | 0, _ => Nat.zero_le _
  | k + 1, hk => by
    have ih := texts_len f hg k (by omega)
    have h1 := hg.t k (by omega)
    have h2 := enc_len (f.k.dim k).length
    show (textsB f.k k ++ (enc (f.k.dim k).length ++ f.k.dim k)).length ≤ _
    rw [List.length_append, List.length_append]
    omega
theorem fact_len {f : F9} (hg : Good9 f) {n : Nat} (hn : n ≤ 4) : (factB n f).length ≤ 200 := by
  have h1 := texts_len f hg n hn
  have h2 := enc_len f.k.h.toNat
  have h3 := enc_len (zig f.v)
  unfold factB
  rw [List.length_append, List.length_append]
  omega
/-- What was laid of a batch. -/
def partB (l : List F9) (n i : Nat) : List UInt8 := enc l.length ++ (l.take i).flatMap (factB n)
theorem partB_step {l : List F9} {n i : Nat} {f : F9} (h : l[i]? = some f) : partB l n (i + 1) = partB l n i ++ factB n f := by
  obtain ⟨h0, e⟩ := List.getElem?_eq_some_iff.1 h
  unfold partB
  rw [List.take_succ_eq_append_getElem h0, e, List.flatMap_append, List.append_assoc]
  simp
theorem partB_len {l : List F9} {n : Nat} (hn : n ≤ 4) (hg : ∀ f ∈ l, Good9 f) : ∀ i, (partB l n i).length ≤ 10 + 200 * i
  | 0 => by
    unfold partB
    have := enc_len l.length
    simp
    omega
  | i + 1 => by
    have ih := partB_len hn hg i
    cases h : l[i]? with
    | none =>
      have e : partB l n (i + 1) = partB l n i := by
        unfold partB
        have := List.getElem?_eq_none_iff.1 h
        rw [List.take_of_length_le (by omega), List.take_of_length_le (by omega)]
      rw [e]
      omega
    | some f =>
      rw [partB_step h, List.length_append]
      have := fact_len (hg f (List.mem_of_getElem? h)) hn
      omega
theorem partB_all (l : List F9) (n : Nat) : partB l n l.length = batchB l n := by unfold partB batchB; rw [List.take_length]
/-- Behind Encode: the bytes, or none. -/
def Encd (w : World) (l : List F9) (n : Int) (e : Ending) (w' : World) : Prop :=
  ∃ v, e = .returned (.tuple #[v, .int .i64 (allB l n).1]) ∧ Made w w' v (if (allB l n).1 = 0 then batchB l n.toNat else [])

set_option maxHeartbeats 8000000 in
theorem ref_encode9 (v : Value) (l : List F9) (n : Int) (w : World) (hv : RdE EF w v l) (hl : l.length ≤ 1000) : Calls Try.prog 25 #[v, .int .i64 n] w fun e w' => Encd w l n e w' := by
  have HV := Lib.hid hv
  obtain ⟨A, c, rfl⟩ := hv.shape
  have HALL := Lib.hid (ref_all9 (.slice A l.length c) l n w hv (by omega))
  clear hv
  by_cases h0 : (allB l n).1 = 0
  · have hag := all_good h0
    obtain ⟨⟨n1, n4⟩, ⟨l1, l50⟩, hch, hall⟩ := hag
    obtain ⟨N, rfl⟩ := Int.eq_ofNat_of_zero_le (show 0 ≤ n by omega)
    have HG : Hid (∀ f ∈ l, Good9 f) := fun f hf => good_chk (hch f hf)
    have HEND : Hid (∀ v w', Made w w' v (batchB l N) → Encd w l (N : Int) (.returned (.tuple #[v, .int .i64 0])) w') := fun v w' hm => ⟨v, by rw [h0], by rw [if_pos h0, Int.toNat_natCast]; exact hm⟩
    unfold allV at HALL
    rw [hall] at HALL
    have hN4 : N ≤ 4 := by omega
    have HLEN := Lib.hid (partB_len (n := N) hN4 HG.out)
    have hl64 : Hid (l.length < 18446744073709551616) := by show _ < _; omega
    clear h0 hch hall
    go_enter Try.func25, Try.ntmps25
    go_wp2_with fail
    refine HALL.out.mono ?_
    rintro e w1 ⟨rfl, t1⟩
    have HT1 := Lib.hid t1
    clear t1
    go_wp2_with fail
    refine (ref_num l.length w1 hl64).mono ?_
    rintro e w2 ⟨v2, rfl, hm⟩
    have HM0 : Hid (Made w w2 v2 (partB l N 0)) := by
      unfold partB
      rw [List.take_zero, List.flatMap_nil, List.append_nil]
      exact made_behind9 HT1.out hm
    clear hm HT1 HALL
    go_wp2_with fail
    go_loopw [8, 9] (fun x8 x9 wr => ∃ i : Nat, x9 = .int .i64 (i : Int) ∧ i ≤ l.length ∧ Made w wr x8 (partB l N i)) (fun _ x9 _ => l.length - (intOf x9).toNat)
    case atStart => exact ⟨0, rfl, Nat.zero_le _, HM0.out⟩
    case round =>
      clear HM0
      obtain ⟨i, rfl, hi, hm⟩ := hrel
      have HM := Lib.hid hm
      obtain ⟨A8, c8, hv8⟩ := hm.1.shape
      subst hv8
      have hlen := HLEN.out i
      clear hm
      by_cases hlt : i < l.length
      · obtain ⟨f, hf⟩ : ∃ f, l[i]? = some f := ⟨_, List.getElem?_eq_getElem hlt⟩
        have hgf := HG.out f (List.mem_of_getElem? hf)
        obtain ⟨ad, rfl, hc⟩ := fact_at HV.out hf
        have HC := Lib.hid hc
        have HST := Lib.hid (partB_step (n := N) hf)
        have HGF := Lib.hid hgf
        have e0 := (hc _ HM.out.2.1).1
        obtain ⟨H, hH⟩ := Int.eq_ofNat_of_zero_le hgf.h0
        have hH2 : H ≤ 16777216 := by have := hgf.h1; omega
        rw [hH] at e0
        have HHH := Lib.hid hH
        have hil : (i : Int) < l.length := by omega
        have hn64 : Hid (H < 18446744073709551616) := by show _ < _; omega
        generalize hacc : partB l N i = acc at *
        clear hc hf hgf hH hacc
        go_wp2_with fail
        refine (ref_num H wr hn64).mono ?_
        rintro e w3 ⟨v3, rfl, hm3⟩
        have HY := Lib.hid hm3
        have HM3 : Hid (By w3 (.slice A8 acc.length c8) acc) := HM.out.1.turn hm3.2.1 (fun _ _ f => f)
        have hel := enc_len H
        clear hm3
        go_wp2_with (at_builtin; go_must (refine wpList_app _ rfl _ _ _ rfl _ acc rfl HM3.out _ rfl (enc H) HY.out.1.yields (by omega) ?_))
        intro A4 n4 c4 w4 hb hg ha
        have hm4 := made_more9 HM.out HY.out.2.1 hb hg ha
        have HM4 : Hid (Made w w4 (.slice A4 n4 c4) (acc ++ enc H ++ textsB f.k 0)) := by
          show Made _ _ _ (acc ++ enc H ++ [])
          rw [List.append_nil]
          exact hm4
        clear hb hg ha hm4 HM3 HY HM e0
        go_wp2_with fail
        go_loopw [8, 10] (fun x8 x10 wk => ∃ k : Nat, x10 = .int .i64 (k : Int) ∧ k ≤ N ∧ Made w wk x8 (acc ++ enc H ++ textsB f.k k)) (fun _ x10 _ => N - (intOf x10).toNat)
        case atStart => exact ⟨0, rfl, Nat.zero_le _, HM4.out⟩
        case round =>
          clear HM4
          obtain ⟨k, rfl, hk, hm⟩ := hrel
          have HM := Lib.hid hm
          obtain ⟨A8, c8, hv8⟩ := hm.1.shape
          subst hv8
          have htl := texts_len f HGF.out k (by omega)
          clear hm
          by_cases hkN : k < N
          · have e1 := (HC.out wr HM.out.2.1).2.1 k (by omega)
            have ht16 := HGF.out.t k (by omega)
            have hki : (k : Int) < N := by omega
            have HTS : Hid (textsB f.k (k + 1) = textsB f.k k ++ textB (f.k.dim k)) := rfl
            rw [← Nat.add_assoc] at e1
            unfold sv9 at e1
            have hlen2 : (acc ++ enc H ++ textsB f.k k).length ≤ 100000 := by rw [List.length_append, List.length_append]; omega
            generalize hacc : acc ++ enc H ++ textsB f.k k = acc2 at *
            have HACC := Lib.hid hacc
            generalize hT : f.k.dim k = T at *
            have hk4 : (k : Int) < 4 := by omega
            clear hacc hT
            go_wp2_with fail
            refine (ref_text ⟨T.toArray⟩ wr (by show T.toArray.size ≤ _; simp; omega)).mono ?_
            rintro e w3 ⟨v3, rfl, hm3⟩
            have hm3' : Made wr w3 v3 (textB T) := hm3
            have HY := Lib.hid hm3'
            have HM3 : Hid (By w3 (.slice A8 acc2.length c8) acc2) := HM.out.1.turn hm3.2.1 (fun _ _ f => f)
            have hel : (textB T).length ≤ 100 := by
              unfold textB
              have := enc_len T.length
              rw [List.length_append]
              omega
            clear hm3 hm3'
            go_wp2_with (at_builtin; go_must (refine wpList_app _ rfl _ _ _ rfl _ acc2 rfl HM3.out _ rfl (textB T) HY.out.1.yields (by omega) ?_))
            intro A4 n4 c4 w4 hb hg ha
            have hm4 := made_more9 HM.out HY.out.2.1 hb hg ha
            have HM4 : Hid (Made w w4 (.slice A4 n4 c4) (acc ++ enc H ++ textsB f.k (k + 1))) := by rw [HTS.out, ← List.append_assoc, HACC.out]; exact hm4
            clear hb hg ha hm4 HM3 HY HM
            go_wp2
            go_roundw
            case rel => exact ⟨k + 1, by go_num, hkN, HM4.out⟩
            case measure => simp [intOf]; omega
          · obtain rfl : k = N := by omega
            have e5 := (HC.out wr HM.out.2.1).2.2
            have hlen2 : (acc ++ enc H ++ textsB f.k k).length ≤ 100000 := by rw [List.length_append, List.length_append]; omega
            have hst2 : partB l k (i + 1) = acc ++ enc H ++ textsB f.k k ++ enc (zig f.v) := by
              rw [HST.out]
              unfold factB
              rw [HHH.out]
              simp only [Int.toNat_natCast, List.append_assoc]
            have HST2 := Lib.hid hst2
            clear hst2
            generalize hacc : acc ++ enc H ++ textsB f.k k = acc2 at *
            have hv1 : Hid (-9223372036854775808 ≤ f.v) := by have := HGF.out.v0; show _ ≤ _; omega
            have hv2 : Hid (f.v ≤ 9223372036854775807) := by have := HGF.out.v1; show _ ≤ _; omega
            clear hacc
            go_wp2_with fail
            refine (ref_int f.v wr hv1 hv2).mono ?_
            rintro e w3 ⟨v3, rfl, hm3⟩
            have HY := Lib.hid hm3
            have HM3 : Hid (By w3 (.slice A8 acc2.length c8) acc2) := HM.out.1.turn hm3.2.1 (fun _ _ f => f)
            have hel := enc_len (zig f.v)
            clear hm3
            go_wp2_with (at_builtin; go_must (refine wpList_app _ rfl _ _ _ rfl _ acc2 rfl HM3.out _ rfl (enc (zig f.v)) HY.out.1.yields (by omega) ?_))
            intro A4 n4 c4 w4 hb hg ha
            have hm4 := made_more9 HM.out HY.out.2.1 hb hg ha
            have HM4 : Hid (Made w w4 (.slice A4 n4 c4) (partB l k (i + 1))) := by rw [HST2.out]; exact hm4
            clear hb hg ha hm4 HM3 HY HM
            go_wp2
            go_roundw
            case rel => exact ⟨i + 1, by go_num, hlt, HM4.out⟩
            case measure => simp [intOf]; omega
      · obtain rfl : i = l.length := by omega
        have HM2 := HEND.out _ _ (by rw [← partB_all]; exact HM.out)
        go_wp2
        go_ret2
        exact HM2
  · have HEND : Hid (∀ w', Turn (fun _ => False) w w' → Encd w l n (.returned (.tuple #[.slice none 0 0, .int .i64 (allB l n).1])) w') := fun w' ht => ⟨_, rfl, by rw [if_neg h0]; exact ⟨By.nil w', ht, fun k hk => by simp [Value.ownBlock] at hk⟩⟩
    have hne : ((allB l n).1 == 0) = false := by simpa using h0
    unfold allV at HALL
    clear h0
    generalize (allB l n).1 = a at *
    generalize (allB l n).2 = b at *
    go_enter Try.func25, Try.ntmps25
    go_wp2_with fail
    refine HALL.out.mono ?_
    rintro e w1 ⟨rfl, t1⟩
    have HT1 := Lib.hid t1
    clear t1
    go_wp2
    go_ret2
    exact HEND.out _ HT1.out

end Go.Proofs.Ytejilonhdgfkbaa

/-
  Stage 9: the program's Check and All, with the document's answers.
-/
namespace Go.Proofs.Ytejilonhdgfkbaa
open Go.RowKit

set_option maxRecDepth 100000

theorem counted_any9 (n : Int) (w : World) : Calls Try.prog 32 #[.int .i64 n] w fun e w' => e = .returned (.bool (okDims n)) ∧ w' = w := by
  unfold okDims
  by_cases n1 : 1 ≤ n
  · by_cases n4 : n ≤ 4
    · rw [decide_eq_true n1, decide_eq_true n4]
      go_enter Try.func32, Try.ntmps32
      go_wp2
      go_ret
      exact ⟨rfl, rfl⟩
    · rw [decide_eq_true n1, decide_eq_false n4]
      go_enter Try.func32, Try.ntmps32
      go_wp2
      go_ret
      exact ⟨rfl, rfl⟩
  · rw [decide_eq_false n1]
    go_enter Try.func32, Try.ntmps32
    go_wp2
    go_ret
    exact ⟨rfl, rfl⟩

theorem okText_in {n : Int} {i : Nat} {t : List UInt8} (h : (i : Int) < n) : okText n i t = decide (t.length ≤ 16) := by simp [okText, h]
theorem okText_out {n : Int} {i : Nat} {t : List UInt8} (h : ¬ (i : Int) < n) : okText n i t = decide (t.length ≤ 0) := by
  cases t with
  | nil => simp [okText]
  | cons x t => simp [okText, h]

set_option maxHeartbeats 8000000 in
theorem fits_any9 (k : K9) (n : Int) (w : World) : Calls Try.prog 33 #[.agg #[sv9 k.a, sv9 k.b, sv9 k.c, sv9 k.d], .int .i64 n] w fun e w' => e = .returned (.bool (okTexts n k)) ∧ Turn (fun _ => False) w w' := by
  obtain ⟨w0, hw0⟩ : ∃ w0, w0 = w.alloc (.cells #[sv9 k.a, sv9 k.b, sv9 k.c, sv9 k.d] 22) := ⟨_, rfl⟩
  have HT0 : Hid (Turn (fun _ => False) w w0) := by rw [hw0]; exact (Turn.refl _ w).alloc _
  have HW := Lib.hid hw0
  have hix0 : ∀ i : Nat, i < 4 → ∀ W, Sem.run Try.prog (Instr.index 22 (.agg #[sv9 k.a, sv9 k.b, sv9 k.c, sv9 k.d]) (.int .i64 (i : Int))) W = .ok (sv9 (k.dim i)) W := fun i hi W => by
    match i, hi with
    | 0, _ => rfl
    | 1, _ => rfl
    | 2, _ => rfl
    | 3, _ => rfl
  have HIX := Lib.hid hix0
  clear hw0 hix0
  go_enter Try.func33, Try.ntmps33
  go_wp2_with fail
  rw [← HW.out]
  go_loopw [9] (fun x9 wr => wr = w0 ∧ ∃ i : Nat, x9 = .int .i64 (i : Int) ∧ i ≤ 4 ∧ ∀ j, j < i → okText n j (k.dim j) = true) (fun x9 _ => 4 - (intOf x9).toNat)
  case atStart => exact ⟨rfl, 0, rfl, Nat.zero_le _, fun k hk => absurd hk (Nat.not_lt_zero k)⟩
  case round =>
    obtain ⟨rfl, i, rfl, hi, he⟩ := hrel
    have HE := Lib.hid he
    clear he
    by_cases hlt : i < 4
    · have hix := HIX.out i hlt
      have hil : (i : Int) < 4 := by omega
      unfold sv9 at hix ⊢
      have HBAD : Hid (okText n i (k.dim i) = false → okTexts n k = false) := fun h => okTexts_not hlt h
      have HGOOD : Hid (okText n i (k.dim i) = true → ∀ j, j < i + 1 → okText n j (k.dim j) = true) := fun h j hj => by
        by_cases ek : j = i
        · rw [ek]; exact h
        · exact HE.out j (by omega)
      generalize hT : k.dim i = T at *
      by_cases hin : (i : Int) < n
      · by_cases hlen : T.length ≤ 16
        · have HK := Lib.hid (HGOOD.out ((okText_in hin).trans (decide_eq_true hlen)))
          have hl2 : ¬ ((16 : Int) < T.length) := by omega
          have hnn : ¬ (n ≤ (i : Int)) := by omega
          clear HBAD HGOOD
          go_wp2
          go_roundw
          case rel => exact ⟨trivial, i + 1, by go_num, hlt, HK.out⟩
          case measure => simp [intOf]; omega
        · have HK := Lib.hid (HBAD.out ((okText_in hin).trans (decide_eq_false hlen)))
          have hl2 : (16 : Int) < T.length := by omega
          have hnn : ¬ (n ≤ (i : Int)) := by omega
          clear HBAD HGOOD
          go_wp2
          go_ret
          rw [HK.out]
          exact ⟨rfl, HT0.out⟩
      · by_cases hlen : T.length ≤ 0
        · have HK := Lib.hid (HGOOD.out ((okText_out hin).trans (decide_eq_true hlen)))
          have hl2 : ¬ ((0 : Int) < T.length) := by omega
          have hnn : n ≤ (i : Int) := by omega
          clear HBAD HGOOD
          go_wp2
          go_roundw
          case rel => exact ⟨trivial, i + 1, by go_num, hlt, HK.out⟩
          case measure => simp [intOf]; omega
        · have HK := Lib.hid (HBAD.out ((okText_out hin).trans (decide_eq_false hlen)))
          have hl2 : (0 : Int) < T.length := by omega
          have hnn : n ≤ (i : Int) := by omega
          clear HBAD HGOOD
          go_wp2
          go_ret
          rw [HK.out]
          exact ⟨rfl, HT0.out⟩
    · obtain rfl : i = 4 := by omega
      have HK : Hid (okTexts n k = true) := okTexts_all HE.out
      go_wp2
      go_ret
      rw [HK.out]
      exact ⟨rfl, HT0.out⟩

set_option maxHeartbeats 8000000 in
theorem check_any9 (f : F9) (n : Int) (w : World) : Calls Try.prog 12 #[fv9 f, .int .i64 n] w fun e w' => e = .returned (.int .i64 (chkF f n)) ∧ Turn (fun _ => False) w w' := by
  unfold fv9
  obtain ⟨w0, hw0⟩ : ∃ w0, w0 = w.alloc (.cells #[.int .i64 f.k.h, sv9 f.k.a, sv9 f.k.b, sv9 f.k.c, sv9 f.k.d, .int .i64 f.v] 33) := ⟨_, rfl⟩
  have HT0 : Hid (Turn (fun _ => False) w w0) := by rw [hw0]; exact (Turn.refl _ w).alloc _
  have hb1 : Box w0 w.heap.size 33 #[.int .i64 f.k.h, sv9 f.k.a, sv9 f.k.b, sv9 f.k.c, sv9 f.k.d, .int .i64 f.v] := by rw [hw0]; exact Box.new w _ _
  have c0 := hb1.cell 0
  have c1 := hb1.cell 1
  have c2 := hb1.cell 2
  have c3 := hb1.cell 3
  have c4 := hb1.cell 4
  have c5 := hb1.cell 5
  have HW := Lib.hid hw0
  have HCT : Hid (∀ W, Calls Try.prog 32 #[.int .i64 n] W fun e w' => e = .returned (.bool (okDims n)) ∧ w' = W) := fun W => counted_any9 n W
  clear hb1 hw0
  by_cases hn : 1 ≤ n ∧ n ≤ 4
  · rw [show okDims n = true by unfold okDims; simp [hn]] at HCT
    by_cases hr : 0 ≤ f.k.h ∧ f.k.h ≤ 16777216 ∧ f.v ≤ 1152921504606846976 ∧ -1152921504606846976 ≤ f.v
    · have HN := Lib.hid hn
      have HR := Lib.hid hr
      obtain ⟨n1, n2⟩ := hn
      obtain ⟨r1, r2, r3, r4⟩ := hr
      have HK : Hid (chkF f n = if okTexts n f.k then 0 else 4) := by
        show _ = _
        cases ht : okTexts n f.k with
        | true => exact chk_ok HN.out HR.out ht
        | false => exact chk_text HN.out HR.out ht
      have HFT := Lib.hid (fits_any9 f.k n w0)
      cases hb : okTexts n f.k with
      | true =>
        rw [hb] at HK HFT
        clear hb
        go_enter Try.func12, Try.ntmps12
        go_wp2_with fail
        rw [← HW.out]
        refine (HCT.out _).mono ?_
        rintro e w1 ⟨rfl, rfl⟩
        go_wp2_with fail
        refine HFT.out.mono ?_
        rintro e w2 ⟨rfl, t2⟩
        have HT2 := Lib.hid (HT0.out.trans t2 (fun _ _ f => f))
        clear t2 c0 c1 c2 c3 c4 c5
        go_wp2
        go_ret
        rw [HK.out]
        exact ⟨rfl, HT2.out⟩
      | false =>
        rw [hb] at HK HFT
        clear hb
        go_enter Try.func12, Try.ntmps12
        go_wp2_with fail
        rw [← HW.out]
        refine (HCT.out _).mono ?_
        rintro e w1 ⟨rfl, rfl⟩
        go_wp2_with fail
        refine HFT.out.mono ?_
        rintro e w2 ⟨rfl, t2⟩
        have HT2 := Lib.hid (HT0.out.trans t2 (fun _ _ f => f))
        clear t2 c0 c1 c2 c3 c4 c5
        go_wp2
        go_ret
        rw [HK.out]
        exact ⟨rfl, HT2.out⟩
    · rw [chk_range hn hr]
      obtain ⟨n1, n2⟩ := hn
      by_cases r1 : f.k.h < 0
      · clear hr
        go_enter Try.func12, Try.ntmps12
        go_wp2_with fail
        rw [← HW.out]
        refine (HCT.out _).mono ?_
        rintro e w1 ⟨rfl, rfl⟩
        go_wp2
        go_ret
        exact ⟨rfl, HT0.out⟩
      · by_cases r2 : 16777216 < f.k.h
        · clear hr
          go_enter Try.func12, Try.ntmps12
          go_wp2_with fail
          rw [← HW.out]
          refine (HCT.out _).mono ?_
          rintro e w1 ⟨rfl, rfl⟩
          go_wp2
          go_ret
          exact ⟨rfl, HT0.out⟩
        · by_cases r3 : 1152921504606846976 < f.v
          · clear hr
            go_enter Try.func12, Try.ntmps12
            go_wp2_with fail
            rw [← HW.out]
            refine (HCT.out _).mono ?_
            rintro e w1 ⟨rfl, rfl⟩
            go_wp2
            go_ret
            exact ⟨rfl, HT0.out⟩
          · have r4 : f.v < -1152921504606846976 := by omega
            clear hr
            go_enter Try.func12, Try.ntmps12
            go_wp2_with fail
            rw [← HW.out]
            refine (HCT.out _).mono ?_
            rintro e w1 ⟨rfl, rfl⟩
            go_wp2
            go_ret
            exact ⟨rfl, HT0.out⟩
  · rw [show okDims n = false by unfold okDims; simpa using hn] at HCT
    rw [chk_dims hn]
    clear hn
    go_enter Try.func12, Try.ntmps12
    go_wp2_with fail
    rw [← HW.out]
    refine (HCT.out _).mono ?_
    rintro e w1 ⟨rfl, rfl⟩
    go_wp2
    go_ret
    exact ⟨rfl, HT0.out⟩

set_option maxHeartbeats 8000000 in
theorem all_any9 (v : Value) (l : List F9) (n : Int) (w : World) (hv : RdE EF w v l) (hl : l.length ≤ 1000) : Calls Try.prog 14 #[v, .int .i64 n] w fun e w' => e = .returned (allV l n) ∧ Turn (fun _ => False) w w' := by
  have HV := Lib.hid hv
  obtain ⟨A, c, rfl⟩ := hv.shape
  clear hv
  have HCT : Hid (∀ W, Calls Try.prog 32 #[.int .i64 n] W fun e w' => e = .returned (.bool (okDims n)) ∧ w' = W) := fun W => counted_any9 n W
  by_cases hn : 1 ≤ n ∧ n ≤ 4
  · rw [show okDims n = true by unfold okDims; simp [hn]] at HCT
    by_cases hg : 1 ≤ l.length ∧ l.length ≤ 50
    · have HG : Hid (1 ≤ n ∧ n ≤ 4 ∧ 1 ≤ l.length ∧ l.length ≤ 50) := ⟨hn.1, hn.2, hg.1, hg.2⟩
      obtain ⟨g3, g4⟩ := hg
      have g0 : ((l.length : Int) == 0) = false := by simp; intro e; simp [e] at g3
      have g3' : (1 : Int) ≤ l.length := by omega
      have g4' : (l.length : Int) ≤ 50 := by omega
      clear hn
      go_enter Try.func14, Try.ntmps14
      go_wp2_with fail
      refine (HCT.out _).mono ?_
      rintro e w1 ⟨rfl, rfl⟩
      go_wp2_with fail
      go_loopw [24] (fun x24 wr => ∃ i : Nat, x24 = .int .i64 (i : Int) ∧ i ≤ l.length ∧ badAt n l 0 = badAt n (l.drop i) i ∧ Turn (fun _ => False) w1 wr) (fun x24 _ => l.length - (intOf x24).toNat)
      case atStart => exact ⟨0, rfl, Nat.zero_le _, rfl, Turn.refl _ w1⟩
      case round =>
        obtain ⟨i, rfl, hi, hb, ht⟩ := hrel
        have HB := Lib.hid hb
        have HT := Lib.hid ht
        clear hb ht
        by_cases hlt : i < l.length
        · obtain ⟨f, hf⟩ : ∃ f, l[i]? = some f := ⟨_, List.getElem?_eq_getElem hlt⟩
          obtain ⟨ad, rfl, hc⟩ := fact_at6 HV.out hf
          obtain ⟨c0, c1, c2, c3, c4, c5⟩ := hc wr HT.out
          have hil : (i : Int) < l.length := by omega
          have HF := Lib.hid hf
          obtain ⟨wf, hwf⟩ : ∃ wf, wf = wr.alloc (.cells #[.int .i64 f.k.h, sv9 f.k.a, sv9 f.k.b, sv9 f.k.c, sv9 f.k.d, .int .i64 f.v] 33) := ⟨_, rfl⟩
          have HTF : Hid (Turn (fun _ => False) w1 wf) := by rw [hwf]; exact HT.out.alloc _
          have HWF := Lib.hid hwf
          clear hc hf hwf
          go_wp2_with fail
          rw [← HWF.out]
          refine (check_any9 f n wf).mono ?_
          rintro e w2 ⟨rfl, t2⟩
          have HT2 : Hid (Turn (fun _ => False) w1 w2) := HTF.out.trans t2 (fun _ _ f => f)
          clear t2 c0 c1 c2 c3 c4 c5
          by_cases hk : chkF f n = 0
          · have HB2 : Hid (badAt n l 0 = badAt n (l.drop (i + 1)) (i + 1)) := HB.out.trans (bad_step HF.out hk)
            rw [hk]
            go_wp2
            go_roundw
            case rel => exact ⟨i + 1, by go_num, hlt, HB2.out, HT2.out⟩
            case measure => simp [intOf]; omega
          · have HA : Hid (allV l n = .tuple #[.int .i64 (chkF f n), .int .i64 (i : Int)]) := allV_at HG.out (HB.out.trans (bad_here HF.out hk))
            have hk2 : (chkF f n != 0) = true := by simp [bne, hk]
            clear hk
            generalize chkF f n = cf at *
            go_wp2
            go_ret2
            rw [HA.out]
            exact ⟨rfl, HT2.out⟩
        · obtain rfl : i = l.length := by omega
          have HA : Hid (allV l n = .tuple #[.int .i64 0, .int .i64 0]) := allV_at HG.out (by rw [HB.out, List.drop_length]; rfl)
          go_wp2
          go_ret2
          rw [HA.out]
          exact ⟨rfl, HT.out⟩
    · rw [allV_bad (fun h => hg h.2.2)]
      clear hn
      by_cases n3 : l.length < 1
      · have n3' : ((l.length : Int) == 0) = true := by simp; exact List.eq_nil_of_length_eq_zero (by omega)
        clear hg
        go_enter Try.func14, Try.ntmps14
        go_wp2_with fail
        refine (HCT.out _).mono ?_
        rintro e w1 ⟨rfl, rfl⟩
        go_wp2
        go_ret2
        exact ⟨rfl, Turn.refl _ w1⟩
      · have n3' : ((l.length : Int) == 0) = false := by simp; intro e; simp [e] at n3
        have n4' : (50 : Int) < l.length := by omega
        clear hg
        go_enter Try.func14, Try.ntmps14
        go_wp2_with fail
        refine (HCT.out _).mono ?_
        rintro e w1 ⟨rfl, rfl⟩
        go_wp2
        go_ret2
        exact ⟨rfl, Turn.refl _ w1⟩
  · rw [show okDims n = false by unfold okDims; simpa using hn] at HCT
    rw [allV_bad (fun h => hn ⟨h.1, h.2.1⟩)]
    clear hn
    go_enter Try.func14, Try.ntmps14
    go_wp2_with fail
    refine (HCT.out _).mono ?_
    rintro e w1 ⟨rfl, rfl⟩
    go_wp2
    go_ret2
    exact ⟨rfl, Turn.refl _ w1⟩

end Go.Proofs.Ytejilonhdgfkbaa

/-
  A writer of pack (the program's) that is new since a world: one contract a call. For every stage whose code puts bytes so.
-/
namespace Go.Proofs.Ytejilonhdgfkbaa
open Go.RowKit

/-- A writer at p, new since w, that has bytes l. -/
def Wt (w : World) (p : Nat) (wr : World) (l : List UInt8) : Prop := w.heap.size ≤ p ∧ ∃ u, Wr wr p u l ∧ (∀ k, u.ownBlock = some k → w.heap.size ≤ k) ∧ Turn (fun _ => False) w wr
section
variable {w wr w' : World} {p : Nat} {l l' : List UInt8}
theorem Wt.turn (h : Wt w p wr l) : Turn (fun _ => False) w wr := by
  obtain ⟨_, u, _, _, h⟩ := h
  exact h
theorem Wt.later (h : Wt w p wr l) (ht : Turn (fun _ => False) wr w') : Wt w p w' l := by
  obtain ⟨h0, u, ⟨h1, h2⟩, h3, h4⟩ := h
  exact ⟨h0, u, ⟨h1.turn ht (fun f => f), h2.turn ht (fun _ _ f => f)⟩, h3, h4.trans ht (fun _ _ f => f)⟩
theorem Wt.put {u u' : Value} (h0 : w.heap.size ≤ p) (h3 : ∀ k, u.ownBlock = some k → w.heap.size ≤ k) (h4 : Turn (fun _ => False) w wr) (hp : Put wr p u w' u' l') : Wt w p w' l' := by
  obtain ⟨g1, g2, g3⟩ := hp
  refine ⟨h0, u', g1, fun k hk => ?_, h4.trans g2 (fun k hk e => ?_)⟩
  · rcases g3 with e | e
    · exact h3 k (by rw [← e]; exact hk)
    · exact Nat.le_trans h4.size (e k hk)
  · rcases e with e | e
    · omega
    · have := h3 k e; omega
/-- Boxes of other types than a writer's, and a byte's rows, are as they were. -/
def KeepB (w w' : World) : Prop := ∀ g t cs, t ≠ 64 → t ≠ 5 → Box w g t cs → Box w' g t cs
theorem KeepB.of {u u' : Value} (hw : Wr wr p u l) (hp : Put wr p u w' u' l') : KeepB wr w' := by
  intro g t cs h1 h2 hb
  refine hb.turn hp.2.1 (fun e => ?_)
  rcases e with e | e
  · subst e
    have e2 := hw.1.symm.trans hb
    injection e2 with e2
    injection e2 with _ e3
    exact h1 e3.symm
  · exact hw.2.ne_box hb (fun e => h2 e.symm) e
theorem KeepB.trans {a b c : World} (h : KeepB a b) (g : KeepB b c) : KeepB a c := fun k t cs h1 h2 hb => g k t cs h1 h2 (h k t cs h1 h2 hb)
theorem KeepB.refl (w : World) : KeepB w w := fun _ _ _ _ _ h => h
/-- A writer that was just laid. -/
theorem Wt.new (w : World) (hw : Turn (fun _ => False) w wr) : Wt w wr.heap.size (wr.alloc (.cells #[.slice none 0 0] 64)) [] :=
  ⟨hw.size, _, ⟨Box.new wr _ _, By.nil _⟩, (fun k e => by simp [Value.ownBlock] at e), hw.alloc _⟩
theorem wt_num (h : Wt w p wr l) (n : Nat) (hn : Hid (n < 18446744073709551616)) (hl : l.length ≤ 1000000) :
    Calls Try.prog 42 #[.pointer (some ⟨p, 0, none⟩), .int .u64 n] wr fun e w' => e = .returned (.pointer (some ⟨p, 0, none⟩)) ∧ Wt w p w' (l ++ enc n) ∧ KeepB wr w' := by
  obtain ⟨h0, u, h1, h3, h4⟩ := h
  exact (num_put p u l n wr h1 hn hl).mono fun e w' ⟨he, v', hp⟩ => ⟨he, Wt.put h0 h3 h4 hp, KeepB.of h1 hp⟩
theorem wt_int (h : Wt w p wr l) (n : Int) (g1 : Hid (-9223372036854775808 ≤ n)) (g2 : Hid (n ≤ 9223372036854775807)) (hl : l.length ≤ 1000000) :
    Calls Try.prog 44 #[.pointer (some ⟨p, 0, none⟩), .int .i64 n] wr fun e w' => e = .returned (.pointer (some ⟨p, 0, none⟩)) ∧ Wt w p w' (l ++ enc (zig n)) ∧ KeepB wr w' := by
  obtain ⟨h0, u, h1, h3, h4⟩ := h
  exact (int_put p u l n wr h1 g1 g2 hl).mono fun e w' ⟨he, v', hp⟩ => ⟨he, Wt.put h0 h3 h4 hp, KeepB.of h1 hp⟩
theorem wt_text (h : Wt w p wr l) (t : List UInt8) (ht : t.length ≤ 900000) (hl : l.length ≤ 900000) :
    Calls Try.prog 43 #[.pointer (some ⟨p, 0, none⟩), .string ⟨t.toArray⟩] wr fun e w' => e = .returned (.pointer (some ⟨p, 0, none⟩)) ∧ Wt w p w' (l ++ (enc t.length ++ t)) ∧ KeepB wr w' := by
  obtain ⟨h0, u, h1, h3, h4⟩ := h
  exact (text_put p u l ⟨t.toArray⟩ wr h1 (by show t.toArray.size ≤ _; simpa using ht) hl).mono fun e w' ⟨he, v', hp⟩ => ⟨he, Wt.put h0 h3 h4 hp, KeepB.of h1 hp⟩
theorem wt_bytes (h : Wt w p wr l) (hl : l.length ≤ 1000000) :
    Calls Try.prog 45 #[.pointer (some ⟨p, 0, none⟩)] wr fun e w' => ∃ v', e = .returned v' ∧ Made w w' v' l := by
  obtain ⟨h0, u, h1, h3, h4⟩ := h
  exact (bytes_any p u l wr h1 hl).mono fun e w' ⟨v', he, hb, ht, hk⟩ => ⟨v', he, hb, h4.trans ht (fun _ _ f => f), fun k e => Nat.le_trans h4.size (hk k e)⟩
end

end Go.Proofs.Ytejilonhdgfkbaa
