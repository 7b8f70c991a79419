/-
  Texts laid one behind the other: Cb Cd Ce Fa Ia Ib Fb Ra.
-/
import Derived.Test.YtgchfckmhibeaaaJocaa
import Derived.Test.YtgchfckmhibeaaaJocab
import Derived.Deep.QuietTactic
import Derived.BigQuiet
import Derived.Deep.RegionWith
import Derived.RangeFuncFrom
import Derived.RangeFuncCalls
import Derived.RangeFuncLeaves
import Derived.Shelf.Abstract
import Derived.Shelf.RegionOpen
import Derived.OwnWalkIn
import Derived.TacticsInMore
import Derived.LoopNIn
import Derived.LoopIn

/-
  Checks, by the program and by the document.
-/
namespace Go.Proofs.Ytgchfckmhibeaaa
open Go.RowKit

set_option maxRecDepth 100000 in
set_option maxHeartbeats 400000 in
theorem move_any (s : Nat) (w : World) (h : Hid (s < 4294967296)) :
    Calls Try.prog 101 #[.int .u32 s] w fun e w' => e = .returned (.int .u32 (stp s)) ∧ w = w' := by
  go_enter Try.func101, Try.ntmps101
  go_wp2
  go_ret
  exact ⟨ret_int (move_val s h), rfl⟩

theorem ref_half (s : Nat) (h : Hid (s < 4294967296)) (h1 : ((s : Int) % 2 == 1) = true) : bits BinOp.xor IntKind.u32 ((s : Int) / 2 % 4294967296) 3988292384 = (stp s : Int) := by
  have h : s < 4294967296 := h
  have h1 : s % 2 = 1 := by have := eq_of_beq h1; omega
  have e : (s : Int) / 2 % 4294967296 = ((s / 2 : Nat) : Int) := by omega
  unfold stp
  rw [if_pos h1, e, show (3988292384 : Int) = ((3988292384 : Nat) : Int) from rfl, u32_xor_nat _ _ (by omega) (by omega)]
theorem ref_even (s : Nat) (h : Hid (s < 4294967296)) (h1 : ((s : Int) % 2 == 1) = false) : (s : Int) / 2 % 4294967296 = (stp s : Int) := by
  have h : s < 4294967296 := h
  have h1 : ¬ s % 2 = 1 := by have := ne_of_beq_false h1; omega
  unfold stp
  rw [if_neg h1]
  omega

set_option maxRecDepth 100000 in
set_option maxHeartbeats 400000 in
theorem step_any (s : Nat) (w : World) (h : Hid (s < 4294967296)) :
    Calls Try.prog 105 #[.int .u32 s] w fun e w' => e = .returned (.int .u32 (stp s)) ∧ w = w' := by
  go_enter Try.func105, Try.ntmps105
  go_wp2
  · go_ret
    exact ⟨ret_int (ref_half s h (by assumption)), rfl⟩
  · go_ret
    exact ⟨ret_int (ref_even s h (by assumption)), rfl⟩

theorem start_val (s : Nat) (h : Hid (s < 4294967296)) : bits BinOp.xor IntKind.u32 IntKind.u32.max (s : Int) = ((4294967295 - s : Nat) : Int) := by
  have e : bits BinOp.xor IntKind.u32 IntKind.u32.max (s : Int) = bits BinOp.xor IntKind.u32 (s : Int) 4294967295 := by
    show IntKind.u32.wrap ((BitVec.ofInt 32 4294967295 ^^^ BitVec.ofInt 32 (s : Int)).toNat : Int) = IntKind.u32.wrap ((BitVec.ofInt 32 (s : Int) ^^^ BitVec.ofInt 32 4294967295).toNat : Int)
    rw [BitVec.xor_comm]
  rw [e]
  exact turn_u32 s h
theorem mix_val (x : Nat) (b : UInt8) (h : Hid (x < 4294967296)) : bits BinOp.xor IntKind.u32 (x : Int) ((b.toNat : Int) % 4294967296) = ((x ^^^ b.toNat : Nat) : Int) := by
  have hb := b.toNat_lt
  have e : (b.toNat : Int) % 4294967296 = (b.toNat : Int) := by omega
  rw [e]
  exact u32_xor_nat _ _ h (by omega)
theorem u32_eq {a b : Int} (h : a = b) : Value.int .u32 a = Value.int .u32 b := by rw [h]

set_option maxRecDepth 100000 in
set_option maxHeartbeats 400000 in
theorem crc_more (s : Nat) (v : Value) (l : List UInt8) (w : World) (hs : Hid (s < 4294967296)) (hv : Rd w v l) (hl : l.length ≤ 1000000) :
    Calls Try.prog 94 #[.int .u32 s, v] w fun e w' => e = .returned (.int .u32 (more s l)) ∧ w = w' := by
  have HV := Lib.hid hv
  obtain ⟨A, c, rfl, _⟩ := hv
  go_enter Try.func94, Try.ntmps94
  go_wp2
  go_loop [6, 13] (fun x6 x13 => ∃ k : Nat, x13 = .int .i64 k ∧ k ≤ l.length ∧ x6 = .int .u32 (eats (4294967295 - s) (l.take k))) (fun _ x13 => l.length - (intOf x13).toNat)
  case atStart => exact ⟨0, rfl, Nat.zero_le _, u32_eq (start_val s hs)⟩
  case round =>
    obtain ⟨k, rfl, hk, rfl⟩ := hrel
    obtain ⟨x, hx⟩ : ∃ x, x = eats (4294967295 - s) (l.take k) := ⟨_, rfl⟩
    have hxl : Hid (x < 4294967296) := by rw [hx]; exact eats_lt _ (by omega)
    rw [← hx]
    have HX := Lib.hid hx; clear hx
    by_cases hlt : k < l.length
    · obtain ⟨b, hb⟩ : ∃ b, l[k]? = some b := ⟨_, List.getElem?_eq_getElem hlt⟩
      obtain ⟨ad, rfl, hcell⟩ := HV.out.at hb
      have HB := Lib.hid hb; clear hb
      have hy : Hid (x ^^^ b.toNat < 4294967296) := mix_lt b hxl
      go_wp2
      go_loop [6, 21] (fun x6 x21 => ∃ j : Nat, x21 = .int .i64 j ∧ j ≤ 8 ∧ x6 = .int .u32 (stps j (x ^^^ b.toNat))) (fun _ x21 => 8 - (intOf x21).toNat)
      case atStart => exact ⟨0, rfl, Nat.zero_le _, u32_eq (mix_val x b hxl)⟩
      case round =>
        obtain ⟨j, rfl, hj, rfl⟩ := hrel
        by_cases h8 : j < 8
        · go_wp2_with (go_at_call 101; refine (move_any _ w (stps_lt j hy)).mono ?_; rintro e w' ⟨rfl, rfl⟩)
          go_round
          case rel => exact ⟨j + 1, by go_num, by omega, rfl⟩
          case measure => simp [intOf]; omega
        · have ej : j = 8 := by omega
          subst ej
          go_wp2
          go_round
          case rel => exact ⟨k + 1, by go_num, by omega, by rw [eats_take HB.out, ← HX.out]; rfl⟩
          case measure => simp [intOf]; omega
    · have ek : k = l.length := by omega
      subst ek
      go_wp2
      go_ret
      exact ⟨ret_int (by rw [start_val x hxl, HX.out, List.take_length]; rfl), rfl⟩

theorem more_val (s : Nat) (h : Hid (s < 4294967296)) : (4294967295 - (s : Int)) % 4294967296 = ((4294967295 - s : Nat) : Int) := by
  have h : s < 4294967296 := h
  omega

set_option maxRecDepth 100000 in
set_option maxHeartbeats 400000 in
theorem ref_more (s : Nat) (v : Value) (l : List UInt8) (w : World) (hs : Hid (s < 4294967296)) (hv : Rd w v l) (hl : l.length ≤ 1000000) :
    Calls Try.prog 100 #[.int .u32 s, v] w fun e w' => e = .returned (.int .u32 (more s l)) ∧ w = w' := by
  have HV := Lib.hid hv
  obtain ⟨A, c, rfl, _⟩ := hv
  go_enter Try.func100, Try.ntmps100
  go_wp2
  go_loop [5, 6] (fun x6 x13 => ∃ k : Nat, x13 = .int .i64 k ∧ k ≤ l.length ∧ x6 = .int .u32 (eats (4294967295 - s) (l.take k))) (fun _ x13 => l.length - (intOf x13).toNat)
  case atStart => exact ⟨0, rfl, Nat.zero_le _, u32_eq (more_val s hs)⟩
  case round =>
    obtain ⟨k, rfl, hk, rfl⟩ := hrel
    obtain ⟨x, hx⟩ : ∃ x, x = eats (4294967295 - s) (l.take k) := ⟨_, rfl⟩
    have hxl : Hid (x < 4294967296) := by rw [hx]; exact eats_lt _ (by omega)
    rw [← hx]
    have HX := Lib.hid hx; clear hx
    by_cases hlt : k < l.length
    · obtain ⟨b, hb⟩ : ∃ b, l[k]? = some b := ⟨_, List.getElem?_eq_getElem hlt⟩
      obtain ⟨ad, rfl, hcell⟩ := HV.out.at hb
      have HB := Lib.hid hb; clear hb
      have hy : Hid (x ^^^ b.toNat < 4294967296) := mix_lt b hxl
      go_wp2
      go_loop [5, 7] (fun x6 x21 => ∃ j : Nat, x21 = .int .i64 j ∧ j ≤ 8 ∧ x6 = .int .u32 (stps j (x ^^^ b.toNat))) (fun _ x21 => 8 - (intOf x21).toNat)
      case atStart => exact ⟨0, rfl, Nat.zero_le _, u32_eq (mix_val x b hxl)⟩
      case round =>
        obtain ⟨j, rfl, hj, rfl⟩ := hrel
        by_cases h8 : j < 8
        · go_wp2_with (go_at_call 105; refine (step_any _ w (stps_lt j hy)).mono ?_; rintro e w' ⟨rfl, rfl⟩)
          go_round
          case rel => exact ⟨j + 1, by go_num, by omega, rfl⟩
          case measure => simp [intOf]; omega
        · have ej : j = 8 := by omega
          subst ej
          go_wp2
          go_round
          case rel => exact ⟨k + 1, by go_num, by omega, by rw [eats_take HB.out, ← HX.out]; rfl⟩
          case measure => simp [intOf]; omega
    · have ek : k = l.length := by omega
      subst ek
      go_wp2
      go_ret
      exact ⟨ret_int (by rw [more_val x hxl, HX.out, List.take_length]; rfl), rfl⟩

set_option maxRecDepth 100000 in
set_option maxHeartbeats 400000 in
theorem crc_sum (v : Value) (l : List UInt8) (w : World) (hv : Rd w v l) (hl : l.length ≤ 1000000) :
    Calls Try.prog 82 #[v] w fun e w' => e = .returned (.int .u32 (more 0 l)) ∧ w = w' := by
  have HV := Lib.hid hv
  clear hv
  go_enter Try.func82, Try.ntmps82
  go_wp2_with (go_at_call 94; refine (crc_more 0 v l w (by show (0 : Nat) < 4294967296; omega) HV.out hl).mono ?_; rintro e w' ⟨rfl, rfl⟩)
  go_ret
  exact ⟨rfl, rfl⟩

set_option maxRecDepth 100000 in
set_option maxHeartbeats 400000 in
theorem ref_sum (v : Value) (l : List UInt8) (w : World) (hv : Rd w v l) (hl : l.length ≤ 1000000) :
    Calls Try.prog 90 #[v] w fun e w' => e = .returned (.int .u32 (more 0 l)) ∧ w = w' := by
  have HV := Lib.hid hv
  clear hv
  go_enter Try.func90, Try.ntmps90
  go_wp2_with (go_at_call 100; refine (ref_more 0 v l w (by show (0 : Nat) < 4294967296; omega) HV.out hl).mono ?_; rintro e w' ⟨rfl, rfl⟩)
  go_ret
  exact ⟨rfl, rfl⟩

end Go.Proofs.Ytgchfckmhibeaaa

/-
  A check's bytes: one by one, held against others, behind the bytes that they are of.
-/
namespace Go.Proofs.Ytgchfckmhibeaaa
open Go.RowKit

theorem tl_len (s : Nat) : (tl s).length = 4 := rfl
theorem tl_at (s : Nat) {i : Nat} (h : i < 4) : (tl s)[i]? = some (UInt8.ofNat (s / 256 ^ i % 256)) := by
  have h' : i = 0 ∨ i = 1 ∨ i = 2 ∨ i = 3 := by omega
  rcases h' with rfl | rfl | rfl | rfl <;> simp [tl]

theorem piece_val (s i : Nat) (h : i < 4) (x : UInt8) (hx : (tl s)[i]? = some x) : (s : Int) / 2 ^ (8 * i) % 256 = (x.toNat : Int) := by
  rw [tl_at s h] at hx
  injection hx with hx
  have e : (2 : Int) ^ (8 * i) = ((256 ^ i : Nat) : Int) := by
    rw [Int.pow_mul]
    simp
  have hb : s / 256 ^ i % 256 < 256 := Nat.mod_lt _ (by omega)
  rw [← hx, UInt8.toNat_ofNat', e, Nat.mod_eq_of_lt hb]
  simp

set_option maxRecDepth 100000 in
set_option maxHeartbeats 400000 in
theorem piece_any (s i : Nat) (w : World) (h : i < 4) (x : UInt8) (hx : (tl s)[i]? = some x) :
    Calls Try.prog 83 #[.int .u32 s, .int .i64 i] w fun e w' => e = .returned (.int .u8 (x.toNat : Int)) ∧ w = w' := by
  have HP := Lib.hid (piece_val s i h x hx)
  clear hx
  go_enter Try.func83, Try.ntmps83
  go_wp2
  go_ret
  exact ⟨ret_int HP.out, rfl⟩

theorem bv_of (n : Nat) (h : n < 256) : bv (UInt8.ofNat n) = .int .u8 (n : Int) := by
  unfold bv
  rw [UInt8.toNat_ofNat', Nat.mod_eq_of_lt h]

theorem tail_row (s : Nat) (_hs : Hid (s < 4294967296)) : #[Value.int .u8 ((s : Int) % 256), .int .u8 ((s : Int) / 256 % 256), .int .u8 ((s : Int) / 65536 % 256), .int .u8 ((s : Int) / 16777216 % 256)] = ((tl s).map bv).toArray := by
  unfold tl
  rw [List.map_cons, List.map_cons, List.map_cons, List.map_cons, List.map_nil, bv_of _ (by omega), bv_of _ (by omega), bv_of _ (by omega), bv_of _ (by omega)]
  simp

set_option maxRecDepth 100000 in
set_option maxHeartbeats 400000 in
theorem tail_any (s : Nat) (w : World) (hs : Hid (s < 4294967296)) :
    Calls Try.prog 89 #[.int .u32 s] w fun e w' => ∃ v', e = .returned v' ∧ By w' v' (tl s) ∧ Turn (fun _ => False) w w' ∧ ∀ k, v'.ownBlock = some k → w.heap.size ≤ k := by
  have HR := Lib.hid (tail_row s hs)
  have HB := Lib.hid (By.made w (tl s) (by simp [tl_len, maxLen]))
  go_enter Try.func89, Try.ntmps89
  go_wp2
  go_ret
  refine ⟨_, rfl, ?_, (Turn.refl _ w).alloc _, fun k hk => ?_⟩
  · rw [HR.out]
    exact HB.out
  · have : w.heap.size = k := by simpa [Value.ownBlock] using hk
    omega

theorem same_yes {l m : List UInt8} (h1 : l.length = 4) (h2 : m.length = 4) (h : l.take 4 = m.take 4) : true = (l == m) := by
  rw [List.take_of_length_le (by omega), List.take_of_length_le (by omega)] at h
  subst h
  simp
theorem same_no {l m : List UInt8} {k : Nat} {x y : UInt8} (h1 : l[k]? = some x) (h2 : m[k]? = some y) (h : ¬ x = y) : false = (l == m) := by
  symm
  rw [beq_eq_false_iff_ne]
  rintro rfl
  rw [h1] at h2
  exact h (Option.some.inj h2)
theorem take_more {l m : List UInt8} {k : Nat} {x : UInt8} (h : l.take k = m.take k) (h1 : l[k]? = some x) (h2 : m[k]? = some x) : l.take (k + 1) = m.take (k + 1) := by
  obtain ⟨a1, b1⟩ := List.getElem?_eq_some_iff.1 h1
  obtain ⟨a2, b2⟩ := List.getElem?_eq_some_iff.1 h2
  rw [List.take_succ_eq_append_getElem a1, List.take_succ_eq_append_getElem a2, h, b1, b2]

set_option maxRecDepth 100000 in
set_option maxHeartbeats 400000 in
theorem stands_any (s : Nat) (v : Value) (l : List UInt8) (w : World) (hv : Rd w v l) (hl : l.length = 4) :
    Calls Try.prog 86 #[.int .u32 s, v] w fun e w' => e = .returned (.bool (l == tl s)) ∧ w = w' := by
  have HV := Lib.hid hv
  obtain ⟨A, c, rfl, _⟩ := hv
  have HL := Lib.hid hl
  rw [hl]
  rw [hl] at HV
  clear hl
  go_enter Try.func86, Try.ntmps86
  go_wp2_with fail
  go_step3
  go_wp2_with fail
  go_step3
  go_wp2_with fail
  go_loop [5, 10] (fun x5 x10 => ∃ k : Nat, x10 = .int .i64 k ∧ k ≤ 4 ∧ x5 = .int .i64 k ∧ l.take k = (tl s).take k) (fun _ x10 => 4 - (intOf x10).toNat)
  case atStart => exact ⟨0, rfl, Nat.zero_le _, rfl, rfl⟩
  case round =>
    obtain ⟨k, rfl, hk, rfl, ht⟩ := hrel
    have HT := Lib.hid ht; clear ht
    by_cases h4 : k < 4
    · obtain ⟨x, hx⟩ : ∃ x, l[k]? = some x := ⟨_, List.getElem?_eq_getElem (by rw [HL.out]; exact h4)⟩
      obtain ⟨y, hy⟩ : ∃ y, (tl s)[k]? = some y := ⟨_, List.getElem?_eq_getElem (by rw [tl_len]; exact h4)⟩
      obtain ⟨ad, rfl, hcell⟩ := HV.out.at hx
      have HX := Lib.hid hx; clear hx
      have HY := Lib.hid hy; clear hy
      by_cases hxy : x = y
      · subst hxy
        go_wp2_with (go_at_call 83; refine (piece_any s k w h4 x HY.out).mono ?_; rintro e w' ⟨rfl, rfl⟩)
        go_round
        case rel => exact ⟨k + 1, by go_num, by omega, by go_num, take_more HT.out HX.out HY.out⟩
        case measure => simp [intOf]; omega
      · have hne : ((x.toNat : Int) == (y.toNat : Int)) = false := by
          rw [beq_eq_false_iff_ne]
          intro e
          exact hxy (UInt8.toNat_inj.1 (by omega))
        have hk4 : ((k : Int) == 4) = false := by rw [beq_eq_false_iff_ne]; omega
        have HN := Lib.hid (same_no HX.out HY.out hxy)
        clear hxy
        go_wp2_with (go_at_call 83; refine (piece_any s k w h4 y HY.out).mono ?_; rintro e w' ⟨rfl, rfl⟩)
        rw [Exit.noGoto_ret]
        go_ret
        exact ⟨ret_bool HN.out, rfl⟩
    · have ek : k = 4 := by omega
      subst ek
      go_wp2
      go_ret
      exact ⟨ret_bool (same_yes HL.out (tl_len s) HT.out), rfl⟩

set_option maxRecDepth 100000 in
set_option maxHeartbeats 1000000 in
theorem crc_put (v : Value) (l : List UInt8) (w : World) (hv : Rd w v l) (hl : l.length ≤ 1000000) :
    Calls Try.prog 61 #[v] w fun e w' => e = .returned (.slice (some ⟨w.heap.size, 0, none⟩) (l.length + 4) (l.length + 4)) ∧ Box w' w.heap.size 5 ((l ++ tl (more 0 l)).map bv).toArray ∧ Turn (fun _ => False) w w' := by
  have HV := Lib.hid hv
  obtain ⟨A, c, rfl, hcc⟩ := hv
  have HC := Lib.hid hcc; clear hcc
  have hmk := run_make_row' (P := Try.prog) 22 5 (.int .u8 0) 1 Try.underlying22 u8_info rfl .i64 .i64 (l.length + 4) (by omega) (by omega)
  rw [show ((l.length + 4 : Nat) : Int) = (l.length : Int) + 4 by omega] at hmk
  obtain ⟨M, hM⟩ : ∃ M, M = (madeCells #[Value.int .u8 0] (l.length + 4)).toList := ⟨_, rfl⟩
  have hmk2 : ∀ w : World, w.alloc (.cells (madeCells #[.int .u8 0] (l.length + 4)) 5) = w.alloc (.cells M.toArray 5) := fun w => by rw [hM, Array.toArray_toList]
  simp only [hmk2] at hmk
  clear hmk2
  obtain ⟨X, hX⟩ : ∃ X, X = l.map bv := ⟨_, rfl⟩
  have HXL : Hid (X.length = l.length) := by rw [hX, List.length_map]; trivial
  have HML : Hid (M.length = l.length + 4) := by rw [hM, Array.length_toList, size_madeCells]; trivial
  have HS := Lib.hid (copy_src (B := .cells M.toArray 5) HV.out hX)
  have HM := Lib.hid hM; clear hM
  have HX := Lib.hid hX; clear hX
  go_enter Try.func61, Try.ntmps61
  go_wp2_with (first
    | (with_reducible refine wpList_copy_splice (o := ⟨some 12, _, _, _, _, _⟩) rfl (.tmp 10) (.tmp 11) 22 22 rfl 5 Try.underlying22 u8_size (some ⟨w.heap.size, 0, none⟩) A (l.length + 4) (l.length + 4) l.length c rfl rfl w.heap.size 0 M 5 (heap_alloc_new w _) X (by rw [HXL.out]; exact (Nat.min_eq_left (by omega)).symm) (fun h => ⟨rfl, HS.out (by rw [← HXL.out]; exact h)⟩) (by rw [HXL.out, HML.out]; omega) (by rw [HX.out]; exact bv_one l) w.heap.size w ((Below.refl _ w).alloc (Nat.le_refl _) _) (Nat.le_refl _) ?_; intro w2 HG2 hB2; have HT2 := Lib.hid (Below.turned hB2); clear hB2)
    | (go_at_call 82; refine (crc_sum _ l w2 (HV.out.later HT2.out) hl).mono ?_; rintro e w3 ⟨rfl, rfl⟩))
  clear hmk
  obtain ⟨s, hs⟩ : ∃ s, s = more 0 l := ⟨_, rfl⟩
  rw [← hs]
  have HB2 : Hid (Box w2 w.heap.size 5 (room l (tl s) 0)) := by
    have h := HG2.out
    rw [HM.out, HX.out] at h
    have e := room_zero l (tl s)
    rw [tl_len] at e
    rw [e] at h
    exact h
  have HSS := Lib.hid hs; clear hs HG2 HM HX HS HML
  go_loopw [15] (fun x15 wr => ∃ k : Nat, x15 = .int .i64 k ∧ k ≤ 4 ∧ Box wr w.heap.size 5 (room l (tl s) k) ∧ Turn (fun _ => False) w wr) (fun x15 _ => 4 - (intOf x15).toNat)
  case atStart => exact ⟨0, rfl, Nat.zero_le _, HB2.out, HT2.out⟩
  case round =>
    obtain ⟨k, rfl, hk, hb, ht⟩ := hrel
    have HB := Lib.hid hb; clear hb
    have HT := Lib.hid ht; clear ht
    by_cases h4 : k < 4
    · obtain ⟨x, hx⟩ : ∃ x, (tl s)[k]? = some x := ⟨_, List.getElem?_eq_getElem (by rw [tl_len]; exact h4)⟩
      have hcell := (HB.out.cell (l.length + k)).trans (room_at l (tl s) k (by rw [tl_len]; exact h4))
      have hfree := HB.out.free (l.length + k)
      have HX := Lib.hid hx; clear hx
      go_wp2_with (go_at_call 83; refine (piece_any s k wr h4 x HX.out).mono ?_; rintro e w' ⟨rfl, rfl⟩)
      go_roundw
      case rel => exact ⟨k + 1, by go_num, by omega, by rw [← room_set l (tl s) k x HX.out]; exact HB.out.set _ _, HT.out.setCell (fun h => by simp at h) _⟩
      case measure => simp [intOf]; omega
    · have ek : k = 4 := by omega
      subst ek
      go_wp2
      go_ret
      refine ⟨rfl, ?_, HT.out⟩
      have h := HB.out
      have e := room_all l (tl s)
      rw [tl_len] at e
      rw [e, HSS.out] at h
      exact h

end Go.Proofs.Ytgchfckmhibeaaa

/-
  Bytes with their check, as the document puts them; what is got of bytes, by the program and by the document.
-/
namespace Go.Proofs.Ytgchfckmhibeaaa
open Go.RowKit

set_option maxRecDepth 100000 in
set_option maxHeartbeats 1000000 in
theorem ref_put (v : Value) (l : List UInt8) (w : World) (hv : Rd w v l) (hl : l.length ≤ 1000000) :
    Calls Try.prog 78 #[v] w fun e w' => ∃ v', e = .returned v' ∧ Made w w' v' (l ++ tl (more 0 l)) := by
  have HV := Lib.hid hv
  have HY : Hid (Yields (w.alloc (.cells #[] 5)) 22 v l) := (hv.later ((Turn.refl _ w).alloc _)).yields
  obtain ⟨A, c, rfl, hcc⟩ := hv
  clear hcc
  have HM0 := Lib.hid (made_empty w)
  obtain ⟨s, hs⟩ : ∃ s, s = more 0 l := ⟨_, rfl⟩
  have hs2 : Hid (s < 4294967296) := by rw [hs]; exact more_lt _ _
  have HS := Lib.hid hs; clear hs
  go_enter Try.func78, Try.ntmps78
  go_wp2_with (at_builtin; go_must (refine wpList_app (o := ⟨some 5, _, _, _, _, _⟩) _ rfl (.tmp 3) (.tmp 4) 22 rfl _ [] rfl HM0.out.1 _ rfl l HY.out (by simp; omega) ?_))
  intro A1 n1 c1 w1 hb hg ha
  have HM1 := Lib.hid (made_app HM0.out (Turn.refl _ _) hb hg ha (by simp))
  clear hb hg ha
  go_wp2_with (first
    | (go_at_call 90; refine (ref_sum _ l w1 (HV.out.later HM1.out.2.1) hl).mono ?_; rintro e w3 ⟨rfl, rfl⟩; rw [← HS.out])
    | (go_at_call 89; refine (tail_any s w1 hs2).mono ?_; rintro e w2 ⟨v2, rfl, hb2, ht2, _⟩; obtain ⟨A2, c2, rfl⟩ := hb2.shape; have HB2 := Lib.hid hb2; have HT2 := Lib.hid ht2; clear hb2 ht2)
    | (at_builtin; go_must (refine wpList_app (o := ⟨some 9, _, _, _, _, _⟩) _ rfl (.tmp 5) (.tmp 8) 22 rfl _ l rfl (HM1.out.1.turn HT2.out (fun _ _ f => f)) _ rfl (tl s) HB2.out.yields (by simp [tl_len]; omega) ?_)))
  intro A3 n3 c3 w3 hb hg ha
  have HM3 := Lib.hid (made_app HM1.out HT2.out hb hg ha rfl)
  clear hb hg ha
  go_wp2
  go_ret
  exact ⟨_, rfl, by rw [← HS.out]; exact HM3.out⟩

/-- What is got of bytes, and the fault. -/
def gets (l : List UInt8) : List UInt8 × Nat :=
  if l.length < 4 then ([], 3) else if l.drop (l.length - 4) == tl (more 0 (l.take (l.length - 4))) then (l.take (l.length - 4), 0) else ([], 5)

def GetPost (w : World) (l : List UInt8) (e : Ending) (w' : World) : Prop := ∃ v', e = .returned (.tuple #[v', .int .i64 (gets l).2]) ∧ Rd w' v' (gets l).1 ∧ Turn (fun _ => False) w w'
/-- Likewise, and where it lies. -/
def GetAt (Loc : Nat → Prop) (w : World) (l : List UInt8) (e : Ending) (w' : World) : Prop :=
  ∃ v', e = .returned (.tuple #[v', .int .i64 (gets l).2]) ∧ Rd w' v' (gets l).1 ∧ Turn (fun _ => False) w w' ∧ ∀ k, v'.ownBlock = some k → Loc k
theorem GetAt.post {Loc : Nat → Prop} {w w' : World} {l : List UInt8} {e : Ending} (h : GetAt Loc w l e w') : GetPost w l e w' := by
  obtain ⟨v', h1, h2, h3, _⟩ := h
  exact ⟨v', h1, h2, h3⟩

theorem get_few {Loc : Nat → Prop} {w w' : World} {l : List UInt8} (h : l.length < 4) (ht : Turn (fun _ => False) w w') : GetAt Loc w l (.returned (.tuple #[.slice none 0 0, .int .i64 3])) w' := by
  have e : gets l = ([], 3) := by unfold gets; rw [if_pos h]
  exact ⟨_, by rw [e]; rfl, by rw [e]; exact Rd.none _, ht, fun _ h => by cases h⟩
theorem get_bad {Loc : Nat → Prop} {w w' : World} {l : List UInt8} {n : Nat} (h : l.length = n + 4) (hs : (l.drop n == tl (more 0 (l.take n))) = false) (ht : Turn (fun _ => False) w w') : GetAt Loc w l (.returned (.tuple #[.slice none 0 0, .int .i64 5])) w' := by
  have e : gets l = ([], 5) := by unfold gets; rw [if_neg (by omega), show l.length - 4 = n by omega, hs]; rfl
  exact ⟨_, by rw [e]; rfl, by rw [e]; exact Rd.none _, ht, fun _ h => by cases h⟩
theorem get_good {Loc : Nat → Prop} {w w' : World} {l : List UInt8} {n : Nat} {v : Value} (h : l.length = n + 4) (hs : (l.drop n == tl (more 0 (l.take n))) = true) (hv : Rd w' v (l.take n)) (ht : Turn (fun _ => False) w w') (hk : ∀ k, v.ownBlock = some k → Loc k) :
    GetAt Loc w l (.returned (.tuple #[v, .int .i64 0])) w' := by
  have e : gets l = (l.take n, 0) := by unfold gets; rw [if_neg (by omega), show l.length - 4 = n by omega, hs]; rfl
  exact ⟨_, by rw [e]; rfl, by rw [e]; exact hv, ht, hk⟩

set_option maxRecDepth 100000 in
set_option maxHeartbeats 1000000 in
theorem crc_get_at (Loc : Nat → Prop) (v : Value) (l : List UInt8) (w : World) (hv : Rd w v l) (hl : l.length ≤ 1000000) (hloc : Hid (∀ k, w.heap.size ≤ k → Loc k)) :
    Calls Try.prog 65 #[v] w (GetAt Loc w l) := by
  have HV := Lib.hid hv
  obtain ⟨A, c, rfl, _⟩ := hv
  by_cases h4 : l.length < 4
  · go_enter Try.func65, Try.ntmps65
    go_wp2
    go_ret2
    exact get_few h4 (Turn.refl _ _)
  · obtain ⟨n, hn⟩ : ∃ n, l.length = n + 4 := ⟨l.length - 4, by omega⟩
    obtain ⟨ad, rfl⟩ := HV.out.some_at (by omega)
    have hcap := HV.out.fits.2
    rw [hn] at hcap hl HV
    have HN := Lib.hid hn
    rw [hn]
    clear hn h4
    unfold maxLen at hcap
    obtain ⟨hc1, hc2⟩ := hcap
    have HF := Lib.hid (HV.out.front n (by omega))
    have HB := Lib.hid (HV.out.back n (by omega))
    have HLF : Hid ((l.take n).length = n) := by rw [List.length_take, HN.out]; exact Nat.min_eq_left (by omega)
    have HLB : Hid ((l.drop n).length = 4) := by rw [List.length_drop, HN.out]; show n + 4 - n = 4; omega
    rw [show n + 4 - n = 4 by omega] at HB
    have HST : Hid (∀ k, Calls Try.prog 86 #[.int .u32 (more 0 (l.take n)), .slice (some (ad.add n)) 4 (c - n)] (w.drewN k) fun e w' => e = .returned (.bool (l.drop n == tl (more 0 (l.take n)))) ∧ w.drewN k = w') :=
      fun k => stands_any _ _ _ _ (HB.out.drewN k) HLB.out
    cases hq : l.drop n == tl (more 0 (l.take n)) with
    | false =>
      rw [hq] at HST
      have HQ := Lib.hid hq; clear hq
      go_enter Try.func65, Try.ntmps65
      go_wp2
      go_quiet ((first
        | (go_at_call 82; exact quiet_left (crc_sum _ (l.take n) _ (HF.out.drewN _) (by rw [HLF.out]; omega)))
        | (go_at_call 86; exact quiet_left (HST.out _))))
      go_wp2
      go_ret2
      exact get_bad HN.out HQ.out ((Turn.refl _ w).drewN _)
    | true =>
      rw [hq] at HST
      have HQ := Lib.hid hq; clear hq
      have hmk := run_make_row' (P := Try.prog) 22 5 (.int .u8 0) 1 Try.underlying22 u8_info rfl .i64 .i64 n (by omega) (by omega)
      obtain ⟨M, hM⟩ : ∃ M, M = (madeCells #[Value.int .u8 0] n).toList := ⟨_, rfl⟩
      have hmk2 : ∀ w : World, w.alloc (.cells (madeCells #[.int .u8 0] n) 5) = w.alloc (.cells M.toArray 5) := fun w => by rw [hM, Array.toArray_toList]
      simp only [hmk2] at hmk
      clear hmk2
      obtain ⟨X, hX⟩ : ∃ X, X = (l.take n).map bv := ⟨_, rfl⟩
      have HXL : Hid (X.length = n) := by rw [hX, List.length_map, HLF.out]; trivial
      have HML : Hid (M.length = n) := by rw [hM, Array.length_toList, size_madeCells]; trivial
      have HS : Hid (∀ k, 0 < (l.take n).length → ∃ ad', some ad = some ad' ∧ ∀ j v, X[j]? = some v → ((w.drewN k).alloc (.cells M.toArray 5)).cell? (ad'.add j) = some v) := fun k => copy_src (HF.out.drewN k) hX
      have HX := Lib.hid hX; clear hX hM
      have HG : Hid (∀ k, ((w.drewN k).alloc (.cells M.toArray 5)).heap[w.heap.size]? = some (.cells M.toArray 5 (0, 0))) := fun k => heap_alloc_new (w.drewN k) _
      have HBL : Hid (∀ k, Below w.heap.size w ((w.drewN k).alloc (.cells M.toArray 5))) := fun k => Turn.below (((Turn.refl (fun _ => False) w).drewN k).alloc _) (Nat.le_refl _) (fun _ f => f.elim)
      go_enter Try.func65, Try.ntmps65
      go_wp2
      go_quiet ((first
        | (go_at_call 82; exact quiet_left (crc_sum _ (l.take n) _ (HF.out.drewN _) (by rw [HLF.out]; omega)))
        | (go_at_call 86; exact quiet_left (HST.out _))))
      go_wp2_with (with_reducible refine wpList_copy_splice (o := ⟨some 26, _, _, _, _, _⟩) rfl (.tmp 22) (.tmp 25) 22 22 rfl 5 Try.underlying22 u8_size (some ⟨w.heap.size, 0, none⟩) (some ad) n n n c rfl rfl w.heap.size 0 M 5 (HG.out _) X (by rw [HXL.out]; exact (Nat.min_self _).symm) (fun h => ⟨rfl, HS.out _ (by rw [HLF.out, ← HXL.out]; exact h)⟩) (by rw [HXL.out, HML.out]; omega) (by rw [HX.out]; exact bv_one _) w.heap.size w (HBL.out _) (Nat.le_refl _) ?_; intro w2 HG2 hB2; have HT2 := Lib.hid (Below.turned hB2); clear hB2)
      go_ret2
      have h := HG2.out
      rw [HX.out, splice_full (by rw [HML.out, List.length_map, HLF.out])] at h
      have hb := Box.by h (by rw [HLF.out]; simp only [maxLen]; omega)
      rw [HLF.out] at hb
      exact get_good HN.out HQ.out hb.rd HT2.out (fun k hk => hloc.out k (Nat.le_of_eq (Option.some.inj hk)))

set_option maxRecDepth 100000 in
set_option maxHeartbeats 2000000 in
theorem ref_get_at (Loc : Nat → Prop) (v : Value) (l : List UInt8) (w : World) (hv : Rd w v l) (hl : l.length ≤ 1000000) (hloc : Hid (∀ k, v.ownBlock = some k → Loc k)) :
    Calls Try.prog 69 #[v] w (GetAt Loc w l) := by
  have HV := Lib.hid hv
  obtain ⟨A, c, rfl, _⟩ := hv
  by_cases h4 : l.length < 4
  · go_enter Try.func69, Try.ntmps69
    go_wp2
    go_ret2
    exact get_few h4 (Turn.refl _ _)
  · obtain ⟨n, hn⟩ : ∃ n, l.length = n + 4 := ⟨l.length - 4, by omega⟩
    obtain ⟨ad, rfl⟩ := HV.out.some_at (by omega)
    have hcap := HV.out.fits.2
    rw [hn] at hcap hl HV
    have HN := Lib.hid hn
    rw [hn]
    clear hn h4
    unfold maxLen at hcap
    obtain ⟨hc1, hc2⟩ := hcap
    have HF := Lib.hid (HV.out.front n (by omega))
    have HB := Lib.hid (HV.out.back n (by omega))
    have HLF : Hid ((l.take n).length = n) := by rw [List.length_take, HN.out]; exact Nat.min_eq_left (by omega)
    rw [show n + 4 - n = 4 by omega] at HB
    obtain ⟨s, hs⟩ : ∃ s, s = more 0 (l.take n) := ⟨_, rfl⟩
    have hs2 : Hid (s < 4294967296) := by rw [hs]; exact more_lt _ _
    have HSM := Lib.hid (fun W (h : Rd W (.slice (some ad) n c) (l.take n)) => hs ▸ ref_sum _ (l.take n) W h (by rw [HLF.out]; omega))
    have e0 := (HB.out.drew).string
    have hsl : ∀ W, (Instr.slice 22 (.slice (some ad) (n + 4) c) (some (.int .i64 (n : Int))) none none).run Try.prog W = .ok (.slice (some (ad.add n)) 4 (c - n)) W := fun W => by
      have hcn : ¬ c = n := by omega
      have h := run_slice_l (P := Try.prog) (w := W) 22 (some ad) (n + 4) c Try.underlying22 .i64 (n : Int) (by omega) (by omega)
      rw [h]
      simp [go_sem, hcn]
    have hwr : IntKind.i64.wrap (n : Int) = (n : Int) := IntWalk.i64_in _ (by omega)
    cases hq : tl s == l.drop n with
    | false =>
      have HQ : Hid ((l.drop n == tl (more 0 (l.take n))) = false) := by rw [← hs]; rw [beq_eq_false_iff_ne] at hq ⊢; exact fun e => hq e.symm
      clear hs
      go_enter Try.func69, Try.ntmps69
      go_wp2_with fail
      go_region_with (first
        | (go_at_call 90; refine (HSM.out _ (HF.out.drew)).mono ?_; rintro e w3 ⟨rfl, rfl⟩)
        | (go_at_call 89; refine (tail_any s w.drew hs2).mono ?_; rintro e w2 ⟨v2, rfl, hb2, ht2, _⟩; obtain ⟨A2, c2, rfl⟩ := hb2.shape; have e1 := ((HB.out.drew).later ht2).string; have e2 := hb2.rd.string; have HT2 := Lib.hid ht2; clear ht2 hb2))
      all_goals
        go_wp2_with fail
        go_ret2
        exact get_bad HN.out HQ.out ((Turn.refl _ w).drew.trans HT2.out (fun _ _ f => f))
    | true =>
      have HQ : Hid ((l.drop n == tl (more 0 (l.take n))) = true) := by rw [← hs]; rw [beq_iff_eq] at hq ⊢; exact hq.symm
      clear hs
      go_enter Try.func69, Try.ntmps69
      go_wp2_with fail
      go_region_with (first
        | (go_at_call 90; refine (HSM.out _ (HF.out.drew)).mono ?_; rintro e w3 ⟨rfl, rfl⟩)
        | (go_at_call 89; refine (tail_any s w.drew hs2).mono ?_; rintro e w2 ⟨v2, rfl, hb2, ht2, _⟩; obtain ⟨A2, c2, rfl⟩ := hb2.shape; have e1 := ((HB.out.drew).later ht2).string; have e2 := hb2.rd.string; have HT2 := Lib.hid ht2; clear ht2 hb2))
      all_goals
        go_wp2_with fail
        go_ret2
        exact get_good HN.out HQ.out ((HF.out.drew).later HT2.out) ((Turn.refl _ w).drew.trans HT2.out (fun _ _ f => f)) (fun k hk => hloc.out k hk)

theorem crc_get (v : Value) (l : List UInt8) (w : World) (hv : Rd w v l) (hl : l.length ≤ 1000000) : Calls Try.prog 65 #[v] w (GetPost w l) :=
  (crc_get_at (fun _ => True) v l w hv hl (fun _ _ => trivial)).mono fun _ _ h => h.post
theorem ref_get (v : Value) (l : List UInt8) (w : World) (hv : Rd w v l) (hl : l.length ≤ 1000000) : Calls Try.prog 69 #[v] w (GetPost w l) :=
  (ref_get_at (fun _ => True) v l w hv hl (fun _ _ => trivial)).mono fun _ _ h => h.post

end Go.Proofs.Ytgchfckmhibeaaa

/-
  Frames, on lists of bytes: what is taken of bytes, all frames with which bytes begin, and those that are left of cut ones.
-/
namespace Go.Proofs.Ytgchfckmhibeaaa
open Go.RowKit

theorem rdF_take : ∀ (g i acc : Nat) (l : List UInt8), rdF g i acc (l.take g) = rdF g i acc l
  | 0, _, _, _ => rfl
  | _ + 1, _, _, [] => rfl
  | g + 1, i, acc, b :: l => by
    rw [List.take_succ_cons]
    show (if 128 ≤ b.toNat then rdF g (i + 1) _ (l.take g) else _) = if 128 ≤ b.toNat then rdF g (i + 1) _ l else _
    rw [rdF_take g]
theorem rdNum_take (l : List UInt8) : rdNum (l.take 10) = rdNum l := rdF_take 10 0 0 l
theorem rdCount_take (most : Nat) (l : List UInt8) : rdCount most (l.take 10) = rdCount most l := by
  unfold rdCount
  rw [rdNum_take]

theorem rdF_long : ∀ (g i acc : Nat) (l : List UInt8), (rdF g i acc l).2.2 ≤ i + l.length
  | 0, i, _, _ => Nat.le_add_right _ _
  | _ + 1, i, _, [] => Nat.le_refl _
  | g + 1, i, acc, b :: l => by
    have h := rdF_long g (i + 1) (acc + (b.toNat - 128) * 128 ^ i) l
    show (if 128 ≤ b.toNat then _ else if _ then _ else _ : Nat × Nat × Nat).2.2 ≤ i + (l.length + 1)
    split
    · omega
    · split
      · show i + 1 ≤ _
        omega
      · show i + 1 ≤ _
        omega
theorem rdNum_long (l : List UInt8) : (rdNum l).2.2 ≤ l.length := by
  have := rdF_long 10 0 0 l
  unfold rdNum
  omega
theorem rdCount_at (most : Nat) (l : List UInt8) : (rdCount most l).2.2 = (rdNum l).2.2 := by
  unfold rdCount
  split
  · rfl
  · split <;> rfl
theorem rdNum_ten (l : List UInt8) : (rdNum l).2.2 ≤ 10 := by
  have := rdNum_long (l.take 10)
  rw [rdNum_take, List.length_take] at this
  omega

/-- What is read is just what would be put. -/
theorem rdF_canon : ∀ (g i acc : Nat) (l : List UInt8), (rdF g i acc l).2.1 = 0 →
    ∃ q, (rdF g i acc l).1 = acc + q * 128 ^ i ∧ (rdF g i acc l).2.2 = i + (encF (g - 1) q).length ∧ (0 < i → 0 < q)
  | 0, _, _, _, h => by cases h
  | _ + 1, _, _, [], h => by cases h
  | g + 1, i, acc, b :: l, h => by
    have e : rdF (g + 1) i acc (b :: l) = if 128 ≤ b.toNat then rdF g (i + 1) (acc + (b.toNat - 128) * 128 ^ i) l
      else if (0 < i ∧ b.toNat = 0) ∨ (i = 9 ∧ 1 < b.toNat) then (0, 4, i + 1) else (acc + b.toNat * 128 ^ i, 0, i + 1) := rfl
    rw [e] at h ⊢
    by_cases hb : 128 ≤ b.toNat
    · rw [if_pos hb] at h ⊢
      obtain ⟨q, h1, h2, h3⟩ := rdF_canon g (i + 1) _ l h
      have hq := h3 (by omega)
      have hlt : b.toNat < 256 := UInt8.toNat_lt b
      cases g with
      | zero => cases h
      | succ g =>
        refine ⟨b.toNat - 128 + q * 128, ?_, ?_, fun _ => by omega⟩
        · rw [h1, Nat.pow_succ, Nat.add_mul, Nat.mul_assoc q 128, Nat.mul_comm 128 (128 ^ i)]
          omega
        · have e2 : encF (g + 1) (b.toNat - 128 + q * 128) = mid (b.toNat - 128 + q * 128) :: encF g ((b.toNat - 128 + q * 128) / 128) := by
            show (if _ < 128 then _ else _) = _
            rw [if_neg (by omega)]
          show _ = i + (encF (g + 1) _).length
          rw [h2, e2, show (b.toNat - 128 + q * 128) / 128 = q by omega, List.length_cons]
          show i + 1 + (encF g q).length = _
          omega
    · rw [if_neg hb] at h ⊢
      by_cases hz : (0 < i ∧ b.toNat = 0) ∨ (i = 9 ∧ 1 < b.toNat)
      · rw [if_pos hz] at h
        cases h
      · rw [if_neg hz]
        refine ⟨b.toNat, rfl, ?_, fun hi => by omega⟩
        show i + 1 = i + (encF g b.toNat).length
        cases g with
        | zero => rfl
        | succ g =>
          have e2 : encF (g + 1) b.toNat = [low b.toNat] := by
            show (if _ < 128 then _ else _) = _
            rw [if_pos (by omega)]
          rw [e2]
          rfl
theorem rdNum_canon (l : List UInt8) (h : (rdNum l).2.1 = 0) : (rdNum l).2.2 = (enc (rdNum l).1).length := by
  obtain ⟨q, h1, h2, _⟩ := rdF_canon 10 0 0 l h
  have e : (rdNum l).1 = q := by
    show (rdF 10 0 0 l).1 = q
    rw [h1]
    simp
  rw [e]
  show (rdF 10 0 0 l).2.2 = _
  rw [h2]
  show 0 + (encF 9 q).length = (encF 9 q).length
  omega

theorem encF_ten : ∀ (g n : Nat), (encF g n).length ≤ g + 1
  | 0, n => Nat.le_refl _
  | g + 1, n => by
    show (if n < 128 then [low n] else mid n :: encF g (n / 128)).length ≤ _
    have := encF_ten g (n / 128)
    split
    · simp
    · rw [List.length_cons]
      omega
theorem enc_ten (n : Nat) : (enc n).length ≤ 10 := encF_ten 9 n

/-- How many bytes a frame has; a payload's frame. -/
def sz (n : Nat) : Nat := (enc n).length + n + 4
def fr (p : List UInt8) : List UInt8 := enc p.length ++ (p ++ tl (more 0 p))
theorem fr_len (p : List UInt8) : (fr p).length = sz p.length := by
  unfold fr sz
  rw [List.length_append, List.length_append, tl_len]
  omega
theorem sz_pos (n : Nat) : 5 ≤ sz n := by
  have := enc_pos n
  unfold sz
  omega

/-- The payload of the frame with which bytes begin, how many bytes the frame has, the fault. -/
def takes (l : List UInt8) : List UInt8 × Nat × Nat :=
  if (rdCount 4194304 l).2.1 ≠ 0 then ([], 0, (rdCount 4194304 l).2.1)
  else if l.length < (rdCount 4194304 l).2.2 + (rdCount 4194304 l).1 + 4 then ([], 0, 3)
  else if (gets ((l.drop (rdCount 4194304 l).2.2).take ((rdCount 4194304 l).1 + 4))).2 ≠ 0 then ([], 0, (gets ((l.drop (rdCount 4194304 l).2.2).take ((rdCount 4194304 l).1 + 4))).2)
  else ((gets ((l.drop (rdCount 4194304 l).2.2).take ((rdCount 4194304 l).1 + 4))).1, (rdCount 4194304 l).2.2 + (rdCount 4194304 l).1 + 4, 0)

theorem gets_put (p : List UInt8) : gets (p ++ tl (more 0 p)) = (p, 0) := by
  have e : (p ++ tl (more 0 p)).length = p.length + 4 := by rw [List.length_append, tl_len]
  unfold gets
  rw [if_neg (by omega), e, show p.length + 4 - 4 = p.length by omega, List.drop_left, List.take_left, if_pos (by simp)]
theorem gets_len (x : List UInt8) (h : (gets x).2 = 0) : (gets x).1.length + 4 = x.length := by
  unfold gets at h ⊢
  by_cases h4 : x.length < 4
  · rw [if_pos h4] at h
    cases h
  · rw [if_neg h4] at h ⊢
    split at h
    · rw [if_pos ‹_›]
      show (x.take (x.length - 4)).length + 4 = x.length
      rw [List.length_take]
      omega
    · cases h

theorem rdCount_fr (n : Nat) (rest : List UInt8) (h : n ≤ 4194304) : rdCount 4194304 (enc n ++ rest) = (n, 0, (enc n).length) := by
  unfold rdCount
  rw [rdNum_enc n rest (by show n < 18446744073709551616; omega)]
  show (if (0 : Nat) ≠ 0 then _ else if 4194304 < n then _ else _) = _
  rw [if_neg (by omega), if_neg (by omega)]

theorem takes_fr (p rest : List UInt8) (h : p.length ≤ 4194304) : takes (fr p ++ rest) = (p, sz p.length, 0) := by
  have e : fr p ++ rest = enc p.length ++ ((p ++ tl (more 0 p)) ++ rest) := by unfold fr; rw [List.append_assoc]
  have e1 := rdCount_fr p.length ((p ++ tl (more 0 p)) ++ rest) h
  have e2 : (p ++ tl (more 0 p)).length = p.length + 4 := by rw [List.length_append, tl_len]
  have e3 : gets (((enc p.length ++ ((p ++ tl (more 0 p)) ++ rest)).drop (enc p.length).length).take (p.length + 4)) = (p, 0) := by
    rw [List.drop_left, ← e2, List.take_left, gets_put]
  unfold takes
  rw [e, e1]
  show (if (0 : Nat) ≠ 0 then _ else _) = _
  rw [if_neg (by omega)]
  show (if _ < (enc p.length).length + p.length + 4 then _ else _) = _
  rw [if_neg (by rw [List.length_append, List.length_append, e2]; omega)]
  show (if (gets (((enc p.length ++ ((p ++ tl (more 0 p)) ++ rest)).drop (enc p.length).length).take (p.length + 4))).2 ≠ 0 then _ else ((gets (((enc p.length ++ ((p ++ tl (more 0 p)) ++ rest)).drop (enc p.length).length).take (p.length + 4))).1, (enc p.length).length + p.length + 4, 0)) = _
  rw [e3, if_neg (by simp)]
  rfl

theorem takes_cut (p : List UInt8) (m : Nat) (h : p.length ≤ 4194304) (hm : m < (fr p).length) : (takes ((fr p).take m)).2.2 ≠ 0 := by
  rw [fr_len] at hm
  by_cases hc : m < (enc p.length).length
  · have e : (fr p).take m = (enc p.length).take m := by
      unfold fr
      rw [List.take_append_of_le_length (by omega)]
    have e1 : (rdCount 4194304 ((enc p.length).take m)).2.1 = 3 := by
      unfold rdCount
      rw [rdNum_cut _ _ hc]
      rfl
    unfold takes
    rw [e, if_pos (by rw [e1]; omega)]
    show (rdCount 4194304 ((enc p.length).take m)).2.1 ≠ 0
    rw [e1]
    omega
  · have e : (fr p).take m = enc p.length ++ (p ++ tl (more 0 p)).take (m - (enc p.length).length) := by
      unfold fr
      rw [List.take_append, List.take_of_length_le (by omega)]
    have e1 := rdCount_fr p.length ((p ++ tl (more 0 p)).take (m - (enc p.length).length)) h
    have e2 : (p ++ tl (more 0 p)).length = p.length + 4 := by rw [List.length_append, tl_len]
    unfold takes
    rw [e, e1]
    show (if (0 : Nat) ≠ 0 then _ else if _ < (enc p.length).length + p.length + 4 then _ else _ : List UInt8 × Nat × Nat).2.2 ≠ 0
    unfold sz at hm
    rw [if_neg (by omega), if_pos (by rw [List.length_append, List.length_take, e2]; omega)]
    show (3 : Nat) ≠ 0
    omega

theorem takes_nil : (takes []).2.2 ≠ 0 := by decide

/-- A frame that is taken has as many bytes as its payload's frame has. -/
theorem takes_sz (l : List UInt8) (h : (takes l).2.2 = 0) : (takes l).2.1 = sz (takes l).1.length ∧ (takes l).2.1 ≤ l.length ∧ (takes l).1.length ≤ 4194304 := by
  unfold takes at h ⊢
  by_cases h1 : (rdCount 4194304 l).2.1 ≠ 0
  · rw [if_pos h1] at h
    exact absurd h h1
  · rw [if_neg h1] at h ⊢
    by_cases h2 : l.length < (rdCount 4194304 l).2.2 + (rdCount 4194304 l).1 + 4
    · rw [if_pos h2] at h
      cases h
    · rw [if_neg h2] at h ⊢
      by_cases h3 : (gets ((l.drop (rdCount 4194304 l).2.2).take ((rdCount 4194304 l).1 + 4))).2 ≠ 0
      · rw [if_pos h3] at h
        exact absurd h h3
      · rw [if_neg h3]
        have h4 : (gets ((l.drop (rdCount 4194304 l).2.2).take ((rdCount 4194304 l).1 + 4))).2 = 0 := by omega
        have h5 := gets_len _ h4
        rw [List.length_take, List.length_drop] at h5
        have h6 : (rdCount 4194304 l).2.1 = 0 := by omega
        have h7 : (rdNum l).2.1 = 0 ∧ (rdCount 4194304 l).1 = (rdNum l).1 ∧ (rdNum l).1 ≤ 4194304 := by
          unfold rdCount at h6 ⊢
          split at h6
          · exact absurd h6 (by assumption)
          · rename_i h8
            rw [if_neg h8]
            split at h6
            · cases h6
            · rename_i h9
              rw [if_neg h9]
              exact ⟨by omega, rfl, by omega⟩
        have h8 := rdNum_canon l h7.1
        have h9 := rdCount_at 4194304 l
        show (rdCount 4194304 l).2.2 + (rdCount 4194304 l).1 + 4 = sz _ ∧ _ ∧ _
        have h10 : (gets ((l.drop (rdCount 4194304 l).2.2).take ((rdCount 4194304 l).1 + 4))).1.length = (rdCount 4194304 l).1 := by omega
        rw [h10, h9, h8, ← h7.2.1]
        refine ⟨rfl, ?_, by omega⟩
        rw [h9, h8, ← h7.2.1] at h2
        show (enc (rdCount 4194304 l).1).length + (rdCount 4194304 l).1 + 4 ≤ l.length
        omega

/-- All frames with which the bytes l begin, from place i on; where they end. -/
def allF : Nat → Nat → List UInt8 → List (Nat × List UInt8)
  | 0, _, _ => []
  | f + 1, i, l => if (takes l).2.2 ≠ 0 then [] else (i, (takes l).1) :: allF f (i + (takes l).2.1) (l.drop (takes l).2.1)
def allOf (l : List UInt8) : List (Nat × List UInt8) := allF (l.length + 1) 0 l
/-- Where frames end that begin one behind the other at place i. -/
def endOf : Nat → List (Nat × List UInt8) → Nat
  | i, [] => i
  | _, x :: t => endOf (x.1 + sz x.2.length) t

theorem allF_stop {f i : Nat} {l : List UInt8} (h : (takes l).2.2 ≠ 0) : allF f i l = [] := by
  cases f with
  | zero => rfl
  | succ f =>
    show (if (takes l).2.2 ≠ 0 then [] else _) = _
    rw [if_pos h]
theorem allF_step {f i : Nat} {l : List UInt8} (h : (takes l).2.2 = 0) : allF (f + 1) i l = (i, (takes l).1) :: allF f (i + (takes l).2.1) (l.drop (takes l).2.1) := by
  show (if (takes l).2.2 ≠ 0 then [] else _) = _
  rw [if_neg (by omega)]
/-- Enough is enough. -/
theorem allF_fuel : ∀ (f g i : Nat) (l : List UInt8), l.length < f → l.length < g → allF f i l = allF g i l
  | 0, _, _, _, h, _ => absurd h (by omega)
  | _, 0, _, _, _, h => absurd h (by omega)
  | f + 1, g + 1, i, l, hf, hg => by
    by_cases h : (takes l).2.2 = 0
    · have hs := takes_sz l h
      have hp := sz_pos (takes l).1.length
      rw [allF_step h, allF_step h, allF_fuel f g _ _ (by rw [List.length_drop]; omega) (by rw [List.length_drop]; omega)]
    · rw [allF_stop h, allF_stop h]

/-- Those of payloads whose frames are whole within m bytes. -/
def upto : Nat → List (List UInt8) → List (List UInt8)
  | _, [] => []
  | m, p :: L => if sz p.length ≤ m then p :: upto (m - sz p.length) L else []
def joined (L : List (List UInt8)) : List UInt8 := L.flatMap fr
/-- All bytes that frames of payloads have. -/
def total (L : List (List UInt8)) : Nat := (L.map fun p => sz p.length).sum

theorem joined_len : ∀ (L : List (List UInt8)), (joined L).length = total L
  | [] => rfl
  | p :: L => by
    have := joined_len L
    unfold joined total at this ⊢
    rw [List.flatMap_cons, List.length_append, this, fr_len, List.map_cons, List.sum_cons]

/-- How frames of payloads lie, from place i on. -/
def laid : Nat → List (List UInt8) → List (Nat × List UInt8)
  | _, [] => []
  | i, p :: L => (i, p) :: laid (i + sz p.length) L
theorem laid_map : ∀ (i : Nat) (L : List (List UInt8)), (laid i L).map (·.2) = L
  | _, [] => rfl
  | i, p :: L => by
    show p :: (laid _ L).map (·.2) = p :: L
    rw [laid_map]
theorem laid_end : ∀ (i : Nat) (L : List (List UInt8)), endOf i (laid i L) = i + total L
  | _, [] => rfl
  | i, p :: L => by
    show endOf (i + sz p.length) (laid (i + sz p.length) L) = _
    rw [laid_end]
    unfold total
    rw [List.map_cons, List.sum_cons]
    omega

theorem allF_cut : ∀ (L : List (List UInt8)) (f i m : Nat), (∀ p ∈ L, p.length ≤ 4194304) → ((joined L).take m).length < f → allF f i ((joined L).take m) = laid i (upto m L)
  | [], f, i, m, _, _ => by
    have e : (joined []).take m = [] := List.take_nil
    rw [e]
    exact allF_stop takes_nil
  | p :: L, 0, _, _, _, h => absurd h (by omega)
  | p :: L, f + 1, i, m, hL, hf => by
    have hp := hL p (by simp)
    have hl := fr_len p
    have hz := sz_pos p.length
    have e : joined (p :: L) = fr p ++ joined L := List.flatMap_cons
    by_cases hm : sz p.length ≤ m
    · have e1 : (joined (p :: L)).take m = fr p ++ (joined L).take (m - sz p.length) := by
        rw [e, List.take_append, List.take_of_length_le (by omega), hl]
      have e2 := takes_fr p ((joined L).take (m - sz p.length)) hp
      rw [e1] at hf ⊢
      rw [allF_step (by rw [e2])]
      rw [e2]
      show (i, p) :: allF f (i + sz p.length) ((fr p ++ (joined L).take (m - sz p.length)).drop (sz p.length)) = _
      rw [← hl, List.drop_left, hl]
      rw [allF_cut L f _ _ (fun q hq => hL q (List.mem_cons_of_mem _ hq)) (by rw [List.length_append] at hf; omega)]
      rw [show upto m (p :: L) = if sz p.length ≤ m then p :: upto (m - sz p.length) L else [] from rfl, if_pos hm]
      rfl
    · have e1 : (joined (p :: L)).take m = (fr p).take m := by
        rw [e, List.take_append_of_le_length (by omega)]
      rw [e1, allF_stop (takes_cut p m hp (by omega))]
      rw [show upto m (p :: L) = if sz p.length ≤ m then p :: upto (m - sz p.length) L else [] from rfl, if_neg hm]
      rfl

theorem upto_prefix : ∀ (m : Nat) (L : List (List UInt8)), upto m L <+: L
  | _, [] => List.prefix_refl _
  | m, p :: L => by
    unfold upto
    split
    · exact List.cons_prefix_cons.2 ⟨rfl, upto_prefix _ L⟩
    · exact List.nil_prefix
theorem upto_total : ∀ (m : Nat) (L : List (List UInt8)), total (upto m L) ≤ m
  | _, [] => Nat.zero_le _
  | m, p :: L => by
    unfold upto
    split
    · have := upto_total (m - sz p.length) L
      unfold total at this ⊢
      rw [List.map_cons, List.sum_cons]
      omega
    · exact Nat.zero_le _
/-- The next one is not whole. -/
theorem upto_more : ∀ (m : Nat) (L : List (List UInt8)) (p : List UInt8), L[(upto m L).length]? = some p → m < total (upto m L) + sz p.length
  | _, [], p, h => by simp [upto] at h
  | m, q :: L, p, h => by
    unfold upto at h ⊢
    by_cases hm : sz q.length ≤ m
    · rw [if_pos hm] at h ⊢
      have := upto_more (m - sz q.length) L p (by simpa using h)
      unfold total at this ⊢
      rw [List.map_cons, List.sum_cons]
      omega
    · rw [if_neg hm] at h ⊢
      have e : q = p := by simpa using h
      subst e
      show m < 0 + sz q.length
      omega

end Go.Proofs.Ytgchfckmhibeaaa

/-
  A range over a function whose iterator hands out memory of its own: what such an iterator promises ('Gives'), and the statement's law ('over').
-/
namespace Go.Proofs.Ytgchfckmhibeaaa
open Go.RowKit

/-- Blocks from D on that hold no cells; that hold a walk. -/
def odd (D : Nat) (A : World) (k : Nat) : Prop := D ≤ k ∧ ∃ o, A.heap[k]? = some o ∧ o.isCells = false
def strides (D : Nat) (A : World) (k : Nat) : Prop := D ≤ k ∧ ∃ o, A.heap[k]? = some o ∧ o.isWalk = true

theorem Turn.none {S : Nat → Prop} {A B : World} (h : Turn (fun _ => False) A B) : Turn S A B := h.mono (fun _ _ f => f.elim)
theorem Turn.ofStrides {D D' : Nat} {A B : World} (h : Turn (strides D A) A B) (hd : D' ≤ D) : Turn (odd D' A) A B :=
  h.mono (fun _ _ ⟨h1, o, h2, h3⟩ => ⟨Nat.le_trans hd h1, o, h2, Obj.not_cells_of_walk h3⟩)
theorem Turn.putObj (A : World) (l : Nat) (o : Obj) {S : Nat → Prop} (hl : S l) : Turn S A (A.putObj l o) :=
  ⟨rfl, rfl, rfl, by simp [World.putObj], fun k _ hn => World.putObj_heap_other (fun e => hn (e ▸ hl))⟩
theorem Box.odd {w w' : World} {g D : Nat} {t : TypeId} {cs : Array Value} (h : Box w g t cs) (ht : Turn (odd D w) w w') : Box w' g t cs := by
  refine h.turn ht ?_
  rintro ⟨_, o, ho, hc⟩
  rw [show w.heap[g]? = _ from h] at ho
  cases ho
  cases hc
theorem Rd.odd {w w' : World} {D : Nat} {v : Value} {l : List UInt8} (h : Rd w v l) (ht : Turn (odd D w) w w') : Rd w' v l := by
  obtain ⟨A, c, rfl, hk, hn, hc⟩ := h
  refine ⟨A, c, rfl, hk, hn, fun ad e j b hj => ?_⟩
  have h1 := hc ad e j b hj
  have hlt := World.block_lt_of_cell? w _ h1
  rw [ht.cell hlt ?_]
  · exact h1
  · rintro ⟨_, o, ho, hf⟩
    obtain ⟨o', ho', hf'⟩ := cells_of_cell h1
    rw [ho] at ho'
    cases ho'
    rw [hf] at hf'
    cases hf'

/-- What abides that blocks which hold no cells, from D on, are turned, and new ones laid. -/
def Holds {β : Type} (D : Nat) (I : β → World → Prop) : Prop := ∀ s A B, I s A → Turn (odd D A) A B → I s B
def Walks {β : Type} (D : Nat) (I : β → World → Prop) : Prop := ∀ s A B, I s A → Turn (strides D A) A B → I s B

theorem Holds.walks {β : Type} {D D' : Nat} {I : β → World → Prop} (h : Holds D I) (hd : D ≤ D') : Walks D' I := fun s A B hs ht => h s A B hs (ht.ofStrides hd)
theorem Holds.put {β : Type} {D : Nat} {I : β → World → Prop} (h : Holds D I) {s : β} {A : World} {l : Nat} {o : Obj} (o' : Obj) (hs : I s A) (hD : D ≤ l) (hl : A.heap[l]? = some o) (ho : o.isCells = false) : I s (A.putObj l o') :=
  h s A _ hs (Turn.putObj A l o' ⟨hD, o, hl, ho⟩)
theorem Holds.and {β : Type} {D : Nat} {I K : β → World → Prop} (h : Holds D I) (k : Holds D K) : Holds D (fun s W => I s W ∧ K s W) := fun s A B hs ht => ⟨h s A B hs.1 ht, k s A B hs.2 ht⟩
theorem holds_pure {β : Type} (D : Nat) (p : β → Prop) : Holds D (fun s (_ : World) => p s) := fun _ _ _ hs _ => hs
theorem holds_box {β : Type} (D g : Nat) (t : TypeId) (f : β → Array Value) : Holds D (fun s W => Box W g t (f s)) := fun _ _ _ hs ht => hs.odd ht
theorem holds_rd {β : Type} (D : Nat) (v : Value) (l : β → List UInt8) : Holds D (fun s W => Rd W v (l s)) := fun _ _ _ hs ht => hs.odd ht
theorem holds_turn {β : Type} {D : Nat} {w : World} {S : Nat → Prop} (hS : ∀ k, k < w.heap.size → D ≤ k → S k) : Holds D (fun (_ : β) W => Turn S w W) := fun _ _ _ hs ht => hs.trans ht (fun k hk h => hS k hk h.1)

/-- The contract of an iterator value: what it hands a round ('Gv'), what a round that goes on may turn ('S'), what has come when it is done ('All'), or stopped ('Part'). -/
def Gives {α : Type} (n : Nat) (g : Nat) (lb : Array Value) (encs : α → Array Value) (S : Nat → Prop) (Gv : List α → α → World → Prop) (All Part : List α → Prop) (w : World) : Prop :=
  ∀ (l : Nat) (J Jx : List α → World → Prop) (W : World), Turn (fun _ => False) w W → Walks W.heap.size J → Walks W.heap.size Jx →
    (∀ pre x W1, J pre W1 → Gv pre x W1 → YieldAt Fence.wide (n - 1) Try.prog l (encs x) W1 fun e W' =>
      (e = .returned (.bool true) ∧ J (pre ++ [x]) W' ∧ Turn S W1 W') ∨ (e = .returned (.bool false) ∧ Jx (pre ++ [x]) W')) →
    J [] W →
    CallsIn Fence.wide n Try.prog g (#[.func (.yield l) #[] #[]] ++ lb) W fun e W' => (∃ v, e = .returned v) ∧ ((∃ xs, All xs ∧ J xs W') ∨ (∃ pre, Part pre ∧ Jx pre W'))

/-- 'for .. := range g { body }' over an iterator that has such a contract. -/
theorem over {α : Type} {n : Nat} {g : Operand} {ps : Array Tmp} {assign body : Code} {Q : Exit → Act → World → Prop} {a : Act} {w w0 : World} (h1 : 1 ≤ n)
    {gf : Nat} {lb : Array Value} (hg : a.eval g = .func (.func gf) #[] lb) (eg : ∀ args w, (callFunc gf args).run Try.prog w = .ok (.enter gf args) w)
    {encs : α → Array Value} {S : Nat → Prop} {Gv : List α → α → World → Prop} {All Part : List α → Prop} (hseq : Gives (n - 1) gf lb encs S Gv All Part w0) (hb0 : Turn (fun _ => False) w0 w)
    (hS : ∀ k, w.heap.size ≤ k → S k) (hG : ∀ pre, Holds w.heap.size (Gv pre)) (hps : ∀ x, (encs x).size = ps.size)
    (I : List α → World → Prop) (Ix : Code → List α → World → Prop) (hI : Holds w.heap.size I) (hIx : ∀ c, Holds w.heap.size (Ix c)) (h0 : I [] w) (a₁ : α → Act)
    (hassign : ∀ (l : Nat) (x : α) (W : World) (K : Act → World → Prop), K (a₁ x) W →
      assign.wpIn (Fence.wide.inRound l) (n - 1 - 1) Try.prog (Exit.then K (fun _ _ _ => False)) { tmps := (ps.zip (encs x)).foldl (fun t (p, v) => t.setIfInBounds p v) a.tmps, defers := [] } W)
    (hbody : ∀ (l : Nat) (pre : List α) (x : α) (W : World), I pre W → Gv pre x W → body.wpIn (Fence.wide.inRound l) (n - 1 - 1) Try.prog (ownPostK (Turn S) I Ix (pre ++ [x]) W) (a₁ x) W)
    (hdone : ∀ (D : Nat) (xs : List α) (W : World), w.heap.size ≤ D → All xs → I xs W → W.heap[D]? = some (.deferred (some [])) → Q .normal { a with defers := { target := .collected D, args := #[] } :: a.defers } W)
    (hstop : ∀ (D : Nat) (c : Code) (pre : List α) (W : World), w.heap.size ≤ D → Part pre → Ix c pre W → W.heap[D]? = some (.deferred (some [])) → c.wpIn Fence.wide n Try.prog Q { a with defers := { target := .collected D, args := #[] } :: a.defers } W) :
    (Code.rangeFunc g ps assign body).wpIn Fence.wide n Try.prog Q a w := by
  refine wpIn_rangeFunc fun fn hfn => ?_
  obtain ⟨R, hR⟩ : ∃ R : LoopState → Option Code → Obj, R = fun st pe => .loop { state := st, pending := pe, fn, tmps := a.tmps, params := ps, assign, body, defers := w.heap.size } := ⟨_, rfl⟩
  -- the two blocks of the statement: the rounds' deferred calls, and its record, in a state
  obtain ⟨Bk, hBk⟩ : ∃ Bk : LoopState → Option Code → World → Prop, Bk = fun st pe W => W.heap[w.heap.size + 1]? = some (R st pe) ∧ W.heap[w.heap.size]? = some (.deferred (some [])) := ⟨_, rfl⟩
  obtain ⟨W1, hW1⟩ : ∃ W1, (w.alloc (.deferred (some []))).alloc (R .ready none) = W1 := ⟨_, rfl⟩
  have hsz : W1.heap.size = w.heap.size + 2 := by rw [← hW1]; simp
  have t1 : Turn (fun _ => False) w W1 := by rw [← hW1]; exact ((Turn.refl _ w).alloc _).alloc _
  have k1 : Bk .ready none W1 := by
    rw [hBk]
    refine ⟨?_, ?_⟩
    · have := World.alloc_heap_new (w.alloc (.deferred (some []))) (R .ready none)
      rw [World.size_alloc] at this
      rw [← hW1]
      exact this
    · rw [← hW1]
      exact (Below.heap_alloc _ _ _ (by simp)).trans (World.alloc_heap_new w _)
  have move : ∀ {D : Nat} {st : LoopState} {pe : Option Code} {A B : World}, w.heap.size + 2 ≤ D → Turn (strides D A) A B → Bk st pe A → Bk st pe B := by
    intro D st pe A B hD ht hk
    rw [hBk] at hk ⊢
    have far : ∀ k, k < w.heap.size + 2 → k < A.heap.size → B.heap[k]? = A.heap[k]? := fun k hk1 hk2 => ht.block k hk2 (fun s => by have := s.1; omega)
    exact ⟨(far _ (by omega) (Array.getElem?_eq_some_iff.1 hk.1).1).trans hk.1, (far _ (by omega) (Array.getElem?_eq_some_iff.1 hk.2).1).trans hk.2⟩
  have put : ∀ {st st' : LoopState} {pe pe' : Option Code} {A : World}, Bk st pe A → Bk st' pe' (A.putObj (w.heap.size + 1) (R st' pe')) ∧ Turn (odd w.heap.size A) A (A.putObj (w.heap.size + 1) (R st' pe')) := by
    intro st st' pe pe' A hk
    rw [hBk] at hk ⊢
    refine ⟨⟨World.putObj_heap_same (Array.getElem?_eq_some_iff.1 hk.1).1, (World.putObj_heap_other (by omega)).trans hk.2⟩, Turn.putObj _ _ _ ⟨by omega, _, hk.1, ?_⟩⟩
    rw [hR]
    rfl
  have toS : ∀ {A B : World}, Turn (odd w.heap.size A) A B → Turn S A B := fun h => h.mono (fun k _ s => hS k s.1)
  have keep : ∀ {st : LoopState} {pe : Option Code} {A B : World}, KeepsOthers A B → Bk st pe A → Bk st pe B := by
    intro st pe A B h hk
    rw [hBk] at hk ⊢
    exact ⟨h.same _ _ hk.1 (by rw [hR]; rfl), h.same _ _ hk.2 rfl⟩
  refine ⟨w.heap.size + 1, [{ target := .collected w.heap.size, args := #[] }], W1, { target := .fn (.func gf) lb, args := #[.func (.yield (w.heap.size + 1)) #[] #[]] }, W1, gf,
    #[.func (.yield (w.heap.size + 1)) #[] #[]] ++ lb, W1, ?_, ?_, ?_, ?_, fun _ => h1, ?_⟩
  · rw [← hW1, hR]
    exact run_enterLoop_outer _ _ _ _ _
  · simp only [resolve, hg]
    simp [go_sem]
  · intro f' _
    trivial
  · simp [invoke, go_sem, eg]
  · refine (hseq (w.heap.size + 1) (fun pre W => I pre W ∧ Bk .ready none W) (fun pre W => ∃ c, Ix c pre W ∧ Bk .done (some c) W) W1 (hb0.trans t1 (fun _ _ f => f))
      (fun s A B hs ht => ⟨(hI.walks (by omega)) s A B hs.1 ht, move (by omega) ht hs.2⟩)
      (fun s A B hs ht => by
        obtain ⟨c, hc, hk⟩ := hs
        exact ⟨c, ((hIx c).walks (by omega)) s A B hc ht, move (by omega) ht hk⟩)
      ?_ ⟨hI _ _ _ h0 t1.none, k1⟩).mono ?_
    · rintro pre x W ⟨hi, hk⟩ hgv
      have hl : W.heap[w.heap.size + 1]? = some (R .ready none) := by rw [hBk] at hk; exact hk.1
      rw [hR] at hl
      have hy := run_yield (P := Try.prog) (args := encs x) hl (hps x)
      refine ⟨fn, _, assign, body, hy, roundIn_of_wpIn hfn (hassign _ x W _ ⟨_, run_beginRound hl rfl, ?_⟩)⟩
      have hp := put (st' := .busy) (pe' := none) hk
      rw [hR] at hp
      refine wpIn_mono (hbody _ pre x _ (hI _ _ _ hi hp.2) (hG _ _ _ _ hgv hp.2)) ?_
      have ends : ∀ (jump : Option Code) (W3 : World), KeepsOthers (W.putObj (w.heap.size + 1) (.loop { state := .busy, pending := none, fn, tmps := a.tmps, params := ps, assign, body, defers := w.heap.size })) W3 →
          ∃ W4, (Instr.endRound (w.heap.size + 1) jump).run Try.prog W3 = .ok (.bool jump.isNone) W4 ∧ Bk (if jump.isNone then .ready else .done) jump W4 ∧ Turn (odd w.heap.size W3) W3 W4 := by
        intro jump W3 hk3
        have h3 := keep hk3 hp.1
        have hl3 : W3.heap[w.heap.size + 1]? = some (R .busy none) := by rw [hBk] at h3; exact h3.1
        have h4 := put (st' := if jump.isNone then .ready else .done) (pe' := jump) h3
        rw [hR] at hl3 h4
        exact ⟨_, run_endRound jump hl3, h4.1, h4.2⟩
      rintro e a3 W3 hpost
      cases e with
      | normal =>
        obtain ⟨hk3, ht3, hi3⟩ := hpost
        obtain ⟨W4, hr, hb4, ht4⟩ := ends none W3 hk3
        exact ⟨_, _, hr, .inl ⟨rfl, ⟨hI _ _ _ hi3 ht4, hb4⟩, ((toS hp.2).trans ht3 (fun _ _ s => s)).trans (toS ht4) (fun _ _ s => s)⟩⟩
      | ret =>
        obtain ⟨hk3, hi3⟩ := hpost
        obtain ⟨W4, hr, hb4, ht4⟩ := ends (some .ret) W3 hk3
        exact ⟨_, _, hr, .inr ⟨rfl, .ret, hIx _ _ _ _ hi3 ht4, hb4⟩⟩
      | exit id =>
        obtain ⟨hk3, hi3⟩ := hpost
        obtain ⟨W4, hr, hb4, ht4⟩ := ends (some (.exit id)) W3 hk3
        exact ⟨_, _, hr, .inr ⟨rfl, .exit id, hIx _ _ _ _ hi3 ht4, hb4⟩⟩
      | goto t =>
        obtain ⟨hk3, hi3⟩ := hpost
        obtain ⟨W4, hr, hb4, ht4⟩ := ends (some (.goto t)) W3 hk3
        exact ⟨_, _, hr, .inr ⟨rfl, .goto t, hIx _ _ _ _ hi3 ht4, hb4⟩⟩
      | panic ch => exact hpost.elim
      | outgrown => exact hpost.elim
    · have shut : ∀ {st : LoopState} {pe : Option Code} {W2 : World}, st ≠ .busy → Bk st pe W2 → ∃ W3, (Instr.endLoop (w.heap.size + 1)).run Try.prog W2 = .ok pe W3 ∧ W3.heap[w.heap.size]? = some (.deferred (some [])) ∧ Turn (odd w.heap.size W2) W2 W3 := by
        intro st pe W2 hst hk
        have hl : W2.heap[w.heap.size + 1]? = some (R st pe) := by rw [hBk] at hk; exact hk.1
        have h4 := put (st' := .exhausted) (pe' := pe) hk
        have h5 : (W2.putObj (w.heap.size + 1) (R .exhausted pe)).heap[w.heap.size]? = some (.deferred (some [])) := by have h6 := h4.1; rw [hBk] at h6; exact h6.2
        rw [hR] at hl h4 h5
        exact ⟨_, run_endLoop hl hst, h5, h4.2⟩
      rintro e W2 ⟨⟨v, rfl⟩, (⟨xs, hA, hi, hk⟩ | ⟨pre, hP, c, hi, hk⟩)⟩
      · obtain ⟨W3, hr, hd, ht⟩ := shut (by simp) hk
        exact ⟨none, W3, hr, hdone _ xs _ (Nat.le_refl _) hA (hI _ _ _ hi ht) hd⟩
      · obtain ⟨W3, hr, hd, ht⟩ := shut (by simp) hk
        exact ⟨some c, W3, hr, hstop _ c pre _ (Nat.le_refl _) hP (hIx c _ _ _ hi ht) hd⟩

theorem KeepsOthers.turned {A B : World} (h : Turn (fun _ => False) A B) : KeepsOthers A B := ⟨h.size, fun k _ hk _ => (h.block k (Array.getElem?_eq_some_iff.1 hk).1 (fun f => f)).trans hk⟩

end Go.Proofs.Ytgchfckmhibeaaa

/-
  Rows of elements of one cell that a call owns: what they hold, what leaves them as they are, one element put behind them. Rows of numbers.
-/
namespace Go.Proofs.Ytgchfckmhibeaaa
open Go.RowKit

/-- Slice value v, at the head of a row of its own, or nil: its elements, of one cell each, of type e, are xs. -/
def Row (e : TypeId) (w : World) (v : Value) (xs : List Value) : Prop := w.ownsRow 0 e 1 v xs.length xs

section
variable {e : TypeId} {w w' : World} {v : Value} {xs : List Value}
theorem Row.nil (e : TypeId) (w : World) : Row e w (.slice none 0 0) [] := World.ownsRow_nil w 0 _ 1
theorem Row.lt (h : Row e w v xs) {k : Nat} (hk : v.ownBlock = some k) : k < w.heap.size := (World.ownsRow.lt h k hk).2
theorem Row.turn {S : Nat → Prop} (h : Row e w v xs) (ht : Turn S w w') (hn : ∀ k, v.ownBlock = some k → ¬ S k) : Row e w' v xs := by
  refine ⟨h.1, ?_⟩
  rcases h.2 with h0 | ⟨g, cap, cur, rfl, hb, hg, rest⟩
  · exact .inl h0
  · exact .inr ⟨g, cap, cur, rfl, hb, (ht.block g (Array.getElem?_eq_some_iff.1 hg).1 (hn g rfl)).trans hg, rest⟩
theorem Row.later (h : Row e w v xs) (ht : Turn (fun _ => False) w w') : Row e w' v xs := h.turn ht (fun _ _ f => f)
theorem Row.grown {row : Option Nat} (h : Row e w v xs) (hg : w.grownBy w' row) (hn : v.ownBlock = none ∨ v.ownBlock ≠ row) : Row e w' v xs := World.ownsRow.kept h hg hn
theorem Row.form (h : Row e w v xs) : (v = .slice none 0 0 ∧ xs = []) ∨ ∃ g cap cur, v = .slice (some ⟨g, 0, none⟩) xs.length cap ∧ Box w g e cur ∧ xs.length ≤ cap ∧ cap ≤ maxLen ∧ cur.size = cap ∧ cur.toList.take xs.length = xs := by
  rcases h.2 with ⟨h0, h1⟩ | ⟨g, cap, cur, hv, _, hg, hn, hm, hs, ht⟩
  · exact .inl ⟨h0, List.eq_nil_of_length_eq_zero h1⟩
  · exact .inr ⟨g, cap, cur, hv, hg, hn, hm, by simpa using hs, by simpa using ht⟩
theorem Row.shape (h : Row e w v xs) : ∃ A c, v = .slice A xs.length c := by
  rcases h.form with ⟨rfl, rfl⟩ | ⟨g, cap, cur, rfl, _⟩
  · exact ⟨_, _, rfl⟩
  · exact ⟨_, _, rfl⟩
theorem Row.bounds {A : Option Addr} {n c : Nat} (h : Row e w (.slice A n c) xs) : n = xs.length ∧ xs.length ≤ c ∧ c ≤ maxLen := by
  rcases h.form with ⟨h1, rfl⟩ | ⟨g, cap, cur, h1, _, h2, h3, _⟩
  · injection h1 with h4 h5 h6
    subst h4 h5 h6
    exact ⟨rfl, by simp, by simp⟩
  · injection h1 with h4 h5 h6
    subst h4 h5 h6
    exact ⟨rfl, h2, h3⟩
/-- Rows of elements of two types are two rows. -/
theorem Row.apart {e' : TypeId} {v' : Value} {xs' : List Value} (h : Row e w v xs) (h' : Row e' w v' xs') (hne : e ≠ e') : v.ownBlock = none ∨ v.ownBlock ≠ v'.ownBlock := by
  rcases h.form with ⟨rfl, _⟩ | ⟨g, cap, cur, rfl, hb, _⟩
  · exact .inl rfl
  · rcases h'.form with ⟨rfl, _⟩ | ⟨g', cap', cur', rfl, hb', _⟩
    · exact .inr (by simp [Value.ownBlock])
    · refine .inr fun e1 => ?_
      obtain rfl : g = g' := by simpa [Value.ownBlock] using e1
      have e2 := hb.symm.trans hb'
      injection e2 with e2
      injection e2 with _ e3
      exact hne e3
theorem Row.not_box {g : Nat} {t : TypeId} {cs : Array Value} (h : Row e w v xs) (hb : Box w g t cs) (hne : e ≠ t) : v.ownBlock ≠ some g := by
  rcases h.form with ⟨rfl, _⟩ | ⟨g', cap, cur, rfl, hb', _⟩
  · simp [Value.ownBlock]
  · intro e1
    obtain rfl : g' = g := by simpa [Value.ownBlock] using e1
    have e2 := hb'.symm.trans hb
    injection e2 with e2
    injection e2 with _ e3
    exact hne e3
theorem Row.at {A : Option Addr} {n c : Nat} (h : Row e w (.slice A n c) xs) {j : Nat} {x : Value} (hj : xs[j]? = some x) : ∃ ad, A = some ad ∧ w.cell? (ad.add j) = some x := by
  rcases h.form with ⟨_, rfl⟩ | ⟨g, cap, cur, h1, hb, _⟩
  · cases hj
  · injection h1 with h4 h5 h6
    subst h4
    have := World.ownsRow.cells h (g := g) rfl j x (by simpa using hj)
    exact ⟨_, rfl, this⟩
end

/-- A row that a call has made since w. -/
def MadeRow (e : TypeId) (w w' : World) (v : Value) (xs : List Value) : Prop := Row e w' v xs ∧ ∀ k, v.ownBlock = some k → w.heap.size ≤ k

/-- append of one element onto a row of one's own, or nil. -/
theorem wpList_push {w : World} {ops : Array Oper} {rest : List Oper} {o : Oper} {a : Act} {Q : Exit → Act → World → Prop} (hgd : o.guard = none) (s x : Operand) (t e : TypeId) {b : Nat}
    (ht : Try.prog.underlying t = some (.slice e)) {z : Value} (hz : (Try.prog.info? e).map (fun i => (i.zero, i.size, i.bytes)) = some (some z, 1, b)) (hzs : z.cells.size = 1) (hb : b ≤ 1000)
    (ho : o.op = .call { callee := .builtin .append, args := #[s, x], argTypes := #[t, t] }) (v : Value) (xs : List Value) (hs : a.eval s = v) (hown : Row e w v xs)
    (g : Nat) (y : Value) (hx : a.eval x = .slice (some ⟨g, 0, none⟩) 1 1) (hy : w.cell? ⟨g, 0, none⟩ = some y) (hy1 : y.oneCell' = true) (hl : xs.length ≤ 1000000000)
    (h : ∀ A n c w', Row e w' (.slice A n c) (xs ++ [y]) → w.grownBy w' v.ownBlock → ((Value.slice A n c).ownBlock = v.ownBlock ∨ (Value.slice A n c).ownBlock = some w.heap.size) → wpList Try.prog ops Q rest (a.put o.dst (.slice A n c)) w') :
    wpList Try.prog ops Q (o :: rest) a w := by
  refine wpList_plain hgd fun K hK => ?_
  obtain ⟨i, hi, hz0, h1, h2⟩ := info_parts hz
  have hsrc : Src Try.prog i.size t (.slice (some ⟨g, 0, none⟩) 1 1) 1 [y] w := by
    rw [h1]
    refine Src.ofSlice (P := Try.prog) w (size := 1) ht ⟨g, 0, none⟩ 1 1 [y] rfl ?_ ?_
    · intro j u hj
      cases j with
      | zero =>
        obtain rfl : y = u := by simpa using hj
        simpa [Addr.add] using hy
      | succ j => simp at hj
    · intro u hu
      obtain rfl : u = y := by simpa using hu
      exact hy1
  unfold Row at hown
  rw [← h1] at hown
  obtain ⟨A, n, c, w', hr, g1, g2, g3⟩ := run_app (P := Try.prog) w t t o.type e i z ht hi hz0 (by rw [h1]; exact hzs) v xs.length xs hown _ 1 [y] hsrc
    (by simp only [maxLen]; omega) (by rw [h2]; have : (xs.length + 1) * b ≤ 1000000001 * 1000 := Nat.mul_le_mul (by omega) hb; omega)
  unfold Oper.wp execOp
  simp only [ho, resolve, invoke, builtin, Sem.run_bind, Sem.run_pure, Result.andThen_ok, List.map_toArray, List.map_cons, List.map_nil, hs, hx, hr]
  refine hK _ _ (h A n c w' ?_ g2 g3)
  unfold Row
  rw [List.length_append, ← h1]
  exact g1

theorem int_info : (Try.prog.info? 3).map (fun i => (i.zero, i.size, i.bytes)) = some (some (.int .i64 0), 1, 8) := by kernel_rfl
theorem bytes_info : (Try.prog.info? 22).map (fun i => (i.zero, i.size, i.bytes)) = some (some (.slice none 0 0), 1, 24) := by kernel_rfl

/-- A slice value that reads as the numbers L. -/
def Nums (w : World) (v : Value) (L : List Nat) : Prop :=
  ∃ A c, v = .slice A L.length c ∧ ∀ (j n : Nat), L[j]? = some n → ∃ ad, A = some ad ∧ w.cell? (ad.add j) = some (.int .i64 (n : Int))
def nv (n : Nat) : Value := .int .i64 (n : Int)
theorem Row.nums {w : World} {v : Value} {L : List Nat} (h : Row 3 w v (L.map nv)) : Nums w v L := by
  obtain ⟨A, c, rfl⟩ := h.shape
  refine ⟨A, c, by rw [List.length_map], fun j n hj => ?_⟩
  exact h.at (x := nv n) (by rw [List.getElem?_map, hj]; rfl)
theorem Nums.at {w : World} {A : Option Addr} {n c : Nat} {L : List Nat} (h : Nums w (.slice A n c) L) {k x : Nat} (hk : L[k]? = some x) : ∃ ad, A = some ad ∧ w.cell? (ad.add k) = some (.int .i64 (x : Int)) := by
  obtain ⟨A', c', hv, hx⟩ := h
  injection hv with h1 h2 h3
  subst h1
  exact hx k x hk
theorem Nums.shape {w : World} {v : Value} {L : List Nat} (h : Nums w v L) : ∃ A c, v = .slice A L.length c := by
  obtain ⟨A, c, e, _⟩ := h
  exact ⟨A, c, e⟩
theorem cell_odd {w w' : World} {D : Nat} {a : Addr} {x : Value} (hc : w.cell? a = some x) (ht : Turn (odd D w) w w') : w'.cell? a = some x := by
  rw [ht.cell (World.block_lt_of_cell? w _ hc) ?_]
  · exact hc
  · rintro ⟨_, o, ho, hf⟩
    obtain ⟨o', ho', hf'⟩ := cells_of_cell hc
    rw [ho] at ho'
    cases ho'
    rw [hf] at hf'
    cases hf'
theorem Nums.odd {w w' : World} {D : Nat} {v : Value} {L : List Nat} (h : Nums w v L) (ht : Turn (odd D w) w w') : Nums w' v L := by
  obtain ⟨A, c, e, hx⟩ := h
  refine ⟨A, c, e, fun j n hj => ?_⟩
  obtain ⟨ad, e1, hc⟩ := hx j n hj
  exact ⟨ad, e1, cell_odd hc ht⟩
theorem Nums.later {w w' : World} {v : Value} {L : List Nat} (h : Nums w v L) (ht : Turn (fun _ => False) w w') : Nums w' v L := h.odd (D := 0) ht.none

/-- What lies below what may turn. -/
theorem Nums.below {w w' : World} {D : Nat} {v : Value} {L : List Nat} (h : Nums w v L) (ht : Turn (fun k => D ≤ k) w w') (hD : w.heap.size ≤ D) : Nums w' v L := by
  obtain ⟨A, c, e, hx⟩ := h
  refine ⟨A, c, e, fun j n hj => ?_⟩
  obtain ⟨ad, e1, hc⟩ := hx j n hj
  have hlt := World.block_lt_of_cell? w _ hc
  exact ⟨ad, e1, by rw [ht.cell hlt (by omega)]; exact hc⟩
theorem Rd.below {w w' : World} {D : Nat} {v : Value} {l : List UInt8} (h : Rd w v l) (ht : Turn (fun k => D ≤ k) w w') (hD : w.heap.size ≤ D) : Rd w' v l := by
  obtain ⟨A, c, rfl, hk, hn, hc⟩ := h
  refine ⟨A, c, rfl, hk, hn, fun ad e j b hj => ?_⟩
  have h1 := hc ad e j b hj
  have hlt := World.block_lt_of_cell? w _ h1
  rw [ht.cell hlt (by omega)]
  exact h1

end Go.Proofs.Ytgchfckmhibeaaa

/-
  Rows of slices of bytes; several put one behind the other; a frame put.
-/
namespace Go.Proofs.Ytgchfckmhibeaaa
open Go.RowKit

/-- A slice value whose elements are slices of the bytes L. -/
def Rds (w : World) (v : Value) (L : List (List UInt8)) : Prop :=
  ∃ A c, v = .slice A L.length c ∧ (L.length ≤ c ∧ c ≤ maxLen) ∧ ∀ j l, L[j]? = some l → ∃ ad u, A = some ad ∧ w.cell? (ad.add j) = some u ∧ Rd w u l

theorem Rds.at {w : World} {A : Option Addr} {n c : Nat} {L : List (List UInt8)} (h : Rds w (.slice A n c) L) {k : Nat} {l : List UInt8} (hk : L[k]? = some l) :
    ∃ ad A1 c1, A = some ad ∧ w.cell? (ad.add k) = some (.slice A1 l.length c1) ∧ Rd w (.slice A1 l.length c1) l := by
  obtain ⟨A', c', hv, _, hx⟩ := h
  injection hv with h1 h2 h3
  subst h1
  obtain ⟨ad, u, e, hc, hr⟩ := hx k l hk
  obtain ⟨A1, c1, rfl⟩ := hr.shape
  exact ⟨ad, A1, c1, e, hc, hr⟩
theorem Rds.shape {w : World} {v : Value} {L : List (List UInt8)} (h : Rds w v L) : ∃ A c, v = .slice A L.length c := by
  obtain ⟨A, c, e, _⟩ := h
  exact ⟨A, c, e⟩
theorem Rds.later {w w' : World} {v : Value} {L : List (List UInt8)} (h : Rds w v L) (ht : Turn (fun _ => False) w w') : Rds w' v L := by
  obtain ⟨A, c, e, hk, hx⟩ := h
  refine ⟨A, c, e, hk, fun j l hj => ?_⟩
  obtain ⟨ad, u, e1, hc, hr⟩ := hx j l hj
  exact ⟨ad, u, e1, by rw [ht.cell (World.block_lt_of_cell? w _ hc) (fun f => f)]; exact hc, hr.later ht⟩
theorem Rds.odd {w w' : World} {D : Nat} {v : Value} {L : List (List UInt8)} (h : Rds w v L) (ht : Turn (odd D w) w w') : Rds w' v L := by
  obtain ⟨A, c, e, hk, hx⟩ := h
  refine ⟨A, c, e, hk, fun j l hj => ?_⟩
  obtain ⟨ad, u, e1, hc, hr⟩ := hx j l hj
  refine ⟨ad, u, e1, ?_, hr.odd ht⟩
  rw [ht.cell (World.block_lt_of_cell? w _ hc) ?_]
  · exact hc
  · rintro ⟨_, o, ho, hf⟩
    obtain ⟨o', ho', hf'⟩ := cells_of_cell hc
    rw [ho] at ho'
    cases ho'
    rw [hf] at hf'
    cases hf'

theorem Rds.below {w w' : World} {D : Nat} {v : Value} {L : List (List UInt8)} (h : Rds w v L) (ht : Turn (fun k => D ≤ k) w w') (hD : w.heap.size ≤ D) : Rds w' v L := by
  obtain ⟨A, c, e, hk, hx⟩ := h
  refine ⟨A, c, e, hk, fun j l hj => ?_⟩
  obtain ⟨ad, u, e1, hc, hr⟩ := hx j l hj
  have hlt := World.block_lt_of_cell? w _ hc
  exact ⟨ad, u, e1, by rw [ht.cell hlt (by omega)]; exact hc, hr.below ht hD⟩

theorem flat_step {L : List (List UInt8)} {k : Nat} {l : List UInt8} (h : L[k]? = some l) : (L.take (k + 1)).flatten = (L.take k).flatten ++ l := by
  obtain ⟨h1, h2⟩ := List.getElem?_eq_some_iff.1 h
  rw [List.take_succ_eq_append_getElem h1, h2, List.flatten_append]
  simp
theorem flat_le (L : List (List UInt8)) (k : Nat) : (L.take k).flatten.length ≤ L.flatten.length := by
  have e : L.flatten = (L.take k).flatten ++ (L.drop k).flatten := by rw [← List.flatten_append, List.take_append_drop]
  rw [e, List.length_append]
  omega
theorem flat_in {L : List (List UInt8)} {k : Nat} {l : List UInt8} (h : L[k]? = some l) : (L.take k).flatten.length + l.length ≤ L.flatten.length := by
  have := flat_le L (k + 1)
  rw [flat_step h, List.length_append] at this
  exact this

/-- append of n zero bytes onto nil. -/
theorem run_grow_bytes (w : World) (n : Nat) (h0 : 0 < n) (hn : n ≤ 1000000000) (ty : TypeId) :
    (Builtin.append_ #[22, 3] ty #[.slice none 0 0, .int .i64 n]).run Try.prog w =
      .ok (.slice (some ⟨w.heap.size, 0, none⟩) n (grownCap w n 0 5))
        (w.drew.alloc (.cells (Builtin.zeroCells #[.int .u8 0] n ++ Builtin.zeroCells #[.int .u8 0] (grownCap w n 0 5 - n)) 5)) := by
  obtain ⟨i, hi, hz, h1, h2⟩ := info_parts u8_info
  have hfit := growslice_fits (need := n) (old := 0) (bytes := 1) h0 (by omega)
  have h3 : ¬ (n ≤ 0) := by omega
  have h4 : ¬ ((n : Int) > 9223372036854775807) := by omega
  have h5 : IntKind.i64.wrap (n : Int) = (n : Int) := IntWalk.i64_in _ (by omega)
  have h6 : ¬ ((n : Int) < 0) := by omega
  have h7 : ¬ ((n : Int) > 281474976710656) := by omega
  have h8 : ¬ (281474976710656 < Builtin.nextslicecap n 0) := by omega
  have h9 : n ≠ 0 := by omega
  simp [Builtin.append_, run_underlying Try.underlying22, run_underlying Try.underlying3, sizeOf, typeInfo, zeroValue, hi, hz, h1, h2, h5, h6, h7, h8, h9, Question.forced, newRow, grownCap, Builtin.firstCells, Value.cells, asInt, asIntOf]
  intro h
  omega

theorem grown_bytes (w : World) (n : Nat) : Made w (w.drew.alloc (.cells (Builtin.zeroCells #[.int .u8 0] n ++ Builtin.zeroCells #[.int .u8 0] (grownCap w n 0 5 - n)) 5)) (.slice (some ⟨w.heap.size, 0, none⟩) 0 (grownCap w n 0 5)) [] ∨ maxLen < n := by
  by_cases hm : n ≤ maxLen
  · refine .inl ⟨⟨rfl, .inr ⟨w.heap.size, _, _, rfl, Nat.zero_le _, heap_alloc_new w.drew _, Nat.zero_le _, grownCap_le_maxLen w n 0 _ hm, ?_, rfl⟩⟩, (Turn.refl _ w).drew.alloc _, fun k hk => ?_⟩
    · have := grownCap_ge w n 0 5
      rw [Array.size_append, size_zeroCells, size_zeroCells]
      simp
      omega
    · have : w.heap.size = k := by simpa [Value.ownBlock] using hk
      omega
  · exact .inr (by omega)

theorem wpList_grow (w : World) {ops : Array Oper} {rest : List Oper} {o : Oper} {a : Act} {Q : Exit → Act → World → Prop} (hgd : o.guard = none) (s x : Operand)
    (ho : o.op = .call { callee := .builtin .append, args := #[s, x], argTypes := #[22, 3] }) (hs : a.eval s = .slice none 0 0) (n : Nat) (hx : a.eval x = .int .i64 n) (h0 : 0 < n) (hn : n ≤ 1000000000)
    (h : ∀ c w', n ≤ c → c ≤ maxLen → Made w w' (.slice (some ⟨w.heap.size, 0, none⟩) 0 c) [] → wpList Try.prog ops Q rest (a.put o.dst (.slice (some ⟨w.heap.size, 0, none⟩) n c)) w') :
    wpList Try.prog ops Q (o :: rest) a w := by
  refine wpList_plain hgd fun K hK => ?_
  have hr := run_grow_bytes w n h0 hn o.type
  have hm : n ≤ maxLen := by simp only [maxLen]; omega
  unfold Oper.wp execOp
  simp only [ho, resolve, invoke, builtin, Sem.run_bind, Sem.run_pure, Result.andThen_ok, List.map_toArray, List.map_cons, List.map_nil, hs, hx, hr]
  exact hK _ _ (h _ _ (grownCap_ge w n 0 _) (grownCap_le_maxLen w n 0 _ hm) ((grown_bytes w n).resolve_right (by omega)))

set_option maxRecDepth 100000 in
set_option maxHeartbeats 400000 in
theorem grow_nil (n : Nat) (w : World) (hn : n ≤ 1000000000) :
    Calls Try.prog 81 #[.slice none 0 0, .int .i64 n] w fun e w' => ∃ v', e = .returned v' ∧ Made w w' v' [] := by
  by_cases h0 : 0 < n
  · go_enter Try.func81, Try.ntmps81
    go_wp2_with (at_builtin; go_must (refine wpList_grow w rfl _ _ rfl rfl n rfl h0 hn ?_))
    intro c w1 hc1 hc2 hm
    have HM := Lib.hid hm; clear hm
    have hc3 : c ≤ 9223372036854775807 := by simp only [maxLen] at hc2; omega
    clear hc2
    go_wp2
    go_ret
    exact ⟨_, rfl, HM.out⟩
  · obtain rfl : n = 0 := by omega
    go_enter Try.func81, Try.ntmps81
    go_wp2
    go_ret
    exact ⟨_, rfl, By.nil _, Turn.refl _ _, fun k h => by cases h⟩

set_option maxRecDepth 100000 in
set_option maxHeartbeats 1000000 in
theorem concat_any (v : Value) (L : List (List UInt8)) (w : World) (hv : Rds w v L) (hl : L.flatten.length ≤ 1000000) (hn : L.length ≤ 1000000) :
    Calls Try.prog 60 #[v] w fun e w' => ∃ v', e = .returned v' ∧ Made w w' v' L.flatten := by
  have HV := Lib.hid hv; clear hv
  obtain ⟨A, c, rfl⟩ := HV.out.shape
  go_enter Try.func60, Try.ntmps60
  go_wp2_with fail
  go_loop [3, 11] (fun x3 x11 => ∃ k : Nat, x11 = .int .i64 k ∧ k ≤ L.length ∧ x3 = .int .i64 (L.take k).flatten.length) (fun _ x11 => L.length - (intOf x11).toNat)
  case atStart => exact ⟨0, rfl, Nat.zero_le _, by simp⟩
  case round =>
    obtain ⟨k, rfl, hk, rfl⟩ := hrel
    by_cases h : k < L.length
    · obtain ⟨l, hkl⟩ : ∃ l, L[k]? = some l := ⟨_, List.getElem?_eq_getElem h⟩
      obtain ⟨ad, A1, c1, rfl, hc1, hr1⟩ := HV.out.at hkl
      have hin := flat_in hkl
      have hst : Hid ((L.take (k + 1)).flatten.length = (L.take k).flatten.length + l.length) := by rw [flat_step hkl, List.length_append]; trivial
      have HR1 := Lib.hid hr1; clear hr1 hkl
      obtain ⟨q, hq⟩ : ∃ q, q = (L.take k).flatten.length := ⟨_, rfl⟩
      rw [← hq] at hst hin ⊢
      clear hq
      go_wp2
      go_round
      case rel => exact ⟨k + 1, by go_num, by omega, by rw [hst.out]; go_num⟩
      case measure => simp [intOf]; omega
    · obtain rfl : k = L.length := by omega
      rw [List.take_length]
      obtain ⟨T, hT⟩ : ∃ T, T = L.flatten.length := ⟨_, rfl⟩
      rw [← hT] at hl ⊢
      have HTL := Lib.hid hT; clear hT
      go_wp2_with (go_at_call 81; refine (grow_nil T w (by omega)).mono ?_; rintro e w1 ⟨v1, rfl, hm⟩; have HM := Lib.hid hm; clear hm)
      go_loopw [6, 27] (fun x6 x27 wr => ∃ k : Nat, x27 = .int .i64 k ∧ k ≤ L.length ∧ Made w wr x6 (L.take k).flatten) (fun _ x27 _ => L.length - (intOf x27).toNat)
      case atStart => exact ⟨0, rfl, Nat.zero_le _, by simpa using HM.out⟩
      case round =>
        obtain ⟨k, rfl, hk, hm⟩ := hrel
        have HKL := Lib.hid (flat_le L k)
        obtain ⟨m, hmk⟩ : ∃ m, m = (L.take k).flatten := ⟨_, rfl⟩
        rw [← hmk] at hm HKL
        have HMK := Lib.hid hmk; clear hmk
        have HK := Lib.hid hm; clear hm
        obtain ⟨A6, c6, rfl⟩ := HK.out.1.shape
        by_cases h : k < L.length
        · obtain ⟨l, hkl⟩ : ∃ l, L[k]? = some l := ⟨_, List.getElem?_eq_getElem h⟩
          obtain ⟨ad, A1, c1, rfl, hc1, hr1⟩ := (HV.out.later HK.out.2.1).at hkl
          have HIN := Lib.hid (flat_in hkl)
          have HST := Lib.hid (flat_step hkl)
          have HR1 := Lib.hid hr1; clear hr1 hkl
          go_wp2_with (at_builtin; go_must (refine wpList_app _ rfl _ _ _ rfl _ m rfl HK.out.1 _ rfl l HR1.out.yields (by have := HIN.out; have := HTL.out; have := congrArg List.length HMK.out; omega) ?_))
          intro A2 n2 c2 w2 hb hg ha
          have HB := Lib.hid (made_app HK.out (Turn.refl _ _) hb hg ha rfl)
          clear hb hg ha
          go_wp2
          go_roundw
          case rel => exact ⟨k + 1, by go_num, by omega, by rw [HST.out, ← HMK.out]; exact HB.out⟩
          case measure => simp [intOf]; omega
        · obtain rfl : k = L.length := by omega
          go_wp2
          go_ret
          exact ⟨_, rfl, by have h1 := HK.out; have h2 := HMK.out; rw [List.take_length] at h2; rw [h2] at h1; rw [h2]; exact h1⟩

theorem rds_two {w : World} {q : Nat} {u1 u2 : Value} {l1 l2 : List UInt8} (hb : Box w q 22 #[u1, u2]) (h1 : Rd w u1 l1) (h2 : Rd w u2 l2) : Rds w (.slice (some ⟨q, 0, none⟩) 2 2) [l1, l2] := by
  refine ⟨_, _, rfl, ⟨Nat.le_refl _, by simp [maxLen]⟩, fun j l hj => ?_⟩
  match j, hj with
  | 0, hj =>
    obtain rfl : l1 = l := by simpa using hj
    exact ⟨_, u1, rfl, hb.cell 0, h1⟩
  | 1, hj =>
    obtain rfl : l2 = l := by simpa using hj
    exact ⟨_, u2, rfl, hb.cell 1, h2⟩

theorem hid_len (n : Nat) (h : n ≤ 1000000000) : Hid (n < 18446744073709551616) := by
  show n < 18446744073709551616
  omega

set_option maxRecDepth 100000 in
set_option maxHeartbeats 400000 in
theorem head_any (n : Nat) (w : World) (hn : n ≤ 1000000000) :
    Calls Try.prog 49 #[.int .i64 n] w fun e w' => ∃ v', e = .returned v' ∧ Made w w' v' (enc n) := by
  have H0 := Lib.hid (Own.new w)
  have hwr : IntKind.u64.wrap (n : Int) = (n : Int) := by rw [IntKind.wrap_u64]; omega
  have HH := hid_len n hn
  go_enter Try.func49, Try.ntmps49
  go_wp2_with (first
    | (go_at_call 36; refine (num_put w.heap.size _ [] n _ H0.out.1 HH (by simp)).mono ?_; rintro e w1 ⟨rfl, u1, h⟩; have H1 := Lib.hid (H0.out.put h); clear h)
    | (go_at_call 38; refine (bytes_any w.heap.size u1 _ w1 H1.out.1 (by have := enc_len n; simp; omega)).mono ?_; rintro e w2 ⟨v2, rfl, hb, ht, hk⟩; have HB2 := Lib.hid hb; have HT2 := Lib.hid ht; have HK2 := Lib.hid hk; clear hb ht hk))
  go_ret
  exact ⟨_, rfl, HB2.out, H1.out.2.1.fresh HT2.out (fun _ f => f.elim), fun k hk => Nat.le_trans H1.out.2.1.size (HK2.out k hk)⟩

/-- The walk stands still here. -/
def Halt (p : Prop) : Prop := p
theorem halt {p : Prop} (h : Halt p) : p := h

theorem wpList_sub {w : World} {ops : Array Oper} {rest : List Oper} {o : Oper} {a : Act} {Q : Exit → Act → World → Prop} (hgd : o.guard = none) (x y : Operand)
    (ho : o.op = .binOp .sub 3 x y 3) (p q z : Int) (hx : a.eval x = .int .i64 p) (hy : a.eval y = .int .i64 q) (hz : IntKind.i64.wrap (p - q) = z)
    (h : wpList Try.prog ops Q rest (a.put o.dst (.int .i64 z)) w) : wpList Try.prog ops Q (o :: rest) a w := by
  subst hz
  refine wpList_plain hgd fun K hK => ?_
  unfold Oper.wp execOp
  simp only [ho, hx, hy, Sem.run_bind, Sem.run_pure]
  exact hK _ _ h

theorem wpList_gtr {w : World} {ops : Array Oper} {rest : List Oper} {o : Oper} {a : Act} {Q : Exit → Act → World → Prop} (hgd : o.guard = none) (x y : Operand)
    (ho : o.op = .binOp .gtr 3 x y 3) (p q : Int) (b : Bool) (hx : a.eval x = .int .i64 p) (hy : a.eval y = .int .i64 q) (hz : decide (q < p) = b)
    (h : wpList Try.prog ops Q rest (a.put o.dst (.bool b)) w) : wpList Try.prog ops Q (o :: rest) a w := by
  subst hz
  refine wpList_plain hgd fun K hK => ?_
  unfold Oper.wp execOp
  simp only [ho, hx, hy, Sem.run_bind, Sem.run_pure]
  exact hK _ _ h

set_option maxRecDepth 100000 in
set_option maxHeartbeats 400000 in
theorem size_any (n : Nat) (w : World) (hn : n ≤ 1000000000) :
    Calls Try.prog 28 #[.int .i64 n] w fun e w' => e = .returned (.int .i64 (sz n)) ∧ Turn (fun _ => False) w w' := by
  have hx := enc_len n
  have HZ : Hid (sz n = (enc n).length + n + 4) := rfl
  obtain ⟨q, hq⟩ : ∃ q, q = (enc n).length := ⟨_, rfl⟩
  rw [← hq] at hx HZ
  have HQ := Lib.hid hq; clear hq
  obtain ⟨M, hM⟩ : ∃ M : Int, M = 9223372036854775807 := ⟨_, rfl⟩
  have hM1 : 4000000000 ≤ M := by omega
  have HW : Hid (IntKind.i64.wrap (9223372036854775807 - ((q : Int) + 4)) = M - ((q : Int) + 4)) := by rw [hM]; exact IntWalk.i64_in _ (by omega)
  have hcmp : Hid (decide (M - ((q : Int) + 4) < (n : Int)) = false) := decide_eq_false (by omega)
  clear hM
  go_enter Try.func28, Try.ntmps28
  go_wp2_with (first | (with_reducible refine wpList_sub (o := ⟨some 12, _, _, _, _, _⟩) rfl _ _ rfl _ _ _ rfl rfl HW.out ?_) | (with_reducible refine wpList_gtr (o := ⟨some 13, _, _, _, _, _⟩) rfl _ _ rfl _ _ _ rfl rfl hcmp.out ?_; refine halt ?_) | go_at_call 49; refine (head_any n w hn).mono ?_; rintro e w1 ⟨v1, rfl, hm⟩; obtain ⟨A1, c1, rfl⟩ := hm.1.shape; have HT := Lib.hid hm.2.1; clear hm; rw [← HQ.out])
  unfold Halt
  apply wpList_nil
  go_simp
  go_wp2
  go_ret
  exact ⟨ret_int (by rw [HZ.out]; omega), HT.out⟩

set_option maxRecDepth 100000 in
set_option maxHeartbeats 400000 in
theorem frame_put (v : Value) (l : List UInt8) (w : World) (hv : Rd w v l) (hl : l.length ≤ 900000) :
    Calls Try.prog 37 #[v] w fun e w' => ∃ v', e = .returned v' ∧ Made w w' v' (fr l) := by
  have HV := Lib.hid hv
  obtain ⟨A, c, rfl, _⟩ := hv
  obtain ⟨m, hm⟩ : ∃ m, m = l ++ tl (more 0 l) := ⟨_, rfl⟩
  have HML : Hid (m.length = l.length + 4) := by rw [hm, List.length_append, tl_len]; trivial
  have HFR : Hid (fr l = [enc l.length, m].flatten) := by rw [hm]; show fr l = _; simp [fr]
  have HMM := Lib.hid hm; clear hm
  obtain ⟨hd, hh⟩ : ∃ hd, hd = enc l.length := ⟨_, rfl⟩
  have HHL : Hid (hd.length ≤ 10) := by rw [hh]; exact enc_len _
  rw [← hh] at HFR
  have HHH := Lib.hid hh; clear hh
  go_enter Try.func37, Try.ntmps37
  go_wp2_with (first
    | (go_at_call 49; refine (head_any l.length w (by omega)).mono ?_; rintro e w1 ⟨v1, rfl, hm⟩; rw [← HHH.out] at hm; obtain ⟨A1, c1, rfl⟩ := hm.1.shape; have HM := Lib.hid hm; clear hm)
    | (go_at_call 61; refine (crc_put _ l w1 (HV.out.later HM.out.2.1) (by omega)).mono ?_; rintro e w2 ⟨rfl, hb3, ht3⟩; rw [← HMM.out] at hb3; have hb := Box.by hb3 (by rw [HML.out]; simp only [maxLen]; omega); rw [HML.out] at hb; have HB3 := Lib.hid hb; have HT3 := Lib.hid ht3; clear hb3 ht3 hb)
    | (go_at_call 60; go_loud (refine (concat_any _ [hd, m] _ (rds_two (Box.new w2 22 _) ((HM.out.1.rd.later HT3.out).later ((Turn.refl _ _).alloc _)) (HB3.out.rd.later ((Turn.refl _ _).alloc _))) (by have := HHL.out; have := HML.out; simp; omega) (by simp)).mono ?_; rintro e w3 ⟨v3, rfl, hm⟩; have HC := Lib.hid hm; clear hm)))
  go_ret
  refine ⟨_, rfl, ?_⟩
  rw [HFR.out]
  have t : Turn (fun _ => False) w (w2.alloc (.cells #[.slice A1 hd.length c1, .slice (some ⟨w1.heap.size, 0, none⟩) (l.length + 4) (l.length + 4)] 22)) := (HM.out.2.1.trans HT3.out (fun _ _ f => f)).alloc _
  exact ⟨HC.out.1, t.trans HC.out.2.1 (fun _ _ f => f), fun k hk => Nat.le_trans t.size (HC.out.2.2 k hk)⟩

end Go.Proofs.Ytgchfckmhibeaaa

/-
  The document's own reader: its next byte, and that it is no such thing.
-/
namespace Go.Proofs.Ytgchfckmhibeaaa
open Go.RowKit

/-- The document's reader in block q: of bytes m that are left, in the slice u, with fault f. -/
def XRd (w : World) (q B : Nat) (A : Option Addr) (c : Nat) (m : List UInt8) (f : Nat) : Prop :=
  Box w q 102 #[.slice A m.length c, .int .i64 f] ∧ Rd w (.slice A m.length c) m ∧ ((∀ g, (Value.slice A m.length c).ownBlock = some g → g = B) ∧ B ≠ q) ∧ m.length ≤ c ∧ c ≤ maxLen

/-- Behind a call on it. -/
def XM (w : World) (q B : Nat) (w' : World) (m : List UInt8) (f : Nat) : Prop := (∃ A c, XRd w' q B A c m f) ∧ Turn (fun g => g = q) w w'

theorem XM.refl {w : World} {q B : Nat} {A : Option Addr} {c : Nat} {m : List UInt8} {f : Nat} (h : XRd w q B A c m f) : XM w q B w m f := ⟨⟨_, _, h⟩, Turn.refl _ _⟩
theorem XM.trans {a b c : World} {q B : Nat} {m m' : List UInt8} {f f' : Nat} (h : XM a q B b m f) (g : XM b q B c m' f') : XM a q B c m' f' := ⟨g.1, h.2.trans g.2 (fun _ _ t => t)⟩

theorem XRd.fault {w : World} {q B : Nat} {A : Option Addr} {c : Nat} {m : List UInt8} {f : Nat} (h : XRd w q B A c m f) (g : Int) (f' : Nat) (hg : g = f') : XM w q B (w.setCell ⟨q, 1, none⟩ (.int .i64 g)) m f' := by
  subst hg
  obtain ⟨hb, hr, hn, hc⟩ := h
  have t : Turn (fun k => k = q) w (w.setCell ⟨q, 1, none⟩ (.int .i64 f')) := (Turn.refl (fun k => k = q) w).setCell (p := ⟨q, 1, none⟩) (fun _ => rfl) _
  exact ⟨⟨A, c, by simpa using hb.set 1 (.int .i64 (f' : Int)), hr.turn t (fun k hk e => hn.2 ((hn.1 k hk).symm.trans e)), hn, hc⟩, t⟩

/-- The first n bytes. -/
theorem XRd.front {w : World} {q B : Nat} {A : Option Addr} {c : Nat} {m : List UInt8} {f : Nat} (h : XRd w q B A c m f) (n : Nat) (hn : n ≤ m.length) : Rd w (.slice A n c) (m.take n) := by
  exact h.2.1.front n hn

/-- The first n bytes cut off. -/
theorem XRd.cut {w : World} {q B : Nat} {A : Option Addr} {c : Nat} {m : List UInt8} {f : Nat} (h : XRd w q B A c m f) (n : Nat) (hn : n ≤ m.length) (D : Option Addr) (hD : D = if c = n then A else A.map fun x => x.add n) :
    XM w q B (w.setCell ⟨q, 0, none⟩ (.slice D (m.length - n) (c - n))) (m.drop n) f := by
  subst hD
  obtain ⟨hb, hr, hne, hc, hm⟩ := h
  have hl : (m.drop n).length = m.length - n := List.length_drop
  have t : Turn (fun k => k = q) w (w.setCell ⟨q, 0, none⟩ (.slice (if c = n then A else A.map fun x => x.add n) (m.length - n) (c - n))) := (Turn.refl (fun k => k = q) w).setCell (p := ⟨q, 0, none⟩) (fun _ => rfl) _
  have hr' : Rd _ (.slice A m.length c) m := hr.turn t (fun k hk e => hne.2 ((hne.1 k hk).symm.trans e))
  refine ⟨⟨(if c = n then A else A.map fun x => x.add n), c - n, ?_, ?_, ?_, by omega, by omega⟩, t⟩
  · rw [hl]
    simpa using hb.set 0 (.slice (if c = n then A else A.map fun x => x.add n) (m.length - n) (c - n))
  · rw [hl]
    obtain ⟨A', c', e, _, h1, h2⟩ := hr'
    injection e with e1 e2 e3
    subst e1 e3
    by_cases hcn : c = n
    · have e0 : m.drop n = [] := List.drop_eq_nil_of_le (by omega)
      have e4 : m.length - n = 0 := by omega
      rw [e0, e4]
      refine ⟨_, c - n, rfl, ⟨Nat.zero_le _, by omega⟩, fun _ => ⟨rfl, by omega⟩, fun _ _ j b hj => by simp at hj⟩
    · rw [if_neg hcn] at h2 ⊢
      refine ⟨_, c - n, by rw [hl], ⟨by omega, by omega⟩, fun e => ?_, fun ad had j b hj => ?_⟩
      · have h5 : A = none := by simpa using e
        obtain ⟨h6, h7⟩ := h1 h5
        subst h6
        exact ⟨by simp, by omega⟩
      · obtain ⟨ad0, h5, rfl⟩ := Option.map_eq_some_iff.1 had
        rw [add_of_add]
        exact h2 ad0 h5 (n + j) b (by rw [List.getElem?_drop] at hj; exact hj)
  · rw [hl]
    refine ⟨fun g hg => ?_, hne.2⟩
    cases A with
    | none =>
      have : (Value.slice (if c = n then (none : Option Addr) else Option.map (fun x : Addr => x.add n) none) (m.length - n) (c - n)).ownBlock = none := by split <;> rfl
      rw [this] at hg
      cases hg
    | some a =>
      have : (Value.slice (if c = n then some a else Option.map (fun x : Addr => x.add n) (some a)) (m.length - n) (c - n)).ownBlock = some a.block := by
        split
        · rfl
        · simp [Value.ownBlock, add_block]
      rw [this] at hg
      exact hne.1 g hg

set_option maxRecDepth 100000 in
set_option maxHeartbeats 400000 in
theorem xbad_any (q B : Nat) (A : Option Addr) (c : Nat) (m : List UInt8) (w : World) (h : XRd w q B A c m 0) :
    Calls Try.prog 71 #[.pointer (some ⟨q, 0, none⟩)] w fun e w' => e = .returned (.tuple #[]) ∧ XM w q B w' m 4 := by
  have c1 : w.cell? ⟨q, 1, none⟩ = some (.int .i64 0) := h.1.cell 1
  have f1 : w.frozen? ⟨q, 1, none⟩ = false := h.1.free 1
  have HB := Lib.hid (h.fault 4 4 rfl)
  clear h
  go_enter Try.func71, Try.ntmps71
  go_wp2
  go_end0
  exact ⟨rfl, HB.out⟩

set_option maxRecDepth 100000 in
set_option maxHeartbeats 400000 in
theorem xone_bad (q B : Nat) (A : Option Addr) (c : Nat) (m : List UInt8) (f : Nat) (hf : f ≠ 0) (w : World) (h : XRd w q B A c m f) :
    Calls Try.prog 70 #[.pointer (some ⟨q, 0, none⟩)] w fun e w' => e = .returned (.int .i64 0) ∧ w = w' := by
  have c1 : w.cell? ⟨q, 1, none⟩ = some (.int .i64 f) := h.1.cell 1
  have hf2 : (((f : Int) == 0) = false) := by rw [beq_eq_false_iff_ne]; omega
  have hf3 : (((f : Int) != 0) = true) := by rw [bne_iff_ne]; omega
  clear h hf
  go_enter Try.func70, Try.ntmps70
  go_wp2
  go_ret
  exact ⟨rfl, rfl⟩

set_option maxRecDepth 100000 in
set_option maxHeartbeats 400000 in
theorem xone_none (q B : Nat) (A : Option Addr) (c : Nat) (w : World) (h : XRd w q B A c [] 0) :
    Calls Try.prog 70 #[.pointer (some ⟨q, 0, none⟩)] w fun e w' => e = .returned (.int .i64 0) ∧ XM w q B w' [] 3 := by
  have c0 : w.cell? ⟨q, 0, none⟩ = some (.slice A 0 c) := h.1.cell 0
  have c1 : w.cell? ⟨q, 1, none⟩ = some (.int .i64 0) := h.1.cell 1
  have f1 : w.frozen? ⟨q, 1, none⟩ = false := h.1.free 1
  have HB := Lib.hid (h.fault 3 3 rfl)
  clear h
  go_enter Try.func70, Try.ntmps70
  go_wp2
  go_ret
  exact ⟨rfl, HB.out⟩

set_option maxRecDepth 100000 in
set_option maxHeartbeats 400000 in
theorem xone_some (q B : Nat) (A : Option Addr) (c : Nat) (b : UInt8) (m : List UInt8) (w : World) (h : XRd w q B A c (b :: m) 0) :
    Calls Try.prog 70 #[.pointer (some ⟨q, 0, none⟩)] w fun e w' => e = .returned (.int .i64 (b.toNat : Int)) ∧ XM w q B w' m 0 := by
  have c0 : w.cell? ⟨q, 0, none⟩ = some (.slice A (m.length + 1) c) := h.1.cell 0
  have f0 : w.frozen? ⟨q, 0, none⟩ = false := h.1.free 0
  have c1 : w.cell? ⟨q, 1, none⟩ = some (.int .i64 0) := h.1.cell 1
  have hlen : m.length + 1 ≤ c := h.2.2.2.1
  have hmax : c ≤ 9223372036854775807 := by have := h.2.2.2.2; unfold maxLen at this; omega
  have hbyte : b.toNat < 256 := UInt8.toNat_lt b
  obtain ⟨ad, hA, hcell⟩ : ∃ ad, A = some ad ∧ w.cell? ad = some (.int .u8 (b.toNat : Int)) := by
    obtain ⟨A', c', e, _, h1, h2⟩ := h.2.1
    injection e with e1 e2 e3
    subst e1
    cases A with
    | none => exact absurd (h1 rfl).1 (by simp)
    | some ad =>
      refine ⟨ad, rfl, ?_⟩
      have := h2 ad rfl 0 b rfl
      rwa [show ad.add 0 = ad by simp [Addr.add]] at this
  have HC := Lib.hid (h.cut 1 (by simp) _ rfl)
  clear h
  subst hA
  obtain ⟨x, hx⟩ : ∃ x : Nat, x = b.toNat := ⟨_, rfl⟩
  rw [← hx] at hcell hbyte ⊢
  clear hx
  by_cases hc1 : c = 1
  · subst hc1
    have hm0 : m.length = 0 := by omega
    go_enter Try.func70, Try.ntmps70
    go_wp2
    go_ret
    refine ⟨rfl, ?_⟩
    have := HC.out
    simpa [hm0] using this
  · go_enter Try.func70, Try.ntmps70
    go_wp2
    go_ret
    refine ⟨rfl, ?_⟩
    have := HC.out
    simpa [hc1, Addr.add] using this

end Go.Proofs.Ytgchfckmhibeaaa
