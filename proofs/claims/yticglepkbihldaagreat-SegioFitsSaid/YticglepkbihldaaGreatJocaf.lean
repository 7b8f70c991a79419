/-
  Texts laid one behind the other: Cb Cd Ce Fa Aa Ek Emr Eu.
-/
import Derived.Test.YticglepkbihldaaGreatJocaa
import Derived.Test.YticglepkbihldaaGreatJocae
import Derived.Deep.QuietTactic
import Derived.BigQuiet
import Derived.Deep.RegionWith
import Derived.Test.YticglepkbihldaaGreatJocac
import Derived.Test.YticglepkbihldaaGreatJocad
import Derived.Sort.Grow
import Derived.Test.YticglepkbihldaaGreatJocab
import Derived.Shelf.GgSortFunc.InsertionK
import Derived.Lib.SlicesCompact

/-
  Checks, by the program and by the document.
-/
namespace Go.Proofs.YticglepkbihldaaGreat
open Go.RowKit

set_option maxRecDepth 100000 in
set_option maxHeartbeats 400000 in
theorem move_any (s : Nat) (w : World) (h : Hid (s < 4294967296)) :
    Calls Tryz.prog 138 #[.int .u32 s] w fun e w' => e = .returned (.int .u32 (stp s)) ∧ w = w' := by
  go_enter Tryz.func138, Tryz.ntmps138
  go_wp2
  go_ret
  exact ⟨ret_int (move_val s h), rfl⟩

theorem ref_half (s : Nat) (h : Hid (s < 4294967296)) (h1 : ((s : Int) % 2 == 1) = true) : bits BinOp.xor IntKind.u32 ((s : Int) / 2 % 4294967296) 3988292384 = (stp s : Int) := by
  have h : s < 4294967296 := h
  have h1 : s % 2 = 1 := by have := eq_of_beq h1; omega
  have e : (s : Int) / 2 % 4294967296 = ((s / 2 : Nat) : Int) := by omega
  unfold stp
  rw [if_pos h1, e, show (3988292384 : Int) = ((3988292384 : Nat) : Int) from rfl, u32_xor_nat _ _ (by omega) (by omega)]
theorem ref_even (s : Nat) (h : Hid (s < 4294967296)) (h1 : ((s : Int) % 2 == 1) = false) : (s : Int) / 2 % 4294967296 = (stp s : Int) := by
  have h : s < 4294967296 := h
  have h1 : ¬ s % 2 = 1 := by have := ne_of_beq_false h1; omega
  unfold stp
  rw [if_neg h1]
  omega

set_option maxRecDepth 100000 in
set_option maxHeartbeats 400000 in
theorem step_any (s : Nat) (w : World) (h : Hid (s < 4294967296)) :
    Calls Tryz.prog 139 #[.int .u32 s] w fun e w' => e = .returned (.int .u32 (stp s)) ∧ w = w' := by
  go_enter Tryz.func139, Tryz.ntmps139
  go_wp2
  · go_ret
    exact ⟨ret_int (ref_half s h (by assumption)), rfl⟩
  · go_ret
    exact ⟨ret_int (ref_even s h (by assumption)), rfl⟩

theorem start_val (s : Nat) (h : Hid (s < 4294967296)) : bits BinOp.xor IntKind.u32 IntKind.u32.max (s : Int) = ((4294967295 - s : Nat) : Int) := by
  have e : bits BinOp.xor IntKind.u32 IntKind.u32.max (s : Int) = bits BinOp.xor IntKind.u32 (s : Int) 4294967295 := by
    show IntKind.u32.wrap ((BitVec.ofInt 32 4294967295 ^^^ BitVec.ofInt 32 (s : Int)).toNat : Int) = IntKind.u32.wrap ((BitVec.ofInt 32 (s : Int) ^^^ BitVec.ofInt 32 4294967295).toNat : Int)
    rw [BitVec.xor_comm]
  rw [e]
  exact turn_u32 s h
theorem mix_val (x : Nat) (b : UInt8) (h : Hid (x < 4294967296)) : bits BinOp.xor IntKind.u32 (x : Int) ((b.toNat : Int) % 4294967296) = ((x ^^^ b.toNat : Nat) : Int) := by
  have hb := b.toNat_lt
  have e : (b.toNat : Int) % 4294967296 = (b.toNat : Int) := by omega
  rw [e]
  exact u32_xor_nat _ _ h (by omega)
theorem u32_eq {a b : Int} (h : a = b) : Value.int .u32 a = Value.int .u32 b := by rw [h]

set_option maxRecDepth 100000 in
set_option maxHeartbeats 400000 in
theorem crc_more (s : Nat) (v : Value) (l : List UInt8) (w : World) (hs : Hid (s < 4294967296)) (hv : Rd w v l) (hl : l.length ≤ 1000000) :
    Calls Tryz.prog 121 #[.int .u32 s, v] w fun e w' => e = .returned (.int .u32 (more s l)) ∧ w = w' := by
  have HV := Lib.hid hv
  obtain ⟨A, c, rfl, _⟩ := hv
  go_enter Tryz.func121, Tryz.ntmps121
  go_wp2
  go_loop [6, 13] (fun x6 x13 => ∃ k : Nat, x13 = .int .i64 k ∧ k ≤ l.length ∧ x6 = .int .u32 (eats (4294967295 - s) (l.take k))) (fun _ x13 => l.length - (intOf x13).toNat)
  case atStart => exact ⟨0, rfl, Nat.zero_le _, u32_eq (start_val s hs)⟩
  case round =>
    obtain ⟨k, rfl, hk, rfl⟩ := hrel
    obtain ⟨x, hx⟩ : ∃ x, x = eats (4294967295 - s) (l.take k) := ⟨_, rfl⟩
    have hxl : Hid (x < 4294967296) := by rw [hx]; exact eats_lt _ (by omega)
    rw [← hx]
    have HX := Lib.hid hx; clear hx
    by_cases hlt : k < l.length
    · obtain ⟨b, hb⟩ : ∃ b, l[k]? = some b := ⟨_, List.getElem?_eq_getElem hlt⟩
      obtain ⟨ad, rfl, hcell⟩ := HV.out.at hb
      have HB := Lib.hid hb; clear hb
      have hy : Hid (x ^^^ b.toNat < 4294967296) := mix_lt b hxl
      go_wp2
      go_loop [6, 21] (fun x6 x21 => ∃ j : Nat, x21 = .int .i64 j ∧ j ≤ 8 ∧ x6 = .int .u32 (stps j (x ^^^ b.toNat))) (fun _ x21 => 8 - (intOf x21).toNat)
      case atStart => exact ⟨0, rfl, Nat.zero_le _, u32_eq (mix_val x b hxl)⟩
      case round =>
        obtain ⟨j, rfl, hj, rfl⟩ := hrel
        by_cases h8 : j < 8
        · go_wp2_with (go_at_call 138; refine (move_any _ w (stps_lt j hy)).mono ?_; rintro e w' ⟨rfl, rfl⟩)
          go_round
          case rel => exact ⟨j + 1, by go_num, by omega, rfl⟩
          case measure => simp [intOf]; omega
        · have ej : j = 8 := by omega
          subst ej
          go_wp2
          go_round
          case rel => exact ⟨k + 1, by go_num, by omega, by rw [eats_take HB.out, ← HX.out]; rfl⟩
          case measure => simp [intOf]; omega
    · have ek : k = l.length := by omega
      subst ek
      go_wp2
      go_ret
      exact ⟨ret_int (by rw [start_val x hxl, HX.out, List.take_length]; rfl), rfl⟩

theorem more_val (s : Nat) (h : Hid (s < 4294967296)) : (4294967295 - (s : Int)) % 4294967296 = ((4294967295 - s : Nat) : Int) := by
  have h : s < 4294967296 := h
  omega

set_option maxRecDepth 100000 in
set_option maxHeartbeats 400000 in
theorem ref_more (s : Nat) (v : Value) (l : List UInt8) (w : World) (hs : Hid (s < 4294967296)) (hv : Rd w v l) (hl : l.length ≤ 1000000) :
    Calls Tryz.prog 122 #[.int .u32 s, v] w fun e w' => e = .returned (.int .u32 (more s l)) ∧ w = w' := by
  have HV := Lib.hid hv
  obtain ⟨A, c, rfl, _⟩ := hv
  go_enter Tryz.func122, Tryz.ntmps122
  go_wp2
  go_loop [5, 6] (fun x6 x13 => ∃ k : Nat, x13 = .int .i64 k ∧ k ≤ l.length ∧ x6 = .int .u32 (eats (4294967295 - s) (l.take k))) (fun _ x13 => l.length - (intOf x13).toNat)
  case atStart => exact ⟨0, rfl, Nat.zero_le _, u32_eq (more_val s hs)⟩
  case round =>
    obtain ⟨k, rfl, hk, rfl⟩ := hrel
    obtain ⟨x, hx⟩ : ∃ x, x = eats (4294967295 - s) (l.take k) := ⟨_, rfl⟩
    have hxl : Hid (x < 4294967296) := by rw [hx]; exact eats_lt _ (by omega)
    rw [← hx]
    have HX := Lib.hid hx; clear hx
    by_cases hlt : k < l.length
    · obtain ⟨b, hb⟩ : ∃ b, l[k]? = some b := ⟨_, List.getElem?_eq_getElem hlt⟩
      obtain ⟨ad, rfl, hcell⟩ := HV.out.at hb
      have HB := Lib.hid hb; clear hb
      have hy : Hid (x ^^^ b.toNat < 4294967296) := mix_lt b hxl
      go_wp2
      go_loop [5, 7] (fun x6 x21 => ∃ j : Nat, x21 = .int .i64 j ∧ j ≤ 8 ∧ x6 = .int .u32 (stps j (x ^^^ b.toNat))) (fun _ x21 => 8 - (intOf x21).toNat)
      case atStart => exact ⟨0, rfl, Nat.zero_le _, u32_eq (mix_val x b hxl)⟩
      case round =>
        obtain ⟨j, rfl, hj, rfl⟩ := hrel
        by_cases h8 : j < 8
        · go_wp2_with (go_at_call 139; refine (step_any _ w (stps_lt j hy)).mono ?_; rintro e w' ⟨rfl, rfl⟩)
          go_round
          case rel => exact ⟨j + 1, by go_num, by omega, rfl⟩
          case measure => simp [intOf]; omega
        · have ej : j = 8 := by omega
          subst ej
          go_wp2
          go_round
          case rel => exact ⟨k + 1, by go_num, by omega, by rw [eats_take HB.out, ← HX.out]; rfl⟩
          case measure => simp [intOf]; omega
    · have ek : k = l.length := by omega
      subst ek
      go_wp2
      go_ret
      exact ⟨ret_int (by rw [more_val x hxl, HX.out, List.take_length]; rfl), rfl⟩

set_option maxRecDepth 100000 in
set_option maxHeartbeats 400000 in
theorem crc_sum (v : Value) (l : List UInt8) (w : World) (hv : Rd w v l) (hl : l.length ≤ 1000000) :
    Calls Tryz.prog 96 #[v] w fun e w' => e = .returned (.int .u32 (more 0 l)) ∧ w = w' := by
  have HV := Lib.hid hv
  clear hv
  go_enter Tryz.func96, Tryz.ntmps96
  go_wp2_with (go_at_call 121; refine (crc_more 0 v l w (by show (0 : Nat) < 4294967296; omega) HV.out hl).mono ?_; rintro e w' ⟨rfl, rfl⟩)
  go_ret
  exact ⟨rfl, rfl⟩

set_option maxRecDepth 100000 in
set_option maxHeartbeats 400000 in
theorem ref_sum (v : Value) (l : List UInt8) (w : World) (hv : Rd w v l) (hl : l.length ≤ 1000000) :
    Calls Tryz.prog 99 #[v] w fun e w' => e = .returned (.int .u32 (more 0 l)) ∧ w = w' := by
  have HV := Lib.hid hv
  clear hv
  go_enter Tryz.func99, Tryz.ntmps99
  go_wp2_with (go_at_call 122; refine (ref_more 0 v l w (by show (0 : Nat) < 4294967296; omega) HV.out hl).mono ?_; rintro e w' ⟨rfl, rfl⟩)
  go_ret
  exact ⟨rfl, rfl⟩

end Go.Proofs.YticglepkbihldaaGreat

/-
  A check's bytes: one by one, held against others, behind the bytes that they are of.
-/
namespace Go.Proofs.YticglepkbihldaaGreat
open Go.RowKit

theorem tl_len (s : Nat) : (tl s).length = 4 := rfl
theorem tl_at (s : Nat) {i : Nat} (h : i < 4) : (tl s)[i]? = some (UInt8.ofNat (s / 256 ^ i % 256)) := by
  have h' : i = 0 ∨ i = 1 ∨ i = 2 ∨ i = 3 := by omega
  rcases h' with rfl | rfl | rfl | rfl <;> simp [tl]

theorem piece_val (s i : Nat) (h : i < 4) (x : UInt8) (hx : (tl s)[i]? = some x) : (s : Int) / 2 ^ (8 * i) % 256 = (x.toNat : Int) := by
  rw [tl_at s h] at hx
  injection hx with hx
  have e : (2 : Int) ^ (8 * i) = ((256 ^ i : Nat) : Int) := by
    rw [Int.pow_mul]
    simp
  have hb : s / 256 ^ i % 256 < 256 := Nat.mod_lt _ (by omega)
  rw [← hx, UInt8.toNat_ofNat', e, Nat.mod_eq_of_lt hb]
  simp

set_option maxRecDepth 100000 in
set_option maxHeartbeats 400000 in
theorem piece_any (s i : Nat) (w : World) (h : i < 4) (x : UInt8) (hx : (tl s)[i]? = some x) :
    Calls Tryz.prog 97 #[.int .u32 s, .int .i64 i] w fun e w' => e = .returned (.int .u8 (x.toNat : Int)) ∧ w = w' := by
  have HP := Lib.hid (piece_val s i h x hx)
  clear hx
  go_enter Tryz.func97, Tryz.ntmps97
  go_wp2
  go_ret
  exact ⟨ret_int HP.out, rfl⟩

theorem bv_of (n : Nat) (h : n < 256) : bv (UInt8.ofNat n) = .int .u8 (n : Int) := by
  unfold bv
  rw [UInt8.toNat_ofNat', Nat.mod_eq_of_lt h]

theorem tail_row (s : Nat) (_hs : Hid (s < 4294967296)) : #[Value.int .u8 ((s : Int) % 256), .int .u8 ((s : Int) / 256 % 256), .int .u8 ((s : Int) / 65536 % 256), .int .u8 ((s : Int) / 16777216 % 256)] = ((tl s).map bv).toArray := by
  unfold tl
  rw [List.map_cons, List.map_cons, List.map_cons, List.map_cons, List.map_nil, bv_of _ (by omega), bv_of _ (by omega), bv_of _ (by omega), bv_of _ (by omega)]
  simp

set_option maxRecDepth 100000 in
set_option maxHeartbeats 400000 in
theorem tail_any (s : Nat) (w : World) (hs : Hid (s < 4294967296)) :
    Calls Tryz.prog 98 #[.int .u32 s] w fun e w' => ∃ v', e = .returned v' ∧ By w' v' (tl s) ∧ Turn (fun _ => False) w w' ∧ ∀ k, v'.ownBlock = some k → w.heap.size ≤ k := by
  have HR := Lib.hid (tail_row s hs)
  have HB := Lib.hid (By.made w (tl s) (by simp [tl_len, maxLen]))
  go_enter Tryz.func98, Tryz.ntmps98
  go_wp2
  go_ret
  refine ⟨_, rfl, ?_, (Turn.refl _ w).alloc _, fun k hk => ?_⟩
  · rw [HR.out]
    exact HB.out
  · have : w.heap.size = k := by simpa [Value.ownBlock] using hk
    omega

theorem same_yes {l m : List UInt8} (h1 : l.length = 4) (h2 : m.length = 4) (h : l.take 4 = m.take 4) : true = (l == m) := by
  rw [List.take_of_length_le (by omega), List.take_of_length_le (by omega)] at h
  subst h
  simp
theorem same_no {l m : List UInt8} {k : Nat} {x y : UInt8} (h1 : l[k]? = some x) (h2 : m[k]? = some y) (h : ¬ x = y) : false = (l == m) := by
  symm
  rw [beq_eq_false_iff_ne]
  rintro rfl
  rw [h1] at h2
  exact h (Option.some.inj h2)
theorem take_more {l m : List UInt8} {k : Nat} {x : UInt8} (h : l.take k = m.take k) (h1 : l[k]? = some x) (h2 : m[k]? = some x) : l.take (k + 1) = m.take (k + 1) := by
  obtain ⟨a1, b1⟩ := List.getElem?_eq_some_iff.1 h1
  obtain ⟨a2, b2⟩ := List.getElem?_eq_some_iff.1 h2
  rw [List.take_succ_eq_append_getElem a1, List.take_succ_eq_append_getElem a2, h, b1, b2]

set_option maxRecDepth 100000 in
set_option maxHeartbeats 400000 in
theorem stands_any (s : Nat) (v : Value) (l : List UInt8) (w : World) (hv : Rd w v l) (hl : l.length = 4) :
    Calls Tryz.prog 101 #[.int .u32 s, v] w fun e w' => e = .returned (.bool (l == tl s)) ∧ w = w' := by
  have HV := Lib.hid hv
  obtain ⟨A, c, rfl, _⟩ := hv
  have HL := Lib.hid hl
  rw [hl]
  rw [hl] at HV
  clear hl
  go_enter Tryz.func101, Tryz.ntmps101
  go_wp2_with fail
  go_step3
  go_wp2_with fail
  go_step3
  go_wp2_with fail
  go_loop [5, 10] (fun x5 x10 => ∃ k : Nat, x10 = .int .i64 k ∧ k ≤ 4 ∧ x5 = .int .i64 k ∧ l.take k = (tl s).take k) (fun _ x10 => 4 - (intOf x10).toNat)
  case atStart => exact ⟨0, rfl, Nat.zero_le _, rfl, rfl⟩
  case round =>
    obtain ⟨k, rfl, hk, rfl, ht⟩ := hrel
    have HT := Lib.hid ht; clear ht
    by_cases h4 : k < 4
    · obtain ⟨x, hx⟩ : ∃ x, l[k]? = some x := ⟨_, List.getElem?_eq_getElem (by rw [HL.out]; exact h4)⟩
      obtain ⟨y, hy⟩ : ∃ y, (tl s)[k]? = some y := ⟨_, List.getElem?_eq_getElem (by rw [tl_len]; exact h4)⟩
      obtain ⟨ad, rfl, hcell⟩ := HV.out.at hx
      have HX := Lib.hid hx; clear hx
      have HY := Lib.hid hy; clear hy
      by_cases hxy : x = y
      · subst hxy
        go_wp2_with (go_at_call 97; refine (piece_any s k w h4 x HY.out).mono ?_; rintro e w' ⟨rfl, rfl⟩)
        go_round
        case rel => exact ⟨k + 1, by go_num, by omega, by go_num, take_more HT.out HX.out HY.out⟩
        case measure => simp [intOf]; omega
      · have hne : ((x.toNat : Int) == (y.toNat : Int)) = false := by
          rw [beq_eq_false_iff_ne]
          intro e
          exact hxy (UInt8.toNat_inj.1 (by omega))
        have hk4 : ((k : Int) == 4) = false := by rw [beq_eq_false_iff_ne]; omega
        have HN := Lib.hid (same_no HX.out HY.out hxy)
        clear hxy
        go_wp2_with (go_at_call 97; refine (piece_any s k w h4 y HY.out).mono ?_; rintro e w' ⟨rfl, rfl⟩)
        rw [Exit.noGoto_ret]
        go_ret
        exact ⟨ret_bool HN.out, rfl⟩
    · have ek : k = 4 := by omega
      subst ek
      go_wp2
      go_ret
      exact ⟨ret_bool (same_yes HL.out (tl_len s) HT.out), rfl⟩

set_option maxRecDepth 100000 in
set_option maxHeartbeats 1000000 in
theorem crc_put (v : Value) (l : List UInt8) (w : World) (hv : Rd w v l) (hl : l.length ≤ 1000000) :
    Calls Tryz.prog 56 #[v] w fun e w' => e = .returned (.slice (some ⟨w.heap.size, 0, none⟩) (l.length + 4) (l.length + 4)) ∧ Box w' w.heap.size 5 ((l ++ tl (more 0 l)).map bv).toArray ∧ Turn (fun _ => False) w w' := by
  have HV := Lib.hid hv
  obtain ⟨A, c, rfl, hcc⟩ := hv
  have HC := Lib.hid hcc; clear hcc
  have hmk := run_make_row' (P := Tryz.prog) 35 5 (.int .u8 0) 1 Tryz.underlying35 u8_info rfl .i64 .i64 (l.length + 4) (by omega) (by omega)
  rw [show ((l.length + 4 : Nat) : Int) = (l.length : Int) + 4 by omega] at hmk
  obtain ⟨M, hM⟩ : ∃ M, M = (madeCells #[Value.int .u8 0] (l.length + 4)).toList := ⟨_, rfl⟩
  have hmk2 : ∀ w : World, w.alloc (.cells (madeCells #[.int .u8 0] (l.length + 4)) 5) = w.alloc (.cells M.toArray 5) := fun w => by rw [hM, Array.toArray_toList]
  simp only [hmk2] at hmk
  clear hmk2
  obtain ⟨X, hX⟩ : ∃ X, X = l.map bv := ⟨_, rfl⟩
  have HXL : Hid (X.length = l.length) := by rw [hX, List.length_map]; trivial
  have HML : Hid (M.length = l.length + 4) := by rw [hM, Array.length_toList, size_madeCells]; trivial
  have HS := Lib.hid (copy_src (B := .cells M.toArray 5) HV.out hX)
  have HM := Lib.hid hM; clear hM
  have HX := Lib.hid hX; clear hX
  go_enter Tryz.func56, Tryz.ntmps56
  go_wp2_with (first
    | (with_reducible refine wpList_copy_splice (o := ⟨some 12, _, _, _, _, _⟩) rfl (.tmp 10) (.tmp 11) 35 35 rfl 5 Tryz.underlying35 u8_size (some ⟨w.heap.size, 0, none⟩) A (l.length + 4) (l.length + 4) l.length c rfl rfl w.heap.size 0 M 5 (heap_alloc_new w _) X (by rw [HXL.out]; exact (Nat.min_eq_left (by omega)).symm) (fun h => ⟨rfl, HS.out (by rw [← HXL.out]; exact h)⟩) (by rw [HXL.out, HML.out]; omega) (by rw [HX.out]; exact bv_one l) w.heap.size w ((Below.refl _ w).alloc (Nat.le_refl _) _) (Nat.le_refl _) ?_; intro w2 HG2 hB2; have HT2 := Lib.hid (Below.turned hB2); clear hB2)
    | (go_at_call 96; refine (crc_sum _ l w2 (HV.out.later HT2.out) hl).mono ?_; rintro e w3 ⟨rfl, rfl⟩))
  clear hmk
  obtain ⟨s, hs⟩ : ∃ s, s = more 0 l := ⟨_, rfl⟩
  rw [← hs]
  have HB2 : Hid (Box w2 w.heap.size 5 (room l (tl s) 0)) := by
    have h := HG2.out
    rw [HM.out, HX.out] at h
    have e := room_zero l (tl s)
    rw [tl_len] at e
    rw [e] at h
    exact h
  have HSS := Lib.hid hs; clear hs HG2 HM HX HS HML
  go_loopw [15] (fun x15 wr => ∃ k : Nat, x15 = .int .i64 k ∧ k ≤ 4 ∧ Box wr w.heap.size 5 (room l (tl s) k) ∧ Turn (fun _ => False) w wr) (fun x15 _ => 4 - (intOf x15).toNat)
  case atStart => exact ⟨0, rfl, Nat.zero_le _, HB2.out, HT2.out⟩
  case round =>
    obtain ⟨k, rfl, hk, hb, ht⟩ := hrel
    have HB := Lib.hid hb; clear hb
    have HT := Lib.hid ht; clear ht
    by_cases h4 : k < 4
    · obtain ⟨x, hx⟩ : ∃ x, (tl s)[k]? = some x := ⟨_, List.getElem?_eq_getElem (by rw [tl_len]; exact h4)⟩
      have hcell := (HB.out.cell (l.length + k)).trans (room_at l (tl s) k (by rw [tl_len]; exact h4))
      have hfree := HB.out.free (l.length + k)
      have HX := Lib.hid hx; clear hx
      go_wp2_with (go_at_call 97; refine (piece_any s k wr h4 x HX.out).mono ?_; rintro e w' ⟨rfl, rfl⟩)
      go_roundw
      case rel => exact ⟨k + 1, by go_num, by omega, by rw [← room_set l (tl s) k x HX.out]; exact HB.out.set _ _, HT.out.setCell (fun h => by simp at h) _⟩
      case measure => simp [intOf]; omega
    · have ek : k = 4 := by omega
      subst ek
      go_wp2
      go_ret
      refine ⟨rfl, ?_, HT.out⟩
      have h := HB.out
      have e := room_all l (tl s)
      rw [tl_len] at e
      rw [e, HSS.out] at h
      exact h

end Go.Proofs.YticglepkbihldaaGreat

/-
  Bytes with their check, as the document puts them; what is got of bytes, by the program and by the document.
-/
namespace Go.Proofs.YticglepkbihldaaGreat
open Go.RowKit

set_option maxRecDepth 100000 in
set_option maxHeartbeats 1000000 in
theorem ref_put (v : Value) (l : List UInt8) (w : World) (hv : Rd w v l) (hl : l.length ≤ 1000000) :
    Calls Tryz.prog 62 #[v] w fun e w' => ∃ v', e = .returned v' ∧ Made w w' v' (l ++ tl (more 0 l)) := by
  have HV := Lib.hid hv
  have HY : Hid (Yields (w.alloc (.cells #[] 5)) 35 v l) := (hv.later ((Turn.refl _ w).alloc _)).yields
  obtain ⟨A, c, rfl, hcc⟩ := hv
  clear hcc
  have HM0 := Lib.hid (made_empty w)
  obtain ⟨s, hs⟩ : ∃ s, s = more 0 l := ⟨_, rfl⟩
  have hs2 : Hid (s < 4294967296) := by rw [hs]; exact more_lt _ _
  have HS := Lib.hid hs; clear hs
  go_enter Tryz.func62, Tryz.ntmps62
  go_wp2_with (at_builtin; go_must (refine wpList_app (o := ⟨some 5, _, _, _, _, _⟩) _ rfl (.tmp 3) (.tmp 4) 35 rfl _ [] rfl HM0.out.1 _ rfl l HY.out (by simp; omega) ?_))
  intro A1 n1 c1 w1 hb hg ha
  have HM1 := Lib.hid (made_app HM0.out (Turn.refl _ _) hb hg ha (by simp))
  clear hb hg ha
  go_wp2_with (first
    | (go_at_call 99; refine (ref_sum _ l w1 (HV.out.later HM1.out.2.1) hl).mono ?_; rintro e w3 ⟨rfl, rfl⟩; rw [← HS.out])
    | (go_at_call 98; refine (tail_any s w1 hs2).mono ?_; rintro e w2 ⟨v2, rfl, hb2, ht2, _⟩; obtain ⟨A2, c2, rfl⟩ := hb2.shape; have HB2 := Lib.hid hb2; have HT2 := Lib.hid ht2; clear hb2 ht2)
    | (at_builtin; go_must (refine wpList_app (o := ⟨some 9, _, _, _, _, _⟩) _ rfl (.tmp 5) (.tmp 8) 35 rfl _ l rfl (HM1.out.1.turn HT2.out (fun _ _ f => f)) _ rfl (tl s) HB2.out.yields (by simp [tl_len]; omega) ?_)))
  intro A3 n3 c3 w3 hb hg ha
  have HM3 := Lib.hid (made_app HM1.out HT2.out hb hg ha rfl)
  clear hb hg ha
  go_wp2
  go_ret
  exact ⟨_, rfl, by rw [← HS.out]; exact HM3.out⟩

/-- What is got of bytes, and the fault. -/
def gets (l : List UInt8) : List UInt8 × Nat :=
  if l.length < 4 then ([], 3) else if l.drop (l.length - 4) == tl (more 0 (l.take (l.length - 4))) then (l.take (l.length - 4), 0) else ([], 5)

def GetPost (w : World) (l : List UInt8) (e : Ending) (w' : World) : Prop := ∃ v', e = .returned (.tuple #[v', .int .i64 (gets l).2]) ∧ Rd w' v' (gets l).1 ∧ Turn (fun _ => False) w w'
/-- Likewise, and where it lies. -/
def GetAt (Loc : Nat → Prop) (w : World) (l : List UInt8) (e : Ending) (w' : World) : Prop :=
  ∃ v', e = .returned (.tuple #[v', .int .i64 (gets l).2]) ∧ Rd w' v' (gets l).1 ∧ Turn (fun _ => False) w w' ∧ ∀ k, v'.ownBlock = some k → Loc k
theorem GetAt.post {Loc : Nat → Prop} {w w' : World} {l : List UInt8} {e : Ending} (h : GetAt Loc w l e w') : GetPost w l e w' := by
  obtain ⟨v', h1, h2, h3, _⟩ := h
  exact ⟨v', h1, h2, h3⟩

theorem get_few {Loc : Nat → Prop} {w w' : World} {l : List UInt8} (h : l.length < 4) (ht : Turn (fun _ => False) w w') : GetAt Loc w l (.returned (.tuple #[.slice none 0 0, .int .i64 3])) w' := by
  have e : gets l = ([], 3) := by unfold gets; rw [if_pos h]
  exact ⟨_, by rw [e]; rfl, by rw [e]; exact Rd.none _, ht, fun _ h => by cases h⟩
theorem get_bad {Loc : Nat → Prop} {w w' : World} {l : List UInt8} {n : Nat} (h : l.length = n + 4) (hs : (l.drop n == tl (more 0 (l.take n))) = false) (ht : Turn (fun _ => False) w w') : GetAt Loc w l (.returned (.tuple #[.slice none 0 0, .int .i64 5])) w' := by
  have e : gets l = ([], 5) := by unfold gets; rw [if_neg (by omega), show l.length - 4 = n by omega, hs]; rfl
  exact ⟨_, by rw [e]; rfl, by rw [e]; exact Rd.none _, ht, fun _ h => by cases h⟩
theorem get_good {Loc : Nat → Prop} {w w' : World} {l : List UInt8} {n : Nat} {v : Value} (h : l.length = n + 4) (hs : (l.drop n == tl (more 0 (l.take n))) = true) (hv : Rd w' v (l.take n)) (ht : Turn (fun _ => False) w w') (hk : ∀ k, v.ownBlock = some k → Loc k) :
    GetAt Loc w l (.returned (.tuple #[v, .int .i64 0])) w' := by
  have e : gets l = (l.take n, 0) := by unfold gets; rw [if_neg (by omega), show l.length - 4 = n by omega, hs]; rfl
  exact ⟨_, by rw [e]; rfl, by rw [e]; exact hv, ht, hk⟩

set_option maxRecDepth 100000 in
set_option maxHeartbeats 1000000 in
theorem crc_get_at (Loc : Nat → Prop) (v : Value) (l : List UInt8) (w : World) (hv : Rd w v l) (hl : l.length ≤ 1000000) (hloc : Hid (∀ k, w.heap.size ≤ k → Loc k)) :
    Calls Tryz.prog 64 #[v] w (GetAt Loc w l) := by
  have HV := Lib.hid hv
  obtain ⟨A, c, rfl, _⟩ := hv
  by_cases h4 : l.length < 4
  · go_enter Tryz.func64, Tryz.ntmps64
    go_wp2
    go_ret2
    exact get_few h4 (Turn.refl _ _)
  · obtain ⟨n, hn⟩ : ∃ n, l.length = n + 4 := ⟨l.length - 4, by omega⟩
    obtain ⟨ad, rfl⟩ := HV.out.some_at (by omega)
    have hcap := HV.out.fits.2
    rw [hn] at hcap hl HV
    have HN := Lib.hid hn
    rw [hn]
    clear hn h4
    unfold maxLen at hcap
    obtain ⟨hc1, hc2⟩ := hcap
    have HF := Lib.hid (HV.out.front n (by omega))
    have HB := Lib.hid (HV.out.back n (by omega))
    have HLF : Hid ((l.take n).length = n) := by rw [List.length_take, HN.out]; exact Nat.min_eq_left (by omega)
    have HLB : Hid ((l.drop n).length = 4) := by rw [List.length_drop, HN.out]; show n + 4 - n = 4; omega
    rw [show n + 4 - n = 4 by omega] at HB
    have HST : Hid (∀ k, Calls Tryz.prog 101 #[.int .u32 (more 0 (l.take n)), .slice (some (ad.add n)) 4 (c - n)] (w.drewN k) fun e w' => e = .returned (.bool (l.drop n == tl (more 0 (l.take n)))) ∧ w.drewN k = w') :=
      fun k => stands_any _ _ _ _ (HB.out.drewN k) HLB.out
    cases hq : l.drop n == tl (more 0 (l.take n)) with
    | false =>
      rw [hq] at HST
      have HQ := Lib.hid hq; clear hq
      go_enter Tryz.func64, Tryz.ntmps64
      go_wp2
      go_quiet ((first
        | (go_at_call 96; exact quiet_left (crc_sum _ (l.take n) _ (HF.out.drewN _) (by rw [HLF.out]; omega)))
        | (go_at_call 101; exact quiet_left (HST.out _))))
      go_wp2
      go_ret2
      exact get_bad HN.out HQ.out ((Turn.refl _ w).drewN _)
    | true =>
      rw [hq] at HST
      have HQ := Lib.hid hq; clear hq
      have hmk := run_make_row' (P := Tryz.prog) 35 5 (.int .u8 0) 1 Tryz.underlying35 u8_info rfl .i64 .i64 n (by omega) (by omega)
      obtain ⟨M, hM⟩ : ∃ M, M = (madeCells #[Value.int .u8 0] n).toList := ⟨_, rfl⟩
      have hmk2 : ∀ w : World, w.alloc (.cells (madeCells #[.int .u8 0] n) 5) = w.alloc (.cells M.toArray 5) := fun w => by rw [hM, Array.toArray_toList]
      simp only [hmk2] at hmk
      clear hmk2
      obtain ⟨X, hX⟩ : ∃ X, X = (l.take n).map bv := ⟨_, rfl⟩
      have HXL : Hid (X.length = n) := by rw [hX, List.length_map, HLF.out]; trivial
      have HML : Hid (M.length = n) := by rw [hM, Array.length_toList, size_madeCells]; trivial
      have HS : Hid (∀ k, 0 < (l.take n).length → ∃ ad', some ad = some ad' ∧ ∀ j v, X[j]? = some v → ((w.drewN k).alloc (.cells M.toArray 5)).cell? (ad'.add j) = some v) := fun k => copy_src (HF.out.drewN k) hX
      have HX := Lib.hid hX; clear hX hM
      have HG : Hid (∀ k, ((w.drewN k).alloc (.cells M.toArray 5)).heap[w.heap.size]? = some (.cells M.toArray 5 (0, 0))) := fun k => heap_alloc_new (w.drewN k) _
      have HBL : Hid (∀ k, Below w.heap.size w ((w.drewN k).alloc (.cells M.toArray 5))) := fun k => Turn.below (((Turn.refl (fun _ => False) w).drewN k).alloc _) (Nat.le_refl _) (fun _ f => f.elim)
      go_enter Tryz.func64, Tryz.ntmps64
      go_wp2
      go_quiet ((first
        | (go_at_call 96; exact quiet_left (crc_sum _ (l.take n) _ (HF.out.drewN _) (by rw [HLF.out]; omega)))
        | (go_at_call 101; exact quiet_left (HST.out _))))
      go_wp2_with (with_reducible refine wpList_copy_splice (o := ⟨some 26, _, _, _, _, _⟩) rfl (.tmp 22) (.tmp 25) 35 35 rfl 5 Tryz.underlying35 u8_size (some ⟨w.heap.size, 0, none⟩) (some ad) n n n c rfl rfl w.heap.size 0 M 5 (HG.out _) X (by rw [HXL.out]; exact (Nat.min_self _).symm) (fun h => ⟨rfl, HS.out _ (by rw [HLF.out, ← HXL.out]; exact h)⟩) (by rw [HXL.out, HML.out]; omega) (by rw [HX.out]; exact bv_one _) w.heap.size w (HBL.out _) (Nat.le_refl _) ?_; intro w2 HG2 hB2; have HT2 := Lib.hid (Below.turned hB2); clear hB2)
      go_ret2
      have h := HG2.out
      rw [HX.out, splice_full (by rw [HML.out, List.length_map, HLF.out])] at h
      have hb := Box.by h (by rw [HLF.out]; simp only [maxLen]; omega)
      rw [HLF.out] at hb
      exact get_good HN.out HQ.out hb.rd HT2.out (fun k hk => hloc.out k (Nat.le_of_eq (Option.some.inj hk)))

theorem crc_get (v : Value) (l : List UInt8) (w : World) (hv : Rd w v l) (hl : l.length ≤ 1000000) : Calls Tryz.prog 64 #[v] w (GetPost w l) :=
  (crc_get_at (fun _ => True) v l w hv hl (fun _ _ => trivial)).mono fun _ _ h => h.post
end Go.Proofs.YticglepkbihldaaGreat

/-
  Frames, on lists of bytes: what is taken of bytes, all frames with which bytes begin, and those that are left of cut ones.
-/
namespace Go.Proofs.YticglepkbihldaaGreat
open Go.RowKit

theorem rdF_take : ∀ (g i acc : Nat) (l : List UInt8), rdF g i acc (l.take g) = rdF g i acc l
  | 0, _, _, _ => rfl
  | _ + 1, _, _, [] => rfl
  | g + 1, i, acc, b :: l => by
    rw [List.take_succ_cons]
    show (if 128 ≤ b.toNat then rdF g (i + 1) _ (l.take g) else _) = if 128 ≤ b.toNat then rdF g (i + 1) _ l else _
    rw [rdF_take g]
theorem rdNum_take (l : List UInt8) : rdNum (l.take 10) = rdNum l := rdF_take 10 0 0 l
theorem rdCount_take (most : Nat) (l : List UInt8) : rdCount most (l.take 10) = rdCount most l := by
  unfold rdCount
  rw [rdNum_take]

theorem rdF_long : ∀ (g i acc : Nat) (l : List UInt8), (rdF g i acc l).2.2 ≤ i + l.length
  | 0, i, _, _ => Nat.le_add_right _ _
  | _ + 1, i, _, [] => Nat.le_refl _
  | g + 1, i, acc, b :: l => by
    have h := rdF_long g (i + 1) (acc + (b.toNat - 128) * 128 ^ i) l
    show (if 128 ≤ b.toNat then _ else if _ then _ else _ : Nat × Nat × Nat).2.2 ≤ i + (l.length + 1)
    split
    · omega
    · split
      · show i + 1 ≤ _
        omega
      · show i + 1 ≤ _
        omega
theorem rdNum_long (l : List UInt8) : (rdNum l).2.2 ≤ l.length := by
  have := rdF_long 10 0 0 l
  unfold rdNum
  omega
theorem rdCount_at (most : Nat) (l : List UInt8) : (rdCount most l).2.2 = (rdNum l).2.2 := by
  unfold rdCount
  split
  · rfl
  · split <;> rfl
theorem rdNum_ten (l : List UInt8) : (rdNum l).2.2 ≤ 10 := by
  have := rdNum_long (l.take 10)
  rw [rdNum_take, List.length_take] at this
  omega

/-- What is read is just what would be put. -/
theorem rdF_canon : ∀ (g i acc : Nat) (l : List UInt8), (rdF g i acc l).2.1 = 0 →
    ∃ q, (rdF g i acc l).1 = acc + q * 128 ^ i ∧ (rdF g i acc l).2.2 = i + (encF (g - 1) q).length ∧ (0 < i → 0 < q)
  | 0, _, _, _, h => by cases h
  | _ + 1, _, _, [], h => by cases h
  | g + 1, i, acc, b :: l, h => by
    have e : rdF (g + 1) i acc (b :: l) = if 128 ≤ b.toNat then rdF g (i + 1) (acc + (b.toNat - 128) * 128 ^ i) l
      else if (0 < i ∧ b.toNat = 0) ∨ (i = 9 ∧ 1 < b.toNat) then (0, 4, i + 1) else (acc + b.toNat * 128 ^ i, 0, i + 1) := rfl
    rw [e] at h ⊢
    by_cases hb : 128 ≤ b.toNat
    · rw [if_pos hb] at h ⊢
      obtain ⟨q, h1, h2, h3⟩ := rdF_canon g (i + 1) _ l h
      have hq := h3 (by omega)
      have hlt : b.toNat < 256 := UInt8.toNat_lt b
      cases g with
      | zero => cases h
      | succ g =>
        refine ⟨b.toNat - 128 + q * 128, ?_, ?_, fun _ => by omega⟩
        · rw [h1, Nat.pow_succ, Nat.add_mul, Nat.mul_assoc q 128, Nat.mul_comm 128 (128 ^ i)]
          omega
        · have e2 : encF (g + 1) (b.toNat - 128 + q * 128) = mid (b.toNat - 128 + q * 128) :: encF g ((b.toNat - 128 + q * 128) / 128) := by
            show (if _ < 128 then _ else _) = _
            rw [if_neg (by omega)]
          show _ = i + (encF (g + 1) _).length
          rw [h2, e2, show (b.toNat - 128 + q * 128) / 128 = q by omega, List.length_cons]
          show i + 1 + (encF g q).length = _
          omega
    · rw [if_neg hb] at h ⊢
      by_cases hz : (0 < i ∧ b.toNat = 0) ∨ (i = 9 ∧ 1 < b.toNat)
      · rw [if_pos hz] at h
        cases h
      · rw [if_neg hz]
        refine ⟨b.toNat, rfl, ?_, fun hi => by omega⟩
        show i + 1 = i + (encF g b.toNat).length
        cases g with
        | zero => rfl
        | succ g =>
          have e2 : encF (g + 1) b.toNat = [low b.toNat] := by
            show (if _ < 128 then _ else _) = _
            rw [if_pos (by omega)]
          rw [e2]
          rfl
theorem rdNum_canon (l : List UInt8) (h : (rdNum l).2.1 = 0) : (rdNum l).2.2 = (enc (rdNum l).1).length := by
  obtain ⟨q, h1, h2, _⟩ := rdF_canon 10 0 0 l h
  have e : (rdNum l).1 = q := by
    show (rdF 10 0 0 l).1 = q
    rw [h1]
    simp
  rw [e]
  show (rdF 10 0 0 l).2.2 = _
  rw [h2]
  show 0 + (encF 9 q).length = (encF 9 q).length
  omega

theorem encF_ten : ∀ (g n : Nat), (encF g n).length ≤ g + 1
  | 0, n => Nat.le_refl _
  | g + 1, n => by
    show (if n < 128 then [low n] else mid n :: encF g (n / 128)).length ≤ _
    have := encF_ten g (n / 128)
    split
    · simp
    · rw [List.length_cons]
      omega
theorem enc_ten (n : Nat) : (enc n).length ≤ 10 := encF_ten 9 n

/-- How many bytes a frame has; a payload's frame. -/
def sz (n : Nat) : Nat := (enc n).length + n + 4
def fr (p : List UInt8) : List UInt8 := enc p.length ++ (p ++ tl (more 0 p))
theorem fr_len (p : List UInt8) : (fr p).length = sz p.length := by
  unfold fr sz
  rw [List.length_append, List.length_append, tl_len]
  omega
theorem sz_pos (n : Nat) : 5 ≤ sz n := by
  have := enc_pos n
  unfold sz
  omega

/-- The payload of the frame with which bytes begin, how many bytes the frame has, the fault. -/
def takes (l : List UInt8) : List UInt8 × Nat × Nat :=
  if (rdCount 4194304 l).2.1 ≠ 0 then ([], 0, (rdCount 4194304 l).2.1)
  else if l.length < (rdCount 4194304 l).2.2 + (rdCount 4194304 l).1 + 4 then ([], 0, 3)
  else if (gets ((l.drop (rdCount 4194304 l).2.2).take ((rdCount 4194304 l).1 + 4))).2 ≠ 0 then ([], 0, (gets ((l.drop (rdCount 4194304 l).2.2).take ((rdCount 4194304 l).1 + 4))).2)
  else ((gets ((l.drop (rdCount 4194304 l).2.2).take ((rdCount 4194304 l).1 + 4))).1, (rdCount 4194304 l).2.2 + (rdCount 4194304 l).1 + 4, 0)

theorem gets_put (p : List UInt8) : gets (p ++ tl (more 0 p)) = (p, 0) := by
  have e : (p ++ tl (more 0 p)).length = p.length + 4 := by rw [List.length_append, tl_len]
  unfold gets
  rw [if_neg (by omega), e, show p.length + 4 - 4 = p.length by omega, List.drop_left, List.take_left, if_pos (by simp)]
theorem gets_len (x : List UInt8) (h : (gets x).2 = 0) : (gets x).1.length + 4 = x.length := by
  unfold gets at h ⊢
  by_cases h4 : x.length < 4
  · rw [if_pos h4] at h
    cases h
  · rw [if_neg h4] at h ⊢
    split at h
    · rw [if_pos ‹_›]
      show (x.take (x.length - 4)).length + 4 = x.length
      rw [List.length_take]
      omega
    · cases h

theorem rdCount_fr (n : Nat) (rest : List UInt8) (h : n ≤ 4194304) : rdCount 4194304 (enc n ++ rest) = (n, 0, (enc n).length) := by
  unfold rdCount
  rw [rdNum_enc n rest (by show n < 18446744073709551616; omega)]
  show (if (0 : Nat) ≠ 0 then _ else if 4194304 < n then _ else _) = _
  rw [if_neg (by omega), if_neg (by omega)]

theorem takes_fr (p rest : List UInt8) (h : p.length ≤ 4194304) : takes (fr p ++ rest) = (p, sz p.length, 0) := by
  have e : fr p ++ rest = enc p.length ++ ((p ++ tl (more 0 p)) ++ rest) := by unfold fr; rw [List.append_assoc]
  have e1 := rdCount_fr p.length ((p ++ tl (more 0 p)) ++ rest) h
  have e2 : (p ++ tl (more 0 p)).length = p.length + 4 := by rw [List.length_append, tl_len]
  have e3 : gets (((enc p.length ++ ((p ++ tl (more 0 p)) ++ rest)).drop (enc p.length).length).take (p.length + 4)) = (p, 0) := by
    rw [List.drop_left, ← e2, List.take_left, gets_put]
  unfold takes
  rw [e, e1]
  show (if (0 : Nat) ≠ 0 then _ else _) = _
  rw [if_neg (by omega)]
  show (if _ < (enc p.length).length + p.length + 4 then _ else _) = _
  rw [if_neg (by rw [List.length_append, List.length_append, e2]; omega)]
  show (if (gets (((enc p.length ++ ((p ++ tl (more 0 p)) ++ rest)).drop (enc p.length).length).take (p.length + 4))).2 ≠ 0 then _ else ((gets (((enc p.length ++ ((p ++ tl (more 0 p)) ++ rest)).drop (enc p.length).length).take (p.length + 4))).1, (enc p.length).length + p.length + 4, 0)) = _
  rw [e3, if_neg (by simp)]
  rfl

theorem takes_cut (p : List UInt8) (m : Nat) (h : p.length ≤ 4194304) (hm : m < (fr p).length) : (takes ((fr p).take m)).2.2 ≠ 0 := by
  rw [fr_len] at hm
  by_cases hc : m < (enc p.length).length
  · have e : (fr p).take m = (enc p.length).take m := by
      unfold fr
      rw [List.take_append_of_le_length (by omega)]
    have e1 : (rdCount 4194304 ((enc p.length).take m)).2.1 = 3 := by
      unfold rdCount
      rw [rdNum_cut _ _ hc]
      rfl
    unfold takes
    rw [e, if_pos (by rw [e1]; omega)]
    show (rdCount 4194304 ((enc p.length).take m)).2.1 ≠ 0
    rw [e1]
    omega
  · have e : (fr p).take m = enc p.length ++ (p ++ tl (more 0 p)).take (m - (enc p.length).length) := by
      unfold fr
      rw [List.take_append, List.take_of_length_le (by omega)]
    have e1 := rdCount_fr p.length ((p ++ tl (more 0 p)).take (m - (enc p.length).length)) h
    have e2 : (p ++ tl (more 0 p)).length = p.length + 4 := by rw [List.length_append, tl_len]
    unfold takes
    rw [e, e1]
    show (if (0 : Nat) ≠ 0 then _ else if _ < (enc p.length).length + p.length + 4 then _ else _ : List UInt8 × Nat × Nat).2.2 ≠ 0
    unfold sz at hm
    rw [if_neg (by omega), if_pos (by rw [List.length_append, List.length_take, e2]; omega)]
    show (3 : Nat) ≠ 0
    omega

theorem takes_nil : (takes []).2.2 ≠ 0 := by decide

/-- A frame that is taken has as many bytes as its payload's frame has. -/
theorem takes_sz (l : List UInt8) (h : (takes l).2.2 = 0) : (takes l).2.1 = sz (takes l).1.length ∧ (takes l).2.1 ≤ l.length ∧ (takes l).1.length ≤ 4194304 := by
  unfold takes at h ⊢
  by_cases h1 : (rdCount 4194304 l).2.1 ≠ 0
  · rw [if_pos h1] at h
    exact absurd h h1
  · rw [if_neg h1] at h ⊢
    by_cases h2 : l.length < (rdCount 4194304 l).2.2 + (rdCount 4194304 l).1 + 4
    · rw [if_pos h2] at h
      cases h
    · rw [if_neg h2] at h ⊢
      by_cases h3 : (gets ((l.drop (rdCount 4194304 l).2.2).take ((rdCount 4194304 l).1 + 4))).2 ≠ 0
      · rw [if_pos h3] at h
        exact absurd h h3
      · rw [if_neg h3]
        have h4 : (gets ((l.drop (rdCount 4194304 l).2.2).take ((rdCount 4194304 l).1 + 4))).2 = 0 := by omega
        have h5 := gets_len _ h4
        rw [List.length_take, List.length_drop] at h5
        have h6 : (rdCount 4194304 l).2.1 = 0 := by omega
        have h7 : (rdNum l).2.1 = 0 ∧ (rdCount 4194304 l).1 = (rdNum l).1 ∧ (rdNum l).1 ≤ 4194304 := by
          unfold rdCount at h6 ⊢
          split at h6
          · exact absurd h6 (by assumption)
          · rename_i h8
            rw [if_neg h8]
            split at h6
            · cases h6
            · rename_i h9
              rw [if_neg h9]
              exact ⟨by omega, rfl, by omega⟩
        have h8 := rdNum_canon l h7.1
        have h9 := rdCount_at 4194304 l
        show (rdCount 4194304 l).2.2 + (rdCount 4194304 l).1 + 4 = sz _ ∧ _ ∧ _
        have h10 : (gets ((l.drop (rdCount 4194304 l).2.2).take ((rdCount 4194304 l).1 + 4))).1.length = (rdCount 4194304 l).1 := by omega
        rw [h10, h9, h8, ← h7.2.1]
        refine ⟨rfl, ?_, by omega⟩
        rw [h9, h8, ← h7.2.1] at h2
        show (enc (rdCount 4194304 l).1).length + (rdCount 4194304 l).1 + 4 ≤ l.length
        omega

/-- All frames with which the bytes l begin, from place i on; where they end. -/
def allF : Nat → Nat → List UInt8 → List (Nat × List UInt8)
  | 0, _, _ => []
  | f + 1, i, l => if (takes l).2.2 ≠ 0 then [] else (i, (takes l).1) :: allF f (i + (takes l).2.1) (l.drop (takes l).2.1)
def allOf (l : List UInt8) : List (Nat × List UInt8) := allF (l.length + 1) 0 l
/-- Where frames end that begin one behind the other at place i. -/
def endOf : Nat → List (Nat × List UInt8) → Nat
  | i, [] => i
  | _, x :: t => endOf (x.1 + sz x.2.length) t

theorem allF_stop {f i : Nat} {l : List UInt8} (h : (takes l).2.2 ≠ 0) : allF f i l = [] := by
  cases f with
  | zero => rfl
  | succ f =>
    show (if (takes l).2.2 ≠ 0 then [] else _) = _
    rw [if_pos h]
theorem allF_step {f i : Nat} {l : List UInt8} (h : (takes l).2.2 = 0) : allF (f + 1) i l = (i, (takes l).1) :: allF f (i + (takes l).2.1) (l.drop (takes l).2.1) := by
  show (if (takes l).2.2 ≠ 0 then [] else _) = _
  rw [if_neg (by omega)]
/-- Enough is enough. -/
theorem allF_fuel : ∀ (f g i : Nat) (l : List UInt8), l.length < f → l.length < g → allF f i l = allF g i l
  | 0, _, _, _, h, _ => absurd h (by omega)
  | _, 0, _, _, _, h => absurd h (by omega)
  | f + 1, g + 1, i, l, hf, hg => by
    by_cases h : (takes l).2.2 = 0
    · have hs := takes_sz l h
      have hp := sz_pos (takes l).1.length
      rw [allF_step h, allF_step h, allF_fuel f g _ _ (by rw [List.length_drop]; omega) (by rw [List.length_drop]; omega)]
    · rw [allF_stop h, allF_stop h]

/-- Those of payloads whose frames are whole within m bytes. -/
def upto : Nat → List (List UInt8) → List (List UInt8)
  | _, [] => []
  | m, p :: L => if sz p.length ≤ m then p :: upto (m - sz p.length) L else []
def joined (L : List (List UInt8)) : List UInt8 := L.flatMap fr
/-- All bytes that frames of payloads have. -/
def total (L : List (List UInt8)) : Nat := (L.map fun p => sz p.length).sum

theorem joined_len : ∀ (L : List (List UInt8)), (joined L).length = total L
  | [] => rfl
  | p :: L => by
    have := joined_len L
    unfold joined total at this ⊢
    rw [List.flatMap_cons, List.length_append, this, fr_len, List.map_cons, List.sum_cons]

/-- How frames of payloads lie, from place i on. -/
def laid : Nat → List (List UInt8) → List (Nat × List UInt8)
  | _, [] => []
  | i, p :: L => (i, p) :: laid (i + sz p.length) L
theorem laid_map : ∀ (i : Nat) (L : List (List UInt8)), (laid i L).map (·.2) = L
  | _, [] => rfl
  | i, p :: L => by
    show p :: (laid _ L).map (·.2) = p :: L
    rw [laid_map]
theorem laid_end : ∀ (i : Nat) (L : List (List UInt8)), endOf i (laid i L) = i + total L
  | _, [] => rfl
  | i, p :: L => by
    show endOf (i + sz p.length) (laid (i + sz p.length) L) = _
    rw [laid_end]
    unfold total
    rw [List.map_cons, List.sum_cons]
    omega

theorem allF_cut : ∀ (L : List (List UInt8)) (f i m : Nat), (∀ p ∈ L, p.length ≤ 4194304) → ((joined L).take m).length < f → allF f i ((joined L).take m) = laid i (upto m L)
  | [], f, i, m, _, _ => by
    have e : (joined []).take m = [] := List.take_nil
    rw [e]
    exact allF_stop takes_nil
  | p :: L, 0, _, _, _, h => absurd h (by omega)
  | p :: L, f + 1, i, m, hL, hf => by
    have hp := hL p (by simp)
    have hl := fr_len p
    have hz := sz_pos p.length
    have e : joined (p :: L) = fr p ++ joined L := List.flatMap_cons
    by_cases hm : sz p.length ≤ m
    · have e1 : (joined (p :: L)).take m = fr p ++ (joined L).take (m - sz p.length) := by
        rw [e, List.take_append, List.take_of_length_le (by omega), hl]
      have e2 := takes_fr p ((joined L).take (m - sz p.length)) hp
      rw [e1] at hf ⊢
      rw [allF_step (by rw [e2])]
      rw [e2]
      show (i, p) :: allF f (i + sz p.length) ((fr p ++ (joined L).take (m - sz p.length)).drop (sz p.length)) = _
      rw [← hl, List.drop_left, hl]
      rw [allF_cut L f _ _ (fun q hq => hL q (List.mem_cons_of_mem _ hq)) (by rw [List.length_append] at hf; omega)]
      rw [show upto m (p :: L) = if sz p.length ≤ m then p :: upto (m - sz p.length) L else [] from rfl, if_pos hm]
      rfl
    · have e1 : (joined (p :: L)).take m = (fr p).take m := by
        rw [e, List.take_append_of_le_length (by omega)]
      rw [e1, allF_stop (takes_cut p m hp (by omega))]
      rw [show upto m (p :: L) = if sz p.length ≤ m then p :: upto (m - sz p.length) L else [] from rfl, if_neg hm]
      rfl

theorem upto_prefix : ∀ (m : Nat) (L : List (List UInt8)), upto m L <+: L
  | _, [] => List.prefix_refl _
  | m, p :: L => by
    unfold upto
    split
    · exact List.cons_prefix_cons.2 ⟨rfl, upto_prefix _ L⟩
    · exact List.nil_prefix
theorem upto_total : ∀ (m : Nat) (L : List (List UInt8)), total (upto m L) ≤ m
  | _, [] => Nat.zero_le _
  | m, p :: L => by
    unfold upto
    split
    · have := upto_total (m - sz p.length) L
      unfold total at this ⊢
      rw [List.map_cons, List.sum_cons]
      omega
    · exact Nat.zero_le _
/-- The next one is not whole. -/
theorem upto_more : ∀ (m : Nat) (L : List (List UInt8)) (p : List UInt8), L[(upto m L).length]? = some p → m < total (upto m L) + sz p.length
  | _, [], p, h => by simp [upto] at h
  | m, q :: L, p, h => by
    unfold upto at h ⊢
    by_cases hm : sz q.length ≤ m
    · rw [if_pos hm] at h ⊢
      have := upto_more (m - sz q.length) L p (by simpa using h)
      unfold total at this ⊢
      rw [List.map_cons, List.sum_cons]
      omega
    · rw [if_neg hm] at h ⊢
      have e : q = p := by simpa using h
      subst e
      show m < 0 + sz q.length
      omega

end Go.Proofs.YticglepkbihldaaGreat

/-
  Stage 12, plain: which rows fit, their texts, a segment's bytes.
-/
namespace Go.Proofs.YticglepkbihldaaGreat
open Go.RowKit

/-- Why rows do not fit so many dimensions: the first one's fault. -/
def fitR (n : Int) : List R11 → Int
  | [] => 0
  | r :: l => if chkF ⟨r.k, 0⟩ n = 0 then fitR n l else chkF ⟨r.k, 0⟩ n
def fitL (l : List R11) (n : Int) : Int := if okDims n then fitR n l else 1
/-- What is said of the number of dimensions alone. -/
def dimsF (n : Int) : Int := if okDims n then 0 else 1
theorem fitR_all {n : Int} : ∀ {l : List R11}, (∀ r ∈ l, chkF ⟨r.k, 0⟩ n = 0) → fitR n l = 0
  | [], _ => rfl
  | r :: l, h => by
    unfold fitR
    rw [if_pos (h r (List.mem_cons_self ..))]
    exact fitR_all fun x hx => h x (List.mem_cons_of_mem _ hx)
theorem fitR_iff {n : Int} : ∀ {l : List R11}, fitR n l = 0 → ∀ r ∈ l, chkF ⟨r.k, 0⟩ n = 0
  | [], _, r, hr => by cases hr
  | x :: l, h, r, hr => by
    unfold fitR at h
    by_cases hx : chkF ⟨x.k, 0⟩ n = 0
    · rw [if_pos hx] at h
      rcases List.mem_cons.1 hr with rfl | hr
      · exact hx
      · exact fitR_iff h r hr
    · rw [if_neg hx] at h
      exact absurd h hx
/-- The first one that does not fit. -/
theorem fitR_at {n : Int} : ∀ {pre : List R11} {y : R11} {t : List R11}, (∀ r ∈ pre, chkF ⟨r.k, 0⟩ n = 0) → chkF ⟨y.k, 0⟩ n ≠ 0 → fitR n (pre ++ y :: t) = chkF ⟨y.k, 0⟩ n
  | [], y, t, _, h => by
    show (if _ then _ else _) = _
    rw [if_neg h]
  | x :: pre, y, t, hp, h => by
    show (if _ then _ else _) = _
    rw [if_pos (hp x (List.mem_cons_self ..))]
    exact fitR_at (fun r hr => hp r (List.mem_cons_of_mem _ hr)) h
theorem fitL_ok {l : List R11} {n : Int} : fitL l n = 0 ↔ okDims n = true ∧ ∀ r ∈ l, chkF ⟨r.k, 0⟩ n = 0 := by
  unfold fitL
  constructor
  · intro h
    split at h
    · rename_i hd
      exact ⟨hd, fitR_iff h⟩
    · cases h
  · rintro ⟨h1, h2⟩
    rw [if_pos h1]
    exact fitR_all h2
theorem okDims_nat {n : Int} (h : okDims n = true) : ∃ N : Nat, n = (N : Int) ∧ 1 ≤ N ∧ N ≤ 4 := by
  unfold okDims at h
  simp only [Bool.and_eq_true, decide_eq_true_iff] at h
  obtain ⟨N, rfl⟩ := Int.eq_ofNat_of_zero_le (show 0 ≤ n by omega)
  exact ⟨N, rfl, by omega, by omega⟩
/-- A row that fits: its hour, its texts. -/
structure Fit12 (N : Nat) (k : K9) : Prop where
  h0 : 0 ≤ k.h
  h1 : k.h ≤ 16777216
  t : ∀ i, i < 4 → (k.dim i).length ≤ 16
  e : ∀ i, i < 4 → N ≤ i → k.dim i = []
theorem chk_fit {k : K9} {N : Nat} (h : chkF ⟨k, 0⟩ (N : Int) = 0) : Fit12 N k := by
  unfold chkF at h
  split at h
  · split at h
    · rename_i hr
      split at h
      · rename_i ht
        simp only [okTexts, okText, Bool.and_eq_true, Bool.or_eq_true, decide_eq_true_iff, List.isEmpty_iff] at ht
        refine ⟨hr.1, hr.2.1, fun i hi => ?_, fun i hi hn => ?_⟩
        · match i, hi with
          | 0, _ => exact ht.1.1.1.1
          | 1, _ => exact ht.1.1.2.1
          | 2, _ => exact ht.1.2.1
          | 3, _ => exact ht.2.1
        · match i, hi with
          | 0, _ => rcases ht.1.1.1.2 with g | g; · omega
                    · exact g
          | 1, _ => rcases ht.1.1.2.2 with g | g; · omega
                    · exact g
          | 2, _ => rcases ht.1.2.2 with g | g; · omega
                    · exact g
          | 3, _ => rcases ht.2.2 with g | g; · omega
                    · exact g
      · cases h
    · cases h
  · cases h

/-- The texts of rows in a dimension. -/
def dimT (l : List R11) (d : Nat) : List (List UInt8) := ofT (l.map fun r => r.k.dim d)
def textsL (l : List R11) (d : Int) : List (List UInt8) := if 0 ≤ d ∧ d < 4 then dimT l d.toNat else []
theorem dimT_up (l : List R11) (d : Nat) : (dimT l d).Pairwise fun x y => Op.bytesLess x y = true := (setG_is Op.bytesLess rises_bytes _).1
theorem dimT_mem (l : List R11) (d : Nat) (x : List UInt8) : x ∈ dimT l d ↔ ∃ r ∈ l, r.k.dim d = x := by
  unfold dimT ofT
  rw [(setG_is Op.bytesLess rises_bytes _).2 x, List.mem_map]
theorem dimT_len (l : List R11) (d : Nat) : (dimT l d).length ≤ l.length := by
  have h := setG_len Op.bytesLess (l.map fun r => r.k.dim d) (l.map fun r => r.k.dim d).length
  rw [List.take_length, List.length_map] at h
  exact h

/-- A text's bytes; those of a dimension; of all; a row's. -/
def tB (t : List UInt8) : List UInt8 := enc t.length ++ t
def dimB (T : List (List UInt8)) : List UInt8 := enc T.length ++ T.flatMap tB
def dimsB (T : Nat → List (List UInt8)) : Nat → List UInt8
  | 0 => []
  | d + 1 => dimsB T d ++ dimB (T d)
def placesB (T : Nat → List (List UInt8)) (k : K9) : Nat → List UInt8
  | 0 => []
  | d + 1 => placesB T k d ++ enc (idxG (k.dim d) (T d))
def cellB (c : Cl) : List UInt8 := enc c.n.toNat ++ (enc (zig c.s) ++ (enc (zig c.lo) ++ enc (zig c.hi)))
def rowB (T : Nat → List (List UInt8)) (N : Nat) (last : Int) (r : R11) : List UInt8 := enc (r.k.h - last).toNat ++ (placesB T r.k N ++ cellB r.c)
def rowsB (T : Nat → List (List UInt8)) (N : Nat) : Int → List R11 → List UInt8
  | _, [] => []
  | last, r :: l => rowB T N last r ++ rowsB T N r.k.h l
def payB (l : List R11) (N : Nat) : List UInt8 := enc N ++ (dimsB (dimT l) N ++ (enc l.length ++ rowsB (dimT l) N 0 l))
/-- The hour of the last row. -/
def lastH (last : Int) (l : List R11) : Int := l.foldl (fun _ r => r.k.h) last
theorem lastH_snoc (last : Int) (l : List R11) (r : R11) : lastH last (l ++ [r]) = r.k.h := by simp [lastH]
theorem rowsB_app (T : Nat → List (List UInt8)) (N : Nat) : ∀ (last : Int) (a b : List R11), rowsB T N last (a ++ b) = rowsB T N last a ++ rowsB T N (lastH last a) b
  | _, [], _ => rfl
  | last, r :: a, b => by
    show rowB T N last r ++ rowsB T N r.k.h (a ++ b) = _
    rw [rowsB_app T N r.k.h a b, ← List.append_assoc]
    rfl
theorem rowsB_snoc (T : Nat → List (List UInt8)) (N : Nat) (last : Int) (a : List R11) (r : R11) : rowsB T N last (a ++ [r]) = rowsB T N last a ++ rowB T N (lastH last a) r := by
  rw [rowsB_app]
  show _ ++ (rowB T N _ r ++ []) = _
  rw [List.append_nil]
/-- A beginning has no more bytes than the whole. -/
theorem rowsB_pre (T : Nat → List (List UInt8)) (N : Nat) (last : Int) {a l : List R11} (h : a <+: l) : (rowsB T N last a).length ≤ (rowsB T N last l).length := by
  obtain ⟨b, rfl⟩ := h
  rw [rowsB_app, List.length_append]
  omega
theorem dimsB_le (T : Nat → List (List UInt8)) {d N : Nat} (h : d ≤ N) : (dimsB T d).length ≤ (dimsB T N).length := by
  induction N with
  | zero => obtain rfl : d = 0 := by omega
            exact Nat.le_refl _
  | succ N ih =>
    by_cases e : d = N + 1
    · subst e; exact Nat.le_refl _
    · have := ih (by omega)
      show _ ≤ (dimsB T N ++ _).length
      rw [List.length_append]
      omega
theorem placesB_le (T : Nat → List (List UInt8)) (k : K9) {d N : Nat} (h : d ≤ N) : (placesB T k d).length ≤ (placesB T k N).length := by
  induction N with
  | zero => obtain rfl : d = 0 := by omega
            exact Nat.le_refl _
  | succ N ih =>
    by_cases e : d = N + 1
    · subst e; exact Nat.le_refl _
    · have := ih (by omega)
      show _ ≤ (placesB T k N ++ _).length
      rw [List.length_append]
      omega
/-- Hours of a segment's rows do not fall. -/
theorem last_le {l : List R11} (hl : RiseR l) {pre : List R11} {y : R11} (hp : pre ++ [y] <+: l) (h0 : ∀ r ∈ l, 0 ≤ r.k.h) : lastH 0 pre ≤ y.k.h ∧ 0 ≤ lastH 0 pre := by
  obtain ⟨t, rfl⟩ := hp
  rcases List.eq_nil_or_concat pre with rfl | ⟨p, z, rfl⟩
  · exact ⟨h0 y (by simp), Int.le_refl _⟩
  · rw [List.concat_eq_append] at *
    rw [lastH_snoc]
    refine ⟨?_, h0 z (by simp)⟩
    unfold RiseR at hl
    rw [List.append_assoc, List.append_assoc] at hl
    have h1 := (List.pairwise_append.1 hl).2.1
    have h2 := (List.pairwise_cons.1 h1).1 y (by simp)
    have h3 : z.k.h < y.k.h ∨ z.k.h = y.k.h := by
      by_cases e : z.k.h = y.k.h
      · exact .inr e
      · left
        simp [keyLt, lexB, K9.tup, e] at h2
        exact of_decide_eq_true h2
    omega

/-- What Encode answers. -/
def encL (l : List R11) (n : Int) : List UInt8 := if fitL l n = 0 then fr (payB l n.toNat) else []

theorem tB_len {t : List UInt8} (h : t.length ≤ 16) : (tB t).length ≤ 26 := by
  unfold tB
  have := enc_len t.length
  rw [List.length_append]
  omega
theorem flat_len : ∀ (T : List (List UInt8)), (∀ t ∈ T, t.length ≤ 16) → (T.flatMap tB).length ≤ 26 * T.length
  | [], _ => Nat.le_refl _
  | t :: T, h => by
    have h1 := tB_len (h t (List.mem_cons_self ..))
    have h2 := flat_len T fun x hx => h x (List.mem_cons_of_mem _ hx)
    rw [List.flatMap_cons, List.length_append, List.length_cons]
    omega
theorem dimB_len {T : List (List UInt8)} (h : ∀ t ∈ T, t.length ≤ 16) (hl : T.length ≤ 60) : (dimB T).length ≤ 1570 := by
  unfold dimB
  have h1 := flat_len T h
  have h2 := enc_len T.length
  rw [List.length_append]
  omega
theorem dimsB_len {T : Nat → List (List UInt8)} : ∀ {N : Nat}, (∀ d, d < N → (∀ t ∈ T d, t.length ≤ 16) ∧ (T d).length ≤ 60) → (dimsB T N).length ≤ 1570 * N
  | 0, _ => Nat.le_refl _
  | N + 1, h => by
    have h1 := dimsB_len (T := T) (N := N) fun d hd => h d (by omega)
    have h2 := dimB_len (h N (by omega)).1 (h N (by omega)).2
    show (dimsB T N ++ dimB (T N)).length ≤ _
    rw [List.length_append]
    omega
theorem placesB_len (T : Nat → List (List UInt8)) (k : K9) : ∀ N, (placesB T k N).length ≤ 10 * N
  | 0 => Nat.le_refl _
  | N + 1 => by
    have h1 := placesB_len T k N
    have h2 := enc_len (idxG (k.dim N) (T N))
    show (placesB T k N ++ _).length ≤ _
    rw [List.length_append]
    omega
theorem rowB_len (T : Nat → List (List UInt8)) {N : Nat} (hN : N ≤ 4) (last : Int) (r : R11) : (rowB T N last r).length ≤ 90 := by
  unfold rowB cellB
  have h1 := placesB_len T r.k N
  have h2 := enc_len (r.k.h - last).toNat
  have h3 := enc_len r.c.n.toNat
  have h4 := enc_len (zig r.c.s)
  have h5 := enc_len (zig r.c.lo)
  have h6 := enc_len (zig r.c.hi)
  simp only [List.length_append]
  omega
theorem rowsB_len (T : Nat → List (List UInt8)) {N : Nat} (hN : N ≤ 4) : ∀ (last : Int) (l : List R11), (rowsB T N last l).length ≤ 90 * l.length
  | _, [] => Nat.le_refl _
  | last, r :: l => by
    have h1 := rowB_len T hN last r
    have h2 := rowsB_len T hN r.k.h l
    show (rowB T N last r ++ rowsB T N r.k.h l).length ≤ _
    rw [List.length_append, List.length_cons]
    omega
/-- Few rows that fit have few bytes. -/
theorem payB_len {l : List R11} {n : Int} (h : fitL l n = 0) (hl : l.length ≤ 60) : (payB l n.toNat).length ≤ 19000 := by
  obtain ⟨h1, h2⟩ := fitL_ok.1 h
  obtain ⟨N, rfl, hN1, hN⟩ := okDims_nat h1
  rw [Int.toNat_natCast]
  have hd := dimsB_len (T := dimT l) (N := N) fun d hd => ⟨fun t ht => by
    obtain ⟨r, hr, rfl⟩ := (dimT_mem l d t).1 ht
    exact (chk_fit (h2 r hr)).t d (by omega), Nat.le_trans (dimT_len l d) hl⟩
  have hr := rowsB_len (dimT l) hN 0 l
  have e1 := enc_len N
  have e2 := enc_len l.length
  unfold payB
  simp only [List.length_append]
  omega

end Go.Proofs.YticglepkbihldaaGreat

/-
  Worlds that have only grown, and drawn: what slices.SortFunc asks of a closure. No type is named.
-/
namespace Go.Proofs.YticglepkbihldaaGreat
open Go.RowKit

/-- w' has come of w by blocks laid and draws alone. -/
def Gr (w w' : World) : Prop := ∃ q os, w' = Sort.grow (w.drewN q) os
theorem Gr.refl (w : World) : Gr w w := ⟨0, #[], by rw [Sort.grow_empty]; rfl⟩
theorem Gr.trans {a b c : World} (h : Gr a b) (g : Gr b c) : Gr a c := by
  obtain ⟨q, os, rfl⟩ := h
  obtain ⟨q2, os2, rfl⟩ := g
  refine ⟨q + q2, os ++ os2, ?_⟩
  show Sort.grow (Sort.grow ((a.drewN q).drewN q2) os) os2 = _
  rw [Sort.grow_grow]
  congr 1
  simp [World.drewN, Nat.add_assoc]
theorem Gr.drewN {a b : World} (h : Gr a b) (n : Nat) : Gr a (b.drewN n) := h.trans ⟨n, #[], by rw [Sort.grow_empty]⟩
theorem Gr.drew {a b : World} (h : Gr a b) : Gr a b.drew := h.drewN 1
theorem Gr.alloc {a b : World} (h : Gr a b) (o : Obj) : Gr a (b.alloc o) := h.trans ⟨0, #[o], Sort.alloc_eq_grow b o⟩
theorem Gr.turn {a b : World} (h : Gr a b) : Turn (fun _ => False) a b := by
  obtain ⟨q, os, rfl⟩ := h
  refine ⟨rfl, rfl, rfl, ?_, ?_⟩
  · show a.heap.size ≤ (a.heap ++ os).size
    rw [Array.size_append]
    omega
  · intro k hk _
    show (a.heap ++ os)[k]? = a.heap[k]?
    rw [Array.getElem?_append_left hk]

end Go.Proofs.YticglepkbihldaaGreat

/-
  Rows of a call's own, of elements of any size, sorted: from and to the shelf's words. No type is named.
-/
namespace Go.Proofs.YticglepkbihldaaGreat
open Go.RowKit

section
variable {T : Type} [Inhabited T] {E : El T} {e : TypeId} {w : World} {L : List T}

theorem flatK_eq (E : El T) (d : Array T) : Sort.flatK E.enc E.sz d = (E.flat d.toList).toArray := by
  apply Sort.ext_get!
  · rw [Sort.size_flatK]
    show _ = (E.flat d.toList).length
    rw [E.flat_len]
    rfl
  · intro t ht
    rw [Sort.size_flatK] at ht
    have h0 : 0 < E.sz := by
      rcases Nat.eq_zero_or_pos E.sz with h | h
      · rw [h, Nat.mul_zero] at ht; exact absurd ht (Nat.not_lt_zero t)
      · exact h
    have hd : t / E.sz < d.size := (Nat.div_lt_iff_lt_mul h0).2 ht
    have hm : t % E.sz < E.sz := Nat.mod_lt _ h0
    rw [Sort.get_flatK _ _ _ _ ht]
    have hx : d.toList[t / E.sz]? = some d[t / E.sz] := by rw [Array.getElem?_toList, Array.getElem?_eq_getElem hd]
    have h1 := E.flat_at hx hm
    rw [show t / E.sz * E.sz + t % E.sz = t by rw [Nat.mul_comm]; exact Nat.div_add_mod t E.sz] at h1
    rw [getElem!_pos d _ hd]
    simp only [getElem!_def, List.getElem?_toArray, h1]

/-- A row of one's own holds its elements in the shelf's words. -/
theorem OwE.holdsK {ad : Addr} {n c : Nat} (h : OwE E e w (.slice (some ad) n c) L) : Sort.HoldsK E.enc E.sz w ad.block 0 L.toArray := by
  obtain ⟨cur, _, _, hb, _, _, _, h4⟩ := h.home
  unfold Sort.HoldsK Sort.Holds
  rw [flatK_eq]
  intro j hj
  rw [List.size_toArray] at hj
  rw [Nat.zero_add]
  refine ⟨?_, hb.free j⟩
  rw [hb.cell]
  have e1 : (E.flat L)[j]? = cur[j]? := by
    rw [← h4, List.getElem?_take, if_pos (by rw [E.flat_len] at hj; exact hj), Array.getElem?_toList]
  rw [← e1, List.getElem?_eq_getElem hj]
  simp only [id]
  rw [getElem!_pos _ j (by rw [List.size_toArray]; exact hj)]
  rfl

theorem turn_sortK (E : El T) (d : Array T) (g m : Nat) (os : Array Obj) (w : World) : Turn (fun k => k = g) w (sortWorldK E.enc E.sz w g 0 m d os) := by
  refine ⟨rfl, rfl, rfl, ?_, ?_⟩
  · show w.heap.size ≤ (_ ++ os).size
    rw [Array.size_append, Sort.putRowK, Sort.size_putRow]
    exact Nat.le_add_right _ _
  · intro k hk hg
    show (_ ++ os)[k]? = _
    rw [Array.getElem?_append_left (by rw [Sort.putRowK, Sort.size_putRow]; exact hk)]
    show (w.heap.modify g _)[k]? = _
    rw [Array.getElem?_modify, if_neg (fun e => hg e.symm)]

/-- Behind a sort: the row is one's own still, and holds what the shelf says. -/
theorem OwE.sorted {ad : Addr} {n c : Nat} (h : OwE E e w (.slice (some ad) n c) L) (d : Array T) (hd : d.size = L.length) (m : Nat) (os : Array Obj) :
    OwE E e (sortWorldK E.enc E.sz w ad.block 0 m d os) (.slice (some ad) n c) d.toList ∧ Turn (fun k => k = ad.block) w (sortWorldK E.enc E.sz w ad.block 0 m d os) := by
  refine ⟨?_, turn_sortK E d _ m os w⟩
  have hH := h.holdsK
  obtain ⟨cur, had, hn, hb, h1, h2, h3, h4⟩ := h.home
  have hlt := hb.lt
  have hdl : d.toList.length = L.length := by rw [Array.length_toList, hd]
  have hH2 : Sort.HoldsK E.enc E.sz (sortWorldK E.enc E.sz w ad.block 0 m d os) ad.block 0 d := by
    unfold sortWorldK
    refine Sort.holdsK_grow _ _ _ _ _ _ _ (by rw [Sort.putRowK, Sort.size_putRow]; exact hlt) (Sort.holdsK_putRowK _ _ _ _ _ L.toArray _ (Sort.holdsK_ahead _ _ _ _ _ _ _ hH) (by rw [List.size_toArray]; exact hd))
  have hb2 : Box (sortWorldK E.enc E.sz w ad.block 0 m d os) ad.block e (Sort.putCells id 0 (Sort.flatK E.enc E.sz d) cur) := by
    show (_ ++ os)[ad.block]? = _
    rw [Array.getElem?_append_left (by rw [Sort.putRowK, Sort.size_putRow]; exact hlt)]
    show (w.heap.modify ad.block _)[ad.block]? = _
    rw [Array.getElem?_modify, if_pos rfl, hb]
    rfl
  rw [had, hn, ← hdl]
  refine OwE.of_box hb2 (by rw [hdl]; exact h1) h2 (by rw [Sort.putCells, Array.size_mapIdx]; exact h3) ?_
  unfold Sort.HoldsK Sort.Holds at hH2
  rw [flatK_eq] at hH2
  rw [flatK_eq] at hb2 ⊢
  apply List.ext_getElem?
  intro j
  rw [List.getElem?_take]
  split
  · rename_i hj
    have hj2 : j < (E.flat d.toList).length := by rw [E.flat_len]; exact hj
    have g1 := (hH2 j (by rw [List.size_toArray]; exact hj2)).1
    rw [Nat.zero_add, hb2.cell] at g1
    rw [Array.getElem?_toList, g1, List.getElem?_eq_getElem hj2, id, getElem!_pos _ j (by rw [List.size_toArray]; exact hj2)]
    rfl
  · rename_i hj
    rw [List.getElem?_eq_none (by rw [E.flat_len]; omega)]
end


end Go.Proofs.YticglepkbihldaaGreat

/-
  Rows of numbers of one cell, sorted and made one of each: from and to the shelf's words; lists that rise. No type is named.
-/
namespace Go.Proofs.YticglepkbihldaaGreat
open Go.RowKit

/-- Two lists that rise, with the same things, are one. -/
theorem rising_one {A : Type} {lt : A → A → Bool} (h : Rises lt) : ∀ {l m : List A}, (l.Pairwise fun x y => lt x y = true) → (m.Pairwise fun x y => lt x y = true) → (∀ x, x ∈ l ↔ x ∈ m) → l = m
  | [], [], _, _, _ => rfl
  | [], y :: m, _, _, he => by have := (he y).2 (List.mem_cons_self ..); cases this
  | x :: l, [], _, _, he => by have := (he x).1 (List.mem_cons_self ..); cases this
  | x :: l, y :: m, hl, hm, he => by
    rw [List.pairwise_cons] at hl hm
    have hxy : x = y := by
      rcases List.mem_cons.1 ((he x).1 (List.mem_cons_self ..)) with e | e
      · exact e
      · rcases List.mem_cons.1 ((he y).2 (List.mem_cons_self ..)) with e2 | e2
        · exact e2.symm
        · have h1 := h.tr x y x (hl.1 y e2) (hm.1 x e)
          rw [h.irr x] at h1
          cases h1
    subst hxy
    have hlm : l = m := by
      refine rising_one h hl.2 hm.2 fun z => ⟨fun hz => ?_, fun hz => ?_⟩
      · rcases List.mem_cons.1 ((he z).1 (List.mem_cons_of_mem _ hz)) with e | e
        · subst e
          have h1 := hl.1 z hz
          rw [h.irr z] at h1
          cases h1
        · exact e
      · rcases List.mem_cons.1 ((he z).2 (List.mem_cons_of_mem _ hz)) with e | e
        · subst e
          have h1 := hm.1 z hz
          rw [h.irr z] at h1
          cases h1
        · exact e
    rw [hlm]

/-- What slices.Compact leaves of numbers in order: each once, in order. -/
theorem compact_mem (zs : List Int) (x : Int) : x ∈ Lib.compact zs ↔ x ∈ zs := by
  unfold Lib.compact Lib.compactUpTo
  simp only [List.mem_map, List.mem_filter, List.mem_range]
  constructor
  · rintro ⟨i, ⟨hi, _⟩, rfl⟩
    rw [getElem!_pos zs.toArray i (by rw [List.size_toArray]; exact hi)]
    simp
  · intro hx
    obtain ⟨i, hi, e⟩ := List.getElem_of_mem hx
    have key : ∀ i, i < zs.length → zs.toArray[i]! = x → ∃ a, (a < zs.length ∧ Lib.keeps zs.toArray a = true) ∧ zs.toArray[a]! = x := by
      intro i
      induction i with
      | zero => intro hi e; exact ⟨0, ⟨hi, by simp [Lib.keeps]⟩, e⟩
      | succ i ih =>
        intro hi e
        by_cases hk : Lib.keeps zs.toArray (i + 1) = true
        · exact ⟨i + 1, ⟨hi, hk⟩, e⟩
        · have h2 : zs.toArray[i + 1]! = zs.toArray[i]! := by
            simp only [Lib.keeps, decide_eq_true_iff, not_or, Classical.not_not] at hk
            exact hk.2
          exact ih (by omega) (by rw [← h2]; exact e)
    exact key i hi (by rw [getElem!_pos zs.toArray i (by rw [List.size_toArray]; exact hi)]; simpa using e)
theorem compact_rises (zs : List Int) (h : zs.Pairwise fun x y => x ≤ y) : (Lib.compact zs).Pairwise fun x y => decide (x < y) = true := by
  unfold Lib.compact Lib.compactUpTo
  rw [List.pairwise_map]
  have hr : ((List.range zs.length).filter (Lib.keeps zs.toArray)).Pairwise fun a b => a < b := List.pairwise_lt_range.filter _
  refine hr.imp_of_mem fun {a b} ha hb hab => ?_
  rw [List.mem_filter, List.mem_range] at ha hb
  have hs : ∀ i, i < zs.length → ∃ (hi : i < zs.length), zs.toArray[i]! = zs[i] := fun i hi => ⟨hi, by rw [getElem!_pos zs.toArray i (by rw [List.size_toArray]; exact hi)]; simp⟩
  obtain ⟨ha1, ea⟩ := hs a ha.1
  obtain ⟨hb1, eb⟩ := hs b hb.1
  obtain ⟨hc1, ec⟩ := hs (b - 1) (by omega)
  have hk := hb.2
  simp only [Lib.keeps, decide_eq_true_iff] at hk
  have hne : zs.toArray[b]! ≠ zs.toArray[b - 1]! := hk.resolve_left (by omega)
  rw [eb, ec] at hne
  have h1 : zs[b - 1] ≤ zs[b] := List.pairwise_iff_getElem.1 h (b - 1) b hc1 hb1 (by omega)
  have h2 : zs[a] ≤ zs[b - 1] := by
    by_cases e : a = b - 1
    · subst e; exact Int.le_refl _
    · exact List.pairwise_iff_getElem.1 h a (b - 1) ha1 hc1 (by omega)
  rw [ea, eb, decide_eq_true_iff]
  omega
theorem nums_sorted (zs : List Int) : (zs.mergeSort fun x y => decide (x ≤ y)).Pairwise fun x y => x ≤ y := by
  have h := List.pairwise_mergeSort (le := fun x y : Int => decide (x ≤ y)) (by intro a b c h1 h2; simp only [decide_eq_true_iff] at *; omega) (by intro a b; simp only [Bool.or_eq_true, decide_eq_true_iff]; omega) zs
  exact h.imp fun h => by simpa using h

section
variable {E : El Int} {e : TypeId} {w : World} {L : List Int}
theorem flat_map1 {T : Type} {E : El T} {f : T → Value} (he : ∀ x, E.enc x = [f x]) (l : List T) : E.flat l = l.map f := by
  induction l with
  | nil => rfl
  | cons x l ih => rw [El.flat_cons, he, ih]; rfl
/-- The row with other numbers, as many. -/
theorem OwE.row {T : Type} [Inhabited T] {E : El T} {L : List T} {ad : Addr} {n c : Nat} (h : OwE E e w (.slice (some ad) n c) L) {f : T → Value} (he : ∀ x, E.enc x = [f x]) (d : List T) (hd : d.length = L.length) (m : Nat) (os : Array Obj) :
    OwE E e (Sort.grow (Sort.putRow f (Sort.ahead w m) ad.block 0 d.toArray) os) (.slice (some ad) n c) d ∧ Turn (fun k => k = ad.block) w (Sort.grow (Sort.putRow f (Sort.ahead w m) ad.block 0 d.toArray) os) := by
  have h1 := h.sorted d.toArray (by rw [List.size_toArray]; exact hd) m os
  have e1 : sortWorldK E.enc E.sz w ad.block 0 m d.toArray os = Sort.grow (Sort.putRow f (Sort.ahead w m) ad.block 0 d.toArray) os := by
    unfold sortWorldK Sort.putRowK
    congr 1
    unfold Sort.putRow
    refine Sort.mapBlock_congr _ _ _ _ fun cs _ _ _ => ?_
    unfold Sort.putCells
    rw [flatK_eq, flat_map1 he]
    simp only [List.size_toArray, List.length_map]
    congr 1
    funext k x
    split
    · rename_i hk
      have hk2 : k - 0 < d.length := by omega
      rw [getElem!_pos _ (k - 0) (by rw [List.size_toArray, List.length_map]; exact hk2), getElem!_pos _ (k - 0) (by rw [List.size_toArray]; exact hk2)]
      simp
    · rfl
  rw [e1] at h1
  exact h1
theorem OwE.holds1 {T : Type} [Inhabited T] {E : El T} {L : List T} {ad : Addr} {n c : Nat} (h : OwE E e w (.slice (some ad) n c) L) {f : T → Value} (he : ∀ x, E.enc x = [f x]) : Sort.Holds f w ad.block 0 L.toArray := by
  have h1 := h.holdsK
  unfold Sort.HoldsK at h1
  rw [flatK_eq, flat_map1 he] at h1
  intro j hj
  have h2 := h1 j (by rw [List.size_toArray, List.length_map]; rw [List.size_toArray] at hj; exact hj)
  refine ⟨?_, h2.2⟩
  rw [h2.1]
  rw [List.size_toArray] at hj
  rw [getElem!_pos _ j (by rw [List.size_toArray, List.length_map]; exact hj), getElem!_pos _ j (by rw [List.size_toArray]; exact hj)]
  simp
end

end Go.Proofs.YticglepkbihldaaGreat
