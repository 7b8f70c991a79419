
/-
  A check's bytes: one by one, held against others, behind the bytes that they are of.
-/
import Derived.Test.YtjhgbbmghgeeoaaCb
namespace Go.Proofs.Ytjhgbbmghgeeoaa
open Go.RowKit

theorem tl_len (s : Nat) : (tl s).length = 4 := rfl
theorem tl_at (s : Nat) {i : Nat} (h : i < 4) : (tl s)[i]? = some (UInt8.ofNat (s / 256 ^ i % 256)) := by
  have h' : i = 0 ∨ i = 1 ∨ i = 2 ∨ i = 3 := by omega
  rcases h' with rfl | rfl | rfl | rfl <;> simp [tl]

theorem piece_val (s i : Nat) (h : i < 4) (x : UInt8) (hx : (tl s)[i]? = some x) : (s : Int) / 2 ^ (8 * i) % 256 = (x.toNat : Int) := by
  rw [tl_at s h] at hx
  injection hx with hx
  have e : (2 : Int) ^ (8 * i) = ((256 ^ i : Nat) : Int) := by
    rw [Int.pow_mul]
    simp
  have hb : s / 256 ^ i % 256 < 256 := Nat.mod_lt _ (by omega)
  rw [← hx, UInt8.toNat_ofNat', e, Nat.mod_eq_of_lt hb]
  simp

set_option maxRecDepth 100000 in
set_option maxHeartbeats 400000 in
theorem piece_any (s i : Nat) (w : World) (h : i < 4) (x : UInt8) (hx : (tl s)[i]? = some x) :
    Calls Try.prog 27 #[.int .u32 s, .int .i64 i] w fun e w' => e = .returned (.int .u8 (x.toNat : Int)) ∧ w = w' := by
  have HP := Lib.hid (piece_val s i h x hx)
  clear hx
  go_enter Try.func27, Try.ntmps27
  go_wp2
  go_ret
  exact ⟨ret_int HP.out, rfl⟩

theorem bv_of (n : Nat) (h : n < 256) : bv (UInt8.ofNat n) = .int .u8 (n : Int) := by
  unfold bv
  rw [UInt8.toNat_ofNat', Nat.mod_eq_of_lt h]

theorem tail_row (s : Nat) (_hs : Hid (s < 4294967296)) : #[Value.int .u8 ((s : Int) % 256), .int .u8 ((s : Int) / 256 % 256), .int .u8 ((s : Int) / 65536 % 256), .int .u8 ((s : Int) / 16777216 % 256)] = ((tl s).map bv).toArray := by
  unfold tl
  rw [List.map_cons, List.map_cons, List.map_cons, List.map_cons, List.map_nil, bv_of _ (by omega), bv_of _ (by omega), bv_of _ (by omega), bv_of _ (by omega)]
  simp

set_option maxRecDepth 100000 in
set_option maxHeartbeats 400000 in
theorem tail_any (s : Nat) (w : World) (hs : Hid (s < 4294967296)) :
    Calls Try.prog 35 #[.int .u32 s] w fun e w' => ∃ v', e = .returned v' ∧ By w' v' (tl s) ∧ Turn (fun _ => False) w w' ∧ ∀ k, v'.ownBlock = some k → w.heap.size ≤ k := by
  have HR := Lib.hid (tail_row s hs)
  have HB := Lib.hid (By.made w (tl s) (by simp [tl_len, maxLen]))
  go_enter Try.func35, Try.ntmps35
  go_wp2
  go_ret
  refine ⟨_, rfl, ?_, (Turn.refl _ w).alloc _, fun k hk => ?_⟩
  · rw [HR.out]
    exact HB.out
  · have : w.heap.size = k := by simpa [Value.ownBlock] using hk
    omega

theorem same_yes {l m : List UInt8} (h1 : l.length = 4) (h2 : m.length = 4) (h : l.take 4 = m.take 4) : true = (l == m) := by
  rw [List.take_of_length_le (by omega), List.take_of_length_le (by omega)] at h
  subst h
  simp
theorem same_no {l m : List UInt8} {k : Nat} {x y : UInt8} (h1 : l[k]? = some x) (h2 : m[k]? = some y) (h : ¬ x = y) : false = (l == m) := by
  symm
  rw [beq_eq_false_iff_ne]
  rintro rfl
  rw [h1] at h2
  exact h (Option.some.inj h2)
theorem take_more {l m : List UInt8} {k : Nat} {x : UInt8} (h : l.take k = m.take k) (h1 : l[k]? = some x) (h2 : m[k]? = some x) : l.take (k + 1) = m.take (k + 1) := by
  obtain ⟨a1, b1⟩ := List.getElem?_eq_some_iff.1 h1
  obtain ⟨a2, b2⟩ := List.getElem?_eq_some_iff.1 h2
  rw [List.take_succ_eq_append_getElem a1, List.take_succ_eq_append_getElem a2, h, b1, b2]

set_option maxRecDepth 100000 in
set_option maxHeartbeats 400000 in
theorem stands_any (s : Nat) (v : Value) (l : List UInt8) (w : World) (hv : Rd w v l) (hl : l.length = 4) :
    Calls Try.prog 32 #[.int .u32 s, v] w fun e w' => e = .returned (.bool (l == tl s)) ∧ w = w' := by
  have HV := Lib.hid hv
  obtain ⟨A, c, rfl, _⟩ := hv
  have HL := Lib.hid hl
  rw [hl]
  rw [hl] at HV
  clear hl
  go_enter Try.func32, Try.ntmps32
  go_wp2_with fail
  go_step3
  go_wp2_with fail
  go_step3
  go_wp2_with fail
  go_loop [5, 10] (fun x5 x10 => ∃ k : Nat, x10 = .int .i64 k ∧ k ≤ 4 ∧ x5 = .int .i64 k ∧ l.take k = (tl s).take k) (fun _ x10 => 4 - (intOf x10).toNat)
  case atStart => exact ⟨0, rfl, Nat.zero_le _, rfl, rfl⟩
  case round =>
    obtain ⟨k, rfl, hk, rfl, ht⟩ := hrel
    have HT := Lib.hid ht; clear ht
    by_cases h4 : k < 4
    · obtain ⟨x, hx⟩ : ∃ x, l[k]? = some x := ⟨_, List.getElem?_eq_getElem (by rw [HL.out]; exact h4)⟩
      obtain ⟨y, hy⟩ : ∃ y, (tl s)[k]? = some y := ⟨_, List.getElem?_eq_getElem (by rw [tl_len]; exact h4)⟩
      obtain ⟨ad, rfl, hcell⟩ := HV.out.at hx
      have HX := Lib.hid hx; clear hx
      have HY := Lib.hid hy; clear hy
      by_cases hxy : x = y
      · subst hxy
        go_wp2_with (go_at_call 27; refine (piece_any s k w h4 x HY.out).mono ?_; rintro e w' ⟨rfl, rfl⟩)
        go_round
        case rel => exact ⟨k + 1, by go_num, by omega, by go_num, take_more HT.out HX.out HY.out⟩
        case measure => simp [intOf]; omega
      · have hne : ((x.toNat : Int) == (y.toNat : Int)) = false := by
          rw [beq_eq_false_iff_ne]
          intro e
          exact hxy (UInt8.toNat_inj.1 (by omega))
        have hk4 : ((k : Int) == 4) = false := by rw [beq_eq_false_iff_ne]; omega
        have HN := Lib.hid (same_no HX.out HY.out hxy)
        clear hxy
        go_wp2_with (go_at_call 27; refine (piece_any s k w h4 y HY.out).mono ?_; rintro e w' ⟨rfl, rfl⟩)
        rw [Exit.noGoto_ret]
        go_ret
        exact ⟨ret_bool HN.out, rfl⟩
    · have ek : k = 4 := by omega
      subst ek
      go_wp2
      go_ret
      exact ⟨ret_bool (same_yes HL.out (tl_len s) HT.out), rfl⟩

set_option maxRecDepth 100000 in
set_option maxHeartbeats 1000000 in
theorem crc_put (v : Value) (l : List UInt8) (w : World) (hv : Rd w v l) (hl : l.length ≤ 1000000) :
    Calls Try.prog 18 #[v] w fun e w' => e = .returned (.slice (some ⟨w.heap.size, 0, none⟩) (l.length + 4) (l.length + 4)) ∧ Box w' w.heap.size 5 ((l ++ tl (more 0 l)).map bv).toArray ∧ Turn (fun _ => False) w w' := by
  have HV := Lib.hid hv
  obtain ⟨A, c, rfl, hcc⟩ := hv
  have HC := Lib.hid hcc; clear hcc
  have hmk := run_make_row' (P := Try.prog) 22 5 (.int .u8 0) 1 Try.underlying22 u8_info rfl .i64 .i64 (l.length + 4) (by omega) (by omega)
  rw [show ((l.length + 4 : Nat) : Int) = (l.length : Int) + 4 by omega] at hmk
  obtain ⟨M, hM⟩ : ∃ M, M = (madeCells #[Value.int .u8 0] (l.length + 4)).toList := ⟨_, rfl⟩
  have hmk2 : ∀ w : World, w.alloc (.cells (madeCells #[.int .u8 0] (l.length + 4)) 5) = w.alloc (.cells M.toArray 5) := fun w => by rw [hM, Array.toArray_toList]
  simp only [hmk2] at hmk
  clear hmk2
  obtain ⟨X, hX⟩ : ∃ X, X = l.map bv := ⟨_, rfl⟩
  have HXL : Hid (X.length = l.length) := by rw [hX, List.length_map]; trivial
  have HML : Hid (M.length = l.length + 4) := by rw [hM, Array.length_toList, size_madeCells]; trivial
  have HS := Lib.hid (copy_src (B := .cells M.toArray 5) HV.out hX)
  have HM := Lib.hid hM; clear hM
  have HX := Lib.hid hX; clear hX
  go_enter Try.func18, Try.ntmps18
  go_wp2_with (first
    | (with_reducible refine wpList_copy_splice (o := ⟨some 12, _, _, _, _, _⟩) rfl (.tmp 10) (.tmp 11) 22 22 rfl 5 Try.underlying22 u8_size (some ⟨w.heap.size, 0, none⟩) A (l.length + 4) (l.length + 4) l.length c rfl rfl w.heap.size 0 M 5 (heap_alloc_new w _) X (by rw [HXL.out]; exact (Nat.min_eq_left (by omega)).symm) (fun h => ⟨rfl, HS.out (by rw [← HXL.out]; exact h)⟩) (by rw [HXL.out, HML.out]; omega) (by rw [HX.out]; exact bv_one l) w.heap.size w ((Below.refl _ w).alloc (Nat.le_refl _) _) (Nat.le_refl _) ?_; intro w2 HG2 hB2; have HT2 := Lib.hid (Below.turned hB2); clear hB2)
    | (go_at_call 26; refine (crc_sum _ l w2 (HV.out.later HT2.out) hl).mono ?_; rintro e w3 ⟨rfl, rfl⟩))
  clear hmk
  obtain ⟨s, hs⟩ : ∃ s, s = more 0 l := ⟨_, rfl⟩
  rw [← hs]
  have HB2 : Hid (Box w2 w.heap.size 5 (room l (tl s) 0)) := by
    have h := HG2.out
    rw [HM.out, HX.out] at h
    have e := room_zero l (tl s)
    rw [tl_len] at e
    rw [e] at h
    exact h
  have HSS := Lib.hid hs; clear hs HG2 HM HX HS HML
  go_loopw [15] (fun x15 wr => ∃ k : Nat, x15 = .int .i64 k ∧ k ≤ 4 ∧ Box wr w.heap.size 5 (room l (tl s) k) ∧ Turn (fun _ => False) w wr) (fun x15 _ => 4 - (intOf x15).toNat)
  case atStart => exact ⟨0, rfl, Nat.zero_le _, HB2.out, HT2.out⟩
  case round =>
    obtain ⟨k, rfl, hk, hb, ht⟩ := hrel
    have HB := Lib.hid hb; clear hb
    have HT := Lib.hid ht; clear ht
    by_cases h4 : k < 4
    · obtain ⟨x, hx⟩ : ∃ x, (tl s)[k]? = some x := ⟨_, List.getElem?_eq_getElem (by rw [tl_len]; exact h4)⟩
      have hcell := (HB.out.cell (l.length + k)).trans (room_at l (tl s) k (by rw [tl_len]; exact h4))
      have hfree := HB.out.free (l.length + k)
      have HX := Lib.hid hx; clear hx
      go_wp2_with (go_at_call 27; refine (piece_any s k wr h4 x HX.out).mono ?_; rintro e w' ⟨rfl, rfl⟩)
      go_roundw
      case rel => exact ⟨k + 1, by go_num, by omega, by rw [← room_set l (tl s) k x HX.out]; exact HB.out.set _ _, HT.out.setCell (fun h => by simp at h) _⟩
      case measure => simp [intOf]; omega
    · have ek : k = 4 := by omega
      subst ek
      go_wp2
      go_ret
      refine ⟨rfl, ?_, HT.out⟩
      have h := HB.out
      have e := room_all l (tl s)
      rw [tl_len] at e
      rw [e, HSS.out] at h
      exact h

end Go.Proofs.Ytjhgbbmghgeeoaa
