/-
  A slice that reads as bytes; checks, by the program and by the document.
-/
import Derived.Test.YtnnhmnfgmpmkjaaOa
import Derived.Test.YtnnhmnfgmpmkjaaCm
import Derived.WalkMore
namespace Go.Proofs.Ytnnhmnfgmpmkjaa
open Go.RowKit

theorem ret_int {k : IntKind} {a b : Int} (h : a = b) : Ending.returned (.int k a) = .returned (.int k b) := by rw [h]
theorem ret_bool {a b : Bool} (h : a = b) : Ending.returned (.bool a) = .returned (.bool b) := by rw [h]

theorem By.empty (w : World) : By (w.alloc (.cells #[] 5)) (.slice (some ⟨w.heap.size, 0, none⟩) 0 0) [] :=
  World.ownsRow_made w #[] 0 (Nat.zero_le _) (by simp [maxLen]) rfl

/-- A slice value, wherever it lies: its bytes are l. -/
def Rd (w : World) (v : Value) (l : List UInt8) : Prop :=
  ∃ A c, v = .slice A l.length c ∧ (l.length ≤ c ∧ c ≤ maxLen) ∧ (A = none → l = [] ∧ c = 0) ∧ ∀ ad, A = some ad → ∀ j b, l[j]? = some b → w.cell? (ad.add j) = some (bv b)

theorem add_block (a : Addr) (n : Nat) : (a.add n).block = a.block := by unfold Addr.add; split <;> rfl

section
variable {w w' : World} {v : Value} {l : List UInt8}
theorem By.rd (h : By w v l) : Rd w v l := by
  rcases h.form with ⟨rfl, rfl⟩ | ⟨g, cap, cur, rfl, hb, h1, h2, _, ht⟩
  · exact ⟨none, 0, rfl, ⟨Nat.le_refl _, Nat.zero_le _⟩, fun _ => ⟨rfl, rfl⟩, fun _ e => by cases e⟩
  · refine ⟨_, _, rfl, ⟨h1, h2⟩, (fun e => by cases e), fun ad e j b hj => ?_⟩
    cases e
    have := World.ownsRow.cells h (g := g) rfl j (bv b) (by simp [hj])
    exact this
theorem Rd.yields (h : Rd w v l) : Yields w 22 v l := by
  obtain ⟨A, c, rfl, hk, hn, hc⟩ := h
  cases A with
  | none =>
    obtain ⟨rfl, rfl⟩ := hn rfl
    exact Src.ofNil (P := Try.prog) w (size := 1) Try.underlying22 0
  | some ad =>
    refine Src.ofSlice (P := Try.prog) w (size := 1) Try.underlying22 ad l.length c (l.map bv) (by simp) ?_ (bv_one l)
    intro j u hu
    rw [List.getElem?_map] at hu
    cases hb : l[j]? with
    | none => rw [hb] at hu; cases hu
    | some b =>
      rw [hb] at hu
      cases hu
      exact hc ad rfl j b hb
theorem Rd.turn {S : Nat → Prop} (h : Rd w v l) (ht : Turn S w w') (hs : ∀ k, v.ownBlock = some k → ¬ S k) : Rd w' v l := by
  obtain ⟨A, c, rfl, hk, hn, hc⟩ := h
  refine ⟨A, c, rfl, hk, hn, fun ad e j b hj => ?_⟩
  have h1 := hc ad e j b hj
  have hlt := World.block_lt_of_cell? w _ h1
  rw [ht.cell hlt (by subst e; rw [add_block]; exact hs _ rfl)]
  exact h1
theorem Rd.later (h : Rd w v l) (ht : Turn (fun _ => False) w w') : Rd w' v l := h.turn ht (fun _ _ f => f)
theorem Rd.at {A : Option Addr} {n c : Nat} (h : Rd w (.slice A n c) l) {k : Nat} {b : UInt8} (hk : l[k]? = some b) : ∃ ad, A = some ad ∧ w.cell? (ad.add k) = some (.int .u8 (b.toNat : Int)) := by
  obtain ⟨A', c', hv, _, hn, hc⟩ := h
  injection hv with h1 h2 h3
  subst h1
  cases A with
  | none =>
    obtain ⟨rfl, _⟩ := hn rfl
    cases hk
  | some ad => exact ⟨ad, rfl, hc ad rfl k b hk⟩
end

section
variable {w : World} {ad : Addr} {n c : Nat} {l : List UInt8}
theorem add_of_add (a : Addr) (i j : Nat) : (a.add i).add j = a.add (i + j) := by
  unfold Addr.add
  by_cases hi : i = 0 <;> by_cases hj : j = 0 <;> simp [hi, hj, Nat.add_assoc]
theorem Rd.front {A : Option Addr} (h : Rd w (.slice A n c) l) (k : Nat) (hk : k ≤ n) : Rd w (.slice A k c) (l.take k) := by
  obtain ⟨A', c', hv, hc, hn, hx⟩ := h
  injection hv with h1 h2 h3
  subst h1 h2 h3
  have e : (l.take k).length = k := by rw [List.length_take]; omega
  refine ⟨A, c, by rw [e], ⟨by omega, hc.2⟩, (fun e => by rw [(hn e).1]; exact ⟨List.take_nil, (hn e).2⟩), fun ad e2 j b hj => ?_⟩
  rw [List.getElem?_take] at hj
  split at hj
  · exact hx ad e2 j b hj
  · cases hj
theorem Rd.back (h : Rd w (.slice (some ad) n c) l) (k : Nat) (hk : k ≤ n) : Rd w (.slice (some (ad.add k)) (n - k) (c - k)) (l.drop k) := by
  obtain ⟨A', c', hv, hc, hn, hx⟩ := h
  injection hv with h1 h2 h3
  subst h1 h2 h3
  refine ⟨some (ad.add k), c - k, by rw [List.length_drop], ⟨by rw [List.length_drop]; omega, by omega⟩, (fun e => by cases e), fun ad' e2 j b hj => ?_⟩
  injection e2 with e2
  subst e2
  rw [List.getElem?_drop] at hj
  rw [add_of_add]
  exact hx ad rfl _ b hj
theorem Rd.some_at {A : Option Addr} (h : Rd w (.slice A n c) l) (h0 : 0 < l.length) : ∃ ad, A = some ad := by
  obtain ⟨b, hb⟩ : ∃ b, l[0]? = some b := ⟨_, List.getElem?_eq_getElem h0⟩
  obtain ⟨ad, e, _⟩ := h.at hb
  exact ⟨ad, e⟩
theorem Rd.fits {A : Option Addr} (h : Rd w (.slice A n c) l) : n = l.length ∧ l.length ≤ c ∧ c ≤ maxLen := by
  obtain ⟨A', c', hv, hc, _⟩ := h
  injection hv with h1 h2 h3
  subst h3
  exact ⟨h2, hc⟩
end

/-- A slice as a string. -/
theorem Rd.string {w : World} {v : Value} {l : List UInt8} (h : Rd w v l) : (convert 22 9 v).run Try.prog w = .ok (.string ⟨l.toArray⟩) w := by
  obtain ⟨A, c, rfl, hk, hn, hc⟩ := h
  cases A with
  | none =>
    obtain ⟨rfl, rfl⟩ := hn rfl
    exact run_convert_bytes_nil (P := Try.prog) w 22 5 Try.underlying22 Try.underlying5 0 0 _ Try.underlying9
  | some ad =>
    exact run_convert_bytes_back (P := Try.prog) w 22 9 5 ad c l Try.underlying22 Try.underlying5 Try.underlying9
      (fun j hj => hc ad rfl j _ (List.getElem?_eq_getElem hj))

set_option maxRecDepth 100000 in
set_option maxHeartbeats 400000 in
theorem same_any (u v : Value) (l m : List UInt8) (w : World) (hu : Rd w u l) (hv : Rd w v m) :
    Calls Try.prog 14 #[u, v] w fun e w' => e = .returned (.bool (l == m)) ∧ w = w' := by
  have h1 := hu.string
  have h2 := hv.string
  obtain ⟨A, c, rfl, _⟩ := hu
  obtain ⟨B, d, rfl, _⟩ := hv
  go_enter Try.func14, Try.ntmps14
  go_wp2
  go_ret
  exact ⟨rfl, rfl⟩

set_option maxRecDepth 100000 in
set_option maxHeartbeats 400000 in
theorem move_any (s : Nat) (w : World) (h : Hid (s < 4294967296)) :
    Calls Try.prog 17 #[.int .u32 s] w fun e w' => e = .returned (.int .u32 (stp s)) ∧ w = w' := by
  go_enter Try.func17, Try.ntmps17
  go_wp2
  go_ret
  exact ⟨ret_int (move_val s h), rfl⟩

theorem ref_half (s : Nat) (h : Hid (s < 4294967296)) (h1 : ((s : Int) % 2 == 1) = true) : bits BinOp.xor IntKind.u32 ((s : Int) / 2 % 4294967296) 3988292384 = (stp s : Int) := by
  have h : s < 4294967296 := h
  have h1 : s % 2 = 1 := by have := eq_of_beq h1; omega
  have e : (s : Int) / 2 % 4294967296 = ((s / 2 : Nat) : Int) := by omega
  unfold stp
  rw [if_pos h1, e, show (3988292384 : Int) = ((3988292384 : Nat) : Int) from rfl, u32_xor_nat _ _ (by omega) (by omega)]
theorem ref_even (s : Nat) (h : Hid (s < 4294967296)) (h1 : ((s : Int) % 2 == 1) = false) : (s : Int) / 2 % 4294967296 = (stp s : Int) := by
  have h : s < 4294967296 := h
  have h1 : ¬ s % 2 = 1 := by have := ne_of_beq_false h1; omega
  unfold stp
  rw [if_neg h1]
  omega

set_option maxRecDepth 100000 in
set_option maxHeartbeats 400000 in
theorem step_any (s : Nat) (w : World) (h : Hid (s < 4294967296)) :
    Calls Try.prog 18 #[.int .u32 s] w fun e w' => e = .returned (.int .u32 (stp s)) ∧ w = w' := by
  go_enter Try.func18, Try.ntmps18
  go_wp2
  · go_ret
    exact ⟨ret_int (ref_half s h (by assumption)), rfl⟩
  · go_ret
    exact ⟨ret_int (ref_even s h (by assumption)), rfl⟩

theorem start_val (s : Nat) (h : Hid (s < 4294967296)) : bits BinOp.xor IntKind.u32 IntKind.u32.max (s : Int) = ((4294967295 - s : Nat) : Int) := by
  have e : bits BinOp.xor IntKind.u32 IntKind.u32.max (s : Int) = bits BinOp.xor IntKind.u32 (s : Int) 4294967295 := by
    show IntKind.u32.wrap ((BitVec.ofInt 32 4294967295 ^^^ BitVec.ofInt 32 (s : Int)).toNat : Int) = IntKind.u32.wrap ((BitVec.ofInt 32 (s : Int) ^^^ BitVec.ofInt 32 4294967295).toNat : Int)
    rw [BitVec.xor_comm]
  rw [e]
  exact turn_val s h
theorem mix_val (x : Nat) (b : UInt8) (h : Hid (x < 4294967296)) : bits BinOp.xor IntKind.u32 (x : Int) ((b.toNat : Int) % 4294967296) = ((x ^^^ b.toNat : Nat) : Int) := by
  have hb := b.toNat_lt
  have e : (b.toNat : Int) % 4294967296 = (b.toNat : Int) := by omega
  rw [e]
  exact u32_xor_nat _ _ h (by omega)
theorem u32_eq {a b : Int} (h : a = b) : Value.int .u32 a = Value.int .u32 b := by rw [h]

set_option maxRecDepth 100000 in
set_option maxHeartbeats 400000 in
theorem crc_more (s : Nat) (v : Value) (l : List UInt8) (w : World) (hs : Hid (s < 4294967296)) (hv : Rd w v l) (hl : l.length ≤ 1000000) :
    Calls Try.prog 10 #[.int .u32 s, v] w fun e w' => e = .returned (.int .u32 (more s l)) ∧ w = w' := by
  have HV := Lib.hid hv
  obtain ⟨A, c, rfl, _⟩ := hv
  go_enter Try.func10, Try.ntmps10
  go_wp2
  go_loop [6, 13] (fun x6 x13 => ∃ k : Nat, x13 = .int .i64 k ∧ k ≤ l.length ∧ x6 = .int .u32 (eats (4294967295 - s) (l.take k))) (fun _ x13 => l.length - (intOf x13).toNat)
  case atStart => exact ⟨0, rfl, Nat.zero_le _, u32_eq (start_val s hs)⟩
  case round =>
    obtain ⟨k, rfl, hk, rfl⟩ := hrel
    obtain ⟨x, hx⟩ : ∃ x, x = eats (4294967295 - s) (l.take k) := ⟨_, rfl⟩
    have hxl : Hid (x < 4294967296) := by rw [hx]; exact eats_lt _ (by omega)
    rw [← hx]
    have HX := Lib.hid hx; clear hx
    by_cases hlt : k < l.length
    · obtain ⟨b, hb⟩ : ∃ b, l[k]? = some b := ⟨_, List.getElem?_eq_getElem hlt⟩
      obtain ⟨ad, rfl, hcell⟩ := HV.out.at hb
      have HB := Lib.hid hb; clear hb
      have hy : Hid (x ^^^ b.toNat < 4294967296) := mix_lt b hxl
      go_wp2
      go_loop [6, 21] (fun x6 x21 => ∃ j : Nat, x21 = .int .i64 j ∧ j ≤ 8 ∧ x6 = .int .u32 (stps j (x ^^^ b.toNat))) (fun _ x21 => 8 - (intOf x21).toNat)
      case atStart => exact ⟨0, rfl, Nat.zero_le _, u32_eq (mix_val x b hxl)⟩
      case round =>
        obtain ⟨j, rfl, hj, rfl⟩ := hrel
        by_cases h8 : j < 8
        · go_wp2_with (go_at_call 17; refine (move_any _ w (stps_lt j hy)).mono ?_; rintro e w' ⟨rfl, rfl⟩)
          go_round
          case rel => exact ⟨j + 1, by go_num, by omega, rfl⟩
          case measure => simp [intOf]; omega
        · have ej : j = 8 := by omega
          subst ej
          go_wp2
          go_round
          case rel => exact ⟨k + 1, by go_num, by omega, by rw [eats_take HB.out, ← HX.out]; rfl⟩
          case measure => simp [intOf]; omega
    · have ek : k = l.length := by omega
      subst ek
      go_wp2
      go_ret
      exact ⟨ret_int (by rw [start_val x hxl, HX.out, List.take_length]; rfl), rfl⟩

theorem more_val (s : Nat) (h : Hid (s < 4294967296)) : (4294967295 - (s : Int)) % 4294967296 = ((4294967295 - s : Nat) : Int) := by
  have h : s < 4294967296 := h
  omega

set_option maxRecDepth 100000 in
set_option maxHeartbeats 400000 in
theorem ref_more (s : Nat) (v : Value) (l : List UInt8) (w : World) (hs : Hid (s < 4294967296)) (hv : Rd w v l) (hl : l.length ≤ 1000000) :
    Calls Try.prog 11 #[.int .u32 s, v] w fun e w' => e = .returned (.int .u32 (more s l)) ∧ w = w' := by
  have HV := Lib.hid hv
  obtain ⟨A, c, rfl, _⟩ := hv
  go_enter Try.func11, Try.ntmps11
  go_wp2
  go_loop [5, 6] (fun x6 x13 => ∃ k : Nat, x13 = .int .i64 k ∧ k ≤ l.length ∧ x6 = .int .u32 (eats (4294967295 - s) (l.take k))) (fun _ x13 => l.length - (intOf x13).toNat)
  case atStart => exact ⟨0, rfl, Nat.zero_le _, u32_eq (more_val s hs)⟩
  case round =>
    obtain ⟨k, rfl, hk, rfl⟩ := hrel
    obtain ⟨x, hx⟩ : ∃ x, x = eats (4294967295 - s) (l.take k) := ⟨_, rfl⟩
    have hxl : Hid (x < 4294967296) := by rw [hx]; exact eats_lt _ (by omega)
    rw [← hx]
    have HX := Lib.hid hx; clear hx
    by_cases hlt : k < l.length
    · obtain ⟨b, hb⟩ : ∃ b, l[k]? = some b := ⟨_, List.getElem?_eq_getElem hlt⟩
      obtain ⟨ad, rfl, hcell⟩ := HV.out.at hb
      have HB := Lib.hid hb; clear hb
      have hy : Hid (x ^^^ b.toNat < 4294967296) := mix_lt b hxl
      go_wp2
      go_loop [5, 7] (fun x6 x21 => ∃ j : Nat, x21 = .int .i64 j ∧ j ≤ 8 ∧ x6 = .int .u32 (stps j (x ^^^ b.toNat))) (fun _ x21 => 8 - (intOf x21).toNat)
      case atStart => exact ⟨0, rfl, Nat.zero_le _, u32_eq (mix_val x b hxl)⟩
      case round =>
        obtain ⟨j, rfl, hj, rfl⟩ := hrel
        by_cases h8 : j < 8
        · go_wp2_with (go_at_call 18; refine (step_any _ w (stps_lt j hy)).mono ?_; rintro e w' ⟨rfl, rfl⟩)
          go_round
          case rel => exact ⟨j + 1, by go_num, by omega, rfl⟩
          case measure => simp [intOf]; omega
        · have ej : j = 8 := by omega
          subst ej
          go_wp2
          go_round
          case rel => exact ⟨k + 1, by go_num, by omega, by rw [eats_take HB.out, ← HX.out]; rfl⟩
          case measure => simp [intOf]; omega
    · have ek : k = l.length := by omega
      subst ek
      go_wp2
      go_ret
      exact ⟨ret_int (by rw [more_val x hxl, HX.out, List.take_length]; rfl), rfl⟩

set_option maxRecDepth 100000 in
set_option maxHeartbeats 400000 in
theorem crc_sum (v : Value) (l : List UInt8) (w : World) (hv : Rd w v l) (hl : l.length ≤ 1000000) :
    Calls Try.prog 8 #[v] w fun e w' => e = .returned (.int .u32 (more 0 l)) ∧ w = w' := by
  have HV := Lib.hid hv
  clear hv
  go_enter Try.func8, Try.ntmps8
  go_wp2_with (go_at_call 10; refine (crc_more 0 v l w (by show (0 : Nat) < 4294967296; omega) HV.out hl).mono ?_; rintro e w' ⟨rfl, rfl⟩)
  go_ret
  exact ⟨rfl, rfl⟩

set_option maxRecDepth 100000 in
set_option maxHeartbeats 400000 in
theorem ref_sum (v : Value) (l : List UInt8) (w : World) (hv : Rd w v l) (hl : l.length ≤ 1000000) :
    Calls Try.prog 9 #[v] w fun e w' => e = .returned (.int .u32 (more 0 l)) ∧ w = w' := by
  have HV := Lib.hid hv
  clear hv
  go_enter Try.func9, Try.ntmps9
  go_wp2_with (go_at_call 11; refine (ref_more 0 v l w (by show (0 : Nat) < 4294967296; omega) HV.out hl).mono ?_; rintro e w' ⟨rfl, rfl⟩)
  go_ret
  exact ⟨rfl, rfl⟩

end Go.Proofs.Ytnnhmnfgmpmkjaa
