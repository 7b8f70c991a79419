
/-
  Rows of slices of bytes; several put one behind the other; a frame put.
-/
import Derived.Test.YtjhgbbmghgeeoaaOl
import Derived.Test.YtjhgbbmghgeeoaaFa
import Derived.Test.YtjhgbbmghgeeoaaIb
namespace Go.Proofs.Ytjhgbbmghgeeoaa
open Go.RowKit

/-- A slice value whose elements are slices of the bytes L. -/
def Rds (w : World) (v : Value) (L : List (List UInt8)) : Prop :=
  ∃ A c, v = .slice A L.length c ∧ (L.length ≤ c ∧ c ≤ maxLen) ∧ ∀ j l, L[j]? = some l → ∃ ad u, A = some ad ∧ w.cell? (ad.add j) = some u ∧ Rd w u l

theorem Rds.at {w : World} {A : Option Addr} {n c : Nat} {L : List (List UInt8)} (h : Rds w (.slice A n c) L) {k : Nat} {l : List UInt8} (hk : L[k]? = some l) :
    ∃ ad A1 c1, A = some ad ∧ w.cell? (ad.add k) = some (.slice A1 l.length c1) ∧ Rd w (.slice A1 l.length c1) l := by
  obtain ⟨A', c', hv, _, hx⟩ := h
  injection hv with h1 h2 h3
  subst h1
  obtain ⟨ad, u, e, hc, hr⟩ := hx k l hk
  obtain ⟨A1, c1, rfl⟩ := hr.shape
  exact ⟨ad, A1, c1, e, hc, hr⟩
theorem Rds.shape {w : World} {v : Value} {L : List (List UInt8)} (h : Rds w v L) : ∃ A c, v = .slice A L.length c := by
  obtain ⟨A, c, e, _⟩ := h
  exact ⟨A, c, e⟩
theorem Rds.later {w w' : World} {v : Value} {L : List (List UInt8)} (h : Rds w v L) (ht : Turn (fun _ => False) w w') : Rds w' v L := by
  obtain ⟨A, c, e, hk, hx⟩ := h
  refine ⟨A, c, e, hk, fun j l hj => ?_⟩
  obtain ⟨ad, u, e1, hc, hr⟩ := hx j l hj
  exact ⟨ad, u, e1, by rw [ht.cell (World.block_lt_of_cell? w _ hc) (fun f => f)]; exact hc, hr.later ht⟩
theorem Rds.odd {w w' : World} {D : Nat} {v : Value} {L : List (List UInt8)} (h : Rds w v L) (ht : Turn (odd D w) w w') : Rds w' v L := by
  obtain ⟨A, c, e, hk, hx⟩ := h
  refine ⟨A, c, e, hk, fun j l hj => ?_⟩
  obtain ⟨ad, u, e1, hc, hr⟩ := hx j l hj
  refine ⟨ad, u, e1, ?_, hr.odd ht⟩
  rw [ht.cell (World.block_lt_of_cell? w _ hc) ?_]
  · exact hc
  · rintro ⟨_, o, ho, hf⟩
    obtain ⟨o', ho', hf'⟩ := cells_of_cell hc
    rw [ho] at ho'
    cases ho'
    rw [hf] at hf'
    cases hf'

theorem Rds.below {w w' : World} {D : Nat} {v : Value} {L : List (List UInt8)} (h : Rds w v L) (ht : Turn (fun k => D ≤ k) w w') (hD : w.heap.size ≤ D) : Rds w' v L := by
  obtain ⟨A, c, e, hk, hx⟩ := h
  refine ⟨A, c, e, hk, fun j l hj => ?_⟩
  obtain ⟨ad, u, e1, hc, hr⟩ := hx j l hj
  have hlt := World.block_lt_of_cell? w _ hc
  exact ⟨ad, u, e1, by rw [ht.cell hlt (by omega)]; exact hc, hr.below ht hD⟩

theorem flat_step {L : List (List UInt8)} {k : Nat} {l : List UInt8} (h : L[k]? = some l) : (L.take (k + 1)).flatten = (L.take k).flatten ++ l := by
  obtain ⟨h1, h2⟩ := List.getElem?_eq_some_iff.1 h
  rw [List.take_succ_eq_append_getElem h1, h2, List.flatten_append]
  simp
theorem flat_le (L : List (List UInt8)) (k : Nat) : (L.take k).flatten.length ≤ L.flatten.length := by
  have e : L.flatten = (L.take k).flatten ++ (L.drop k).flatten := by rw [← List.flatten_append, List.take_append_drop]
  rw [e, List.length_append]
  omega
theorem flat_in {L : List (List UInt8)} {k : Nat} {l : List UInt8} (h : L[k]? = some l) : (L.take k).flatten.length + l.length ≤ L.flatten.length := by
  have := flat_le L (k + 1)
  rw [flat_step h, List.length_append] at this
  exact this

/-- append of n zero bytes onto nil. -/
theorem run_grow_bytes (w : World) (n : Nat) (h0 : 0 < n) (hn : n ≤ 1000000000) (ty : TypeId) :
    (Builtin.append_ #[22, 3] ty #[.slice none 0 0, .int .i64 n]).run Try.prog w =
      .ok (.slice (some ⟨w.heap.size, 0, none⟩) n (grownCap w n 0 5))
        (w.drew.alloc (.cells (Builtin.zeroCells #[.int .u8 0] n ++ Builtin.zeroCells #[.int .u8 0] (grownCap w n 0 5 - n)) 5)) := by
  obtain ⟨i, hi, hz, h1, h2⟩ := info_parts u8_info
  have hfit := growslice_fits (need := n) (old := 0) (bytes := 1) h0 (by omega)
  have h3 : ¬ (n ≤ 0) := by omega
  have h4 : ¬ ((n : Int) > 9223372036854775807) := by omega
  have h5 : IntKind.i64.wrap (n : Int) = (n : Int) := IntWalk.i64_in _ (by omega)
  have h6 : ¬ ((n : Int) < 0) := by omega
  have h7 : ¬ ((n : Int) > 281474976710656) := by omega
  have h8 : ¬ (281474976710656 < Builtin.nextslicecap n 0) := by omega
  have h9 : n ≠ 0 := by omega
  simp [Builtin.append_, run_underlying Try.underlying22, run_underlying Try.underlying3, sizeOf, typeInfo, zeroValue, hi, hz, h1, h2, h5, h6, h7, h8, h9, Question.forced, newRow, grownCap, Builtin.firstCells, Value.cells, asInt, asIntOf]
  intro h
  omega

theorem grown_bytes (w : World) (n : Nat) : Made w (w.drew.alloc (.cells (Builtin.zeroCells #[.int .u8 0] n ++ Builtin.zeroCells #[.int .u8 0] (grownCap w n 0 5 - n)) 5)) (.slice (some ⟨w.heap.size, 0, none⟩) 0 (grownCap w n 0 5)) [] ∨ maxLen < n := by
  by_cases hm : n ≤ maxLen
  · refine .inl ⟨⟨rfl, .inr ⟨w.heap.size, _, _, rfl, Nat.zero_le _, heap_alloc_new w.drew _, Nat.zero_le _, grownCap_le_maxLen w n 0 _ hm, ?_, rfl⟩⟩, (Turn.refl _ w).drew.alloc _, fun k hk => ?_⟩
    · have := grownCap_ge w n 0 5
      rw [Array.size_append, size_zeroCells, size_zeroCells]
      simp
      omega
    · have : w.heap.size = k := by simpa [Value.ownBlock] using hk
      omega
  · exact .inr (by omega)

theorem wpList_grow (w : World) {ops : Array Oper} {rest : List Oper} {o : Oper} {a : Act} {Q : Exit → Act → World → Prop} (hgd : o.guard = none) (s x : Operand)
    (ho : o.op = .call { callee := .builtin .append, args := #[s, x], argTypes := #[22, 3] }) (hs : a.eval s = .slice none 0 0) (n : Nat) (hx : a.eval x = .int .i64 n) (h0 : 0 < n) (hn : n ≤ 1000000000)
    (h : ∀ c w', n ≤ c → c ≤ maxLen → Made w w' (.slice (some ⟨w.heap.size, 0, none⟩) 0 c) [] → wpList Try.prog ops Q rest (a.put o.dst (.slice (some ⟨w.heap.size, 0, none⟩) n c)) w') :
    wpList Try.prog ops Q (o :: rest) a w := by
  refine wpList_plain hgd fun K hK => ?_
  have hr := run_grow_bytes w n h0 hn o.type
  have hm : n ≤ maxLen := by simp only [maxLen]; omega
  unfold Oper.wp execOp
  simp only [ho, resolve, invoke, builtin, Sem.run_bind, Sem.run_pure, Result.andThen_ok, List.map_toArray, List.map_cons, List.map_nil, hs, hx, hr]
  exact hK _ _ (h _ _ (grownCap_ge w n 0 _) (grownCap_le_maxLen w n 0 _ hm) ((grown_bytes w n).resolve_right (by omega)))

set_option maxRecDepth 100000 in
set_option maxHeartbeats 400000 in
theorem grow_nil (n : Nat) (w : World) (hn : n ≤ 1000000000) :
    Calls Try.prog 23 #[.slice none 0 0, .int .i64 n] w fun e w' => ∃ v', e = .returned v' ∧ Made w w' v' [] := by
  by_cases h0 : 0 < n
  · go_enter Try.func23, Try.ntmps23
    go_wp2_with (at_builtin; go_must (refine wpList_grow w rfl _ _ rfl rfl n rfl h0 hn ?_))
    intro c w1 hc1 hc2 hm
    have HM := Lib.hid hm; clear hm
    have hc3 : c ≤ 9223372036854775807 := by simp only [maxLen] at hc2; omega
    clear hc2
    go_wp2
    go_ret
    exact ⟨_, rfl, HM.out⟩
  · obtain rfl : n = 0 := by omega
    go_enter Try.func23, Try.ntmps23
    go_wp2
    go_ret
    exact ⟨_, rfl, By.nil _, Turn.refl _ _, fun k h => by cases h⟩

set_option maxRecDepth 100000 in
set_option maxHeartbeats 1000000 in
theorem concat_any (v : Value) (L : List (List UInt8)) (w : World) (hv : Rds w v L) (hl : L.flatten.length ≤ 1000000) (hn : L.length ≤ 1000000) :
    Calls Try.prog 16 #[v] w fun e w' => ∃ v', e = .returned v' ∧ Made w w' v' L.flatten := by
  have HV := Lib.hid hv; clear hv
  obtain ⟨A, c, rfl⟩ := HV.out.shape
  go_enter Try.func16, Try.ntmps16
  go_wp2_with fail
  go_loop [3, 11] (fun x3 x11 => ∃ k : Nat, x11 = .int .i64 k ∧ k ≤ L.length ∧ x3 = .int .i64 (L.take k).flatten.length) (fun _ x11 => L.length - (intOf x11).toNat)
  case atStart => exact ⟨0, rfl, Nat.zero_le _, by simp⟩
  case round =>
    obtain ⟨k, rfl, hk, rfl⟩ := hrel
    by_cases h : k < L.length
    · obtain ⟨l, hkl⟩ : ∃ l, L[k]? = some l := ⟨_, List.getElem?_eq_getElem h⟩
      obtain ⟨ad, A1, c1, rfl, hc1, hr1⟩ := HV.out.at hkl
      have hin := flat_in hkl
      have hst : Hid ((L.take (k + 1)).flatten.length = (L.take k).flatten.length + l.length) := by rw [flat_step hkl, List.length_append]; trivial
      have HR1 := Lib.hid hr1; clear hr1 hkl
      obtain ⟨q, hq⟩ : ∃ q, q = (L.take k).flatten.length := ⟨_, rfl⟩
      rw [← hq] at hst hin ⊢
      clear hq
      go_wp2
      go_round
      case rel => exact ⟨k + 1, by go_num, by omega, by rw [hst.out]; go_num⟩
      case measure => simp [intOf]; omega
    · obtain rfl : k = L.length := by omega
      rw [List.take_length]
      obtain ⟨T, hT⟩ : ∃ T, T = L.flatten.length := ⟨_, rfl⟩
      rw [← hT] at hl ⊢
      have HTL := Lib.hid hT; clear hT
      go_wp2_with (go_at_call 23; refine (grow_nil T w (by omega)).mono ?_; rintro e w1 ⟨v1, rfl, hm⟩; have HM := Lib.hid hm; clear hm)
      go_loopw [6, 27] (fun x6 x27 wr => ∃ k : Nat, x27 = .int .i64 k ∧ k ≤ L.length ∧ Made w wr x6 (L.take k).flatten) (fun _ x27 _ => L.length - (intOf x27).toNat)
      case atStart => exact ⟨0, rfl, Nat.zero_le _, by simpa using HM.out⟩
      case round =>
        obtain ⟨k, rfl, hk, hm⟩ := hrel
        have HKL := Lib.hid (flat_le L k)
        obtain ⟨m, hmk⟩ : ∃ m, m = (L.take k).flatten := ⟨_, rfl⟩
        rw [← hmk] at hm HKL
        have HMK := Lib.hid hmk; clear hmk
        have HK := Lib.hid hm; clear hm
        obtain ⟨A6, c6, rfl⟩ := HK.out.1.shape
        by_cases h : k < L.length
        · obtain ⟨l, hkl⟩ : ∃ l, L[k]? = some l := ⟨_, List.getElem?_eq_getElem h⟩
          obtain ⟨ad, A1, c1, rfl, hc1, hr1⟩ := (HV.out.later HK.out.2.1).at hkl
          have HIN := Lib.hid (flat_in hkl)
          have HST := Lib.hid (flat_step hkl)
          have HR1 := Lib.hid hr1; clear hr1 hkl
          go_wp2_with (at_builtin; go_must (refine wpList_app _ rfl _ _ _ rfl _ m rfl HK.out.1 _ rfl l HR1.out.yields (by have := HIN.out; have := HTL.out; have := congrArg List.length HMK.out; omega) ?_))
          intro A2 n2 c2 w2 hb hg ha
          have HB := Lib.hid (made_app HK.out (Turn.refl _ _) hb hg ha rfl)
          clear hb hg ha
          go_wp2
          go_roundw
          case rel => exact ⟨k + 1, by go_num, by omega, by rw [HST.out, ← HMK.out]; exact HB.out⟩
          case measure => simp [intOf]; omega
        · obtain rfl : k = L.length := by omega
          go_wp2
          go_ret
          exact ⟨_, rfl, by have h1 := HK.out; have h2 := HMK.out; rw [List.take_length] at h2; rw [h2] at h1; rw [h2]; exact h1⟩

theorem rds_two {w : World} {q : Nat} {u1 u2 : Value} {l1 l2 : List UInt8} (hb : Box w q 22 #[u1, u2]) (h1 : Rd w u1 l1) (h2 : Rd w u2 l2) : Rds w (.slice (some ⟨q, 0, none⟩) 2 2) [l1, l2] := by
  refine ⟨_, _, rfl, ⟨Nat.le_refl _, by simp [maxLen]⟩, fun j l hj => ?_⟩
  match j, hj with
  | 0, hj =>
    obtain rfl : l1 = l := by simpa using hj
    exact ⟨_, u1, rfl, hb.cell 0, h1⟩
  | 1, hj =>
    obtain rfl : l2 = l := by simpa using hj
    exact ⟨_, u2, rfl, hb.cell 1, h2⟩

theorem hid_len (n : Nat) (h : n ≤ 1000000000) : Hid (n < 18446744073709551616) := by
  show n < 18446744073709551616
  omega

set_option maxRecDepth 100000 in
set_option maxHeartbeats 400000 in
theorem head_any (n : Nat) (w : World) (hn : n ≤ 1000000000) :
    Calls Try.prog 17 #[.int .i64 n] w fun e w' => ∃ v', e = .returned v' ∧ Made w w' v' (enc n) := by
  have H0 := Lib.hid (Own.new w)
  have hwr : IntKind.u64.wrap (n : Int) = (n : Int) := by rw [IntKind.wrap_u64]; omega
  have HH := hid_len n hn
  go_enter Try.func17, Try.ntmps17
  go_wp2_with (first
    | (go_at_call 24; refine (num_put w.heap.size _ [] n _ H0.out.1 HH (by simp)).mono ?_; rintro e w1 ⟨rfl, u1, h⟩; have H1 := Lib.hid (H0.out.put h); clear h)
    | (go_at_call 25; refine (bytes_any w.heap.size u1 _ w1 H1.out.1 (by have := enc_len n; simp; omega)).mono ?_; rintro e w2 ⟨v2, rfl, hb, ht, hk⟩; have HB2 := Lib.hid hb; have HT2 := Lib.hid ht; have HK2 := Lib.hid hk; clear hb ht hk))
  go_ret
  exact ⟨_, rfl, HB2.out, H1.out.2.1.fresh HT2.out (fun _ f => f.elim), fun k hk => Nat.le_trans H1.out.2.1.size (HK2.out k hk)⟩

/-- The walk stands still here. -/
def Halt (p : Prop) : Prop := p
theorem halt {p : Prop} (h : Halt p) : p := h

theorem wpList_sub {w : World} {ops : Array Oper} {rest : List Oper} {o : Oper} {a : Act} {Q : Exit → Act → World → Prop} (hgd : o.guard = none) (x y : Operand)
    (ho : o.op = .binOp .sub 3 x y 3) (p q z : Int) (hx : a.eval x = .int .i64 p) (hy : a.eval y = .int .i64 q) (hz : IntKind.i64.wrap (p - q) = z)
    (h : wpList Try.prog ops Q rest (a.put o.dst (.int .i64 z)) w) : wpList Try.prog ops Q (o :: rest) a w := by
  subst hz
  refine wpList_plain hgd fun K hK => ?_
  unfold Oper.wp execOp
  simp only [ho, hx, hy, Sem.run_bind, Sem.run_pure]
  exact hK _ _ h

theorem wpList_gtr {w : World} {ops : Array Oper} {rest : List Oper} {o : Oper} {a : Act} {Q : Exit → Act → World → Prop} (hgd : o.guard = none) (x y : Operand)
    (ho : o.op = .binOp .gtr 3 x y 3) (p q : Int) (b : Bool) (hx : a.eval x = .int .i64 p) (hy : a.eval y = .int .i64 q) (hz : decide (q < p) = b)
    (h : wpList Try.prog ops Q rest (a.put o.dst (.bool b)) w) : wpList Try.prog ops Q (o :: rest) a w := by
  subst hz
  refine wpList_plain hgd fun K hK => ?_
  unfold Oper.wp execOp
  simp only [ho, hx, hy, Sem.run_bind, Sem.run_pure]
  exact hK _ _ h

set_option maxRecDepth 100000 in
set_option maxHeartbeats 400000 in
theorem size_any (n : Nat) (w : World) (hn : n ≤ 1000000000) :
    Calls Try.prog 12 #[.int .i64 n] w fun e w' => e = .returned (.int .i64 (sz n)) ∧ Turn (fun _ => False) w w' := by
  have hx := enc_len n
  have HZ : Hid (sz n = (enc n).length + n + 4) := rfl
  obtain ⟨q, hq⟩ : ∃ q, q = (enc n).length := ⟨_, rfl⟩
  rw [← hq] at hx HZ
  have HQ := Lib.hid hq; clear hq
  obtain ⟨M, hM⟩ : ∃ M : Int, M = 9223372036854775807 := ⟨_, rfl⟩
  have hM1 : 4000000000 ≤ M := by omega
  have HW : Hid (IntKind.i64.wrap (9223372036854775807 - ((q : Int) + 4)) = M - ((q : Int) + 4)) := by rw [hM]; exact IntWalk.i64_in _ (by omega)
  have hcmp : Hid (decide (M - ((q : Int) + 4) < (n : Int)) = false) := decide_eq_false (by omega)
  clear hM
  go_enter Try.func12, Try.ntmps12
  go_wp2_with (first | (with_reducible refine wpList_sub (o := ⟨some 12, _, _, _, _, _⟩) rfl _ _ rfl _ _ _ rfl rfl HW.out ?_) | (with_reducible refine wpList_gtr (o := ⟨some 13, _, _, _, _, _⟩) rfl _ _ rfl _ _ _ rfl rfl hcmp.out ?_; refine halt ?_) | go_at_call 17; refine (head_any n w hn).mono ?_; rintro e w1 ⟨v1, rfl, hm⟩; obtain ⟨A1, c1, rfl⟩ := hm.1.shape; have HT := Lib.hid hm.2.1; clear hm; rw [← HQ.out])
  unfold Halt
  apply wpList_nil
  go_simp
  go_wp2
  go_ret
  exact ⟨ret_int (by rw [HZ.out]; omega), HT.out⟩

set_option maxRecDepth 100000 in
set_option maxHeartbeats 400000 in
theorem frame_put (v : Value) (l : List UInt8) (w : World) (hv : Rd w v l) (hl : l.length ≤ 900000) :
    Calls Try.prog 10 #[v] w fun e w' => ∃ v', e = .returned v' ∧ Made w w' v' (fr l) := by
  have HV := Lib.hid hv
  obtain ⟨A, c, rfl, _⟩ := hv
  obtain ⟨m, hm⟩ : ∃ m, m = l ++ tl (more 0 l) := ⟨_, rfl⟩
  have HML : Hid (m.length = l.length + 4) := by rw [hm, List.length_append, tl_len]; trivial
  have HFR : Hid (fr l = [enc l.length, m].flatten) := by rw [hm]; show fr l = _; simp [fr]
  have HMM := Lib.hid hm; clear hm
  obtain ⟨hd, hh⟩ : ∃ hd, hd = enc l.length := ⟨_, rfl⟩
  have HHL : Hid (hd.length ≤ 10) := by rw [hh]; exact enc_len _
  rw [← hh] at HFR
  have HHH := Lib.hid hh; clear hh
  go_enter Try.func10, Try.ntmps10
  go_wp2_with (first
    | (go_at_call 17; refine (head_any l.length w (by omega)).mono ?_; rintro e w1 ⟨v1, rfl, hm⟩; rw [← HHH.out] at hm; obtain ⟨A1, c1, rfl⟩ := hm.1.shape; have HM := Lib.hid hm; clear hm)
    | (go_at_call 18; refine (crc_put _ l w1 (HV.out.later HM.out.2.1) (by omega)).mono ?_; rintro e w2 ⟨rfl, hb3, ht3⟩; rw [← HMM.out] at hb3; have hb := Box.by hb3 (by rw [HML.out]; simp only [maxLen]; omega); rw [HML.out] at hb; have HB3 := Lib.hid hb; have HT3 := Lib.hid ht3; clear hb3 ht3 hb)
    | (go_at_call 16; go_loud (refine (concat_any _ [hd, m] _ (rds_two (Box.new w2 22 _) ((HM.out.1.rd.later HT3.out).later ((Turn.refl _ _).alloc _)) (HB3.out.rd.later ((Turn.refl _ _).alloc _))) (by have := HHL.out; have := HML.out; simp; omega) (by simp)).mono ?_; rintro e w3 ⟨v3, rfl, hm⟩; have HC := Lib.hid hm; clear hm)))
  go_ret
  refine ⟨_, rfl, ?_⟩
  rw [HFR.out]
  have t : Turn (fun _ => False) w (w2.alloc (.cells #[.slice A1 hd.length c1, .slice (some ⟨w1.heap.size, 0, none⟩) (l.length + 4) (l.length + 4)] 22)) := (HM.out.2.1.trans HT3.out (fun _ _ f => f)).alloc _
  exact ⟨HC.out.1, t.trans HC.out.2.1 (fun _ _ f => f), fun k hk => Nat.le_trans t.size (HC.out.2.2 k hk)⟩

end Go.Proofs.Ytjhgbbmghgeeoaa
