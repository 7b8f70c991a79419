/-
  'CrcBits': bytes that are changed in one bit alone have another check, and are found. No condition.
-/
import Derived.Test.YtnnhmnfgmpmkjaaCe
namespace Go.Proofs.Ytnnhmnfgmpmkjaa.crcBits
open Go.ChangeShapes Go.WideShapes Go.ChangeAt Go.RowKit
set_option linter.unusedVariables false

theorem own : ownKnob Try.prog.godebug = none := by kernel_rfl
theorem laidOut : laidOutB Try.prog = true := by kernel_rfl

theorem Rd.shape {w : World} {v : Value} {l : List UInt8} (h : Rd w v l) : ∃ A c, v = .slice A l.length c := by
  obtain ⟨A, c, e, _⟩ := h
  exact ⟨A, c, e⟩

/-- x with bit k turned. -/
def flip (x : UInt8) (k : Nat) : UInt8 := UInt8.ofNat (x.toNat ^^^ 2 ^ k)
theorem pow_small (k : Nat) (hk : k ≤ 7) : 0 < 2 ^ k ∧ 2 ^ k ≤ 128 :=
  ⟨Nat.pow_pos (by omega), by have := Nat.pow_le_pow_right (n := 2) (by omega) hk; omega⟩
theorem flip_nat (x : UInt8) (k : Nat) (hk : k ≤ 7) : (flip x k).toNat = x.toNat ^^^ 2 ^ k := by
  have h1 := x.toNat_lt
  have h2 := pow_small k hk
  unfold flip
  rw [UInt8.toNat_ofNat', Nat.mod_eq_of_lt (Nat.xor_lt_two_pow (n := 8) (by omega) (by omega))]
theorem flip_ne (x : UInt8) (k : Nat) (hk : k ≤ 7) : x ≠ flip x k := by
  intro e
  have h1 := flip_nat x k hk
  rw [← e] at h1
  have h2 := pow_small k hk
  have h3 : x.toNat ^^^ 0 = x.toNat ^^^ 2 ^ k := by rw [Nat.xor_zero]; exact h1
  have := xor_left h3
  omega
theorem flip_val (x : UInt8) (k : Nat) (hk : k ≤ 7) : bits BinOp.xor IntKind.u8 (x.toNat : Int) ((2 : Int) ^ k % 256) = ((flip x k).toNat : Int) := by
  have h1 := x.toNat_lt
  have h2 := pow_small k hk
  have e : (2 : Int) ^ k % 256 = ((2 ^ k : Nat) : Int) := by
    have e1 : (2 : Int) ^ k = ((2 ^ k : Nat) : Int) := by simp
    rw [e1]
    omega
  rw [e, u8_xor_nat _ _ (by omega) (by omega), flip_nat x k hk]

theorem set_sum {l : List UInt8} {i : Nat} {x : UInt8} {k : Nat} (hk : k ≤ 7) (hx : l[i]? = some x) : more 0 l ≠ more 0 (l.set i (flip x k)) :=
  fun h => flip_ne x k hk (more_set 0 l i x _ hx h)
theorem set_gets {l : List UInt8} {i : Nat} {x : UInt8} {k : Nat} (hk : k ≤ 7) (hx : l[i]? = some x) : gets (l.set i (flip x k) ++ tl (more 0 l)) = ([], 5) := by
  unfold gets
  have e : (l.set i (flip x k) ++ tl (more 0 l)).length - 4 = (l.set i (flip x k)).length := by rw [List.length_append, tl_len]; omega
  have e2 : (tl (more 0 l) == tl (more 0 (l.set i (flip x k)))) = false := by
    rw [beq_eq_false_iff_ne]
    exact fun h => set_sum hk hx (tl_inj (more_lt _ _) (more_lt _ _) h)
  rw [if_neg (by rw [List.length_append, tl_len]; omega), e, List.drop_left, List.take_left, e2]
  rfl

theorem By.set {w : World} {g n c : Nat} {l : List UInt8} (h : By w (.slice (some ⟨g, 0, none⟩) n c) l) (i : Nat) (y : UInt8) : By (w.setCell ⟨g, i, none⟩ (bv y)) (.slice (some ⟨g, 0, none⟩) n c) (l.set i y) := by
  rcases h.form with ⟨e, _⟩ | ⟨g', cap, cur, e, hb, h1, h2, h3, h4⟩
  · cases e
  · injection e with e1 e2 e3
    injection e1 with e1
    injection e1 with e1
    subst e1 e2 e3
    refine ⟨by simp, .inr ⟨g, c, cur.setIfInBounds i (bv y), by rw [List.length_set], Nat.zero_le _, hb.set i (bv y), by rw [List.length_set]; exact h1, h2, by simpa using h3, ?_⟩⟩
    rw [List.length_set, Nat.mul_one, Array.toList_setIfInBounds, List.take_set, h4, List.map_set]
theorem By.cells {w : World} {g n c : Nat} {l : List UInt8} (h : By w (.slice (some ⟨g, 0, none⟩) n c) l) {i : Nat} {x : UInt8} (hx : l[i]? = some x) : w.cell? ⟨g, i, none⟩ = some (.int .u8 (x.toNat : Int)) := by
  obtain ⟨ad, e, hc⟩ := h.rd.at hx
  cases e
  have e1 : (⟨g, 0, none⟩ : Addr).add i = ⟨g, i, none⟩ := by unfold Addr.add; split <;> simp_all
  rw [e1] at hc
  exact hc
theorem By.free {w : World} {g n c : Nat} {l : List UInt8} (h : By w (.slice (some ⟨g, 0, none⟩) n c) l) (i : Nat) : w.frozen? ⟨g, i, none⟩ = false := by
  rcases h.form with ⟨e, _⟩ | ⟨g', cap, cur, e, hb, _⟩
  · cases e
  · injection e with e1 e2 e3
    injection e1 with e1
    injection e1 with e1
    subst e1
    exact hb.free i
theorem By.block {w : World} {A : Option Addr} {n c : Nat} {l : List UInt8} (h : By w (.slice A n c) l) (h0 : 0 < l.length) : ∃ g, A = some ⟨g, 0, none⟩ := by
  rcases h.form with ⟨_, rfl⟩ | ⟨g', cap, cur, e, _⟩
  · cases h0
  · injection e with e1
    exact ⟨g', e1⟩

theorem i64_nat {n : Int} (h0 : 0 ≤ n) : ∃ k : Nat, n = (k : Int) := Int.eq_ofNat_of_zero_le h0

set_option maxRecDepth 100000 in
set_option maxHeartbeats 1000000 in
theorem walk_out (v : Value) (l : List UInt8) (a b : Int) (w : World) (h : Rd w v l) (hlen : l.length ≤ maxLen) (hout : 100 < l.length ∨ a < 0 ∨ (l.length : Int) ≤ a ∨ b < 0 ∨ 7 < b) :
    Calls Try.prog 6 #[v, .int .i64 a, .int .i64 b] w fun e w' => e = .returned (.bool true) ∧ Below w.heap.size w w' := by
  obtain ⟨A, c, rfl, _⟩ := h
  unfold maxLen at hlen
  by_cases h1 : l.length ≤ 100
  · by_cases h2 : 0 ≤ a
    · by_cases h3 : a < (l.length : Int)
      · by_cases h4 : 0 ≤ b
        · have h5 : 7 < b := by omega
          clear hout
          go_enter Try.func6, Try.ntmps6
          go_wp2_with (go_at_call 7; refine (alive_any w).mono ?_; rintro e w5 ⟨rfl, ht⟩; have HT5 := Lib.hid ht; clear ht)
          go_ret
          exact ⟨rfl, HT5.out.below (Nat.le_refl _) (fun _ f => f.elim)⟩
        · have h5 : b < 0 := by omega
          clear hout h4
          go_enter Try.func6, Try.ntmps6
          go_wp2_with (go_at_call 7; refine (alive_any w).mono ?_; rintro e w5 ⟨rfl, ht⟩; have HT5 := Lib.hid ht; clear ht)
          go_ret
          exact ⟨rfl, HT5.out.below (Nat.le_refl _) (fun _ f => f.elim)⟩
      · have h4 : (l.length : Int) ≤ a := by omega
        clear hout h3
        go_enter Try.func6, Try.ntmps6
        go_wp2_with (go_at_call 7; refine (alive_any w).mono ?_; rintro e w5 ⟨rfl, ht⟩; have HT5 := Lib.hid ht; clear ht)
        go_ret
        exact ⟨rfl, HT5.out.below (Nat.le_refl _) (fun _ f => f.elim)⟩
    · have h3 : a < 0 := by omega
      clear hout h2
      go_enter Try.func6, Try.ntmps6
      go_wp2_with (go_at_call 7; refine (alive_any w).mono ?_; rintro e w5 ⟨rfl, ht⟩; have HT5 := Lib.hid ht; clear ht)
      go_ret
      exact ⟨rfl, HT5.out.below (Nat.le_refl _) (fun _ f => f.elim)⟩
  · have h2 : 100 < l.length := by omega
    clear hout h1
    go_enter Try.func6, Try.ntmps6
    go_wp2_with (go_at_call 7; refine (alive_any w).mono ?_; rintro e w5 ⟨rfl, ht⟩; have HT5 := Lib.hid ht; clear ht)
    go_ret
    exact ⟨rfl, HT5.out.below (Nat.le_refl _) (fun _ f => f.elim)⟩

/-- Where all is, behind the one store. -/
def Late (w W2 W4 : World) (g n c : Nat) (l m : List UInt8) : Prop :=
  By W4 (.slice (some ⟨g, 0, none⟩) n c) l ∧ Box W4 W2.heap.size 5 (m.map bv).toArray ∧ Turn (fun _ => False) w W4

set_option maxRecDepth 100000 in
set_option maxHeartbeats 4000000 in
theorem walk_in (v : Value) (l : List UInt8) (i k : Nat) (w : World) (h : Rd w v l) (h100 : l.length ≤ 100) (hi : i < l.length) (hk : k ≤ 7) :
    Calls Try.prog 6 #[v, .int .i64 i, .int .i64 k] w fun e w' => e = .returned (.bool true) ∧ Below w.heap.size w w' := by
  have HV := Lib.hid h
  obtain ⟨A, c, rfl, _⟩ := h
  obtain ⟨x, hx⟩ : ∃ x, l[i]? = some x := ⟨_, List.getElem?_eq_getElem hi⟩
  have HX := Lib.hid hx; clear hx
  have HM0 := Lib.hid (made_empty w)
  have HY : Hid (Yields (w.alloc (.cells #[] 5)) 22 (.slice A l.length c) l) := (HV.out.later ((Turn.refl _ w).alloc _)).yields
  have hik : ¬ (l.length : Int) ≤ (i : Int) := by omega
  go_enter Try.func6, Try.ntmps6
  go_wp2_with (at_builtin; go_must (refine wpList_app (o := ⟨some 35, _, _, _, _, _⟩) _ rfl (.tmp 33) (.tmp 34) 22 rfl _ [] rfl HM0.out.1 _ rfl l HY.out (by simp; omega) ?_))
  intro A1 n1 c1 w1 hb hg ha
  have hm1 := made_app HM0.out (Turn.refl _ _) hb hg ha (by simp)
  clear hb hg ha
  obtain ⟨g, rfl⟩ := By.block hm1.1 (by omega)
  obtain rfl : n1 = l.length := hm1.1.rd.fits.1
  have hcap := hm1.1.rd.fits.2
  have HM1 := Lib.hid hm1; clear hm1
  have hc0 := By.cells HM1.out.1 HX.out
  have hf0 := By.free HM1.out.1 i
  go_wp2_with fail
  rw [flip_val x k hk]
  obtain ⟨y, hy⟩ : ∃ y, y = flip x k := ⟨_, rfl⟩
  rw [← hy]
  obtain ⟨W2, hW2⟩ : ∃ W2, W2 = w1.setCell ⟨g, i, none⟩ (.int .u8 (y.toNat : Int)) := ⟨_, rfl⟩
  rw [← hW2]
  have HB2 : Hid (By W2 (.slice (some ⟨g, 0, none⟩) l.length c1) (l.set i y)) := by rw [hW2]; exact By.set HM1.out.1 i y
  have hgl : w.heap.size ≤ g := HM1.out.2.2 g rfl
  have HT2 : Hid (Turn (fun _ => False) w W2) := by rw [hW2]; exact HM1.out.2.1.setCell (fun h => absurd h (Nat.not_lt.2 hgl)) _
  have hgW : g < W2.heap.size := HB2.out.lt rfl
  have HNE : Hid (more 0 l ≠ more 0 (l.set i y)) := by rw [hy]; exact set_sum hk HX.out
  have HGS : Hid (gets (l.set i y ++ tl (more 0 l)) = ([], 5)) := by rw [hy]; exact set_gets hk HX.out
  have HGI : Hid ((l.set i y)[i]? = some y) := by rw [List.getElem?_set_self hi]; trivial
  clear hW2 hy hc0 hf0
  have HXR : Hid ((l ++ tl (more 0 l))[i]? = some x) := by rw [List.getElem?_append_left hi]; exact HX.out
  have HSR : Hid ((l ++ tl (more 0 l)).set i y = l.set i y ++ tl (more 0 l)) := by rw [List.set_append_left _ _ hi]; trivial
  have HLR : Hid ((l.set i y ++ tl (more 0 l)).length = l.length + 4) := by rw [List.length_append, List.length_set, tl_len]; trivial
  have HW4 : Hid (∀ w3, Box w3 W2.heap.size 5 ((l ++ tl (more 0 l)).map bv).toArray → Turn (fun _ => False) W2 w3 → Late w W2 (w3.setCell ⟨W2.heap.size, i, none⟩ (.int .u8 (y.toNat : Int))) g l.length c1 (l.set i y) (l.set i y ++ tl (more 0 l))) := fun w3 hb ht => by
    have h1 := hb.set i (bv y)
    rw [show (((l ++ tl (more 0 l)).map bv).toArray.setIfInBounds i (bv y)) = ((l.set i y ++ tl (more 0 l)).map bv).toArray by rw [List.setIfInBounds_toArray, ← List.map_set, HSR.out]] at h1
    refine ⟨?_, h1, ((HT2.out.trans ht (fun _ _ f => f)).setCell (fun h => absurd h (Nat.not_lt.2 HT2.out.size)) _)⟩
    refine (HB2.out.turn ht (fun _ _ f => f)).turn (S := fun b => b = W2.heap.size) ((Turn.refl (fun b => b = W2.heap.size) w3).setCell (p := ⟨W2.heap.size, i, none⟩) (fun _ => rfl) _) ?_
    intro b hb e
    have : g = b := by simpa [Value.ownBlock] using hb
    omega
  go_wp2_with (go_at_call 15; refine (crc_put _ l W2 (HV.out.later HT2.out) (by omega)).mono ?_; rintro e w3 ⟨rfl, hb3, ht3⟩; have hc3 := By.cells (HB2.out.turn ht3 (fun _ _ f => f)) HGI.out; have hc4 : w3.cell? ⟨W2.heap.size, i, none⟩ = some (.int .u8 (x.toNat : Int)) := (hb3.cell i).trans (by rw [List.getElem?_toArray, List.getElem?_map, HXR.out]; rfl); have hf4 := hb3.free i; have HL4 := Lib.hid (HW4.out w3 hb3 ht3); clear hb3 ht3)
  obtain ⟨W4, hW4⟩ : ∃ W4, W4 = w3.setCell ⟨W2.heap.size, i, none⟩ (.int .u8 (y.toNat : Int)) := ⟨_, rfl⟩
  rw [← hW4] at HL4 ⊢
  clear hW4 hc3 hc4 hf4 HW4
  obtain ⟨l', hl'⟩ : ∃ l', l' = l.set i y := ⟨_, rfl⟩
  have HLL : Hid (l'.length = l.length) := by rw [hl', List.length_set]; trivial
  rw [← hl'] at HL4 HGS HNE HLR
  clear hl' HB2 HGI HSR
  obtain ⟨m, hm⟩ : ∃ m, m = l' ++ tl (more 0 l) := ⟨_, rfl⟩
  rw [← hm] at HL4 HGS HLR
  clear hm
  have hbm := Box.by HL4.out.2.1 (by rw [HLR.out]; simp only [maxLen]; omega)
  rw [HLR.out] at hbm
  have HBM := Lib.hid hbm; clear hbm
  have HEQ : Hid (((more 0 l : Nat) : Int) ≠ ((more 0 l' : Nat) : Int)) := fun e => HNE.out (by omega)
  have hq1 : (((more 0 l : Nat) : Int) == ((more 0 l' : Nat) : Int)) = false := by rw [beq_eq_false_iff_ne]; exact HEQ.out
  have hq2 : (((more 0 l : Nat) : Int) != ((more 0 l' : Nat) : Int)) = true := by rw [bne_iff_ne]; exact HEQ.out
  go_wp2_with (first
    | (go_at_call 12; refine (crc_get _ m W4 HBM.out.rd (by rw [HLR.out]; omega)).mono ?_; rintro e w5 ⟨v5, rfl, hr5, ht5⟩; rw [HGS.out] at hr5; rw [HGS.out]; obtain ⟨A5, c5, rfl⟩ := Rd.shape hr5; have HT5 := Lib.hid (HL4.out.2.2.trans ht5 (fun _ _ f => f)); have HC5 := Lib.hid (HL4.out.1.rd.later ht5); clear hr5 ht5)
    | (go_at_call 8; ((with_reducible refine (crc_sum (.slice A l.length c) l w5 (HV.out.later HT5.out) (by omega)).mono ?_); rintro e w6 ⟨rfl, rfl⟩))
    | (go_at_call 8; ((with_reducible refine (crc_sum (.slice (some ⟨g, 0, none⟩) l.length c1) l' w5 HC5.out (by rw [HLL.out]; omega)).mono ?_); rintro e w6 ⟨rfl, rfl⟩))
    | (go_at_call 7; refine (alive_any w5).mono ?_; rintro e w6 ⟨rfl, ht⟩; have HT6 := Lib.hid ht; clear ht))
  go_ret
  exact ⟨rfl, (HT5.out.trans HT6.out (fun _ _ f => f)).below (Nat.le_refl _) (fun _ f => f.elim)⟩

theorem walk (v : Value) (l : List UInt8) (a b : Int) (w : World) (h : Rd w v l) (hlen : l.length ≤ maxLen) :
    Calls Try.prog 6 #[v, .int .i64 a, .int .i64 b] w fun e w' => e = .returned (.bool true) ∧ Below w.heap.size w w' := by
  by_cases hout : 100 < l.length ∨ a < 0 ∨ (l.length : Int) ≤ a ∨ b < 0 ∨ 7 < b
  · exact walk_out v l a b w h hlen hout
  · obtain ⟨i, rfl⟩ := i64_nat (n := a) (by omega)
    obtain ⟨k, rfl⟩ := i64_nat (n := b) (by omega)
    exact walk_in v l i k w h (by omega) (by omega) (by omega)

set_option maxRecDepth 100000 in
theorem lifted (os : Os) (started : os.Started) (H : Type) (enc : TypeId × Value → H) :
    ReturnsInHanded {} Try.checked os 6 .any (Rows.crcBitsSpec.pre6 enc Try.prog Try.f6 Rows.crcBitsRow.domain false) (Rows.crcBitsSpec.post enc Try.prog Try.f6 false true false false) := by
  refine returnsInHanded_of_change (C := Try.checked) own started (by kernel_rfl) Try.func6
    (ChangeSpec.witness6 (enc := enc) (C := Try.checked) false ⟨#[], #[.slice none 0 0, .int .i64 0, .int .i64 0], []⟩ 8 (by kernel_rfl) (by kernel_rfl) (by kernel_rfl) (by kernel_rfl)) ?_
  intro W base args ds gs before hval0 hW hcnd _
  have hval : ∀ (j : Nat) t v, Try.f6.params[j]? = some t → args[j]? = some v → Value.okWide Try.prog W .any base t v := hval0
  have hW' := hW
  obtain ⟨p, q, hA0, hV, rfl, hfz, hnd⟩ := hW
  have hA : DataW.TrodAll enc Try.prog W 0 (fun _ => true) true Try.f6.params.toList args.toList ds p := hA0
  rw [Try.params6] at hA hval
  obtain ⟨v0, vs0, d0, ds0, p0, q0, hargs, rfl, rfl, h0, r0⟩ := trodAll_cons hA
  obtain ⟨v1, vs1, d1, ds1, p1, q1, rfl, rfl, rfl, h1, r1⟩ := trodAll_cons r0
  obtain ⟨v2, vs2, d2, ds2, p2, q2, rfl, rfl, rfl, h2, r2⟩ := trodAll_cons r1
  obtain ⟨rfl, rfl, rfl⟩ := trodAll_nil r2
  obtain rfl : args = #[v0, v1, v2] := by cases args; simp_all
  obtain ⟨rfl, rfl⟩ := trodVars_none hV
  have k0 := h0
  have lt0 : ∀ x ∈ p0, x.block < W.heap.size := by obtain ⟨m, hm⟩ := k0; exact DataW.trod_lt m _ _ _ hm
  obtain ⟨a0, len0, cap0, rfl⟩ := okWide_slice Try.underlying22 (hval 0 22 v0 rfl rfl)
  obtain ⟨l0, hp0, hl0⟩ := open_bytes rfl h0
  obtain ⟨a1, rfl, rfl, rfl, w1⟩ := open_int Try.underlying3 (hval 1 3 v1 rfl rfl) h1
  obtain ⟨a2, rfl, rfl, rfl, w2⟩ := open_int Try.underlying3 (hval 2 3 v2 rfl rfl) h2
  clear hA0 hval0
  refine (walk _ l0 a1 a2 W hp0 hl0).mono fun e W' ⟨he, bel⟩ => ?_
  subst he
  exact ⟨_, rfl, _, _, _, [], _, [], hW', trodAll_mk1 (shut_bool Try.underlying4 _), (trodAll_cons_mk (Below.trod laidOut (by kernel_rfl) (of_decide_eq_true (by kernel_rfl)) k0 bel lt0) (trodAll_cons_mk (shut_int Try.underlying3 w1) (trodAll_cons_mk (shut_int Try.underlying3 w2) trodAll_mk0))), rfl, bel.frame _, fun h => by cases h⟩

theorem over : Rows.crcBitsRow.holds Try.pinned (OpenSpec.ofChange Rows.crcBitsSpec) :=
  OpenClaim.holds_of_wide 6 Try.f6 rfl rfl rfl rfl rfl rfl rfl ⟨rfl, rfl, rfl, rfl, rfl⟩ rfl rfl rfl rfl rfl (by kernel_rfl) Try.func6 (by kernel_rfl)
    (of_decide_eq_true (by kernel_rfl)) (by unfold Func.isWrapper; first | (rw [if_pos (by decide +kernel)]; kernel_rfl) | (rw [if_neg (by decide +kernel)]; exact ⟨rfl, rfl⟩))
    (fun os started H enc _ => lifted os started H enc)

theorem proved : Rows.CrcBitsSaid := over
#print axioms proved
end Go.Proofs.Ytnnhmnfgmpmkjaa.crcBits
