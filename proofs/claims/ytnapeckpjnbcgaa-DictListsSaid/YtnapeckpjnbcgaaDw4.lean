
/-
  'DictLists': the numbers of any things, the things of any numbers, and what two dictionaries have together. No condition.
-/
import Derived.Test.YtnapeckpjnbcgaaDt
import Derived.Test.YtnapeckpjnbcgaaDo
import Derived.ProofKit
import Derived.OpenShut
namespace Go.Proofs.Ytnapeckpjnbcgaa.dictLists
open Go.ChangeShapes Go.WideShapes Go.ChangeAt Go.RowKit
set_option linter.unusedVariables false

theorem own : ownKnob Try.prog.godebug = none := by kernel_rfl
theorem laidOut : laidOutB Try.prog = true := by kernel_rfl

set_option maxRecDepth 100000

theorem allIn_step10 {b : List (List UInt8)} {L : List (List UInt8)} {i : Nat} {x : List UInt8} (h : b[i]? = some x) : allIn (b.take (i + 1)) L = (allIn (b.take i) L && decide (idxG x L < L.length)) := by
  obtain ⟨h0, e⟩ := List.getElem?_eq_some_iff.1 h
  unfold allIn
  rw [List.take_succ_eq_append_getElem h0, e, List.all_append]
  simp
theorem allAt_step10 {cs : List Int} {L : List (List UInt8)} {i : Nat} {c : Int} (h : cs[i]? = some c) : allAt (cs.take (i + 1)) L = (allAt (cs.take i) L && (atG c L).isSome) := by
  obtain ⟨h0, e⟩ := List.getElem?_eq_some_iff.1 h
  unfold allAt
  rw [List.take_succ_eq_append_getElem h0, e, List.all_append]
  simp
theorem atG_some10 {L : List (List UInt8)} {c : Int} (h0 : 0 ≤ c) (h1 : c < L.length) : (atG c L).isSome = true := by
  unfold atG
  rw [if_pos h0, List.getElem?_eq_getElem (by omega)]
  rfl
theorem atG_low10 {L : List (List UInt8)} {c : Int} (h0 : c < 0) : (atG c L).isSome = false := by
  unfold atG
  rw [if_neg (by omega)]
  rfl
theorem atG_high10 {L : List (List UInt8)} {c : Int} (h1 : (L.length : Int) ≤ c) : (atG c L).isSome = false := by
  unfold atG
  split
  · rw [List.getElem?_eq_none (by omega)]
    rfl
  · rfl
theorem set_same10 {l m : List (List UInt8)} (h : ∀ x, x ∈ l ↔ x ∈ m) : ofT l = ofT m := by
  obtain ⟨a1, a2⟩ := setG_is Op.bytesLess rises_bytes l
  obtain ⟨b1, b2⟩ := setG_is Op.bytesLess rises_bytes m
  exact rising_same rises_bytes a1 b1 fun x => (a2 x).trans ((h x).trans (b2 x).symm)
theorem ofT_mem10 (l : List (List UInt8)) (x : List UInt8) : x ∈ ofT l ↔ x ∈ l := (setG_is Op.bytesLess rises_bytes l).2 x
/-- What is told of numbers, in either case. -/
theorem codes_at10 {b L : List (List UInt8)} {i : Nat} (h : i < (codesG b L).length) : ∃ x, b[i]? = some x ∧ (codesG b L)[i]? = some (codeT x L) := by
  unfold codesG at h ⊢
  by_cases ha : allIn b L = true
  · rw [if_pos ha] at h ⊢
    rw [List.length_map] at h
    refine ⟨b[i], List.getElem?_eq_getElem h, ?_⟩
    rw [List.getElem?_map, List.getElem?_eq_getElem h]
    unfold codeT
    rw [if_pos (idxG_mem.2 (allIn_iff.1 ha _ (List.getElem_mem h)))]
    rfl
  · rw [if_neg ha] at h
    exact absurd h (Nat.not_lt_zero i)
theorem things_all10 {cs : List Int} {L : List (List UInt8)} (ha : allAt cs L = true) : (cs.filterMap fun n => atG n L).length = cs.length ∧ ∀ (i : Nat) (c : Int), cs[i]? = some c → ∃ x, (cs.filterMap fun n => atG n L)[i]? = some x ∧ 0 ≤ c ∧ L[c.toNat]? = some x := by
  induction cs with
  | nil => exact ⟨rfl, fun i c h => by simp at h⟩
  | cons d cs ih =>
    unfold allAt at ha
    rw [List.all_cons, Bool.and_eq_true] at ha
    obtain ⟨y, hy⟩ := Option.isSome_iff_exists.1 ha.1
    obtain ⟨h1, h2⟩ := ih ha.2
    rw [List.filterMap_cons, hy]
    refine ⟨by simp [h1], fun i c h => ?_⟩
    cases i with
    | zero =>
      have : d = c := by simpa using h
      subst this
      unfold atG at hy
      split at hy
      · rename_i h0
        exact ⟨y, rfl, h0, hy⟩
      · cases hy
    | succ i =>
      obtain ⟨x, hx, h0, hx2⟩ := h2 i c (by simpa using h)
      exact ⟨x, by simpa using hx, h0, hx2⟩
theorem things_at10 {cs : List Int} {L : List (List UInt8)} {i : Nat} (h : i < (thingsG cs L).length) : ∃ c x, cs[i]? = some c ∧ (thingsG cs L)[i]? = some x ∧ 0 ≤ c ∧ L[c.toNat]? = some x := by
  unfold thingsG at h ⊢
  by_cases ha : allAt cs L = true
  · rw [if_pos ha] at h ⊢
    obtain ⟨h1, h2⟩ := things_all10 ha
    rw [h1] at h
    obtain ⟨x, hx, h0, hx2⟩ := h2 i cs[i] (List.getElem?_eq_getElem h)
    exact ⟨cs[i], x, List.getElem?_eq_getElem h, hx, h0, hx2⟩
  · rw [if_neg ha] at h
    exact absurd h (Nat.not_lt_zero i)

set_option maxHeartbeats 16000000 in
theorem walk (va vb vc : Value) (a b : List (List UInt8)) (cs : List Int) (w : World) (ha : RdE ET10 w va a) (hb : RdE ET10 w vb b) (hc : RdE EC10 w vc cs) (hla : a.length ≤ maxLen) (hlb : b.length ≤ maxLen) (hlc : cs.length ≤ maxLen) :
    Calls Try.prog 4 #[va, vb, vc] w fun e w' => e = .returned (.bool true) ∧ Below w.heap.size w w' := by
  have HA := Lib.hid ha; have HB := Lib.hid hb; have HCS := Lib.hid hc
  obtain ⟨Aa, ca, rfl⟩ := ha.shape
  obtain ⟨Ab, cb, rfl⟩ := hb.shape
  obtain ⟨Ac, cc, rfl⟩ := hc.shape
  unfold maxLen at hla hlb hlc
  clear ha hb hc
  by_cases h60 : 60 < a.length
  · have hli : (60 : Int) < a.length := by omega
    go_enter Try.func4, Try.ntmps4
    go_wp2_with fail
    refine (alive_any10 w).mono ?_
    rintro e w8 ⟨rfl, t8⟩
    have HT8 := Lib.hid t8
    clear t8
    go_wp2
    go_ret
    exact ⟨rfl, HT8.out.below (Nat.le_refl _) (fun _ f => f.elim)⟩
  by_cases h61 : 60 < b.length
  · have hli : ¬ ((60 : Int) < a.length) := by omega
    have hlj : (60 : Int) < b.length := by omega
    go_enter Try.func4, Try.ntmps4
    go_wp2_with fail
    refine (alive_any10 w).mono ?_
    rintro e w8 ⟨rfl, t8⟩
    have HT8 := Lib.hid t8
    clear t8
    go_wp2
    go_ret
    exact ⟨rfl, HT8.out.below (Nat.le_refl _) (fun _ f => f.elim)⟩
  by_cases h62 : 60 < cs.length
  · have hli : ¬ ((60 : Int) < a.length) := by omega
    have hlj : ¬ ((60 : Int) < b.length) := by omega
    have hlk : (60 : Int) < cs.length := by omega
    go_enter Try.func4, Try.ntmps4
    go_wp2_with fail
    refine (alive_any10 w).mono ?_
    rintro e w8 ⟨rfl, t8⟩
    have HT8 := Lib.hid t8
    clear t8
    go_wp2
    go_ret
    exact ⟨rfl, HT8.out.below (Nat.le_refl _) (fun _ f => f.elim)⟩
  have hli : ¬ ((60 : Int) < a.length) := by omega
  have hlj : ¬ ((60 : Int) < b.length) := by omega
  have hlk : ¬ ((60 : Int) < cs.length) := by omega
  have hLa : (ofT a).length ≤ 60 := by have := setG_len Op.bytesLess a a.length; rw [List.take_length] at this; exact Nat.le_trans this (by omega)
  have HLab : Hid ((ofT (a ++ b)).length ≤ 1000) := by
    have h := setG_len Op.bytesLess (a ++ b) (a ++ b).length
    rw [List.take_length, List.length_append] at h
    exact Nat.le_trans h (by omega)
  have HLb2 : Hid ((ofT b).length ≤ 60) := by have h := setG_len Op.bytesLess b b.length; rw [List.take_length] at h; exact Nat.le_trans h (by omega)
  have HLb : Hid ((ofT b).length ≤ 1000) := by have h := setG_len Op.bytesLess b b.length; rw [List.take_length] at h; exact Nat.le_trans h (by omega)
  have HJ1 : Hid (ofT (ofT a ++ ofT b) = ofT (a ++ b)) := set_same10 fun x => by rw [List.mem_append, List.mem_append, ofT_mem10, ofT_mem10]
  have HJ2 : Hid (ofT ([] ++ ofT b) = ofT b) := set_same10 fun x => by rw [List.nil_append, ofT_mem10]
  have HOA := Lib.hid (of_real10 _ a w HA.out (by omega))
  have HCAT : Hid (∀ i, i < (codesG b (ofT a)).length → ∃ x, b[i]? = some x ∧ (codesG b (ofT a))[i]? = some (codeT x (ofT a))) := fun i h => codes_at10 h
  have HTAT : Hid (∀ i, i < (thingsG cs (ofT a)).length → ∃ c x, cs[i]? = some c ∧ (thingsG cs (ofT a))[i]? = some x ∧ 0 ≤ c ∧ (ofT a)[c.toNat]? = some x) := fun i h => things_at10 h
  have HNL : Hid (allIn b (ofT a) = true → (codesG b (ofT a)).length = b.length) := fun h => by unfold codesG; rw [if_pos h, List.length_map]
  have HNL0 : Hid (allIn b (ofT a) = false → (codesG b (ofT a)).length = 0) := fun h => by unfold codesG; rw [h]; rfl
  have HXL : Hid (allAt cs (ofT a) = true → (thingsG cs (ofT a)).length = cs.length) := fun h => by unfold thingsG; rw [if_pos h]; exact (things_all10 h).1
  have HXL0 : Hid (allAt cs (ofT a) = false → (thingsG cs (ofT a)).length = 0) := fun h => by unfold thingsG; rw [h]; rfl
  have HCOD : Hid (∀ (d v : Value) (W : World), DV10 W d (ofT a) → d ≠ .pointer none → RdE ET10 W v b → Calls Try.prog 15 #[d, v] W fun e w' => ∃ u, e = .returned (.tuple #[u, .bool (allIn b (ofT a))]) ∧ RdE EC10 w' u (codesG b (ofT a)) ∧ Turn (fun _ => False) W w') := fun d v W h1 hn h2 => codes_any10 d v _ b W h1 hn h2 (by omega)
  have HTHI : Hid (∀ (d v : Value) (W : World), DV10 W d (ofT a) → d ≠ .pointer none → RdE EC10 W v cs → Calls Try.prog 16 #[d, v] W fun e w' => ∃ u, e = .returned (.tuple #[u, .bool (allAt cs (ofT a))]) ∧ RdE ET10 w' u (thingsG cs (ofT a)) ∧ Turn (fun _ => False) W w') := fun d v W h1 hn h2 => things_any10 d v _ cs W h1 hn h2 (by omega)
  have HRO : Hid (∀ W, RdE ET10 W (.slice Aa a.length ca) a → Calls Try.prog 9 #[.slice Aa a.length ca] W fun e w' => Texts10 W (ofT a) e w') := fun W h => ref_of10 _ a W h (by omega)
  have HJN : Hid (∀ (d e : Value) (W : World), DV10 W d (ofT a) → DV10 W e (ofT b) → Calls Try.prog 17 #[d, e] W fun e w' => ∃ d, e = .returned d ∧ DV10 w' d (ofT (a ++ b)) ∧ Turn (fun _ => False) W w') := fun d e W h1 h2 => by
    have h := join_any10 d e _ _ W h1 h2 (by have := HLb2.out; omega)
    rwa [HJ1.out] at h
  have HJO : Hid (∀ (e : Value) (W : World), DV10 W e (ofT b) → Calls Try.prog 17 #[.pointer none, e] W fun e w' => ∃ d, e = .returned d ∧ DV10 w' d (ofT b) ∧ Turn (fun _ => False) W w') := fun e W h2 => by
    have h := join_any10 (.pointer none) e [] _ W (DV10.nil W) h2 (by have := HLb2.out; simp only [List.length_nil]; omega)
    rwa [HJ2.out] at h
  clear HJ1 HJ2 HLb2
  generalize ofT a = La at *
  generalize codesG b La = N at *
  generalize thingsG cs La = X at *
  cases hI : allIn b La with
  | true =>
    cases hT : allAt cs La with
    | true =>
      have hNl : N.length = b.length := HNL.out hI
      have hXl : X.length = cs.length := HXL.out hT
      rw [hI] at HCOD
      rw [hT] at HTHI
      have HI := Lib.hid hI; have HTT := Lib.hid hT
      clear hI hT HNL HNL0 HXL HXL0
      go_enter Try.func4, Try.ntmps4
      go_wp2_with fail
      refine HOA.out.mono ?_
      rintro e w1 ⟨d1, rfl, h1, hn1, t1⟩
      obtain ⟨p1, rfl⟩ := h1.ptr
      have HDN := Lib.hid hn1
      clear hn1
      have HD1 := Lib.hid h1; have HT1 := Lib.hid t1
      clear h1 t1 HOA
      go_wp2_with fail
      refine (of_any10 _ b w1 (HB.out.later HT1.out) (by omega)).mono ?_
      rintro e w2 ⟨d2, rfl, h2, t2⟩
      obtain ⟨p2, rfl⟩ := h2.ptr
      have HD2 := Lib.hid (HD1.out.later t2); have HE2 := Lib.hid h2; have HT2 : Hid (Turn (fun _ => False) w w2) := HT1.out.trans t2 (fun _ _ f => f)
      clear h2 t2 HD1 HT1
      go_wp2_with fail
      refine (HRO.out w2 (HA.out.later HT2.out)).mono ?_
      rintro e w3 ⟨v3, rfl, r3, t3⟩
      obtain ⟨A3, c3, rfl⟩ := r3.shape
      have HD3 := Lib.hid (HD2.out.later t3); have HE3 := Lib.hid (HE2.out.later t3); have HT3 : Hid (Turn (fun _ => False) w w3) := HT2.out.trans t3 (fun _ _ f => f); have HR3 := Lib.hid r3
      clear r3 t3 HD2 HE2 HT2
      go_wp2_with fail
      refine (HCOD.out _ _ w3 HD3.out HDN.out (HB.out.later HT3.out)).mono ?_
      rintro e w4 ⟨u4, rfl, r4, t4⟩
      obtain ⟨A4, c4, rfl⟩ := r4.shape
      rw [hNl] at r4 ⊢
      have HD4 := Lib.hid (HD3.out.later t4); have HE4 := Lib.hid (HE3.out.later t4); have HT4 : Hid (Turn (fun _ => False) w w4) := HT3.out.trans t4 (fun _ _ f => f); have HR4 := Lib.hid (HR3.out.later t4); have HN4 := Lib.hid r4; have HB4 := Lib.hid (HB.out.later HT4.out)
      clear r4 t4 HD3 HE3 HT3 HR3
      go_wp2_with fail
      go_loopw [12, 13] (fun x12 x13 wr => wr = w4 ∧ ∃ i : Nat, x13 = .int .i64 (i : Int) ∧ i ≤ b.length ∧ x12 = .bool (allIn (b.take i) La)) (fun _ x13 _ => b.length - (intOf x13).toNat)
      case atStart => exact ⟨rfl, 0, rfl, Nat.zero_le _, rfl⟩
      case round =>
        obtain ⟨rfl, i, rfl, hi, rfl⟩ := hrel
        by_cases hlt : i < b.length
        · obtain ⟨x, hx⟩ : ∃ x, b[i]? = some x := ⟨_, List.getElem?_eq_getElem hlt⟩
          have HST := Lib.hid (allIn_step10 (L := La) hx)
          obtain ⟨ad, rfl, hc⟩ := str_at10 HB4.out hx
          have e0 := hc _ (Turn.refl _ _)
          unfold sv10 at e0
          have hil : (i : Int) < b.length := by omega
          clear hc hx
          cases hal : allIn (b.take i) La with
          | true =>
            rw [hal] at HST
            have HRC := Lib.hid (ref_code10 _ La x wr HR4.out (by omega))
            unfold sv10 at HRC
            by_cases hin : idxG x La < La.length
            · have HC : Hid (codeT x La = (idxG x La : Int)) := if_pos hin
              rw [decide_eq_true hin] at HST
              rw [HC.out] at HRC
              have hge : (0 : Int) ≤ (idxG x La : Int) := Int.natCast_nonneg _
              generalize idxG x La = q at *
              clear hin hal
              go_wp2_with fail
              refine HRC.out.mono ?_
              rintro e w5 ⟨rfl, rfl⟩
              go_wp2
              go_roundw
              case rel => exact ⟨trivial, i + 1, by go_num, hlt, by rw [HST.out]; rfl⟩
              case measure => simp [intOf]; omega
            · have HC : Hid (codeT x La = -1) := if_neg hin
              rw [decide_eq_false hin] at HST
              rw [HC.out] at HRC
              clear hin hal
              go_wp2_with fail
              refine HRC.out.mono ?_
              rintro e w5 ⟨rfl, rfl⟩
              go_wp2
              go_roundw
              case rel => exact ⟨trivial, i + 1, by go_num, hlt, by rw [HST.out]; rfl⟩
              case measure => simp [intOf]; omega
          | false =>
            rw [hal] at HST
            clear hal
            go_wp2
            go_roundw
            case rel => exact ⟨trivial, i + 1, by go_num, hlt, by rw [HST.out]; rfl⟩
            case measure => simp [intOf]; omega
        · obtain rfl : i = b.length := by omega
          rw [List.take_length, HI.out]
          obtain ⟨wo, hwo⟩ : ∃ wo, wo = wr := ⟨_, rfl⟩
          subst hwo
          go_wp2_with fail
          go_loopw [14] (fun x14 wk => ∃ i : Nat, x14 = .int .i64 (i : Int) ∧ i ≤ b.length ∧ Turn (fun _ => False) wo wk) (fun x14 _ => b.length - (intOf x14).toNat)
          case atStart => exact ⟨0, rfl, Nat.zero_le _, Turn.refl _ _⟩
          case round =>
            obtain ⟨i2, rfl, hi2, ht2⟩ := hrel
            have HTW := Lib.hid ht2
            clear ht2
            by_cases hlt2 : i2 < b.length
            · obtain ⟨x, hx, hxN⟩ := HCAT.out i2 (by rw [hNl]; exact hlt2)
              have hib : i2 < b.length := (List.getElem?_eq_some_iff.1 hx).1
              obtain ⟨ad, rfl, hc⟩ := str_at10 HB4.out hx
              obtain ⟨bd, rfl, hd⟩ := num_at10 HN4.out hxN
              have e0 := hc wr HTW.out
              have e1 := hd wr HTW.out
              unfold sv10 at e0
              have HRC : Hid (∀ W, Turn (fun _ => False) wr W → Calls Try.prog 11 #[.slice A3 La.length c3, .string ⟨x.toArray⟩] W fun e w' => e = .returned (.int .i64 (codeT x La)) ∧ W = w') := fun W ht => (ref_code10 _ La x W (HR4.out.later (HTW.out.trans ht (fun _ _ f => f))) (by omega)).mono fun _ _ h => ⟨h.1, h.2.symm⟩
              have hil2 : (i2 : Int) < b.length := by omega
              have hib2 : (i2 : Int) < b.length := by omega
              generalize codeT x La = q at *
              clear hc hd hx hxN
              go_wp2_with fail
              go_quiet (first | (go_at_call 11; with_reducible exact quiet_left (HRC.out _ ((Turn.refl _ wr).drewN _))) | fail)
              go_wp2
              go_roundw
              case rel => exact ⟨i2 + 1, by go_num, hlt2, HTW.out.drewN _⟩
              case measure => simp [intOf]; omega
            · obtain rfl : i2 = b.length := by omega
              clear HCAT
              go_wp2_with fail
              refine (HTHI.out _ _ wr (HD4.out.later HTW.out) HDN.out (HCS.out.later (HT4.out.trans HTW.out (fun _ _ f => f)))).mono ?_
              rintro e w5 ⟨u5, rfl, r5, t5⟩
              obtain ⟨A5, c5, rfl⟩ := r5.shape
              rw [hXl] at r5 ⊢
              have t45 := HTW.out.trans t5 (fun _ _ f => f)
              have HD5 := Lib.hid (HD4.out.later t45); have HE5 := Lib.hid (HE4.out.later t45); have HT5 : Hid (Turn (fun _ => False) w w5) := HT4.out.trans t45 (fun _ _ f => f); have HR5 := Lib.hid (HR4.out.later t45); have HX5 := Lib.hid r5; have HC5 := Lib.hid (HCS.out.later HT5.out)
              clear r5 t5 t45 HTW HD4 HE4 HT4 HR4 HN4 HB4
              go_wp2_with fail
              go_loopw [12, 17] (fun x12 x17 wk => wk = w5 ∧ ∃ i : Nat, x17 = .int .i64 (i : Int) ∧ i ≤ cs.length ∧ x12 = .bool (allAt (cs.take i) La)) (fun _ x17 _ => cs.length - (intOf x17).toNat)
              case atStart => exact ⟨rfl, 0, rfl, Nat.zero_le _, rfl⟩
              case round =>
                obtain ⟨rfl, i3, rfl, hi3, rfl⟩ := hrel
                by_cases hlt3 : i3 < cs.length
                · obtain ⟨c, hx⟩ : ∃ c, cs[i3]? = some c := ⟨_, List.getElem?_eq_getElem hlt3⟩
                  have HST := Lib.hid (allAt_step10 (L := La) hx)
                  obtain ⟨ad, rfl, hc⟩ := num_at10 HC5.out hx
                  have e0 := hc _ (Turn.refl _ _)
                  have hil3 : (i3 : Int) < cs.length := by omega
                  clear hc hx
                  cases hal : allAt (cs.take i3) La with
                  | true =>
                    rw [hal] at HST
                    by_cases c0 : 0 ≤ c
                    · by_cases c1 : c < La.length
                      · rw [atG_some10 c0 c1] at HST
                        clear hal
                        go_wp2
                        go_roundw
                        case rel => exact ⟨trivial, i3 + 1, by go_num, hlt3, by rw [HST.out]; rfl⟩
                        case measure => simp [intOf]; omega
                      · have c1' : (La.length : Int) ≤ c := by omega
                        rw [atG_high10 c1'] at HST
                        clear hal c1
                        go_wp2
                        go_roundw
                        case rel => exact ⟨trivial, i3 + 1, by go_num, hlt3, by rw [HST.out, decide_eq_false (show ¬ c < (La.length : Int) by omega)]; rfl⟩
                        case measure => simp [intOf]; omega
                    · have c0' : c < 0 := by omega
                      rw [atG_low10 c0'] at HST
                      clear hal c0
                      go_wp2
                      go_roundw
                      case rel => exact ⟨trivial, i3 + 1, by go_num, hlt3, by rw [HST.out]; rfl⟩
                      case measure => simp [intOf]; omega
                  | false =>
                    rw [hal] at HST
                    clear hal
                    go_wp2
                    go_roundw
                    case rel => exact ⟨trivial, i3 + 1, by go_num, hlt3, by rw [HST.out]; rfl⟩
                    case measure => simp [intOf]; omega
                · obtain rfl : i3 = cs.length := by omega
                  rw [List.take_length, HTT.out]
                  obtain ⟨wp, hwp⟩ : ∃ wp, wp = wr := ⟨_, rfl⟩
                  subst hwp
                  go_wp2_with fail
                  go_loopw [18] (fun x18 wk => ∃ i : Nat, x18 = .int .i64 (i : Int) ∧ i ≤ cs.length ∧ Turn (fun _ => False) wp wk) (fun x18 _ => cs.length - (intOf x18).toNat)
                  case atStart => exact ⟨0, rfl, Nat.zero_le _, Turn.refl _ _⟩
                  case round =>
                    obtain ⟨i4, rfl, hi4, ht4⟩ := hrel
                    have HTV := Lib.hid ht4
                    clear ht4
                    by_cases hlt4 : i4 < cs.length
                    · obtain ⟨c, x, hc0, hxX, h0, hLx⟩ := HTAT.out i4 (by rw [hXl]; exact hlt4)
                      obtain ⟨J, rfl⟩ := Int.eq_ofNat_of_zero_le h0
                      rw [Int.toNat_natCast] at hLx
                      have hJ : J < La.length := (List.getElem?_eq_some_iff.1 hLx).1
                      have hic : i4 < cs.length := (List.getElem?_eq_some_iff.1 hc0).1
                      obtain ⟨a1, rfl, k1⟩ := str_at10 HX5.out hxX
                      obtain ⟨a2, rfl, k2⟩ := num_at10 HC5.out hc0
                      obtain ⟨a3, rfl, k3⟩ := str_at10 HR5.out hLx
                      have e1 := k1 wr HTV.out
                      have e2 := k2 wr HTV.out
                      have e3 := k3 wr HTV.out
                      unfold sv10 at e1 e3
                      have hil4 : (i4 : Int) < cs.length := by omega
                      have hic4 : (i4 : Int) < cs.length := by omega
                      have hJi : (J : Int) < La.length := by omega
                      have hxx : (x == x) = true := beq_self_eq_true x
                      clear k1 k2 k3 hc0 hxX h0 hLx
                      go_wp2_with fail
                      go_quiet (fail)
                      go_wp2
                      go_roundw
                      case rel => exact ⟨i4 + 1, by go_num, hlt4, HTV.out.drewN _⟩
                      case measure => simp [intOf]; omega
                    · obtain rfl : i4 = cs.length := by omega
                      clear HTAT
                      go_wp2_with fail
                      refine (HJN.out _ _ wr (HD5.out.later HTV.out) (HE5.out.later HTV.out)).mono ?_
                      rintro e w6 ⟨dj, rfl, hj, t6⟩
                      obtain ⟨pj, rfl⟩ := hj.ptr
                      have t56 := HTV.out.trans t6 (fun _ _ f => f)
                      have HJ6 := Lib.hid hj; have HE6 := Lib.hid (HE5.out.later t56); have HT6 : Hid (Turn (fun _ => False) w w6) := HT5.out.trans t56 (fun _ _ f => f)
                      clear hj t6 t56 HTV HD5 HE5 HT5 HR5 HX5 HC5
                      go_wp2_with fail
                      refine (things10 _ _ w6 HJ6.out HLab.out).mono ?_
                      rintro e w7 ⟨v7, rfl, r7, t7⟩
                      obtain ⟨A7, c7, rfl⟩ := r7.shape
                      have HT7 : Hid (Turn (fun _ => False) w w7) := HT6.out.trans t7 (fun _ _ f => f); have HE7 := Lib.hid (HE6.out.later t7); have HR7 := Lib.hid r7
                      have HN0 := Lib.hid (NewE.empty (E := ET10) (e := 9) w7 w7 (Turn.refl _ w7))
                      have HSa := Lib.hid (HA.out.later (HT7.out.trans HN0.out.turn (fun _ _ f => f)))
                      clear r7 t7 HJ6 HE6 HT6
                      go_wp2_with (at_builtin; first
                        | (refine wpList_texts10 _ rfl _ _ rfl _ _ rfl HN1.out.own _ rfl b HSb.out (by simp only [List.length_append, List.length_nil]; omega) ?_; intro A9 n9 c9 w9 ho9 ht9 hn9; have HN2 := Lib.hid (HN1.out.step ho9 ht9 hn9); clear ho9 ht9 hn9)
                        | (refine wpList_texts10 _ rfl _ _ rfl _ _ rfl HN0.out.own _ rfl a HSa.out (by simp only [List.length_nil]; omega) ?_; intro A8 n8 c8 w8 ho8 ht8 hn8; have HN1 := Lib.hid (HN0.out.step ho8 ht8 hn8); have HSb := Lib.hid (HB.out.later (HT7.out.trans HN1.out.turn (fun _ _ f => f))); clear ho8 ht8 hn8)
                        | fail)
                      have hrd := HN2.out.own.rd
                      rw [List.nil_append] at hrd
                      have HRD := Lib.hid hrd
                      have HT9 : Hid (Turn (fun _ => False) w w9) := HT7.out.trans HN2.out.turn (fun _ _ f => f)
                      have HR9 := Lib.hid (HR7.out.later HN2.out.turn)
                      have HE9 := Lib.hid (HE7.out.later HN2.out.turn)
                      clear hrd HN2 HN1 HN0 HSa HSb HR7 HE7
                      refine (ref_of10 _ (a ++ b) w9 HRD.out (by rw [List.length_append]; omega)).mono ?_
                      rintro e w10 ⟨v10, rfl, r10, t10⟩
                      have HR10 := Lib.hid (HR9.out.later t10); have HV10 := Lib.hid r10; have HE10 := Lib.hid (HE9.out.later t10); have HT10 : Hid (Turn (fun _ => False) w w10) := HT9.out.trans t10 (fun _ _ f => f)
                      clear r10 t10 HRD HR9 HE9 HT9
                      go_wp2_with fail
                      refine (same_refl10 _ _ _ w10 HR10.out HV10.out (by have := HLab.out; omega)).mono ?_
                      rintro e w11 ⟨rfl, t11⟩
                      have HE11 := Lib.hid (HE10.out.later t11); have HT11 : Hid (Turn (fun _ => False) w w11) := HT10.out.trans t11 (fun _ _ f => f)
                      clear t11 HR10 HV10 HE10 HT10
                      go_wp2_with fail
                      refine (HJO.out _ w11 HE11.out).mono ?_
                      rintro e w12 ⟨dk, rfl, hk2, t12⟩
                      obtain ⟨pk, rfl⟩ := hk2.ptr
                      have HK12 := Lib.hid hk2; have HT12 : Hid (Turn (fun _ => False) w w12) := HT11.out.trans t12 (fun _ _ f => f)
                      clear hk2 t12 HE11 HT11
                      go_wp2_with fail
                      refine (things10 _ _ w12 HK12.out HLb.out).mono ?_
                      rintro e w13 ⟨v13, rfl, r13, t13⟩
                      obtain ⟨A13, c13, rfl⟩ := r13.shape
                      have HR13 := Lib.hid r13; have HT13 : Hid (Turn (fun _ => False) w w13) := HT12.out.trans t13 (fun _ _ f => f)
                      clear r13 t13 HK12 HT12
                      go_wp2_with fail
                      refine (ref_of10 _ b w13 (HB.out.later HT13.out) (by omega)).mono ?_
                      rintro e w14 ⟨v14, rfl, r14, t14⟩
                      have HR14 := Lib.hid (HR13.out.later t14); have HV14 := Lib.hid r14; have HT14 : Hid (Turn (fun _ => False) w w14) := HT13.out.trans t14 (fun _ _ f => f)
                      clear r14 t14 HR13 HT13
                      go_wp2_with fail
                      refine (same_refl10 _ _ _ w14 HR14.out HV14.out (by have := HLb.out; omega)).mono ?_
                      rintro e w15 ⟨rfl, t15⟩
                      have HT15 : Hid (Turn (fun _ => False) w w15) := HT14.out.trans t15 (fun _ _ f => f)
                      clear t15 HR14 HV14 HT14
                      go_wp2_with fail
                      refine (alive_any10 w15).mono ?_
                      rintro e w16 ⟨rfl, t16⟩
                      have HT16 : Hid (Turn (fun _ => False) w w16) := HT15.out.trans t16 (fun _ _ f => f)
                      clear t16
                      go_wp2
                      go_ret
                      exact ⟨rfl, HT16.out.below (Nat.le_refl _) (fun _ f => f.elim)⟩
    | false =>
      have hNl : N.length = b.length := HNL.out hI
      have hXl : X.length = 0 := HXL0.out hT
      rw [hI] at HCOD
      rw [hT] at HTHI
      have HI := Lib.hid hI; have HTT := Lib.hid hT
      clear hI hT HNL HNL0 HXL HXL0
      go_enter Try.func4, Try.ntmps4
      go_wp2_with fail
      refine HOA.out.mono ?_
      rintro e w1 ⟨d1, rfl, h1, hn1, t1⟩
      obtain ⟨p1, rfl⟩ := h1.ptr
      have HDN := Lib.hid hn1
      clear hn1
      have HD1 := Lib.hid h1; have HT1 := Lib.hid t1
      clear h1 t1 HOA
      go_wp2_with fail
      refine (of_any10 _ b w1 (HB.out.later HT1.out) (by omega)).mono ?_
      rintro e w2 ⟨d2, rfl, h2, t2⟩
      obtain ⟨p2, rfl⟩ := h2.ptr
      have HD2 := Lib.hid (HD1.out.later t2); have HE2 := Lib.hid h2; have HT2 : Hid (Turn (fun _ => False) w w2) := HT1.out.trans t2 (fun _ _ f => f)
      clear h2 t2 HD1 HT1
      go_wp2_with fail
      refine (HRO.out w2 (HA.out.later HT2.out)).mono ?_
      rintro e w3 ⟨v3, rfl, r3, t3⟩
      obtain ⟨A3, c3, rfl⟩ := r3.shape
      have HD3 := Lib.hid (HD2.out.later t3); have HE3 := Lib.hid (HE2.out.later t3); have HT3 : Hid (Turn (fun _ => False) w w3) := HT2.out.trans t3 (fun _ _ f => f); have HR3 := Lib.hid r3
      clear r3 t3 HD2 HE2 HT2
      go_wp2_with fail
      refine (HCOD.out _ _ w3 HD3.out HDN.out (HB.out.later HT3.out)).mono ?_
      rintro e w4 ⟨u4, rfl, r4, t4⟩
      obtain ⟨A4, c4, rfl⟩ := r4.shape
      rw [hNl] at r4 ⊢
      have HD4 := Lib.hid (HD3.out.later t4); have HE4 := Lib.hid (HE3.out.later t4); have HT4 : Hid (Turn (fun _ => False) w w4) := HT3.out.trans t4 (fun _ _ f => f); have HR4 := Lib.hid (HR3.out.later t4); have HN4 := Lib.hid r4; have HB4 := Lib.hid (HB.out.later HT4.out)
      clear r4 t4 HD3 HE3 HT3 HR3
      go_wp2_with fail
      go_loopw [12, 13] (fun x12 x13 wr => wr = w4 ∧ ∃ i : Nat, x13 = .int .i64 (i : Int) ∧ i ≤ b.length ∧ x12 = .bool (allIn (b.take i) La)) (fun _ x13 _ => b.length - (intOf x13).toNat)
      case atStart => exact ⟨rfl, 0, rfl, Nat.zero_le _, rfl⟩
      case round =>
        obtain ⟨rfl, i, rfl, hi, rfl⟩ := hrel
        by_cases hlt : i < b.length
        · obtain ⟨x, hx⟩ : ∃ x, b[i]? = some x := ⟨_, List.getElem?_eq_getElem hlt⟩
          have HST := Lib.hid (allIn_step10 (L := La) hx)
          obtain ⟨ad, rfl, hc⟩ := str_at10 HB4.out hx
          have e0 := hc _ (Turn.refl _ _)
          unfold sv10 at e0
          have hil : (i : Int) < b.length := by omega
          clear hc hx
          cases hal : allIn (b.take i) La with
          | true =>
            rw [hal] at HST
            have HRC := Lib.hid (ref_code10 _ La x wr HR4.out (by omega))
            unfold sv10 at HRC
            by_cases hin : idxG x La < La.length
            · have HC : Hid (codeT x La = (idxG x La : Int)) := if_pos hin
              rw [decide_eq_true hin] at HST
              rw [HC.out] at HRC
              have hge : (0 : Int) ≤ (idxG x La : Int) := Int.natCast_nonneg _
              generalize idxG x La = q at *
              clear hin hal
              go_wp2_with fail
              refine HRC.out.mono ?_
              rintro e w5 ⟨rfl, rfl⟩
              go_wp2
              go_roundw
              case rel => exact ⟨trivial, i + 1, by go_num, hlt, by rw [HST.out]; rfl⟩
              case measure => simp [intOf]; omega
            · have HC : Hid (codeT x La = -1) := if_neg hin
              rw [decide_eq_false hin] at HST
              rw [HC.out] at HRC
              clear hin hal
              go_wp2_with fail
              refine HRC.out.mono ?_
              rintro e w5 ⟨rfl, rfl⟩
              go_wp2
              go_roundw
              case rel => exact ⟨trivial, i + 1, by go_num, hlt, by rw [HST.out]; rfl⟩
              case measure => simp [intOf]; omega
          | false =>
            rw [hal] at HST
            clear hal
            go_wp2
            go_roundw
            case rel => exact ⟨trivial, i + 1, by go_num, hlt, by rw [HST.out]; rfl⟩
            case measure => simp [intOf]; omega
        · obtain rfl : i = b.length := by omega
          rw [List.take_length, HI.out]
          obtain ⟨wo, hwo⟩ : ∃ wo, wo = wr := ⟨_, rfl⟩
          subst hwo
          go_wp2_with fail
          go_loopw [14] (fun x14 wk => ∃ i : Nat, x14 = .int .i64 (i : Int) ∧ i ≤ b.length ∧ Turn (fun _ => False) wo wk) (fun x14 _ => b.length - (intOf x14).toNat)
          case atStart => exact ⟨0, rfl, Nat.zero_le _, Turn.refl _ _⟩
          case round =>
            obtain ⟨i2, rfl, hi2, ht2⟩ := hrel
            have HTW := Lib.hid ht2
            clear ht2
            by_cases hlt2 : i2 < b.length
            · obtain ⟨x, hx, hxN⟩ := HCAT.out i2 (by rw [hNl]; exact hlt2)
              have hib : i2 < b.length := (List.getElem?_eq_some_iff.1 hx).1
              obtain ⟨ad, rfl, hc⟩ := str_at10 HB4.out hx
              obtain ⟨bd, rfl, hd⟩ := num_at10 HN4.out hxN
              have e0 := hc wr HTW.out
              have e1 := hd wr HTW.out
              unfold sv10 at e0
              have HRC : Hid (∀ W, Turn (fun _ => False) wr W → Calls Try.prog 11 #[.slice A3 La.length c3, .string ⟨x.toArray⟩] W fun e w' => e = .returned (.int .i64 (codeT x La)) ∧ W = w') := fun W ht => (ref_code10 _ La x W (HR4.out.later (HTW.out.trans ht (fun _ _ f => f))) (by omega)).mono fun _ _ h => ⟨h.1, h.2.symm⟩
              have hil2 : (i2 : Int) < b.length := by omega
              have hib2 : (i2 : Int) < b.length := by omega
              generalize codeT x La = q at *
              clear hc hd hx hxN
              go_wp2_with fail
              go_quiet (first | (go_at_call 11; with_reducible exact quiet_left (HRC.out _ ((Turn.refl _ wr).drewN _))) | fail)
              go_wp2
              go_roundw
              case rel => exact ⟨i2 + 1, by go_num, hlt2, HTW.out.drewN _⟩
              case measure => simp [intOf]; omega
            · obtain rfl : i2 = b.length := by omega
              clear HCAT
              go_wp2_with fail
              refine (HTHI.out _ _ wr (HD4.out.later HTW.out) HDN.out (HCS.out.later (HT4.out.trans HTW.out (fun _ _ f => f)))).mono ?_
              rintro e w5 ⟨u5, rfl, r5, t5⟩
              obtain ⟨A5, c5, rfl⟩ := r5.shape
              rw [hXl] at r5 ⊢
              have t45 := HTW.out.trans t5 (fun _ _ f => f)
              have HD5 := Lib.hid (HD4.out.later t45); have HE5 := Lib.hid (HE4.out.later t45); have HT5 : Hid (Turn (fun _ => False) w w5) := HT4.out.trans t45 (fun _ _ f => f); have HR5 := Lib.hid (HR4.out.later t45); have HX5 := Lib.hid r5; have HC5 := Lib.hid (HCS.out.later HT5.out)
              clear r5 t5 t45 HTW HD4 HE4 HT4 HR4 HN4 HB4
              go_wp2_with fail
              go_loopw [12, 17] (fun x12 x17 wk => wk = w5 ∧ ∃ i : Nat, x17 = .int .i64 (i : Int) ∧ i ≤ cs.length ∧ x12 = .bool (allAt (cs.take i) La)) (fun _ x17 _ => cs.length - (intOf x17).toNat)
              case atStart => exact ⟨rfl, 0, rfl, Nat.zero_le _, rfl⟩
              case round =>
                obtain ⟨rfl, i3, rfl, hi3, rfl⟩ := hrel
                by_cases hlt3 : i3 < cs.length
                · obtain ⟨c, hx⟩ : ∃ c, cs[i3]? = some c := ⟨_, List.getElem?_eq_getElem hlt3⟩
                  have HST := Lib.hid (allAt_step10 (L := La) hx)
                  obtain ⟨ad, rfl, hc⟩ := num_at10 HC5.out hx
                  have e0 := hc _ (Turn.refl _ _)
                  have hil3 : (i3 : Int) < cs.length := by omega
                  clear hc hx
                  cases hal : allAt (cs.take i3) La with
                  | true =>
                    rw [hal] at HST
                    by_cases c0 : 0 ≤ c
                    · by_cases c1 : c < La.length
                      · rw [atG_some10 c0 c1] at HST
                        clear hal
                        go_wp2
                        go_roundw
                        case rel => exact ⟨trivial, i3 + 1, by go_num, hlt3, by rw [HST.out]; rfl⟩
                        case measure => simp [intOf]; omega
                      · have c1' : (La.length : Int) ≤ c := by omega
                        rw [atG_high10 c1'] at HST
                        clear hal c1
                        go_wp2
                        go_roundw
                        case rel => exact ⟨trivial, i3 + 1, by go_num, hlt3, by rw [HST.out, decide_eq_false (show ¬ c < (La.length : Int) by omega)]; rfl⟩
                        case measure => simp [intOf]; omega
                    · have c0' : c < 0 := by omega
                      rw [atG_low10 c0'] at HST
                      clear hal c0
                      go_wp2
                      go_roundw
                      case rel => exact ⟨trivial, i3 + 1, by go_num, hlt3, by rw [HST.out]; rfl⟩
                      case measure => simp [intOf]; omega
                  | false =>
                    rw [hal] at HST
                    clear hal
                    go_wp2
                    go_roundw
                    case rel => exact ⟨trivial, i3 + 1, by go_num, hlt3, by rw [HST.out]; rfl⟩
                    case measure => simp [intOf]; omega
                · obtain rfl : i3 = cs.length := by omega
                  rw [List.take_length, HTT.out]
                  obtain ⟨wp, hwp⟩ : ∃ wp, wp = wr := ⟨_, rfl⟩
                  subst hwp
                  go_wp2_with fail
                  go_loopw [18] (fun x18 wk => ∃ i : Nat, x18 = .int .i64 (i : Int) ∧ i ≤ 0 ∧ Turn (fun _ => False) wp wk) (fun x18 _ => 0 - (intOf x18).toNat)
                  case atStart => exact ⟨0, rfl, Nat.zero_le _, Turn.refl _ _⟩
                  case round =>
                    obtain ⟨i4, rfl, hi4, ht4⟩ := hrel
                    have HTV := Lib.hid ht4
                    clear ht4
                    by_cases hlt4 : i4 < 0
                    · obtain ⟨c, x, hc0, hxX, h0, hLx⟩ := HTAT.out i4 (by rw [hXl]; exact hlt4)
                      obtain ⟨J, rfl⟩ := Int.eq_ofNat_of_zero_le h0
                      rw [Int.toNat_natCast] at hLx
                      have hJ : J < La.length := (List.getElem?_eq_some_iff.1 hLx).1
                      have hic : i4 < cs.length := (List.getElem?_eq_some_iff.1 hc0).1
                      obtain ⟨a1, rfl, k1⟩ := str_at10 HX5.out hxX
                      obtain ⟨a2, rfl, k2⟩ := num_at10 HC5.out hc0
                      obtain ⟨a3, rfl, k3⟩ := str_at10 HR5.out hLx
                      have e1 := k1 wr HTV.out
                      have e2 := k2 wr HTV.out
                      have e3 := k3 wr HTV.out
                      unfold sv10 at e1 e3
                      have hil4 : (i4 : Int) < 0 := by omega
                      have hic4 : (i4 : Int) < cs.length := by omega
                      have hJi : (J : Int) < La.length := by omega
                      have hxx : (x == x) = true := beq_self_eq_true x
                      clear k1 k2 k3 hc0 hxX h0 hLx
                      go_wp2_with fail
                      go_quiet (fail)
                      go_wp2
                      go_roundw
                      case rel => exact ⟨i4 + 1, by go_num, hlt4, HTV.out.drewN _⟩
                      case measure => simp [intOf]; omega
                    · obtain rfl : i4 = 0 := by omega
                      clear HTAT
                      go_wp2_with fail
                      refine (HJN.out _ _ wr (HD5.out.later HTV.out) (HE5.out.later HTV.out)).mono ?_
                      rintro e w6 ⟨dj, rfl, hj, t6⟩
                      obtain ⟨pj, rfl⟩ := hj.ptr
                      have t56 := HTV.out.trans t6 (fun _ _ f => f)
                      have HJ6 := Lib.hid hj; have HE6 := Lib.hid (HE5.out.later t56); have HT6 : Hid (Turn (fun _ => False) w w6) := HT5.out.trans t56 (fun _ _ f => f)
                      clear hj t6 t56 HTV HD5 HE5 HT5 HR5 HX5 HC5
                      go_wp2_with fail
                      refine (things10 _ _ w6 HJ6.out HLab.out).mono ?_
                      rintro e w7 ⟨v7, rfl, r7, t7⟩
                      obtain ⟨A7, c7, rfl⟩ := r7.shape
                      have HT7 : Hid (Turn (fun _ => False) w w7) := HT6.out.trans t7 (fun _ _ f => f); have HE7 := Lib.hid (HE6.out.later t7); have HR7 := Lib.hid r7
                      have HN0 := Lib.hid (NewE.empty (E := ET10) (e := 9) w7 w7 (Turn.refl _ w7))
                      have HSa := Lib.hid (HA.out.later (HT7.out.trans HN0.out.turn (fun _ _ f => f)))
                      clear r7 t7 HJ6 HE6 HT6
                      go_wp2_with (at_builtin; first
                        | (refine wpList_texts10 _ rfl _ _ rfl _ _ rfl HN1.out.own _ rfl b HSb.out (by simp only [List.length_append, List.length_nil]; omega) ?_; intro A9 n9 c9 w9 ho9 ht9 hn9; have HN2 := Lib.hid (HN1.out.step ho9 ht9 hn9); clear ho9 ht9 hn9)
                        | (refine wpList_texts10 _ rfl _ _ rfl _ _ rfl HN0.out.own _ rfl a HSa.out (by simp only [List.length_nil]; omega) ?_; intro A8 n8 c8 w8 ho8 ht8 hn8; have HN1 := Lib.hid (HN0.out.step ho8 ht8 hn8); have HSb := Lib.hid (HB.out.later (HT7.out.trans HN1.out.turn (fun _ _ f => f))); clear ho8 ht8 hn8)
                        | fail)
                      have hrd := HN2.out.own.rd
                      rw [List.nil_append] at hrd
                      have HRD := Lib.hid hrd
                      have HT9 : Hid (Turn (fun _ => False) w w9) := HT7.out.trans HN2.out.turn (fun _ _ f => f)
                      have HR9 := Lib.hid (HR7.out.later HN2.out.turn)
                      have HE9 := Lib.hid (HE7.out.later HN2.out.turn)
                      clear hrd HN2 HN1 HN0 HSa HSb HR7 HE7
                      refine (ref_of10 _ (a ++ b) w9 HRD.out (by rw [List.length_append]; omega)).mono ?_
                      rintro e w10 ⟨v10, rfl, r10, t10⟩
                      have HR10 := Lib.hid (HR9.out.later t10); have HV10 := Lib.hid r10; have HE10 := Lib.hid (HE9.out.later t10); have HT10 : Hid (Turn (fun _ => False) w w10) := HT9.out.trans t10 (fun _ _ f => f)
                      clear r10 t10 HRD HR9 HE9 HT9
                      go_wp2_with fail
                      refine (same_refl10 _ _ _ w10 HR10.out HV10.out (by have := HLab.out; omega)).mono ?_
                      rintro e w11 ⟨rfl, t11⟩
                      have HE11 := Lib.hid (HE10.out.later t11); have HT11 : Hid (Turn (fun _ => False) w w11) := HT10.out.trans t11 (fun _ _ f => f)
                      clear t11 HR10 HV10 HE10 HT10
                      go_wp2_with fail
                      refine (HJO.out _ w11 HE11.out).mono ?_
                      rintro e w12 ⟨dk, rfl, hk2, t12⟩
                      obtain ⟨pk, rfl⟩ := hk2.ptr
                      have HK12 := Lib.hid hk2; have HT12 : Hid (Turn (fun _ => False) w w12) := HT11.out.trans t12 (fun _ _ f => f)
                      clear hk2 t12 HE11 HT11
                      go_wp2_with fail
                      refine (things10 _ _ w12 HK12.out HLb.out).mono ?_
                      rintro e w13 ⟨v13, rfl, r13, t13⟩
                      obtain ⟨A13, c13, rfl⟩ := r13.shape
                      have HR13 := Lib.hid r13; have HT13 : Hid (Turn (fun _ => False) w w13) := HT12.out.trans t13 (fun _ _ f => f)
                      clear r13 t13 HK12 HT12
                      go_wp2_with fail
                      refine (ref_of10 _ b w13 (HB.out.later HT13.out) (by omega)).mono ?_
                      rintro e w14 ⟨v14, rfl, r14, t14⟩
                      have HR14 := Lib.hid (HR13.out.later t14); have HV14 := Lib.hid r14; have HT14 : Hid (Turn (fun _ => False) w w14) := HT13.out.trans t14 (fun _ _ f => f)
                      clear r14 t14 HR13 HT13
                      go_wp2_with fail
                      refine (same_refl10 _ _ _ w14 HR14.out HV14.out (by have := HLb.out; omega)).mono ?_
                      rintro e w15 ⟨rfl, t15⟩
                      have HT15 : Hid (Turn (fun _ => False) w w15) := HT14.out.trans t15 (fun _ _ f => f)
                      clear t15 HR14 HV14 HT14
                      go_wp2_with fail
                      refine (alive_any10 w15).mono ?_
                      rintro e w16 ⟨rfl, t16⟩
                      have HT16 : Hid (Turn (fun _ => False) w w16) := HT15.out.trans t16 (fun _ _ f => f)
                      clear t16
                      go_wp2
                      go_ret
                      exact ⟨rfl, HT16.out.below (Nat.le_refl _) (fun _ f => f.elim)⟩
  | false =>
    cases hT : allAt cs La with
    | true =>
      have hNl : N.length = 0 := HNL0.out hI
      have hXl : X.length = cs.length := HXL.out hT
      rw [hI] at HCOD
      rw [hT] at HTHI
      have HI := Lib.hid hI; have HTT := Lib.hid hT
      clear hI hT HNL HNL0 HXL HXL0
      go_enter Try.func4, Try.ntmps4
      go_wp2_with fail
      refine HOA.out.mono ?_
      rintro e w1 ⟨d1, rfl, h1, hn1, t1⟩
      obtain ⟨p1, rfl⟩ := h1.ptr
      have HDN := Lib.hid hn1
      clear hn1
      have HD1 := Lib.hid h1; have HT1 := Lib.hid t1
      clear h1 t1 HOA
      go_wp2_with fail
      refine (of_any10 _ b w1 (HB.out.later HT1.out) (by omega)).mono ?_
      rintro e w2 ⟨d2, rfl, h2, t2⟩
      obtain ⟨p2, rfl⟩ := h2.ptr
      have HD2 := Lib.hid (HD1.out.later t2); have HE2 := Lib.hid h2; have HT2 : Hid (Turn (fun _ => False) w w2) := HT1.out.trans t2 (fun _ _ f => f)
      clear h2 t2 HD1 HT1
      go_wp2_with fail
      refine (HRO.out w2 (HA.out.later HT2.out)).mono ?_
      rintro e w3 ⟨v3, rfl, r3, t3⟩
      obtain ⟨A3, c3, rfl⟩ := r3.shape
      have HD3 := Lib.hid (HD2.out.later t3); have HE3 := Lib.hid (HE2.out.later t3); have HT3 : Hid (Turn (fun _ => False) w w3) := HT2.out.trans t3 (fun _ _ f => f); have HR3 := Lib.hid r3
      clear r3 t3 HD2 HE2 HT2
      go_wp2_with fail
      refine (HCOD.out _ _ w3 HD3.out HDN.out (HB.out.later HT3.out)).mono ?_
      rintro e w4 ⟨u4, rfl, r4, t4⟩
      obtain ⟨A4, c4, rfl⟩ := r4.shape
      rw [hNl] at r4 ⊢
      have HD4 := Lib.hid (HD3.out.later t4); have HE4 := Lib.hid (HE3.out.later t4); have HT4 : Hid (Turn (fun _ => False) w w4) := HT3.out.trans t4 (fun _ _ f => f); have HR4 := Lib.hid (HR3.out.later t4); have HN4 := Lib.hid r4; have HB4 := Lib.hid (HB.out.later HT4.out)
      clear r4 t4 HD3 HE3 HT3 HR3
      go_wp2_with fail
      go_loopw [12, 13] (fun x12 x13 wr => wr = w4 ∧ ∃ i : Nat, x13 = .int .i64 (i : Int) ∧ i ≤ b.length ∧ x12 = .bool (allIn (b.take i) La)) (fun _ x13 _ => b.length - (intOf x13).toNat)
      case atStart => exact ⟨rfl, 0, rfl, Nat.zero_le _, rfl⟩
      case round =>
        obtain ⟨rfl, i, rfl, hi, rfl⟩ := hrel
        by_cases hlt : i < b.length
        · obtain ⟨x, hx⟩ : ∃ x, b[i]? = some x := ⟨_, List.getElem?_eq_getElem hlt⟩
          have HST := Lib.hid (allIn_step10 (L := La) hx)
          obtain ⟨ad, rfl, hc⟩ := str_at10 HB4.out hx
          have e0 := hc _ (Turn.refl _ _)
          unfold sv10 at e0
          have hil : (i : Int) < b.length := by omega
          clear hc hx
          cases hal : allIn (b.take i) La with
          | true =>
            rw [hal] at HST
            have HRC := Lib.hid (ref_code10 _ La x wr HR4.out (by omega))
            unfold sv10 at HRC
            by_cases hin : idxG x La < La.length
            · have HC : Hid (codeT x La = (idxG x La : Int)) := if_pos hin
              rw [decide_eq_true hin] at HST
              rw [HC.out] at HRC
              have hge : (0 : Int) ≤ (idxG x La : Int) := Int.natCast_nonneg _
              generalize idxG x La = q at *
              clear hin hal
              go_wp2_with fail
              refine HRC.out.mono ?_
              rintro e w5 ⟨rfl, rfl⟩
              go_wp2
              go_roundw
              case rel => exact ⟨trivial, i + 1, by go_num, hlt, by rw [HST.out]; rfl⟩
              case measure => simp [intOf]; omega
            · have HC : Hid (codeT x La = -1) := if_neg hin
              rw [decide_eq_false hin] at HST
              rw [HC.out] at HRC
              clear hin hal
              go_wp2_with fail
              refine HRC.out.mono ?_
              rintro e w5 ⟨rfl, rfl⟩
              go_wp2
              go_roundw
              case rel => exact ⟨trivial, i + 1, by go_num, hlt, by rw [HST.out]; rfl⟩
              case measure => simp [intOf]; omega
          | false =>
            rw [hal] at HST
            clear hal
            go_wp2
            go_roundw
            case rel => exact ⟨trivial, i + 1, by go_num, hlt, by rw [HST.out]; rfl⟩
            case measure => simp [intOf]; omega
        · obtain rfl : i = b.length := by omega
          rw [List.take_length, HI.out]
          obtain ⟨wo, hwo⟩ : ∃ wo, wo = wr := ⟨_, rfl⟩
          subst hwo
          go_wp2_with fail
          go_loopw [14] (fun x14 wk => ∃ i : Nat, x14 = .int .i64 (i : Int) ∧ i ≤ 0 ∧ Turn (fun _ => False) wo wk) (fun x14 _ => 0 - (intOf x14).toNat)
          case atStart => exact ⟨0, rfl, Nat.zero_le _, Turn.refl _ _⟩
          case round =>
            obtain ⟨i2, rfl, hi2, ht2⟩ := hrel
            have HTW := Lib.hid ht2
            clear ht2
            by_cases hlt2 : i2 < 0
            · obtain ⟨x, hx, hxN⟩ := HCAT.out i2 (by rw [hNl]; exact hlt2)
              have hib : i2 < b.length := (List.getElem?_eq_some_iff.1 hx).1
              obtain ⟨ad, rfl, hc⟩ := str_at10 HB4.out hx
              obtain ⟨bd, rfl, hd⟩ := num_at10 HN4.out hxN
              have e0 := hc wr HTW.out
              have e1 := hd wr HTW.out
              unfold sv10 at e0
              have HRC : Hid (∀ W, Turn (fun _ => False) wr W → Calls Try.prog 11 #[.slice A3 La.length c3, .string ⟨x.toArray⟩] W fun e w' => e = .returned (.int .i64 (codeT x La)) ∧ W = w') := fun W ht => (ref_code10 _ La x W (HR4.out.later (HTW.out.trans ht (fun _ _ f => f))) (by omega)).mono fun _ _ h => ⟨h.1, h.2.symm⟩
              have hil2 : (i2 : Int) < 0 := by omega
              have hib2 : (i2 : Int) < b.length := by omega
              generalize codeT x La = q at *
              clear hc hd hx hxN
              go_wp2_with fail
              go_quiet (first | (go_at_call 11; with_reducible exact quiet_left (HRC.out _ ((Turn.refl _ wr).drewN _))) | fail)
              go_wp2
              go_roundw
              case rel => exact ⟨i2 + 1, by go_num, hlt2, HTW.out.drewN _⟩
              case measure => simp [intOf]; omega
            · obtain rfl : i2 = 0 := by omega
              clear HCAT
              go_wp2_with fail
              refine (HTHI.out _ _ wr (HD4.out.later HTW.out) HDN.out (HCS.out.later (HT4.out.trans HTW.out (fun _ _ f => f)))).mono ?_
              rintro e w5 ⟨u5, rfl, r5, t5⟩
              obtain ⟨A5, c5, rfl⟩ := r5.shape
              rw [hXl] at r5 ⊢
              have t45 := HTW.out.trans t5 (fun _ _ f => f)
              have HD5 := Lib.hid (HD4.out.later t45); have HE5 := Lib.hid (HE4.out.later t45); have HT5 : Hid (Turn (fun _ => False) w w5) := HT4.out.trans t45 (fun _ _ f => f); have HR5 := Lib.hid (HR4.out.later t45); have HX5 := Lib.hid r5; have HC5 := Lib.hid (HCS.out.later HT5.out)
              clear r5 t5 t45 HTW HD4 HE4 HT4 HR4 HN4 HB4
              go_wp2_with fail
              go_loopw [12, 17] (fun x12 x17 wk => wk = w5 ∧ ∃ i : Nat, x17 = .int .i64 (i : Int) ∧ i ≤ cs.length ∧ x12 = .bool (allAt (cs.take i) La)) (fun _ x17 _ => cs.length - (intOf x17).toNat)
              case atStart => exact ⟨rfl, 0, rfl, Nat.zero_le _, rfl⟩
              case round =>
                obtain ⟨rfl, i3, rfl, hi3, rfl⟩ := hrel
                by_cases hlt3 : i3 < cs.length
                · obtain ⟨c, hx⟩ : ∃ c, cs[i3]? = some c := ⟨_, List.getElem?_eq_getElem hlt3⟩
                  have HST := Lib.hid (allAt_step10 (L := La) hx)
                  obtain ⟨ad, rfl, hc⟩ := num_at10 HC5.out hx
                  have e0 := hc _ (Turn.refl _ _)
                  have hil3 : (i3 : Int) < cs.length := by omega
                  clear hc hx
                  cases hal : allAt (cs.take i3) La with
                  | true =>
                    rw [hal] at HST
                    by_cases c0 : 0 ≤ c
                    · by_cases c1 : c < La.length
                      · rw [atG_some10 c0 c1] at HST
                        clear hal
                        go_wp2
                        go_roundw
                        case rel => exact ⟨trivial, i3 + 1, by go_num, hlt3, by rw [HST.out]; rfl⟩
                        case measure => simp [intOf]; omega
                      · have c1' : (La.length : Int) ≤ c := by omega
                        rw [atG_high10 c1'] at HST
                        clear hal c1
                        go_wp2
                        go_roundw
                        case rel => exact ⟨trivial, i3 + 1, by go_num, hlt3, by rw [HST.out, decide_eq_false (show ¬ c < (La.length : Int) by omega)]; rfl⟩
                        case measure => simp [intOf]; omega
                    · have c0' : c < 0 := by omega
                      rw [atG_low10 c0'] at HST
                      clear hal c0
                      go_wp2
                      go_roundw
                      case rel => exact ⟨trivial, i3 + 1, by go_num, hlt3, by rw [HST.out]; rfl⟩
                      case measure => simp [intOf]; omega
                  | false =>
                    rw [hal] at HST
                    clear hal
                    go_wp2
                    go_roundw
                    case rel => exact ⟨trivial, i3 + 1, by go_num, hlt3, by rw [HST.out]; rfl⟩
                    case measure => simp [intOf]; omega
                · obtain rfl : i3 = cs.length := by omega
                  rw [List.take_length, HTT.out]
                  obtain ⟨wp, hwp⟩ : ∃ wp, wp = wr := ⟨_, rfl⟩
                  subst hwp
                  go_wp2_with fail
                  go_loopw [18] (fun x18 wk => ∃ i : Nat, x18 = .int .i64 (i : Int) ∧ i ≤ cs.length ∧ Turn (fun _ => False) wp wk) (fun x18 _ => cs.length - (intOf x18).toNat)
                  case atStart => exact ⟨0, rfl, Nat.zero_le _, Turn.refl _ _⟩
                  case round =>
                    obtain ⟨i4, rfl, hi4, ht4⟩ := hrel
                    have HTV := Lib.hid ht4
                    clear ht4
                    by_cases hlt4 : i4 < cs.length
                    · obtain ⟨c, x, hc0, hxX, h0, hLx⟩ := HTAT.out i4 (by rw [hXl]; exact hlt4)
                      obtain ⟨J, rfl⟩ := Int.eq_ofNat_of_zero_le h0
                      rw [Int.toNat_natCast] at hLx
                      have hJ : J < La.length := (List.getElem?_eq_some_iff.1 hLx).1
                      have hic : i4 < cs.length := (List.getElem?_eq_some_iff.1 hc0).1
                      obtain ⟨a1, rfl, k1⟩ := str_at10 HX5.out hxX
                      obtain ⟨a2, rfl, k2⟩ := num_at10 HC5.out hc0
                      obtain ⟨a3, rfl, k3⟩ := str_at10 HR5.out hLx
                      have e1 := k1 wr HTV.out
                      have e2 := k2 wr HTV.out
                      have e3 := k3 wr HTV.out
                      unfold sv10 at e1 e3
                      have hil4 : (i4 : Int) < cs.length := by omega
                      have hic4 : (i4 : Int) < cs.length := by omega
                      have hJi : (J : Int) < La.length := by omega
                      have hxx : (x == x) = true := beq_self_eq_true x
                      clear k1 k2 k3 hc0 hxX h0 hLx
                      go_wp2_with fail
                      go_quiet (fail)
                      go_wp2
                      go_roundw
                      case rel => exact ⟨i4 + 1, by go_num, hlt4, HTV.out.drewN _⟩
                      case measure => simp [intOf]; omega
                    · obtain rfl : i4 = cs.length := by omega
                      clear HTAT
                      go_wp2_with fail
                      refine (HJN.out _ _ wr (HD5.out.later HTV.out) (HE5.out.later HTV.out)).mono ?_
                      rintro e w6 ⟨dj, rfl, hj, t6⟩
                      obtain ⟨pj, rfl⟩ := hj.ptr
                      have t56 := HTV.out.trans t6 (fun _ _ f => f)
                      have HJ6 := Lib.hid hj; have HE6 := Lib.hid (HE5.out.later t56); have HT6 : Hid (Turn (fun _ => False) w w6) := HT5.out.trans t56 (fun _ _ f => f)
                      clear hj t6 t56 HTV HD5 HE5 HT5 HR5 HX5 HC5
                      go_wp2_with fail
                      refine (things10 _ _ w6 HJ6.out HLab.out).mono ?_
                      rintro e w7 ⟨v7, rfl, r7, t7⟩
                      obtain ⟨A7, c7, rfl⟩ := r7.shape
                      have HT7 : Hid (Turn (fun _ => False) w w7) := HT6.out.trans t7 (fun _ _ f => f); have HE7 := Lib.hid (HE6.out.later t7); have HR7 := Lib.hid r7
                      have HN0 := Lib.hid (NewE.empty (E := ET10) (e := 9) w7 w7 (Turn.refl _ w7))
                      have HSa := Lib.hid (HA.out.later (HT7.out.trans HN0.out.turn (fun _ _ f => f)))
                      clear r7 t7 HJ6 HE6 HT6
                      go_wp2_with (at_builtin; first
                        | (refine wpList_texts10 _ rfl _ _ rfl _ _ rfl HN1.out.own _ rfl b HSb.out (by simp only [List.length_append, List.length_nil]; omega) ?_; intro A9 n9 c9 w9 ho9 ht9 hn9; have HN2 := Lib.hid (HN1.out.step ho9 ht9 hn9); clear ho9 ht9 hn9)
                        | (refine wpList_texts10 _ rfl _ _ rfl _ _ rfl HN0.out.own _ rfl a HSa.out (by simp only [List.length_nil]; omega) ?_; intro A8 n8 c8 w8 ho8 ht8 hn8; have HN1 := Lib.hid (HN0.out.step ho8 ht8 hn8); have HSb := Lib.hid (HB.out.later (HT7.out.trans HN1.out.turn (fun _ _ f => f))); clear ho8 ht8 hn8)
                        | fail)
                      have hrd := HN2.out.own.rd
                      rw [List.nil_append] at hrd
                      have HRD := Lib.hid hrd
                      have HT9 : Hid (Turn (fun _ => False) w w9) := HT7.out.trans HN2.out.turn (fun _ _ f => f)
                      have HR9 := Lib.hid (HR7.out.later HN2.out.turn)
                      have HE9 := Lib.hid (HE7.out.later HN2.out.turn)
                      clear hrd HN2 HN1 HN0 HSa HSb HR7 HE7
                      refine (ref_of10 _ (a ++ b) w9 HRD.out (by rw [List.length_append]; omega)).mono ?_
                      rintro e w10 ⟨v10, rfl, r10, t10⟩
                      have HR10 := Lib.hid (HR9.out.later t10); have HV10 := Lib.hid r10; have HE10 := Lib.hid (HE9.out.later t10); have HT10 : Hid (Turn (fun _ => False) w w10) := HT9.out.trans t10 (fun _ _ f => f)
                      clear r10 t10 HRD HR9 HE9 HT9
                      go_wp2_with fail
                      refine (same_refl10 _ _ _ w10 HR10.out HV10.out (by have := HLab.out; omega)).mono ?_
                      rintro e w11 ⟨rfl, t11⟩
                      have HE11 := Lib.hid (HE10.out.later t11); have HT11 : Hid (Turn (fun _ => False) w w11) := HT10.out.trans t11 (fun _ _ f => f)
                      clear t11 HR10 HV10 HE10 HT10
                      go_wp2_with fail
                      refine (HJO.out _ w11 HE11.out).mono ?_
                      rintro e w12 ⟨dk, rfl, hk2, t12⟩
                      obtain ⟨pk, rfl⟩ := hk2.ptr
                      have HK12 := Lib.hid hk2; have HT12 : Hid (Turn (fun _ => False) w w12) := HT11.out.trans t12 (fun _ _ f => f)
                      clear hk2 t12 HE11 HT11
                      go_wp2_with fail
                      refine (things10 _ _ w12 HK12.out HLb.out).mono ?_
                      rintro e w13 ⟨v13, rfl, r13, t13⟩
                      obtain ⟨A13, c13, rfl⟩ := r13.shape
                      have HR13 := Lib.hid r13; have HT13 : Hid (Turn (fun _ => False) w w13) := HT12.out.trans t13 (fun _ _ f => f)
                      clear r13 t13 HK12 HT12
                      go_wp2_with fail
                      refine (ref_of10 _ b w13 (HB.out.later HT13.out) (by omega)).mono ?_
                      rintro e w14 ⟨v14, rfl, r14, t14⟩
                      have HR14 := Lib.hid (HR13.out.later t14); have HV14 := Lib.hid r14; have HT14 : Hid (Turn (fun _ => False) w w14) := HT13.out.trans t14 (fun _ _ f => f)
                      clear r14 t14 HR13 HT13
                      go_wp2_with fail
                      refine (same_refl10 _ _ _ w14 HR14.out HV14.out (by have := HLb.out; omega)).mono ?_
                      rintro e w15 ⟨rfl, t15⟩
                      have HT15 : Hid (Turn (fun _ => False) w w15) := HT14.out.trans t15 (fun _ _ f => f)
                      clear t15 HR14 HV14 HT14
                      go_wp2_with fail
                      refine (alive_any10 w15).mono ?_
                      rintro e w16 ⟨rfl, t16⟩
                      have HT16 : Hid (Turn (fun _ => False) w w16) := HT15.out.trans t16 (fun _ _ f => f)
                      clear t16
                      go_wp2
                      go_ret
                      exact ⟨rfl, HT16.out.below (Nat.le_refl _) (fun _ f => f.elim)⟩
    | false =>
      have hNl : N.length = 0 := HNL0.out hI
      have hXl : X.length = 0 := HXL0.out hT
      rw [hI] at HCOD
      rw [hT] at HTHI
      have HI := Lib.hid hI; have HTT := Lib.hid hT
      clear hI hT HNL HNL0 HXL HXL0
      go_enter Try.func4, Try.ntmps4
      go_wp2_with fail
      refine HOA.out.mono ?_
      rintro e w1 ⟨d1, rfl, h1, hn1, t1⟩
      obtain ⟨p1, rfl⟩ := h1.ptr
      have HDN := Lib.hid hn1
      clear hn1
      have HD1 := Lib.hid h1; have HT1 := Lib.hid t1
      clear h1 t1 HOA
      go_wp2_with fail
      refine (of_any10 _ b w1 (HB.out.later HT1.out) (by omega)).mono ?_
      rintro e w2 ⟨d2, rfl, h2, t2⟩
      obtain ⟨p2, rfl⟩ := h2.ptr
      have HD2 := Lib.hid (HD1.out.later t2); have HE2 := Lib.hid h2; have HT2 : Hid (Turn (fun _ => False) w w2) := HT1.out.trans t2 (fun _ _ f => f)
      clear h2 t2 HD1 HT1
      go_wp2_with fail
      refine (HRO.out w2 (HA.out.later HT2.out)).mono ?_
      rintro e w3 ⟨v3, rfl, r3, t3⟩
      obtain ⟨A3, c3, rfl⟩ := r3.shape
      have HD3 := Lib.hid (HD2.out.later t3); have HE3 := Lib.hid (HE2.out.later t3); have HT3 : Hid (Turn (fun _ => False) w w3) := HT2.out.trans t3 (fun _ _ f => f); have HR3 := Lib.hid r3
      clear r3 t3 HD2 HE2 HT2
      go_wp2_with fail
      refine (HCOD.out _ _ w3 HD3.out HDN.out (HB.out.later HT3.out)).mono ?_
      rintro e w4 ⟨u4, rfl, r4, t4⟩
      obtain ⟨A4, c4, rfl⟩ := r4.shape
      rw [hNl] at r4 ⊢
      have HD4 := Lib.hid (HD3.out.later t4); have HE4 := Lib.hid (HE3.out.later t4); have HT4 : Hid (Turn (fun _ => False) w w4) := HT3.out.trans t4 (fun _ _ f => f); have HR4 := Lib.hid (HR3.out.later t4); have HN4 := Lib.hid r4; have HB4 := Lib.hid (HB.out.later HT4.out)
      clear r4 t4 HD3 HE3 HT3 HR3
      go_wp2_with fail
      go_loopw [12, 13] (fun x12 x13 wr => wr = w4 ∧ ∃ i : Nat, x13 = .int .i64 (i : Int) ∧ i ≤ b.length ∧ x12 = .bool (allIn (b.take i) La)) (fun _ x13 _ => b.length - (intOf x13).toNat)
      case atStart => exact ⟨rfl, 0, rfl, Nat.zero_le _, rfl⟩
      case round =>
        obtain ⟨rfl, i, rfl, hi, rfl⟩ := hrel
        by_cases hlt : i < b.length
        · obtain ⟨x, hx⟩ : ∃ x, b[i]? = some x := ⟨_, List.getElem?_eq_getElem hlt⟩
          have HST := Lib.hid (allIn_step10 (L := La) hx)
          obtain ⟨ad, rfl, hc⟩ := str_at10 HB4.out hx
          have e0 := hc _ (Turn.refl _ _)
          unfold sv10 at e0
          have hil : (i : Int) < b.length := by omega
          clear hc hx
          cases hal : allIn (b.take i) La with
          | true =>
            rw [hal] at HST
            have HRC := Lib.hid (ref_code10 _ La x wr HR4.out (by omega))
            unfold sv10 at HRC
            by_cases hin : idxG x La < La.length
            · have HC : Hid (codeT x La = (idxG x La : Int)) := if_pos hin
              rw [decide_eq_true hin] at HST
              rw [HC.out] at HRC
              have hge : (0 : Int) ≤ (idxG x La : Int) := Int.natCast_nonneg _
              generalize idxG x La = q at *
              clear hin hal
              go_wp2_with fail
              refine HRC.out.mono ?_
              rintro e w5 ⟨rfl, rfl⟩
              go_wp2
              go_roundw
              case rel => exact ⟨trivial, i + 1, by go_num, hlt, by rw [HST.out]; rfl⟩
              case measure => simp [intOf]; omega
            · have HC : Hid (codeT x La = -1) := if_neg hin
              rw [decide_eq_false hin] at HST
              rw [HC.out] at HRC
              clear hin hal
              go_wp2_with fail
              refine HRC.out.mono ?_
              rintro e w5 ⟨rfl, rfl⟩
              go_wp2
              go_roundw
              case rel => exact ⟨trivial, i + 1, by go_num, hlt, by rw [HST.out]; rfl⟩
              case measure => simp [intOf]; omega
          | false =>
            rw [hal] at HST
            clear hal
            go_wp2
            go_roundw
            case rel => exact ⟨trivial, i + 1, by go_num, hlt, by rw [HST.out]; rfl⟩
            case measure => simp [intOf]; omega
        · obtain rfl : i = b.length := by omega
          rw [List.take_length, HI.out]
          obtain ⟨wo, hwo⟩ : ∃ wo, wo = wr := ⟨_, rfl⟩
          subst hwo
          go_wp2_with fail
          go_loopw [14] (fun x14 wk => ∃ i : Nat, x14 = .int .i64 (i : Int) ∧ i ≤ 0 ∧ Turn (fun _ => False) wo wk) (fun x14 _ => 0 - (intOf x14).toNat)
          case atStart => exact ⟨0, rfl, Nat.zero_le _, Turn.refl _ _⟩
          case round =>
            obtain ⟨i2, rfl, hi2, ht2⟩ := hrel
            have HTW := Lib.hid ht2
            clear ht2
            by_cases hlt2 : i2 < 0
            · obtain ⟨x, hx, hxN⟩ := HCAT.out i2 (by rw [hNl]; exact hlt2)
              have hib : i2 < b.length := (List.getElem?_eq_some_iff.1 hx).1
              obtain ⟨ad, rfl, hc⟩ := str_at10 HB4.out hx
              obtain ⟨bd, rfl, hd⟩ := num_at10 HN4.out hxN
              have e0 := hc wr HTW.out
              have e1 := hd wr HTW.out
              unfold sv10 at e0
              have HRC : Hid (∀ W, Turn (fun _ => False) wr W → Calls Try.prog 11 #[.slice A3 La.length c3, .string ⟨x.toArray⟩] W fun e w' => e = .returned (.int .i64 (codeT x La)) ∧ W = w') := fun W ht => (ref_code10 _ La x W (HR4.out.later (HTW.out.trans ht (fun _ _ f => f))) (by omega)).mono fun _ _ h => ⟨h.1, h.2.symm⟩
              have hil2 : (i2 : Int) < 0 := by omega
              have hib2 : (i2 : Int) < b.length := by omega
              generalize codeT x La = q at *
              clear hc hd hx hxN
              go_wp2_with fail
              go_quiet (first | (go_at_call 11; with_reducible exact quiet_left (HRC.out _ ((Turn.refl _ wr).drewN _))) | fail)
              go_wp2
              go_roundw
              case rel => exact ⟨i2 + 1, by go_num, hlt2, HTW.out.drewN _⟩
              case measure => simp [intOf]; omega
            · obtain rfl : i2 = 0 := by omega
              clear HCAT
              go_wp2_with fail
              refine (HTHI.out _ _ wr (HD4.out.later HTW.out) HDN.out (HCS.out.later (HT4.out.trans HTW.out (fun _ _ f => f)))).mono ?_
              rintro e w5 ⟨u5, rfl, r5, t5⟩
              obtain ⟨A5, c5, rfl⟩ := r5.shape
              rw [hXl] at r5 ⊢
              have t45 := HTW.out.trans t5 (fun _ _ f => f)
              have HD5 := Lib.hid (HD4.out.later t45); have HE5 := Lib.hid (HE4.out.later t45); have HT5 : Hid (Turn (fun _ => False) w w5) := HT4.out.trans t45 (fun _ _ f => f); have HR5 := Lib.hid (HR4.out.later t45); have HX5 := Lib.hid r5; have HC5 := Lib.hid (HCS.out.later HT5.out)
              clear r5 t5 t45 HTW HD4 HE4 HT4 HR4 HN4 HB4
              go_wp2_with fail
              go_loopw [12, 17] (fun x12 x17 wk => wk = w5 ∧ ∃ i : Nat, x17 = .int .i64 (i : Int) ∧ i ≤ cs.length ∧ x12 = .bool (allAt (cs.take i) La)) (fun _ x17 _ => cs.length - (intOf x17).toNat)
              case atStart => exact ⟨rfl, 0, rfl, Nat.zero_le _, rfl⟩
              case round =>
                obtain ⟨rfl, i3, rfl, hi3, rfl⟩ := hrel
                by_cases hlt3 : i3 < cs.length
                · obtain ⟨c, hx⟩ : ∃ c, cs[i3]? = some c := ⟨_, List.getElem?_eq_getElem hlt3⟩
                  have HST := Lib.hid (allAt_step10 (L := La) hx)
                  obtain ⟨ad, rfl, hc⟩ := num_at10 HC5.out hx
                  have e0 := hc _ (Turn.refl _ _)
                  have hil3 : (i3 : Int) < cs.length := by omega
                  clear hc hx
                  cases hal : allAt (cs.take i3) La with
                  | true =>
                    rw [hal] at HST
                    by_cases c0 : 0 ≤ c
                    · by_cases c1 : c < La.length
                      · rw [atG_some10 c0 c1] at HST
                        clear hal
                        go_wp2
                        go_roundw
                        case rel => exact ⟨trivial, i3 + 1, by go_num, hlt3, by rw [HST.out]; rfl⟩
                        case measure => simp [intOf]; omega
                      · have c1' : (La.length : Int) ≤ c := by omega
                        rw [atG_high10 c1'] at HST
                        clear hal c1
                        go_wp2
                        go_roundw
                        case rel => exact ⟨trivial, i3 + 1, by go_num, hlt3, by rw [HST.out, decide_eq_false (show ¬ c < (La.length : Int) by omega)]; rfl⟩
                        case measure => simp [intOf]; omega
                    · have c0' : c < 0 := by omega
                      rw [atG_low10 c0'] at HST
                      clear hal c0
                      go_wp2
                      go_roundw
                      case rel => exact ⟨trivial, i3 + 1, by go_num, hlt3, by rw [HST.out]; rfl⟩
                      case measure => simp [intOf]; omega
                  | false =>
                    rw [hal] at HST
                    clear hal
                    go_wp2
                    go_roundw
                    case rel => exact ⟨trivial, i3 + 1, by go_num, hlt3, by rw [HST.out]; rfl⟩
                    case measure => simp [intOf]; omega
                · obtain rfl : i3 = cs.length := by omega
                  rw [List.take_length, HTT.out]
                  obtain ⟨wp, hwp⟩ : ∃ wp, wp = wr := ⟨_, rfl⟩
                  subst hwp
                  go_wp2_with fail
                  go_loopw [18] (fun x18 wk => ∃ i : Nat, x18 = .int .i64 (i : Int) ∧ i ≤ 0 ∧ Turn (fun _ => False) wp wk) (fun x18 _ => 0 - (intOf x18).toNat)
                  case atStart => exact ⟨0, rfl, Nat.zero_le _, Turn.refl _ _⟩
                  case round =>
                    obtain ⟨i4, rfl, hi4, ht4⟩ := hrel
                    have HTV := Lib.hid ht4
                    clear ht4
                    by_cases hlt4 : i4 < 0
                    · obtain ⟨c, x, hc0, hxX, h0, hLx⟩ := HTAT.out i4 (by rw [hXl]; exact hlt4)
                      obtain ⟨J, rfl⟩ := Int.eq_ofNat_of_zero_le h0
                      rw [Int.toNat_natCast] at hLx
                      have hJ : J < La.length := (List.getElem?_eq_some_iff.1 hLx).1
                      have hic : i4 < cs.length := (List.getElem?_eq_some_iff.1 hc0).1
                      obtain ⟨a1, rfl, k1⟩ := str_at10 HX5.out hxX
                      obtain ⟨a2, rfl, k2⟩ := num_at10 HC5.out hc0
                      obtain ⟨a3, rfl, k3⟩ := str_at10 HR5.out hLx
                      have e1 := k1 wr HTV.out
                      have e2 := k2 wr HTV.out
                      have e3 := k3 wr HTV.out
                      unfold sv10 at e1 e3
                      have hil4 : (i4 : Int) < 0 := by omega
                      have hic4 : (i4 : Int) < cs.length := by omega
                      have hJi : (J : Int) < La.length := by omega
                      have hxx : (x == x) = true := beq_self_eq_true x
                      clear k1 k2 k3 hc0 hxX h0 hLx
                      go_wp2_with fail
                      go_quiet (fail)
                      go_wp2
                      go_roundw
                      case rel => exact ⟨i4 + 1, by go_num, hlt4, HTV.out.drewN _⟩
                      case measure => simp [intOf]; omega
                    · obtain rfl : i4 = 0 := by omega
                      clear HTAT
                      go_wp2_with fail
                      refine (HJN.out _ _ wr (HD5.out.later HTV.out) (HE5.out.later HTV.out)).mono ?_
                      rintro e w6 ⟨dj, rfl, hj, t6⟩
                      obtain ⟨pj, rfl⟩ := hj.ptr
                      have t56 := HTV.out.trans t6 (fun _ _ f => f)
                      have HJ6 := Lib.hid hj; have HE6 := Lib.hid (HE5.out.later t56); have HT6 : Hid (Turn (fun _ => False) w w6) := HT5.out.trans t56 (fun _ _ f => f)
                      clear hj t6 t56 HTV HD5 HE5 HT5 HR5 HX5 HC5
                      go_wp2_with fail
                      refine (things10 _ _ w6 HJ6.out HLab.out).mono ?_
                      rintro e w7 ⟨v7, rfl, r7, t7⟩
                      obtain ⟨A7, c7, rfl⟩ := r7.shape
                      have HT7 : Hid (Turn (fun _ => False) w w7) := HT6.out.trans t7 (fun _ _ f => f); have HE7 := Lib.hid (HE6.out.later t7); have HR7 := Lib.hid r7
                      have HN0 := Lib.hid (NewE.empty (E := ET10) (e := 9) w7 w7 (Turn.refl _ w7))
                      have HSa := Lib.hid (HA.out.later (HT7.out.trans HN0.out.turn (fun _ _ f => f)))
                      clear r7 t7 HJ6 HE6 HT6
                      go_wp2_with (at_builtin; first
                        | (refine wpList_texts10 _ rfl _ _ rfl _ _ rfl HN1.out.own _ rfl b HSb.out (by simp only [List.length_append, List.length_nil]; omega) ?_; intro A9 n9 c9 w9 ho9 ht9 hn9; have HN2 := Lib.hid (HN1.out.step ho9 ht9 hn9); clear ho9 ht9 hn9)
                        | (refine wpList_texts10 _ rfl _ _ rfl _ _ rfl HN0.out.own _ rfl a HSa.out (by simp only [List.length_nil]; omega) ?_; intro A8 n8 c8 w8 ho8 ht8 hn8; have HN1 := Lib.hid (HN0.out.step ho8 ht8 hn8); have HSb := Lib.hid (HB.out.later (HT7.out.trans HN1.out.turn (fun _ _ f => f))); clear ho8 ht8 hn8)
                        | fail)
                      have hrd := HN2.out.own.rd
                      rw [List.nil_append] at hrd
                      have HRD := Lib.hid hrd
                      have HT9 : Hid (Turn (fun _ => False) w w9) := HT7.out.trans HN2.out.turn (fun _ _ f => f)
                      have HR9 := Lib.hid (HR7.out.later HN2.out.turn)
                      have HE9 := Lib.hid (HE7.out.later HN2.out.turn)
                      clear hrd HN2 HN1 HN0 HSa HSb HR7 HE7
                      refine (ref_of10 _ (a ++ b) w9 HRD.out (by rw [List.length_append]; omega)).mono ?_
                      rintro e w10 ⟨v10, rfl, r10, t10⟩
                      have HR10 := Lib.hid (HR9.out.later t10); have HV10 := Lib.hid r10; have HE10 := Lib.hid (HE9.out.later t10); have HT10 : Hid (Turn (fun _ => False) w w10) := HT9.out.trans t10 (fun _ _ f => f)
                      clear r10 t10 HRD HR9 HE9 HT9
                      go_wp2_with fail
                      refine (same_refl10 _ _ _ w10 HR10.out HV10.out (by have := HLab.out; omega)).mono ?_
                      rintro e w11 ⟨rfl, t11⟩
                      have HE11 := Lib.hid (HE10.out.later t11); have HT11 : Hid (Turn (fun _ => False) w w11) := HT10.out.trans t11 (fun _ _ f => f)
                      clear t11 HR10 HV10 HE10 HT10
                      go_wp2_with fail
                      refine (HJO.out _ w11 HE11.out).mono ?_
                      rintro e w12 ⟨dk, rfl, hk2, t12⟩
                      obtain ⟨pk, rfl⟩ := hk2.ptr
                      have HK12 := Lib.hid hk2; have HT12 : Hid (Turn (fun _ => False) w w12) := HT11.out.trans t12 (fun _ _ f => f)
                      clear hk2 t12 HE11 HT11
                      go_wp2_with fail
                      refine (things10 _ _ w12 HK12.out HLb.out).mono ?_
                      rintro e w13 ⟨v13, rfl, r13, t13⟩
                      obtain ⟨A13, c13, rfl⟩ := r13.shape
                      have HR13 := Lib.hid r13; have HT13 : Hid (Turn (fun _ => False) w w13) := HT12.out.trans t13 (fun _ _ f => f)
                      clear r13 t13 HK12 HT12
                      go_wp2_with fail
                      refine (ref_of10 _ b w13 (HB.out.later HT13.out) (by omega)).mono ?_
                      rintro e w14 ⟨v14, rfl, r14, t14⟩
                      have HR14 := Lib.hid (HR13.out.later t14); have HV14 := Lib.hid r14; have HT14 : Hid (Turn (fun _ => False) w w14) := HT13.out.trans t14 (fun _ _ f => f)
                      clear r14 t14 HR13 HT13
                      go_wp2_with fail
                      refine (same_refl10 _ _ _ w14 HR14.out HV14.out (by have := HLb.out; omega)).mono ?_
                      rintro e w15 ⟨rfl, t15⟩
                      have HT15 : Hid (Turn (fun _ => False) w w15) := HT14.out.trans t15 (fun _ _ f => f)
                      clear t15 HR14 HV14 HT14
                      go_wp2_with fail
                      refine (alive_any10 w15).mono ?_
                      rintro e w16 ⟨rfl, t16⟩
                      have HT16 : Hid (Turn (fun _ => False) w w16) := HT15.out.trans t16 (fun _ _ f => f)
                      clear t16
                      go_wp2
                      go_ret
                      exact ⟨rfl, HT16.out.below (Nat.le_refl _) (fun _ f => f.elim)⟩

set_option maxRecDepth 100000 in
theorem lifted (os : Os) (started : os.Started) (H : Type) (enc : TypeId × Value → H) :
    ReturnsInHanded {} Try.checked os 4 .any (Rows.dictListsSpec.pre6 enc Try.prog Try.f4 Rows.dictListsRow.domain false) (Rows.dictListsSpec.post enc Try.prog Try.f4 false true false false) := by
  refine returnsInHanded_of_change (C := Try.checked) own started (by kernel_rfl) Try.func4
    (ChangeSpec.witness6 (enc := enc) (C := Try.checked) false ⟨#[], #[.slice none 0 0, .slice none 0 0, .slice none 0 0], []⟩ 8 (by kernel_rfl) (by kernel_rfl) (by kernel_rfl) (by kernel_rfl)) ?_
  intro W base args ds gs before hval0 hW hcnd _
  have hval : ∀ (j : Nat) t v, Try.f4.params[j]? = some t → args[j]? = some v → Value.okWide Try.prog W .any base t v := hval0
  have hW' := hW
  obtain ⟨p, q, hA0, hV, rfl, hfz, hnd⟩ := hW
  have hA : DataW.TrodAll enc Try.prog W 0 (fun _ => true) true Try.f4.params.toList args.toList ds p := hA0
  rw [Try.params4] at hA hval
  obtain ⟨v0, vs0, d0, ds0, p0, q0, hargs, rfl, rfl, h0, r0⟩ := trodAll_cons hA
  obtain ⟨v1, vs1, d1, ds1, p1, q1, rfl, rfl, rfl, h1, r1⟩ := trodAll_cons r0
  obtain ⟨v2, vs2, d2, ds2, p2, q2, rfl, rfl, rfl, h2, r2⟩ := trodAll_cons r1
  obtain ⟨rfl, rfl, rfl⟩ := trodAll_nil r2
  obtain rfl : args = #[v0, v1, v2] := by cases args; simp_all
  obtain ⟨rfl, rfl⟩ := trodVars_none hV
  have k0 := h0
  have lt0 : ∀ x ∈ p0, x.block < W.heap.size := by obtain ⟨m, hm⟩ := k0; exact DataW.trod_lt m _ _ _ hm
  obtain ⟨a0, len0, cap0, rfl⟩ := okWide_slice Try.underlying22 (hval 0 22 v0 rfl rfl)
  obtain ⟨l0, hp0, hl0, _⟩ := open_texts10 rfl h0
  have k1 := h1
  have lt1 : ∀ x ∈ p1, x.block < W.heap.size := by obtain ⟨m, hm⟩ := k1; exact DataW.trod_lt m _ _ _ hm
  obtain ⟨a1, len1, cap1, rfl⟩ := okWide_slice Try.underlying22 (hval 1 22 v1 rfl rfl)
  obtain ⟨l1, hp1, hl1, _⟩ := open_texts10 rfl h1
  have k2 := h2
  have lt2 : ∀ x ∈ p2, x.block < W.heap.size := by obtain ⟨m, hm⟩ := k2; exact DataW.trod_lt m _ _ _ hm
  obtain ⟨a2, len2, cap2, rfl⟩ := okWide_slice Try.underlying35 (hval 2 35 v2 rfl rfl)
  obtain ⟨l2, hp2, hl2, _⟩ := open_numbs10 rfl h2
  clear hA0 hval0
  refine (walk _ _ _ l0 l1 l2 W hp0 hp1 hp2 hl0 hl1 hl2).mono fun e W' ⟨he, bel⟩ => ?_
  subst he
  exact ⟨_, rfl, _, _, _, [], _, [], hW', trodAll_mk1 (shut_bool Try.underlying4 _), (trodAll_cons_mk (Below.trod laidOut (by kernel_rfl) (of_decide_eq_true (by kernel_rfl)) k0 bel lt0) (trodAll_cons_mk (Below.trod laidOut (by kernel_rfl) (of_decide_eq_true (by kernel_rfl)) k1 bel lt1) (trodAll_cons_mk (Below.trod laidOut (by kernel_rfl) (of_decide_eq_true (by kernel_rfl)) k2 bel lt2) trodAll_mk0))), rfl, bel.frame _, fun h => by cases h⟩

theorem over : Rows.dictListsRow.holds Try.pinned (OpenSpec.ofChange Rows.dictListsSpec) :=
  OpenClaim.holds_of_wide 4 Try.f4 rfl rfl rfl rfl rfl rfl rfl ⟨rfl, rfl, rfl, rfl, rfl⟩ rfl rfl rfl rfl rfl (by kernel_rfl) Try.func4 (by kernel_rfl)
    (of_decide_eq_true (by kernel_rfl)) (by unfold Func.isWrapper; first | (rw [if_pos (by decide +kernel)]; kernel_rfl) | (rw [if_neg (by decide +kernel)]; exact ⟨rfl, rfl⟩))
    (fun os started H enc _ => lifted os started H enc)

theorem proved : Rows.DictListsSaid := over
#print axioms proved
end Go.Proofs.Ytnapeckpjnbcgaa.dictLists
