
/-
  Stage 9: the document's Encode.
-/
import Derived.Test.YtejilonhdgfkbaaZe
import Derived.Test.YtejilonhdgfkbaaOe
namespace Go.Proofs.Ytejilonhdgfkbaa
open Go.RowKit

set_option maxRecDepth 100000

theorem made_behind9 {a b c : World} {v : Value} {l : List UInt8} (h : Turn (fun _ => False) a b) (g : Made b c v l) : Made a c v l :=
  ⟨g.1, h.trans g.2.1 (fun _ _ f => f), fun k hk => Nat.le_trans h.size (g.2.2 k hk)⟩
/-- Bytes put behind bytes of one's own. -/
theorem made_more9 {w wr w2 w3 : World} {A A3 : Option Addr} {n c n3 c3 : Nat} {acc m : List UInt8} (h : Made w wr (.slice A n c) acc) (ht : Turn (fun _ => False) wr w2) (hb : By w3 (.slice A3 n3 c3) (acc ++ m))
    (hg : w2.grownBy w3 (Value.slice A n c).ownBlock) (ha : (Value.slice A3 n3 c3).ownBlock = (Value.slice A n c).ownBlock ∨ (Value.slice A3 n3 c3).ownBlock = some w2.heap.size) : Made w w3 (.slice A3 n3 c3) (acc ++ m) := made_app h ht hb hg ha rfl
/-- A fact's bytes; a batch's. -/
def textB (t : List UInt8) : List UInt8 := enc t.length ++ t
def textsB (k : K9) : Nat → List UInt8
  | 0 => []
  | i + 1 => textsB k i ++ textB (k.dim i)
def factB (n : Nat) (f : F9) : List UInt8 := enc f.k.h.toNat ++ textsB f.k n ++ enc (zig f.v)
def batchB (l : List F9) (n : Nat) : List UInt8 := enc l.length ++ l.flatMap (factB n)
/-- A fact that is right. -/
structure Good9 (f : F9) : Prop where
  h0 : 0 ≤ f.k.h
  h1 : f.k.h ≤ 16777216
  v0 : -1152921504606846976 ≤ f.v
  v1 : f.v ≤ 1152921504606846976
  t : ∀ i, i < 4 → (f.k.dim i).length ≤ 16
theorem good_chk {f : F9} {n : Int} (h : chkF f n = 0) : Good9 f := by
  unfold chkF at h
  split at h
  · split at h
    · rename_i hr
      split at h
      · rename_i ht
        refine ⟨hr.1, hr.2.1, hr.2.2.2, hr.2.2.1, fun i hi => ?_⟩
        simp only [okTexts, okText, Bool.and_eq_true, decide_eq_true_iff] at ht
        match i, hi with
        | 0, _ => exact ht.1.1.1.1
        | 1, _ => exact ht.1.1.2.1
        | 2, _ => exact ht.1.2.1
        | 3, _ => exact ht.2.1
      · cases h
    · cases h
  · cases h
theorem bad_none {n : Int} : ∀ {l : List F9} {i : Nat}, (badAt n l i).1 = 0 → ∀ f ∈ l, chkF f n = 0
  | [], _, _, f, hf => by cases hf
  | g :: t, i, h, f, hf => by
    unfold badAt at h
    split at h
    · rename_i hg
      rcases List.mem_cons.1 hf with rfl | hf
      · exact hg
      · exact bad_none h f hf
    · rename_i hg
      exact absurd h hg
theorem bad_fst {n : Int} : ∀ {l : List F9} {i : Nat}, (badAt n l i).1 = 0 → badAt n l i = (0, 0)
  | [], _, _ => rfl
  | g :: t, i, h => by
    unfold badAt at h ⊢
    split
    · rename_i hg
      rw [if_pos hg] at h
      exact bad_fst h
    · rename_i hg
      rw [if_neg hg] at h
      exact absurd h hg
theorem all_good {l : List F9} {n : Int} (h : (allB l n).1 = 0) : (1 ≤ n ∧ n ≤ 4) ∧ (1 ≤ l.length ∧ l.length ≤ 50) ∧ (∀ f ∈ l, chkF f n = 0) ∧ allB l n = (0, 0) := by
  unfold allB at h ⊢
  split
  · rename_i hc
    rw [if_pos hc] at h
    obtain ⟨h1, h2, h3⟩ := hc
    unfold okDims at h1
    simp only [Bool.and_eq_true, decide_eq_true_iff] at h1
    exact ⟨h1, ⟨h2, h3⟩, bad_none h, bad_fst h⟩
  · rename_i hc
    rw [if_neg hc] at h
    cases h
theorem texts_len (f : F9) (hg : Good9 f) : ∀ k, k ≤ 4 → (textsB f.k k).length ≤ 26 * k
  | 0, _ => Nat.zero_le _
  | k + 1, hk => by
    have ih := texts_len f hg k (by omega)
    have h1 := hg.t k (by omega)
    have h2 := enc_len (f.k.dim k).length
    show (textsB f.k k ++ (enc (f.k.dim k).length ++ f.k.dim k)).length ≤ _
    rw [List.length_append, List.length_append]
    omega
theorem fact_len {f : F9} (hg : Good9 f) {n : Nat} (hn : n ≤ 4) : (factB n f).length ≤ 200 := by
  have h1 := texts_len f hg n hn
  have h2 := enc_len f.k.h.toNat
  have h3 := enc_len (zig f.v)
  unfold factB
  rw [List.length_append, List.length_append]
  omega
/-- What was laid of a batch. -/
def partB (l : List F9) (n i : Nat) : List UInt8 := enc l.length ++ (l.take i).flatMap (factB n)
theorem partB_step {l : List F9} {n i : Nat} {f : F9} (h : l[i]? = some f) : partB l n (i + 1) = partB l n i ++ factB n f := by
  obtain ⟨h0, e⟩ := List.getElem?_eq_some_iff.1 h
  unfold partB
  rw [List.take_succ_eq_append_getElem h0, e, List.flatMap_append, List.append_assoc]
  simp
theorem partB_len {l : List F9} {n : Nat} (hn : n ≤ 4) (hg : ∀ f ∈ l, Good9 f) : ∀ i, (partB l n i).length ≤ 10 + 200 * i
  | 0 => by
    unfold partB
    have := enc_len l.length
    simp
    omega
  | i + 1 => by
    have ih := partB_len hn hg i
    cases h : l[i]? with
    | none =>
      have e : partB l n (i + 1) = partB l n i := by
        unfold partB
        have := List.getElem?_eq_none_iff.1 h
        rw [List.take_of_length_le (by omega), List.take_of_length_le (by omega)]
      rw [e]
      omega
    | some f =>
      rw [partB_step h, List.length_append]
      have := fact_len (hg f (List.mem_of_getElem? h)) hn
      omega
theorem partB_all (l : List F9) (n : Nat) : partB l n l.length = batchB l n := by unfold partB batchB; rw [List.take_length]
/-- Behind Encode: the bytes, or none. -/
def Encd (w : World) (l : List F9) (n : Int) (e : Ending) (w' : World) : Prop :=
  ∃ v, e = .returned (.tuple #[v, .int .i64 (allB l n).1]) ∧ Made w w' v (if (allB l n).1 = 0 then batchB l n.toNat else [])

set_option maxHeartbeats 8000000 in
theorem ref_encode9 (v : Value) (l : List F9) (n : Int) (w : World) (hv : RdE EF w v l) (hl : l.length ≤ 1000) : Calls Try.prog 25 #[v, .int .i64 n] w fun e w' => Encd w l n e w' := by
  have HV := Lib.hid hv
  obtain ⟨A, c, rfl⟩ := hv.shape
  have HALL := Lib.hid (ref_all9 (.slice A l.length c) l n w hv (by omega))
  clear hv
  by_cases h0 : (allB l n).1 = 0
  · have hag := all_good h0
    obtain ⟨⟨n1, n4⟩, ⟨l1, l50⟩, hch, hall⟩ := hag
    obtain ⟨N, rfl⟩ := Int.eq_ofNat_of_zero_le (show 0 ≤ n by omega)
    have HG : Hid (∀ f ∈ l, Good9 f) := fun f hf => good_chk (hch f hf)
    have HEND : Hid (∀ v w', Made w w' v (batchB l N) → Encd w l (N : Int) (.returned (.tuple #[v, .int .i64 0])) w') := fun v w' hm => ⟨v, by rw [h0], by rw [if_pos h0, Int.toNat_natCast]; exact hm⟩
    unfold allV at HALL
    rw [hall] at HALL
    have hN4 : N ≤ 4 := by omega
    have HLEN := Lib.hid (partB_len (n := N) hN4 HG.out)
    have hl64 : Hid (l.length < 18446744073709551616) := by show _ < _; omega
    clear h0 hch hall
    go_enter Try.func25, Try.ntmps25
    go_wp2_with fail
    refine HALL.out.mono ?_
    rintro e w1 ⟨rfl, t1⟩
    have HT1 := Lib.hid t1
    clear t1
    go_wp2_with fail
    refine (ref_num l.length w1 hl64).mono ?_
    rintro e w2 ⟨v2, rfl, hm⟩
    have HM0 : Hid (Made w w2 v2 (partB l N 0)) := by
      unfold partB
      rw [List.take_zero, List.flatMap_nil, List.append_nil]
      exact made_behind9 HT1.out hm
    clear hm HT1 HALL
    go_wp2_with fail
    go_loopw [8, 9] (fun x8 x9 wr => ∃ i : Nat, x9 = .int .i64 (i : Int) ∧ i ≤ l.length ∧ Made w wr x8 (partB l N i)) (fun _ x9 _ => l.length - (intOf x9).toNat)
    case atStart => exact ⟨0, rfl, Nat.zero_le _, HM0.out⟩
    case round =>
      clear HM0
      obtain ⟨i, rfl, hi, hm⟩ := hrel
      have HM := Lib.hid hm
      obtain ⟨A8, c8, hv8⟩ := hm.1.shape
      subst hv8
      have hlen := HLEN.out i
      clear hm
      by_cases hlt : i < l.length
      · obtain ⟨f, hf⟩ : ∃ f, l[i]? = some f := ⟨_, List.getElem?_eq_getElem hlt⟩
        have hgf := HG.out f (List.mem_of_getElem? hf)
        obtain ⟨ad, rfl, hc⟩ := fact_at HV.out hf
        have HC := Lib.hid hc
        have HST := Lib.hid (partB_step (n := N) hf)
        have HGF := Lib.hid hgf
        have e0 := (hc _ HM.out.2.1).1
        obtain ⟨H, hH⟩ := Int.eq_ofNat_of_zero_le hgf.h0
        have hH2 : H ≤ 16777216 := by have := hgf.h1; omega
        rw [hH] at e0
        have HHH := Lib.hid hH
        have hil : (i : Int) < l.length := by omega
        have hn64 : Hid (H < 18446744073709551616) := by show _ < _; omega
        generalize hacc : partB l N i = acc at *
        clear hc hf hgf hH hacc
        go_wp2_with fail
        refine (ref_num H wr hn64).mono ?_
        rintro e w3 ⟨v3, rfl, hm3⟩
        have HY := Lib.hid hm3
        have HM3 : Hid (By w3 (.slice A8 acc.length c8) acc) := HM.out.1.turn hm3.2.1 (fun _ _ f => f)
        have hel := enc_len H
        clear hm3
        go_wp2_with (at_builtin; go_must (refine wpList_app _ rfl _ _ _ rfl _ acc rfl HM3.out _ rfl (enc H) HY.out.1.yields (by omega) ?_))
        intro A4 n4 c4 w4 hb hg ha
        have hm4 := made_more9 HM.out HY.out.2.1 hb hg ha
        have HM4 : Hid (Made w w4 (.slice A4 n4 c4) (acc ++ enc H ++ textsB f.k 0)) := by
          show Made _ _ _ (acc ++ enc H ++ [])
          rw [List.append_nil]
          exact hm4
        clear hb hg ha hm4 HM3 HY HM e0
        go_wp2_with fail
        go_loopw [8, 10] (fun x8 x10 wk => ∃ k : Nat, x10 = .int .i64 (k : Int) ∧ k ≤ N ∧ Made w wk x8 (acc ++ enc H ++ textsB f.k k)) (fun _ x10 _ => N - (intOf x10).toNat)
        case atStart => exact ⟨0, rfl, Nat.zero_le _, HM4.out⟩
        case round =>
          clear HM4
          obtain ⟨k, rfl, hk, hm⟩ := hrel
          have HM := Lib.hid hm
          obtain ⟨A8, c8, hv8⟩ := hm.1.shape
          subst hv8
          have htl := texts_len f HGF.out k (by omega)
          clear hm
          by_cases hkN : k < N
          · have e1 := (HC.out wr HM.out.2.1).2.1 k (by omega)
            have ht16 := HGF.out.t k (by omega)
            have hki : (k : Int) < N := by omega
            have HTS : Hid (textsB f.k (k + 1) = textsB f.k k ++ textB (f.k.dim k)) := rfl
            rw [← Nat.add_assoc] at e1
            unfold sv9 at e1
            have hlen2 : (acc ++ enc H ++ textsB f.k k).length ≤ 100000 := by rw [List.length_append, List.length_append]; omega
            generalize hacc : acc ++ enc H ++ textsB f.k k = acc2 at *
            have HACC := Lib.hid hacc
            generalize hT : f.k.dim k = T at *
            have hk4 : (k : Int) < 4 := by omega
            clear hacc hT
            go_wp2_with fail
            refine (ref_text ⟨T.toArray⟩ wr (by show T.toArray.size ≤ _; simp; omega)).mono ?_
            rintro e w3 ⟨v3, rfl, hm3⟩
            have hm3' : Made wr w3 v3 (textB T) := hm3
            have HY := Lib.hid hm3'
            have HM3 : Hid (By w3 (.slice A8 acc2.length c8) acc2) := HM.out.1.turn hm3.2.1 (fun _ _ f => f)
            have hel : (textB T).length ≤ 100 := by
              unfold textB
              have := enc_len T.length
              rw [List.length_append]
              omega
            clear hm3 hm3'
            go_wp2_with (at_builtin; go_must (refine wpList_app _ rfl _ _ _ rfl _ acc2 rfl HM3.out _ rfl (textB T) HY.out.1.yields (by omega) ?_))
            intro A4 n4 c4 w4 hb hg ha
            have hm4 := made_more9 HM.out HY.out.2.1 hb hg ha
            have HM4 : Hid (Made w w4 (.slice A4 n4 c4) (acc ++ enc H ++ textsB f.k (k + 1))) := by rw [HTS.out, ← List.append_assoc, HACC.out]; exact hm4
            clear hb hg ha hm4 HM3 HY HM
            go_wp2
            go_roundw
            case rel => exact ⟨k + 1, by go_num, hkN, HM4.out⟩
            case measure => simp [intOf]; omega
          · obtain rfl : k = N := by omega
            have e5 := (HC.out wr HM.out.2.1).2.2
            have hlen2 : (acc ++ enc H ++ textsB f.k k).length ≤ 100000 := by rw [List.length_append, List.length_append]; omega
            have hst2 : partB l k (i + 1) = acc ++ enc H ++ textsB f.k k ++ enc (zig f.v) := by
              rw [HST.out]
              unfold factB
              rw [HHH.out]
              simp only [Int.toNat_natCast, List.append_assoc]
            have HST2 := Lib.hid hst2
            clear hst2
            generalize hacc : acc ++ enc H ++ textsB f.k k = acc2 at *
            have hv1 : Hid (-9223372036854775808 ≤ f.v) := by have := HGF.out.v0; show _ ≤ _; omega
            have hv2 : Hid (f.v ≤ 9223372036854775807) := by have := HGF.out.v1; show _ ≤ _; omega
            clear hacc
            go_wp2_with fail
            refine (ref_int f.v wr hv1 hv2).mono ?_
            rintro e w3 ⟨v3, rfl, hm3⟩
            have HY := Lib.hid hm3
            have HM3 : Hid (By w3 (.slice A8 acc2.length c8) acc2) := HM.out.1.turn hm3.2.1 (fun _ _ f => f)
            have hel := enc_len (zig f.v)
            clear hm3
            go_wp2_with (at_builtin; go_must (refine wpList_app _ rfl _ _ _ rfl _ acc2 rfl HM3.out _ rfl (enc (zig f.v)) HY.out.1.yields (by omega) ?_))
            intro A4 n4 c4 w4 hb hg ha
            have hm4 := made_more9 HM.out HY.out.2.1 hb hg ha
            have HM4 : Hid (Made w w4 (.slice A4 n4 c4) (partB l k (i + 1))) := by rw [HST2.out]; exact hm4
            clear hb hg ha hm4 HM3 HY HM
            go_wp2
            go_roundw
            case rel => exact ⟨i + 1, by go_num, hlt, HM4.out⟩
            case measure => simp [intOf]; omega
      · obtain rfl : i = l.length := by omega
        have HM2 := HEND.out _ _ (by rw [← partB_all]; exact HM.out)
        go_wp2
        go_ret2
        exact HM2
  · have HEND : Hid (∀ w', Turn (fun _ => False) w w' → Encd w l n (.returned (.tuple #[.slice none 0 0, .int .i64 (allB l n).1])) w') := fun w' ht => ⟨_, rfl, by rw [if_neg h0]; exact ⟨By.nil w', ht, fun k hk => by simp [Value.ownBlock] at hk⟩⟩
    have hne : ((allB l n).1 == 0) = false := by simpa using h0
    unfold allV at HALL
    clear h0
    generalize (allB l n).1 = a at *
    generalize (allB l n).2 = b at *
    go_enter Try.func25, Try.ntmps25
    go_wp2_with fail
    refine HALL.out.mono ?_
    rintro e w1 ⟨rfl, t1⟩
    have HT1 := Lib.hid t1
    clear t1
    go_wp2
    go_ret2
    exact HEND.out _ HT1.out

end Go.Proofs.Ytejilonhdgfkbaa
