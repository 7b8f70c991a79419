
/-
  Stage 9: the program's Encode (by method values).
-/
import Derived.Test.YtejilonhdgfkbaaZj
import Derived.Test.YtejilonhdgfkbaaZck
import Derived.Test.YtejilonhdgfkbaaEw
namespace Go.Proofs.Ytejilonhdgfkbaa
open Go.RowKit

set_option maxRecDepth 100000

set_option maxHeartbeats 8000000 in
theorem encode_any9' (v : Value) (l : List F9) (n : Int) (w : World) (hv : RdE EF w v l) (hl : l.length ≤ 1000) : Calls Try.prog 24 #[v, .int .i64 n] w fun e w' => Encd w l n e w' := by
  have HV := Lib.hid hv
  obtain ⟨A, c, rfl⟩ := hv.shape
  have HALL := Lib.hid (all_any9 (.slice A l.length c) l n w hv hl)
  clear hv
  by_cases h0 : (allB l n).1 = 0
  · have hag := all_good h0
    obtain ⟨⟨n1, n4⟩, ⟨l1, l50⟩, hch, hall⟩ := hag
    obtain ⟨N, rfl⟩ := Int.eq_ofNat_of_zero_le (show 0 ≤ n by omega)
    have HG : Hid (∀ f ∈ l, Good9 f) := fun f hf => good_chk (hch f hf)
    have HEND : Hid (∀ v w', Made w w' v (batchB l N) → Encd w l (N : Int) (.returned (.tuple #[v, .int .i64 0])) w') := fun v w' hm => ⟨v, by rw [h0], by rw [if_pos h0, Int.toNat_natCast]; exact hm⟩
    unfold allV at HALL
    rw [hall] at HALL
    have hN4 : N ≤ 4 := by omega
    have HLEN := Lib.hid (partB_len (n := N) hN4 HG.out)
    have hl64 : Hid (l.length < 18446744073709551616) := by show _ < _; omega
    have hwl : IntKind.u64.wrap (l.length : Int) = (l.length : Int) := by rw [IntKind.wrap_u64]; omega
    clear h0 hch hall
    go_enter Try.func24, Try.ntmps24
    go_wp2_with fail
    refine HALL.out.mono ?_
    rintro e w1 ⟨rfl, t1⟩
    have HT1 := Lib.hid t1
    have HWT := Lib.hid (Wt.new w t1)
    clear t1
    go_wp2_with fail
    obtain ⟨P, hP⟩ : ∃ P, P = w1.heap.size := ⟨_, rfl⟩
    rw [← hP] at HWT ⊢
    refine (wt_num HWT.out l.length hl64 (by simp)).mono ?_
    rintro e w2 ⟨rfl, h2, -⟩
    have HM0 : Hid (Wt w P w2 (partB l N 0)) := by
      unfold partB
      rw [List.take_zero, List.flatMap_nil, List.append_nil]
      exact h2
    clear h2 HT1 HALL HWT hP
    go_wp2_with fail
    go_loopw [35] (fun x35 wr => ∃ i : Nat, x35 = .int .i64 (i : Int) ∧ i ≤ l.length ∧ Wt w P wr (partB l N i)) (fun x35 _ => l.length - (intOf x35).toNat)
    case atStart => exact ⟨0, rfl, Nat.zero_le _, HM0.out⟩
    case round =>
      clear HM0
      obtain ⟨i, rfl, hi, hm⟩ := hrel
      have HM := Lib.hid hm
      have hlen := HLEN.out i
      clear hm
      by_cases hlt : i < l.length
      · obtain ⟨f, hf⟩ : ∃ f, l[i]? = some f := ⟨_, List.getElem?_eq_getElem hlt⟩
        have hgf := HG.out f (List.mem_of_getElem? hf)
        obtain ⟨ad, rfl, hc⟩ := fact_at6 HV.out hf
        have HST := Lib.hid (partB_step (n := N) hf)
        have HGF := Lib.hid hgf
        obtain ⟨c0, c1, c2, c3, c4, c5⟩ := hc wr HM.out.turn
        obtain ⟨H, hH⟩ := Int.eq_ofNat_of_zero_le hgf.h0
        have hH2 : H ≤ 16777216 := by have := hgf.h1; omega
        have HHH := Lib.hid hH
        have hil : (i : Int) < l.length := by omega
        have hn64 : Hid (H < 18446744073709551616) := by show _ < _; omega
        have hwh : IntKind.u64.wrap f.k.h = (H : Int) := by rw [hH, IntKind.wrap_u64]; omega
        obtain ⟨wf, hwf⟩ : ∃ wf, wf = wr.alloc (.cells #[.int .i64 f.k.h, sv9 f.k.a, sv9 f.k.b, sv9 f.k.c, sv9 f.k.d, .int .i64 f.v] 33) := ⟨_, rfl⟩
        have HMF : Hid (Wt w P wf (partB l N i)) := by rw [hwf]; exact HM.out.later ((Turn.refl _ wr).alloc _)
        have hbf : Box wf wr.heap.size 33 #[.int .i64 f.k.h, sv9 f.k.a, sv9 f.k.b, sv9 f.k.c, sv9 f.k.d, .int .i64 f.v] := by rw [hwf]; exact Box.new wr _ _
        have HD : Hid (∀ W, Box W wr.heap.size 33 #[.int .i64 f.k.h, sv9 f.k.a, sv9 f.k.b, sv9 f.k.c, sv9 f.k.d, .int .i64 f.v] → ∀ k, k < 4 → W.cell? ⟨wr.heap.size, 1 + k, none⟩ = some (sv9 (f.k.dim k))) := fun W hb => dim_cell (o := 1) hb fact_cells
        have HB := Lib.hid hbf
        have HWF := Lib.hid hwf
        clear hc hf hgf hH hwf hbf HM
        go_wp2_with fail
        rw [← HWF.out]
        refine (wt_num HMF.out H hn64 (by omega)).mono ?_
        rintro e w3 ⟨rfl, h3, k3⟩
        obtain ⟨acc, hacc⟩ : ∃ acc, acc = partB l N i ++ enc H := ⟨_, rfl⟩
        rw [← hacc] at h3
        have hal : acc.length ≤ 100000 := by rw [hacc, List.length_append]; have := enc_len H; omega
        have HACC := Lib.hid hacc
        have HM3 : Hid (Wt w P w3 (acc ++ textsB f.k 0)) := by
          show Wt w P w3 (acc ++ [])
          rw [List.append_nil]
          exact h3
        have HB3 := Lib.hid (k3 _ _ _ (by decide) (by decide) HB.out)
        clear h3 hacc k3 HMF HB c0 c1 c2 c3 c4 c5
        go_wp2_with fail
        go_loopw [50] (fun x50 wk => ∃ k : Nat, x50 = .int .i64 (k : Int) ∧ k ≤ N ∧ Wt w P wk (acc ++ textsB f.k k) ∧ Box wk wr.heap.size 33 #[.int .i64 f.k.h, sv9 f.k.a, sv9 f.k.b, sv9 f.k.c, sv9 f.k.d, .int .i64 f.v]) (fun x50 _ => N - (intOf x50).toNat)
        case atStart => exact ⟨0, rfl, Nat.zero_le _, HM3.out, HB3.out⟩
        case round =>
          clear HM3 HB3
          rename_i wk
          obtain ⟨k, rfl, hk, hm, hb⟩ := hrel
          have HM := Lib.hid hm
          have HB := Lib.hid hb
          have htl := texts_len f HGF.out k (by omega)
          clear hm hb
          by_cases hkN : k < N
          · have e1 := HD.out _ HB.out k (by omega)
            have ht16 := HGF.out.t k (by omega)
            have hki : (k : Int) < N := by omega
            have HTS : Hid (textsB f.k (k + 1) = textsB f.k k ++ textB (f.k.dim k)) := rfl
            unfold sv9 at e1
            have hlen2 : (acc ++ textsB f.k k).length ≤ 200000 := by rw [List.length_append]; omega
            generalize hacc2 : acc ++ textsB f.k k = acc2 at *
            have HACC2 := Lib.hid hacc2
            generalize hT : f.k.dim k = T at *
            have hk4 : (k : Int) < 4 := by omega
            clear hacc2 hT
            go_wp2_with fail
            refine (wt_text HM.out T (by omega) (by omega)).mono ?_
            rintro e w4 ⟨rfl, h4, k4⟩
            have HM4 : Hid (Wt w P w4 (acc ++ textsB f.k (k + 1))) := by rw [HTS.out, ← List.append_assoc, HACC2.out]; exact h4
            have HB4 := Lib.hid (k4 _ _ _ (by decide) (by decide) HB.out)
            clear h4 k4
            go_wp2
            go_roundw
            case rel => exact ⟨k + 1, by go_num, hkN, HM4.out, HB4.out⟩
            case measure => simp [intOf]; omega
          · obtain rfl : k = N := by omega
            have e5 := HB.out.cell 5
            have hlen2 : (acc ++ textsB f.k k).length ≤ 200000 := by rw [List.length_append]; omega
            have hst2 : partB l k (i + 1) = acc ++ textsB f.k k ++ enc (zig f.v) := by
              rw [HST.out, HACC.out]
              unfold factB
              rw [HHH.out]
              simp only [Int.toNat_natCast, List.append_assoc]
            have HST2 := Lib.hid hst2
            clear hst2
            generalize hacc2 : acc ++ textsB f.k k = acc2 at *
            have hv1 : Hid (-9223372036854775808 ≤ f.v) := by have := HGF.out.v0; show _ ≤ _; omega
            have hv2 : Hid (f.v ≤ 9223372036854775807) := by have := HGF.out.v1; show _ ≤ _; omega
            clear hacc2
            go_wp2_with fail
            refine (wt_int HM.out f.v hv1 hv2 (by omega)).mono ?_
            rintro e w4 ⟨rfl, h4, -⟩
            have HM4 : Hid (Wt w P w4 (partB l k (i + 1))) := by rw [HST2.out]; exact h4
            clear h4 e5
            go_wp2
            go_roundw
            case rel => exact ⟨i + 1, by go_num, hlt, HM4.out⟩
            case measure => simp [intOf]; omega
      · obtain rfl : i = l.length := by omega
        have HM2 : Hid (Wt w P wr (batchB l N)) := by rw [← partB_all]; exact HM.out
        have hbl : (batchB l N).length ≤ 1000000 := by rw [← partB_all]; omega
        go_wp2_with fail
        refine (wt_bytes HM2.out hbl).mono ?_
        rintro e w4 ⟨v', rfl, hm⟩
        have HE := Lib.hid (HEND.out _ _ hm)
        clear hm
        go_wp2
        go_ret2
        exact HE.out
  · have HEND : Hid (∀ w', Turn (fun _ => False) w w' → Encd w l n (.returned (.tuple #[.slice none 0 0, .int .i64 (allB l n).1])) w') := fun w' ht => ⟨_, rfl, by rw [if_neg h0]; exact ⟨By.nil w', ht, fun k hk => by simp [Value.ownBlock] at hk⟩⟩
    have hne : ((allB l n).1 != 0) = true := by simp [bne, h0]
    unfold allV at HALL
    clear h0
    generalize (allB l n).1 = a at *
    generalize (allB l n).2 = b at *
    go_enter Try.func24, Try.ntmps24
    go_wp2_with fail
    refine HALL.out.mono ?_
    rintro e w1 ⟨rfl, t1⟩
    have HT1 := Lib.hid t1
    clear t1
    go_wp2
    go_ret2
    exact HEND.out _ HT1.out

end Go.Proofs.Ytejilonhdgfkbaa
