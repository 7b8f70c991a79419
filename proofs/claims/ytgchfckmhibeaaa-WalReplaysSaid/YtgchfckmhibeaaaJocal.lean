/-
  Texts laid one behind the other: R1p R1q Zck Ew Zz R1r Ex Zrf.
-/
import Derived.Test.YtgchfckmhibeaaaJocak
import Derived.Test.YtgchfckmhibeaaaJocaa
import Derived.Test.YtgchfckmhibeaaaJocaf
import Derived.Laws.IdiomArrays
import Derived.Test.YtgchfckmhibeaaaJocac
import Derived.Test.YtgchfckmhibeaaaJocae
import Derived.Test.YtgchfckmhibeaaaJocab
import Derived.Test.YtgchfckmhibeaaaJocag
import Derived.Test.YtgchfckmhibeaaaJocai
import Derived.Laws.ResultCell

/-
  Stage 17: WalTrims and WalReplays over any program that answers as is asked.
-/
namespace Go.Proofs.Ytgchfckmhibeaaa
open Go.RowKit

set_option maxRecDepth 100000

theorem trim_some17 {L T : List B17} {lo hi mark : Int} (h : Some17 L) (hT : T.map B17.p = trim17 (L.map B17.p) lo hi mark) : Some17 T := by
  have hlen : T.length ≤ L.length := by
    have h1 := congrArg List.length hT
    rw [List.length_map] at h1
    rw [h1]
    unfold trim17
    refine Nat.le_trans (List.length_filter_le _ _) ?_
    rw [List.length_map, List.length_map]
    exact Nat.le_refl _
  refine ⟨by have := h.1; omega, fun b hb => ?_⟩
  have h2 : b.p ∈ trim17 (L.map B17.p) lo hi mark := by rw [← hT]; exact List.mem_map.2 ⟨b, hb, rfl⟩
  unfold trim17 at h2
  obtain ⟨x, hx, e⟩ := List.mem_map.1 (List.mem_filter.1 h2).1
  obtain ⟨c, hc, rfl⟩ := List.mem_map.1 hx
  have h3 : b.f = c.p.f.filter (keepF17 c.p.seq mark lo hi) := by have := congrArg P17.f e; exact this.symm
  rw [h3]
  exact Nat.le_trans (List.length_filter_le _ _) (h.2 c hc)
theorem facts_len17 : ∀ {L : List B17} {lo hi : Int}, Some17 L → (facts17 (L.map B17.p) lo hi).length ≤ 1000000 := fun {L lo hi} h => by
  have key : ∀ M : List B17, (∀ b ∈ M, b.f.length ≤ 1000) → (facts17 (M.map B17.p) lo hi).length ≤ 1000 * M.length := by
    intro M
    induction M with
    | nil => intro _; exact Nat.zero_le _
    | cons b r ih =>
      intro hm
      have h1 := ih (fun c hc => hm c (List.mem_cons_of_mem _ hc))
      have h2 := hm b (List.mem_cons_self ..)
      unfold facts17 at h1 ⊢
      rw [List.map_cons, List.flatMap_cons, List.length_append, List.length_cons]
      have h3 : (b.p.f.filter fun f => decide (f.k.h ≥ lo) && decide (f.k.h < hi)).length ≤ b.f.length := List.length_filter_le _ _
      omega
  have := key L h.2
  have := h.1
  omega

theorem parse_few17 (p : List UInt8) (n : Int) : (parse17 p n).1.f.length ≤ 1000 := by
  unfold parse17
  by_cases h1 : okDims n = true
  · rw [if_pos h1]
    dsimp only
    by_cases h2 : (sNum' (sNum' (sNum' (p, 0)))).2 ≠ 0
    · rw [if_pos h2]; exact Nat.zero_le _
    · rw [if_neg h2]
      by_cases h3 : numsR17 (sNum (p, 0)) (sNum (sNum' (p, 0))) (sNum (sNum' (sNum' (p, 0)))) = false
      · rw [if_pos h3]; exact Nat.zero_le _
      · rw [if_neg h3]
        by_cases h4 : (readB (sNum' (sNum' (sNum' (p, 0)))).1 n).1 ≠ 0
        · rw [if_pos h4]; exact Nat.zero_le _
        · rw [if_neg h4]; exact readB_len
  · rw [if_neg h1]; exact Nat.zero_le _
theorem play_few17 (n : Int) (E : Nat) : ∀ (xs : List (Nat × List UInt8)) (o : Option Int), (play17 n xs o E).1.length ≤ xs.length ∧ ∀ b ∈ (play17 n xs o E).1, b.f.length ≤ 1000
  | [], _ => ⟨Nat.le_refl _, fun b hb => by cases hb⟩
  | (i, p) :: r, o => by
    unfold play17
    by_cases h1 : (parse17 p n).2 ≠ 0
    · rw [if_pos h1]
      exact ⟨Nat.zero_le _, fun b hb => by cases hb⟩
    · rw [if_neg h1]
      by_cases h2 : o.any (fun s => decide ((parse17 p n).1.seq ≤ s)) = true
      · rw [if_pos h2]
        exact ⟨Nat.zero_le _, fun b hb => by cases hb⟩
      · rw [if_neg h2]
        obtain ⟨h3, h4⟩ := play_few17 n E r (some (parse17 p n).1.seq)
        refine ⟨?_, fun b hb => ?_⟩
        · show (_ :: _).length ≤ (_ :: _).length
          rw [List.length_cons, List.length_cons]
          omega
        · rcases List.mem_cons.1 hb with rfl | hb
          · exact parse_few17 p n
          · exact h4 b hb
theorem replay_many17 {d : List UInt8} {n : Int} {T : List B17} (hd : d.length ≤ 90000) (hT : T.map B17.p = (replay17 d n).1) : Many17 T := by
  obtain ⟨h1, h2⟩ := play_few17 n (endOf 0 (allOf d)) (allOf d) none
  have h3 := allF_le17 (d.length + 1) 0 d
  have h4 : (replay17 d n).1.length ≤ (allOf d).length := h1
  have h5 := congrArg List.length hT
  rw [List.length_map] at h5
  unfold allOf at h4
  refine ⟨by omega, fun b hb => ?_⟩
  have h6 : b.p ∈ (replay17 d n).1 := by rw [← hT]; exact List.mem_map.2 ⟨b, hb, rfl⟩
  exact h2 b.p h6

set_option maxHeartbeats 16000000 in
theorem trims_any17 (P : Prog17) (v : Value) (L : List B17) (lo hi mark : Int) (w : World) (hv : BR17 w v L) (hm : ∀ b ∈ L, b.f.length ≤ maxLen) :
    Calls Try.prog 4 #[v, .int .i64 lo, .int .i64 hi, .int .i64 mark] w fun e w' => e = .returned (.bool true) ∧ Turn (fun _ => False) w w' := by
  have HP := Lib.hid P
  have HV := Lib.hid hv
  have HLI := Lib.hid (light_any17 v L w hv hm)
  obtain ⟨A, c, rfl⟩ := hv.shape
  cases hL : light17 L with
  | false =>
    rw [hL] at HLI
    clear hv hm hL
    go_enter Try.func4, Try.ntmps4
    go_wp2_with fail
    refine HLI.out.mono ?_
    rintro e w1 ⟨rfl, rfl⟩
    clear HLI
    go_wp2_with fail
    refine (alive_any17 HP.out w1).mono ?_
    rintro e w2 ⟨rfl, t2⟩
    have HT2 := Lib.hid t2
    clear t2
    go_wp2
    go_ret
    exact ⟨rfl, HT2.out⟩
  | true =>
    rw [hL] at HLI
    obtain ⟨hs, h30⟩ := light_some17 hL
    have HS := Lib.hid hs
    have HO : Hid (∀ W, Turn (fun _ => False) w W → Calls Try.prog 11 #[.slice A L.length c] W fun e w' => Bats17 W L e w') := fun W hW => owns_any17 _ L W (HV.out.later hW) (by omega)
    have HRT : Hid (∀ W, Turn (fun _ => False) w W → Calls Try.prog 17 #[.slice A L.length c, .int .i64 lo, .int .i64 hi, .int .i64 mark] W fun e w' => Trimmed17 W (trim17 (L.map B17.p) lo hi mark) e w') := fun W hW => ref_trim17 _ L lo hi mark W (HV.out.later hW) HS.out
    have HRF : Hid (∀ W, Turn (fun _ => False) w W → Calls Try.prog 20 #[.slice A L.length c, .int .i64 lo, .int .i64 hi] W fun e w' => Facts9 W (facts17 (L.map B17.p) lo hi) e w') := fun W hW => ref_facts17 _ L lo hi W (HV.out.later hW) HS.out
    have HTS : Hid (∀ T : List B17, T.map B17.p = trim17 (L.map B17.p) lo hi mark → Some17 T) := fun T hT => trim_some17 HS.out hT
    have HFL : Hid ((facts17 (L.map B17.p) lo hi).length ≤ 1000000) := facts_len17 HS.out
    clear hv hm hL hs
    go_enter Try.func4, Try.ntmps4
    go_wp2_with fail
    refine HLI.out.mono ?_
    rintro e w1 ⟨rfl, rfl⟩
    clear HLI
    go_wp2_with fail
    refine (HO.out w1 (Turn.refl _ _)).mono ?_
    rintro e w2 ⟨v2, rfl, b2, t2⟩
    have HT2 := Lib.hid t2
    have HPT := Lib.hid (HP.out.trim v2 L lo hi mark w2 b2 HS.out)
    obtain ⟨A2, c2, rfl⟩ := b2.shape
    clear b2 t2
    go_wp2_with fail
    refine HPT.out.mono ?_
    rintro e w3 ⟨v3, T, rfl, hT, b3, t3⟩
    have HT3 := Lib.hid (HT2.out.trans t3 (fun _ _ f => f))
    have HTM := Lib.hid hT
    have HST := Lib.hid (HTS.out T hT)
    have HBK := Lib.hid (back_any17 v3 T w3 b3 (by have := HST.out.1; omega))
    obtain ⟨A3, c3, rfl⟩ := b3.shape
    clear b3 t3 hT HPT
    go_wp2_with fail
    refine HBK.out.mono ?_
    rintro e w4 ⟨v4, rfl, b4, t4⟩
    have HT4 := Lib.hid (HT3.out.trans t4 (fun _ _ f => f))
    have HB4 := Lib.hid b4
    obtain ⟨A4, c4, rfl⟩ := b4.shape
    clear b4 t4 HBK
    go_wp2_with fail
    refine (HRT.out w4 HT4.out).mono ?_
    rintro e w5 ⟨v5, K, rfl, hK, b5, t5⟩
    have HT5 := Lib.hid (HT4.out.trans t5 (fun _ _ f => f))
    have HSM := Lib.hid (ref_same17 _ v5 T K w5 (HB4.out.later t5) b5 (by rw [HTM.out, hK]) HST.out.many)
    obtain ⟨A5, c5, rfl⟩ := b5.shape
    clear b5 t5 hK HRT HB4
    go_wp2_with fail
    refine HSM.out.mono ?_
    rintro e w6 ⟨rfl, t6⟩
    have HT6 := Lib.hid (HT5.out.trans t6 (fun _ _ f => f))
    clear t6 HSM
    go_wp2_with fail
    refine (HO.out w6 HT6.out).mono ?_
    rintro e w7 ⟨v7, rfl, b7, t7⟩
    have HT7 := Lib.hid (HT6.out.trans t7 (fun _ _ f => f))
    have HPF := Lib.hid (HP.out.facts v7 L lo hi w7 b7 HS.out)
    obtain ⟨A7, c7, rfl⟩ := b7.shape
    clear b7 t7
    go_wp2_with fail
    refine HPF.out.mono ?_
    rintro e w8 ⟨v8, rfl, r8, t8⟩
    have HT8 := Lib.hid (HT7.out.trans t8 (fun _ _ f => f))
    have HR8 := Lib.hid r8
    obtain ⟨A8, c8, rfl⟩ := r8.shape
    clear r8 t8 HPF
    go_wp2_with fail
    refine (HRF.out w8 HT8.out).mono ?_
    rintro e w9 ⟨v9, rfl, r9, t9⟩
    have HT9 := Lib.hid (HT8.out.trans t9 (fun _ _ f => f))
    have HSF := Lib.hid (same_refl9 _ v9 _ w9 (HR8.out.later t9) r9 HFL.out)
    obtain ⟨A9, c9, rfl⟩ := r9.shape
    clear r9 t9 HRF HR8
    go_wp2_with fail
    refine HSF.out.mono ?_
    rintro e wA ⟨rfl, tA⟩
    have HTA := Lib.hid (HT9.out.trans tA (fun _ _ f => f))
    clear tA HSF
    go_wp2_with fail
    refine (alive_any17 HP.out wA).mono ?_
    rintro e wB ⟨rfl, tB⟩
    have HTB := Lib.hid (HTA.out.trans tB (fun _ _ f => f))
    clear tB
    go_wp2
    go_ret
    exact ⟨rfl, HTB.out⟩

set_option maxHeartbeats 16000000 in
theorem replays_any17 (P : Prog17) (u v : Value) (d : List UInt8) (L : List B17) (n : Int) (w : World) (hu : Rd w u d) (hd : d.length ≤ maxLen) (hv : BR17 w v L) (hm : ∀ b ∈ L, b.f.length ≤ maxLen) (hfi : ∀ b ∈ L, b.fits) :
    Calls Try.prog 3 #[u, v, .int .i64 n] w fun e w' => e = .returned (.bool true) ∧ Turn (fun _ => False) w w' := by
  have HP := Lib.hid P
  have HU := Lib.hid hu
  have HFI := Lib.hid hfi
  clear hfi
  have HV := Lib.hid hv
  have HLI := Lib.hid (light_any17 v L w hv hm)
  obtain ⟨A, c, rfl⟩ := hv.shape
  obtain ⟨B, k, rfl⟩ := hu.shape
  unfold maxLen at hd
  by_cases h3 : d.length ≤ 3000
  · cases hL : light17 L with
    | false =>
      rw [hL] at HLI
      have h3i : (d.length : Int) ≤ 3000 := by omega
      clear hv hu hm hL hd
      go_enter Try.func3, Try.ntmps3
      go_wp2_with fail
      refine HLI.out.mono ?_
      rintro e w1 ⟨rfl, rfl⟩
      clear HLI
      go_wp2_with fail
      refine (alive_any17 HP.out w1).mono ?_
      rintro e w2 ⟨rfl, t2⟩
      have HT2 := Lib.hid t2
      clear t2
      go_wp2
      go_ret
      exact ⟨rfl, HT2.out⟩
    | true =>
      rw [hL] at HLI
      obtain ⟨hs, h30⟩ := light_some17 hL
      have HS := Lib.hid hs
      have h3i : (d.length : Int) ≤ 3000 := by omega
      have HO : Hid (∀ W, Turn (fun _ => False) w W → Calls Try.prog 11 #[.slice A L.length c] W fun e w' => Bats17 W L e w') := fun W hW => owns_any17 _ L W (HV.out.later hW) (by omega)
      have HPR := Lib.hid (HP.out.replay _ d n w hu (by omega))
      have HRR : Hid (∀ W, Turn (fun _ => False) w W → Calls Try.prog 9 #[.slice B d.length k, .int .i64 n] W fun e w' => Replayed17 W (replay17 d n) e w') := fun W hW => ref_replay17 _ d n W (HU.out.later hW) (by omega)
      have HRB : Hid (∀ W, Turn (fun _ => False) w W → Calls Try.prog 12 #[.slice A L.length c, .int .i64 n] W fun e w' => Rec17 W (bytes17 n (L.map B17.p)) e w') := fun W hW => ref_bytes17 _ L n W (HV.out.later hW) (few17 HS.out n)
      have HSR : Hid (∀ T : List B17, T.map B17.p = (replay17 d n).1 → Many17 T) := fun T hT => replay_many17 (by omega) hT
      clear hv hu hm hL hs hd
      unfold Replayed17 at HPR
      go_enter Try.func3, Try.ntmps3
      go_wp2_with fail
      refine HLI.out.mono ?_
      rintro e w1 ⟨rfl, rfl⟩
      clear HLI
      go_wp2_with fail
      refine HPR.out.mono ?_
      rintro e w2 ⟨v2, T, rfl, hT, b2, t2⟩
      have HT2 := Lib.hid t2; have HTM := Lib.hid hT; have HB2 := Lib.hid b2
      have HST := Lib.hid (HSR.out T hT)
      obtain ⟨A2, c2, rfl⟩ := b2.shape
      have HRX := HRR.out w2 t2
      unfold Replayed17 at HRX
      clear t2 hT b2 HPR
      go_wp2_with fail
      refine HRX.mono ?_
      rintro e w3 ⟨v3, K, rfl, hK, b3, t3⟩
      have HT3 := Lib.hid (HT2.out.trans t3 (fun _ _ f => f)); have HKM := Lib.hid hK; have HB3 := Lib.hid b3
      have HBX := Lib.hid (HB2.out.later t3)
      obtain ⟨A3, c3, rfl⟩ := b3.shape
      clear t3 hK b3 HRX HB2 HRR
      go_wp2_with fail
      refine (HO.out w3 HT3.out).mono ?_
      rintro e w4 ⟨v4, rfl, b4, t4⟩
      have HT4 := Lib.hid (HT3.out.trans t4 (fun _ _ f => f))
      have HPB := Lib.hid (HP.out.bytes v4 L n w4 b4 HS.out HFI.out)
      have HBY := Lib.hid (HBX.out.later t4); have HB4 := Lib.hid (HB3.out.later t4)
      obtain ⟨A4, c4, rfl⟩ := b4.shape
      clear t4 b4 HBX HB3
      unfold RecP17 at HPB
      generalize bytes17 n (L.map B17.p) = BB at *
      obtain ⟨bb, bf⟩ := BB
      dsimp only at HPB
      go_wp2_with fail
      refine HPB.out.mono ?_
      rintro e w5 ⟨v5, rfl, r5, t5⟩
      have HT5 := Lib.hid (HT4.out.trans t5 (fun _ _ f => f)); have HR5 := Lib.hid r5
      have HBZ := Lib.hid (HBY.out.later t5); have HB5 := Lib.hid (HB4.out.later t5)
      obtain ⟨A5, c5, rfl⟩ := r5.shape
      have HRX := Lib.hid (HRB.out w5 HT5.out)
      unfold Rec17 at HRX
      dsimp only at HRX
      clear t5 r5 HPB HBY HB4 HRB
      go_wp2_with fail
      refine HRX.out.mono ?_
      rintro e w6 ⟨v6, rfl, m6⟩
      have HT6 := Lib.hid (HT5.out.trans m6.2.1 (fun _ _ f => f)); have HR6 := Lib.hid (HR5.out.later m6.2.1); have HM6 := Lib.hid m6.1.rd
      have HBW := Lib.hid (back_any17 _ T w6 (HBZ.out.later m6.2.1) (by have := HST.out.1; omega)); have HB6 := Lib.hid (HB5.out.later m6.2.1)
      obtain ⟨A6, c6, rfl⟩ := m6.1.shape
      clear m6 HRX HR5 HBZ HB5
      generalize (replay17 d n).2 = mm at *
      go_wp2_with fail
      refine HBW.out.mono ?_
      rintro e w7 ⟨v7, rfl, b7, t7⟩
      have HT7 := Lib.hid (HT6.out.trans t7 (fun _ _ f => f)); have HR7 := Lib.hid (HR6.out.later t7); have HM7 := Lib.hid (HM6.out.later t7)
      have HSM := Lib.hid (ref_same17 v7 _ T K w7 b7 (HB6.out.later t7) (by rw [HTM.out, HKM.out]) HST.out)
      obtain ⟨A7, c7, rfl⟩ := b7.shape
      clear t7 b7 HBW HR6 HM6 HB6
      go_wp2_with fail
      refine HSM.out.mono ?_
      rintro e w8 ⟨rfl, t8⟩
      have HT8 := Lib.hid (HT7.out.trans t8 (fun _ _ f => f)); have HR8 := Lib.hid (HR7.out.later t8); have HM8 := Lib.hid (HM7.out.later t8)
      clear t8 HSM HR7 HM7
      go_wp2_with fail
      refine (same_any _ _ _ _ w8 HR8.out HM8.out).mono ?_
      rintro e w9 ⟨rfl, rfl⟩
      rw [beq_self_eq_true]
      go_wp2_with fail
      refine (alive_any17 HP.out _).mono ?_
      rintro e wB ⟨rfl, tB⟩
      have HTB := Lib.hid (HT8.out.trans tB (fun _ _ f => f))
      clear tB
      go_wp2
      go_ret
      exact ⟨rfl, HTB.out⟩
  · have h3i : 3000 < (d.length : Int) := by omega
    clear hv hu hm hd h3 HLI
    go_enter Try.func3, Try.ntmps3
    go_wp2_with fail
    refine (alive_any17 HP.out w).mono ?_
    rintro e w2 ⟨rfl, t2⟩
    have HT2 := Lib.hid t2
    clear t2
    go_wp2
    go_ret
    exact ⟨rfl, HT2.out⟩

end Go.Proofs.Ytgchfckmhibeaaa

/-
  Stage 17: WalCuts over any program that answers as is asked.
-/
namespace Go.Proofs.Ytgchfckmhibeaaa
open Go.RowKit

set_option maxRecDepth 100000

/-- What a round of the loop that lays records finds. -/
structure CutR17 (w : World) (n : Int) (L : List B17) (wr : World) (x7 x8 : Value) (i : Nat) : Prop where
  hi : i ≤ L.length
  hr : ∀ b ∈ (L.take i).map B17.p, right17 b n = true
  hu : Up17 none ((L.take i).map B17.p)
  ha : Made w wr x7 (joined (pays17 n ((L.take i).map B17.p)))
  re : Row 3 wr x8 ((endsOf (pays17 n ((L.take i).map B17.p))).map nv)
  fe : ∀ k, x8.ownBlock = some k → w.heap.size ≤ k
theorem CutR17.start (w : World) (n : Int) (L : List B17) : CutR17 w n L w (.slice none 0 0) (.slice none 0 0) 0 :=
  ⟨Nat.zero_le _, (fun b hb => by cases hb), trivial, made_none17 (Turn.refl _ w), Row.nil _ _, (fun k h => by cases h)⟩
theorem pays_more17 {n : Int} {L : List B17} {i : Nat} {b : B17} (h : L[i]? = some b) : pays17 n ((L.take (i + 1)).map B17.p) = pays17 n ((L.take i).map B17.p) ++ [pay17 b.p n.toNat] := by
  rw [take_map17 h]
  unfold pays17
  rw [List.map_append]
  rfl
theorem joined_snoc17 (L : List (List UInt8)) (p : List UInt8) : joined (L ++ [p]) = joined L ++ fr p := by
  unfold joined
  rw [List.flatMap_append]
  simp
theorem ends_snoc17 (L : List (List UInt8)) (p : List UInt8) : endsOf (L ++ [p]) = endsOf L ++ [total (L ++ [p])] := by
  have h := endsOf_more (L := L ++ [p]) (i := L.length) (by simp)
  rw [List.take_of_length_le (by simp), List.take_append_of_le_length (Nat.le_refl _), List.take_length] at h
  exact h
theorem CutR17.row {w wr w1 w2 : World} {n : Int} {L : List B17} {x7 x8 : Value} {i : Nat} (h : CutR17 w n L wr x7 x8 i) (t1 : Turn (fun _ => False) wr w1) (g5 : w1.grownBy w2 x7.ownBlock) (o2 : Obj) :
    Row 3 (w2.alloc o2) x8 ((endsOf (pays17 n ((L.take i).map B17.p))).map nv) := by
  have re1 : Row 3 w1 x8 _ := h.re.later t1
  have hm1 : By w1 x7 (joined (pays17 n ((L.take i).map B17.p))) := h.ha.1.turn t1 (fun _ _ f => f)
  have hne5 : x8.ownBlock = none ∨ x8.ownBlock ≠ x7.ownBlock := by
    rcases hm1.apart re1 (by decide) with e | e
    · rcases h.re.form with ⟨rfl, _⟩ | ⟨g, cap, cur, rfl, _⟩
      · exact .inl rfl
      · exact .inr (by rw [e]; simp [Value.ownBlock])
    · exact .inr (fun e1 => e e1.symm)
  exact (re1.grown g5 hne5).later ((Turn.refl _ w2).alloc o2)
theorem CutR17.next {w wr w1 w2 w3 : World} {n : Int} {L : List B17} {x7 x8 : Value} {i : Nat} (h : CutR17 w n L wr x7 x8 i) {b : B17} (hb : L[i]? = some b) (hr : right17 b.p n = true) (hs : ∀ c, i ≠ 0 → L[i - 1]? = some c → c.seq < b.seq)
    (t1 : Turn (fun _ => False) wr w1) {A5 : Option Addr} {n5 c5 : Nat} (r5 : By w2 (.slice A5 n5 c5) (joined (pays17 n ((L.take i).map B17.p)) ++ fr (pay17 b.p n.toNat))) (g5 : w1.grownBy w2 x7.ownBlock)
    (a5 : (Value.slice A5 n5 c5).ownBlock = x7.ownBlock ∨ (Value.slice A5 n5 c5).ownBlock = some w1.heap.size)
    {o2 : Obj} {A6 : Option Addr} {n6 c6 : Nat} (r6 : Row 3 w3 (.slice A6 n6 c6) ((endsOf (pays17 n ((L.take i).map B17.p))).map nv ++ [nv (joined (pays17 n ((L.take i).map B17.p)) ++ fr (pay17 b.p n.toNat)).length])) (g6 : (w2.alloc o2).grownBy w3 x8.ownBlock)
    (a6 : (Value.slice A6 n6 c6).ownBlock = x8.ownBlock ∨ (Value.slice A6 n6 c6).ownBlock = some (w2.heap.size + 1)) :
    CutR17 w n L w3 (.slice A5 n5 c5) (.slice A6 n6 c6) (i + 1) := by
  obtain ⟨h1, h2⟩ := List.getElem?_eq_some_iff.1 hb
  have re2 : Row 3 (w2.alloc o2) x8 ((endsOf (pays17 n ((L.take i).map B17.p))).map nv) := h.row t1 g5 o2
  obtain ⟨A7, c7, rfl⟩ := h.ha.1.shape
  have s0 := h.ha.2.1.size
  have s1 := t1.size
  have hm2 := made_more17 h.ha t1 r5 g5 a5
  have s2 := g5.size
  have hm2a : Made w (w2.alloc o2) (.slice A5 n5 c5) (joined (pays17 n ((L.take i).map B17.p)) ++ fr (pay17 b.p n.toNat)) := ⟨hm2.1.alloc o2, hm2.2.1.alloc o2, hm2.2.2⟩
  have hm3 : Made w w3 (.slice A5 n5 c5) (joined (pays17 n ((L.take i).map B17.p)) ++ fr (pay17 b.p n.toNat)) := ⟨hm2a.1.grown g6 (hm2a.1.apart re2 (by decide)), hm2a.2.1.grown g6 (fun k hk e => by have := h.fe k e; omega), hm2a.2.2⟩
  have hj : joined (pays17 n ((L.take (i + 1)).map B17.p)) = joined (pays17 n ((L.take i).map B17.p)) ++ fr (pay17 b.p n.toNat) := by rw [pays_more17 hb, joined_snoc17]
  refine ⟨h1, fun c hc => ?_, ?_, by rw [hj]; exact hm3, ?_, fun k hk => ?_⟩
  · rw [take_map17 hb] at hc
    rcases List.mem_append.1 hc with hc | hc
    · exact h.hr c hc
    · rw [List.mem_singleton.1 hc]
      exact hr
  · rw [take_map17 hb]
    refine h.hu.snoc (fun s e => ?_)
    rcases Nat.eq_zero_or_pos i with h0 | h0
    · subst h0
      simp at e
    · obtain ⟨c, hc⟩ : ∃ c, L[i - 1]? = some c := ⟨_, List.getElem?_eq_getElem (by omega)⟩
      have hl : ((L.take i).map B17.p).getLast? = some c.p := by
        rw [List.getLast?_eq_getElem?, List.length_map, List.length_take, Nat.min_eq_left (by omega), List.getElem?_map, List.getElem?_take, if_pos (by omega), hc]
        rfl
      rw [hl] at e
      have e2 : c.seq = s := by
        have e3 : c.p.seq = s := by simpa using e
        exact e3
      have := hs c (by omega) hc
      show s < b.seq
      omega
  · rw [pays_more17 hb, ends_snoc17, List.map_append]
    have e : total (pays17 n ((L.take i).map B17.p) ++ [pay17 b.p n.toNat]) = (joined (pays17 n ((L.take i).map B17.p)) ++ fr (pay17 b.p n.toNat)).length := by rw [← joined_len, joined_snoc17]
    show Row _ _ _ (_ ++ [nv (total _)])
    rw [e]
    exact r6
  · rcases a6 with e | e
    · exact h.fe k (by rw [← e]; exact hk)
    · rw [e] at hk
      injection hk with hk
      omega
theorem cut_len17 {n : Int} {l : List P17} (hr : ∀ b ∈ l, right17 b n = true) : (joined (pays17 n l)).length ≤ 10060 * l.length := by
  rw [joined_len]
  have h := total_len17 (pays17 n l) (fun p hp => by
    obtain ⟨b, hb, rfl⟩ := List.mem_map.1 hp
    exact pay_len17 (hr b hb))
  unfold pays17 at h ⊢
  rwa [List.length_map] at h

set_option maxHeartbeats 16000000 in
theorem cuts_any17 (P : Prog17) (v : Value) (L : List B17) (n less : Int) (w : World) (hv : BR17 w v L) (hm : ∀ b ∈ L, b.f.length ≤ maxLen) (hfi : ∀ b ∈ L, b.fits) (hless : -9223372036854775808 ≤ less ∧ less ≤ 9223372036854775807) :
    Calls Try.prog 5 #[v, .int .i64 n, .int .i64 less] w fun e w' => e = .returned (.bool true) ∧ Turn (fun _ => False) w w' := by
  have HP := Lib.hid P
  have HFI := Lib.hid hfi
  clear hfi
  have HV := Lib.hid hv
  have HLI := Lib.hid (light_any17 v L w hv hm)
  obtain ⟨A, c, rfl⟩ := hv.shape
  have HAL : Hid (∀ W, Calls Try.prog 7 #[] W fun e w' => e = .returned (.bool true) ∧ Turn (fun _ => False) W w') := fun W => alive_any17 P W
  have HLS := Lib.hid hless
  cases hL : light17 L with
  | false =>
    rw [hL] at HLI
    clear hv hm hL hless
    go_enter Try.func5, Try.ntmps5
    go_wp2_with fail
    refine HLI.out.mono ?_
    rintro e w1 ⟨rfl, rfl⟩
    clear HLI
    go_wp2_with fail
    refine (HAL.out w1).mono ?_
    rintro e w2 ⟨rfl, t2⟩
    have HT2 := Lib.hid t2
    clear t2
    go_wp2
    go_ret
    exact ⟨rfl, HT2.out⟩
  | true =>
    rw [hL] at HLI
    obtain ⟨hs, h30⟩ := light_some17 hL
    have HS := Lib.hid hs
    obtain ⟨M, hM⟩ : ∃ M, M = L.length := ⟨_, rfl⟩
    rw [← hM] at HV HLI h30 ⊢
    have HM := Lib.hid hM
    have HST := Lib.hid (CutR17.start w n L)
    clear hv hm hL hs hM hless
    go_enter Try.func5, Try.ntmps5
    go_wp2_with fail
    refine HLI.out.mono ?_
    rintro e w1 ⟨rfl, rfl⟩
    clear HLI
    go_wp2_with fail
    obtain ⟨w0, hw0⟩ : ∃ w0, w0 = w1 := ⟨_, rfl⟩
    subst hw0
    go_loopw [7, 8, 9] (fun x7 x8 x9 wr => ∃ (i : Nat), x9 = .int .i64 (i : Int) ∧ i ≤ M ∧ CutR17 w0 n L wr x7 x8 i) (fun _ _ x9 _ => M - (intOf x9).toNat)
    case atStart => exact ⟨0, rfl, Nat.zero_le _, HST.out⟩
    case round =>
      clear HST
      obtain ⟨i, rfl, hi, hcr⟩ := hrel
      have HC := Lib.hid hcr
      obtain ⟨A7, c7, rfl⟩ := hcr.ha.1.shape
      obtain ⟨A8, c8, rfl⟩ := hcr.re.shape
      have HTW : Hid (Turn (fun _ => False) w0 wr) := hcr.ha.2.1
      have hll := cut_len17 hcr.hr
      have hel : ((endsOf (pays17 n ((L.take i).map B17.p))).map nv).length = i := by
        rw [List.length_map, endsOf_len]
        unfold pays17
        rw [List.length_map, List.length_map, List.length_take]
        have := HM.out
        omega
      rw [List.length_map, List.length_take, Nat.min_eq_left (by have := HM.out; omega)] at hll
      rw [hel] at HC ⊢
      obtain ⟨N, hN⟩ : ∃ N, N = (joined (pays17 n ((L.take i).map B17.p))).length := ⟨_, rfl⟩
      rw [← hN] at HC hll ⊢
      have HN := Lib.hid hN
      have hNb : N ≤ 301800 := by omega
      have HEL := Lib.hid hel
      clear hcr hel hN
      by_cases hlt : i < M
      · have hil : (i : Int) < M := by omega
        obtain ⟨b, hb⟩ : ∃ b, L[i]? = some b := ⟨_, List.getElem?_eq_getElem (by rw [← HM.out]; exact hlt)⟩
        have hbm := List.mem_of_getElem? hb
        obtain ⟨ad, rfl, hc⟩ := bat_at17 HV.out.1 hb
        obtain ⟨a0, a1, a2, a3⟩ := hc wr HTW.out
        have HB := Lib.hid hb; have HCB := Lib.hid hc
        have HFR := Lib.hid (HV.out.2 b hbm)
        have hfl := HS.out.2 b hbm
        have HFL := Lib.hid hfl
        have HFB := Lib.hid (HFI.out b hbm)
        have HOW := Lib.hid (own_any17 b wr)
        clear hb hbm hc hfl
        go_wp2_with fail
        refine HOW.out.mono ?_
        rintro e w2 ⟨rfl, t2⟩
        have HT2 := Lib.hid t2
        have HRC := Lib.hid (HP.out.record b n w2 ((HFR.out.later HTW.out).later t2) HFL.out HFB.out)
        unfold RecP17 at HRC
        clear HOW t2 a0 a1 a2 a3
        go_wp2_with fail
        refine HRC.out.mono ?_
        rintro e w3 ⟨v3, rfl, r3, t3⟩
        have HR3 := Lib.hid r3
        have HT3 := Lib.hid (HT2.out.trans t3 (fun _ _ f => f))
        obtain ⟨A3, c3, rfl⟩ := r3.shape
        clear r3 t3 HRC
        obtain ⟨a0, a1, a2, a3⟩ := HCB.out w3 (HTW.out.trans HT3.out (fun _ _ f => f))
        clear a1 a2 a3
        by_cases hf : (rec17 b.p n).2 = 0
        · have HRG := Lib.hid (rec_right17 hf)
          have HACC : Hid (N = (joined (pays17 n ((L.take i).map B17.p))).length) := HN.out
          rw [hf]
          obtain ⟨acc, hacc⟩ : ∃ acc, acc = joined (pays17 n ((L.take i).map B17.p)) := ⟨_, rfl⟩
          obtain ⟨XS, hXS⟩ : ∃ XS, XS = (endsOf (pays17 n ((L.take i).map B17.p))).map nv := ⟨_, rfl⟩
          have HAC := Lib.hid hacc; have HXS := Lib.hid hXS
          have HXL : Hid (XS.length = i) := by show _ = _; rw [hXS]; exact HEL.out
          clear hacc hXS
          by_cases h0 : i = 0
          · have HRS : Hid (∀ c, i ≠ 0 → L[i - 1]? = some c → c.seq < b.seq) := fun c h => absurd h0 h
            have hd0 : decide (0 < i) = false := decide_eq_false (by omega)
            clear hf h0
            go_wp2_with fail
            go_quiet (fail)
            have HTZ : Hid (Turn (fun _ => False) wr (w3.drewN nq)) := HT3.out.drewN _
            have HRZ : Hid (Rd (w3.drewN nq) (.slice A3 (rec17 b.p n).1.length c3) (rec17 b.p n).1) := HR3.out.later ((Turn.refl _ w3).drewN _)
            generalize w3.drewN nq = wz at *
            have HB2 : Hid (By wz (.slice A7 N c7) acc) := by rw [HAC.out]; exact HC.out.ha.1.turn HTZ.out (fun _ _ f => f)
            have hrl : (rec17 b.p n).1.length ≤ 10060 := by
              rw [HRG.out.2, fr_len]
              have h1 := pay_len17 HRG.out.1
              have h2 := enc_ten (pay17 b.p n.toNat).length
              unfold sz
              omega
            have HLC : Hid (acc.length + (rec17 b.p n).1.length ≤ 1000000000) := by show _ ≤ _; rw [HAC.out, ← HACC.out]; omega
            generalize hRR : (rec17 b.p n).1 = R at *
            have HRR := Lib.hid hRR
            clear hRR
            go_wp2_with (at_builtin; go_must (refine wpList_app _ rfl _ _ _ rfl _ acc rfl HB2.out _ rfl R HRZ.out.yields HLC.out ?_))
            intro A5 n5 c5 w5 hby hg ha
            have hn5 : n5 = (acc ++ R).length := by
              obtain ⟨A', c', e⟩ := hby.shape
              injection e with e1 e2 e3
            have HN5 := Lib.hid hn5
            have HBY := Lib.hid hby; have HGG := Lib.hid hg; have HAA := Lib.hid ha
            have HROW : Hid (Row 3 (w5.alloc (.cells #[.int .i64 (n5 : Int)] 3)) (.slice A8 i c8) XS) := by rw [HXS.out]; exact HC.out.row HTZ.out hg _
            clear hn5 hby hg ha HB2 hrl
            go_wp2_with (at_builtin; go_must (refine wpList_push (o := ⟨some 65, _, _, _, _, _⟩) rfl (.tmp 61) (.tmp 64) 47 3 Try.underlying47 int_info rfl (by decide) rfl _ _ rfl HROW.out w5.heap.size (nv n5) rfl ((Box.new w5 _ _).cell 0) rfl (by rw [HXL.out]; omega) ?_))
            intro A6 n6 c6 w6 r6 g6 a6
            have HNX := Lib.hid (HC.out.next HB.out HRG.out.1 HRS.out HTZ.out (by rw [← HAC.out, ← HRG.out.2]; exact HBY.out) HGG.out HAA.out (by rw [← HAC.out, ← HRG.out.2, ← HN5.out, ← HXS.out]; exact r6) g6 a6)
            clear r6 g6 a6
            go_wp2
            go_roundw
            case rel => exact ⟨i + 1, by go_num, hlt, HNX.out⟩
            case measure => simp [intOf]; omega
          · obtain ⟨K, hK⟩ : ∃ K, i = K + 1 := ⟨i - 1, by omega⟩
            obtain ⟨pb, hpb⟩ : ∃ pb, L[K]? = some pb := ⟨_, List.getElem?_eq_getElem (by have := HM.out; omega)⟩
            obtain ⟨bd, hbd, hcp⟩ := bat_at17 HV.out.1 hpb
            cases hbd
            have x0 := (hcp w3 (HTW.out.trans HT3.out (fun _ _ f => f))).1
            have hd0 : decide (0 < i) = true := decide_eq_true (by omega)
            have hk1 : (i : Int) - 1 = (K : Int) := by omega
            have hkM : (K : Int) < M := by omega
            have hkm : K < M := by omega
            have hkw : IntKind.i64.wrap (K : Int) = (K : Int) := IntWalk.i64_in _ (by omega)
            have HPB := Lib.hid hpb; have HK := Lib.hid hK
            clear hf hpb hcp hK h0
            by_cases hle : b.seq ≤ pb.seq
            · go_wp2_with fail
              go_quiet (fail)
              go_wp2_with fail
              refine (HAL.out _).mono ?_
              rintro e w9 ⟨rfl, t9⟩
              have HT9 := Lib.hid (((HTW.out.trans HT3.out (fun _ _ f => f)).drewN _).trans t9 (fun _ _ f => f))
              clear t9
              go_wp2
              go_ret
              exact ⟨rfl, HT9.out⟩
            · have HRS : Hid (∀ c, i ≠ 0 → L[i - 1]? = some c → c.seq < b.seq) := fun c _ hc => by
                rw [HK.out, Nat.add_sub_cancel, HPB.out] at hc
                cases hc
                omega
              go_wp2_with fail
              go_quiet (fail)
              have HTZ : Hid (Turn (fun _ => False) wr (w3.drewN nq)) := HT3.out.drewN _
              have HRZ : Hid (Rd (w3.drewN nq) (.slice A3 (rec17 b.p n).1.length c3) (rec17 b.p n).1) := HR3.out.later ((Turn.refl _ w3).drewN _)
              generalize w3.drewN nq = wz at *
              have HB2 : Hid (By wz (.slice A7 N c7) acc) := by rw [HAC.out]; exact HC.out.ha.1.turn HTZ.out (fun _ _ f => f)
              have hrl : (rec17 b.p n).1.length ≤ 10060 := by
                rw [HRG.out.2, fr_len]
                have h1 := pay_len17 HRG.out.1
                have h2 := enc_ten (pay17 b.p n.toNat).length
                unfold sz
                omega
              have HLC : Hid (acc.length + (rec17 b.p n).1.length ≤ 1000000000) := by show _ ≤ _; rw [HAC.out, ← HACC.out]; omega
              generalize hRR : (rec17 b.p n).1 = R at *
              have HRR := Lib.hid hRR
              clear hRR
              go_wp2_with (at_builtin; go_must (refine wpList_app _ rfl _ _ _ rfl _ acc rfl HB2.out _ rfl R HRZ.out.yields HLC.out ?_))
              intro A5 n5 c5 w5 hby hg ha
              have hn5 : n5 = (acc ++ R).length := by
                obtain ⟨A', c', e⟩ := hby.shape
                injection e with e1 e2 e3
              have HN5 := Lib.hid hn5
              have HBY := Lib.hid hby; have HGG := Lib.hid hg; have HAA := Lib.hid ha
              have HROW : Hid (Row 3 (w5.alloc (.cells #[.int .i64 (n5 : Int)] 3)) (.slice A8 i c8) XS) := by rw [HXS.out]; exact HC.out.row HTZ.out hg _
              clear hn5 hby hg ha HB2 hrl
              go_wp2_with (at_builtin; go_must (refine wpList_push (o := ⟨some 65, _, _, _, _, _⟩) rfl (.tmp 61) (.tmp 64) 47 3 Try.underlying47 int_info rfl (by decide) rfl _ _ rfl HROW.out w5.heap.size (nv n5) rfl ((Box.new w5 _ _).cell 0) rfl (by rw [HXL.out]; omega) ?_))
              intro A6 n6 c6 w6 r6 g6 a6
              have HNX := Lib.hid (HC.out.next HB.out HRG.out.1 HRS.out HTZ.out (by rw [← HAC.out, ← HRG.out.2]; exact HBY.out) HGG.out HAA.out (by rw [← HAC.out, ← HRG.out.2, ← HN5.out, ← HXS.out]; exact r6) g6 a6)
              clear r6 g6 a6
              go_wp2
              go_roundw
              case rel => exact ⟨i + 1, by go_num, hlt, HNX.out⟩
              case measure => simp [intOf]; omega
        · have hf2 : ((rec17 b.p n).2 == 0) = false := by rw [beq_eq_false_iff_ne]; exact hf
          have hf3 : ((rec17 b.p n).2 != 0) = true := by rw [bne_iff_ne]; exact hf
          clear hf
          generalize (rec17 b.p n).2 = f at *
          go_wp2_with fail
          go_quiet (fail)
          go_wp2_with fail
          refine (HAL.out _).mono ?_
          rintro e w9 ⟨rfl, t9⟩
          have HT9 := Lib.hid (((HTW.out.trans HT3.out (fun _ _ f => f)).drewN _).trans t9 (fun _ _ f => f))
          clear t9
          go_wp2
          go_ret
          exact ⟨rfl, HT9.out⟩
      · obtain rfl : i = M := by omega
        have htk : L.take i = L := List.take_of_length_le (Nat.le_of_eq HM.out.symm)
        rw [htk] at HN HEL
        have HR7 : Hid (Rd wr (.slice A7 N c7) (joined (pays17 n (L.map B17.p)))) := by have := HC.out.ha.1.rd; rwa [htk] at this
        have hfit := HR7.out.fits
        have hNc : N ≤ c7 := by rw [HN.out]; exact hfit.2.1
        have HALW : Hid (Calls Try.prog 7 #[] wr fun e w' => e = .returned (.bool true) ∧ Turn (fun _ => False) wr w') := HAL.out wr
        clear htk hfit hlt
        by_cases hl0 : less < 0
        · have HDUM : Hid True := trivial
          go_wp2_with fail
          refine HALW.out.mono ?_
          rintro e w9 ⟨rfl, t9⟩
          have HT9 := Lib.hid (HTW.out.trans t9 (fun _ _ f => f))
          clear t9
          go_wp2
          go_ret
          exact ⟨rfl, HT9.out⟩
        · obtain ⟨k, rfl⟩ := Int.eq_ofNat_of_zero_le (show 0 ≤ less by omega)
          by_cases hlk : N < k
          · have hlki : (N : Int) < k := by omega
            go_wp2_with fail
            refine HALW.out.mono ?_
            rintro e w9 ⟨rfl, t9⟩
            have HT9 := Lib.hid (HTW.out.trans t9 (fun _ _ f => f))
            clear t9
            go_wp2
            go_ret
            exact ⟨rfl, HT9.out⟩
          · obtain ⟨m, hm⟩ : ∃ m, m = N - k := ⟨_, rfl⟩
            have hmN : m ≤ N := by omega
            have hmk : (N : Int) - (k : Int) = (m : Int) := by omega
            have hmw : IntKind.i64.wrap (m : Int) = (m : Int) := IntWalk.i64_in _ (by omega)
            have hmc : m ≤ c7 := by omega
            have HRF : Hid (Rd wr (.slice A7 m c7) ((joined (pays17 n (L.map B17.p))).take m)) := HR7.out.front m hmN
            have HRP := Lib.hid (HP.out.replay _ _ n wr HRF.out (by rw [List.length_take, ← HN.out]; omega))
            obtain ⟨U, hU⟩ : ∃ U, U = many17 m n (L.map B17.p) := ⟨_, rfl⟩
            have hrc := replay_cut17 (n := n) (l := L.map B17.p) (by have := HC.out.hr; rwa [List.take_of_length_le (Nat.le_of_eq HM.out.symm)] at this) (by have := HC.out.hu; rwa [List.take_of_length_le (Nat.le_of_eq HM.out.symm)] at this) m
            rw [← hU] at hrc
            rw [hrc] at HRP
            unfold Replayed17 at HRP
            have hUi : U ≤ i := by rw [hU, HM.out]; have := many_le17 (m := m) (n := n) (l := L.map B17.p); rwa [List.length_map] at this
            have HUU := Lib.hid hU
            dsimp only at HRP
            obtain ⟨E, hE⟩ : ∃ E, E = total ((pays17 n (L.map B17.p)).take U) := ⟨_, rfl⟩
            rw [← hE] at HRP
            have HE := Lib.hid hE
            have HPL : Hid ((pays17 n (L.map B17.p)).length = i) := by show _ = _; unfold pays17; rw [List.length_map, List.length_map]; exact HM.out.symm
            have HIN : Hid (∀ j, j < i → (total ((pays17 n (L.map B17.p)).take (j + 1)) ≤ m ↔ j < U)) := fun j hj => by
              rw [HUU.out]
              exact ends_in17 (by rw [HPL.out]; exact hj)
            have HRE : Hid (Row 3 wr (.slice A8 i c8) ((endsOf (pays17 n (L.map B17.p))).map nv)) := by have := HC.out.re; rwa [List.take_of_length_le (Nat.le_of_eq HM.out.symm)] at this
            have HZ : Hid (total ((pays17 n (L.map B17.p)).take 0) = 0) := rfl
            generalize hPS : pays17 n (L.map B17.p) = PS at *
            have HUL : Hid ((L.map B17.p).take U = (L.take U).map B17.p) := List.map_take.symm
            rw [HUL.out] at HRP
            clear hm hrc hU hl0 hE HR7 HRF hPS HC HN HEL HUU
            go_wp2_with fail
            refine HRP.out.mono ?_
            rintro e w5 ⟨v5, T, rfl, hT, b5, t5⟩
            have HT5 := Lib.hid t5; have HB5 := Lib.hid b5; have HTM := Lib.hid hT
            have htl : T.length = U := by
              have := congrArg List.length hT
              rw [List.length_map, List.length_map, List.length_take] at this
              have := HM.out
              omega
            obtain ⟨A5, c5, rfl⟩ := b5.shape
            rw [htl] at HB5 ⊢
            have HTL := Lib.hid htl
            clear t5 b5 hT HRP htl
            go_wp2_with fail
            go_loopw [14, 15, 16] (fun x14 x15 x16 wr => ∃ (j a s : Nat), x16 = .int .i64 (j : Int) ∧ j ≤ i ∧ wr = w5 ∧ x14 = .int .i64 (a : Int) ∧ x15 = .int .i64 (s : Int) ∧ a = min j U ∧ s = total (PS.take a)) (fun _ _ x16 _ => i - (intOf x16).toNat)
            case atStart => exact ⟨0, 0, 0, rfl, Nat.zero_le _, rfl, rfl, rfl, (Nat.zero_min _).symm, HZ.out.symm⟩
            case round =>
              obtain ⟨j, a, s, rfl, hj, rfl, rfl, rfl, ha, hs⟩ := hrel
              have HA := Lib.hid ha; have HSS := Lib.hid hs
              clear ha hs
              by_cases hji : j < i
              · have hjl : (j : Int) < i := by omega
                obtain ⟨X, hX⟩ : ∃ X, X = total (PS.take (j + 1)) := ⟨_, rfl⟩
                obtain ⟨ad8, rfl, h9⟩ := (HRE.out.later HT5.out).at (x := nv X) (by rw [List.getElem?_map, endsOf_at (by rw [HPL.out]; exact hji), hX]; rfl)
                have h8 : wr.cell? (ad8.add j) = some (.int .i64 (X : Int)) := h9
                clear h9
                have HXM := HIN.out j hji
                rw [← hX] at HXM
                have HXX := Lib.hid hX
                clear hX
                by_cases hjU : j < U
                · have hXm : X ≤ m := HXM.2 hjU
                  have hXi : (X : Int) ≤ m := by omega
                  have hXd : decide (X ≤ m) = true := decide_eq_true hXm
                  have haj : a = j := by have := HA.out; omega
                  have ha1 : a + 1 ≤ 100 := by omega
                  clear HXM
                  go_wp2
                  go_roundw
                  case rel => exact ⟨j + 1, a + 1, X, by go_num, hji, by first | trivial | rfl, by go_num, rfl, by omega, by rw [HXX.out, haj]⟩
                  case measure => simp [intOf]; omega
                · have hXm : ¬ X ≤ m := fun e => hjU (HXM.1 e)
                  have hXi : m < X := by omega
                  have hXd : decide (X ≤ m) = false := decide_eq_false hXm
                  have haj : a = min (j + 1) U := by have := HA.out; omega
                  clear HXM
                  go_wp2
                  go_roundw
                  case rel => exact ⟨j + 1, a, s, by go_num, hji, by first | trivial | rfl, rfl, rfl, haj, HSS.out⟩
                  case measure => simp [intOf]; omega
              · obtain rfl : j = i := by omega
                obtain rfl : a = U := by have := HA.out; omega
                obtain rfl : s = E := by rw [HSS.out, HE.out]
                go_wp2_with fail
                have HSZ : Hid ((Try.prog.info? 52).map (·.size) = some EB17.sz) := by show _ = _; kernel_rfl
                have hfit := HV.out.1.fits
                have HKC : Hid (a ≤ c) := by show _ ≤ _; have := hfit.2.1; have := HM.out; omega
                have HFW : Hid (∀ W, Turn (fun _ => False) wr W → BR17 W (.slice A a c) (L.take a)) := fun W hW => by
                  have h := (HV.out.later (HTW.out.trans HT5.out (fun _ _ f => f))).later hW
                  exact ⟨h.1.front a (by omega), fun b hb => h.2 b (List.mem_of_mem_take hb)⟩
                have HBK := Lib.hid (fun W (hW : Turn (fun _ => False) wr W) => back_any17 (.slice A5 a c5) T W (HB5.out.later hW) (by have := HTL.out; omega))
                have HSM : Hid (∀ (x : Value) W, Turn (fun _ => False) wr W → BR17 W x T → Calls Try.prog 13 #[x, .slice A a c] W fun e w' => e = .returned (.bool true) ∧ Turn (fun _ => False) W w') := fun x W hW hx => ref_same17 x _ T (L.take a) W hx (HFW.out W hW) HTM.out ⟨by have := HTL.out; omega, fun b hb => by
                  have h1 : b.p ∈ T.map B17.p := List.mem_map.2 ⟨b, hb, rfl⟩
                  rw [HTM.out] at h1
                  obtain ⟨x, hx, e⟩ := List.mem_map.1 h1
                  have h2 := HS.out.2 x (List.mem_of_mem_take hx)
                  have h3 : x.f = b.f := congrArg P17.f e
                  rw [← h3]
                  exact h2⟩
                clear hfit
                refine drawn_region (fun W => Turn (fun _ => False) wr W) [] (by kernel_rfl) ?_
                have hS0 : Turn (fun _ => False) wr (World.drew wr) := (Turn.refl _ wr).drew
                generalize World.drew wr = wd at *
                refine drawn_take 0 107 (.slice A5 a c5) rfl rfl (by kernel_rfl) (by kernel_rfl) (by kernel_rfl) (by kernel_rfl) (fun _ _ _ h => h) (by rfl) (by assumption) (by intro w hSw; obtain hS1 := hSw; go_simp) ?_
                try simp only [List.setIfInBounds_toArray, List.set_cons_zero, List.set_cons_succ]
                refine drawn_take 1 108 (.int .i64 (a : Int)) rfl rfl (by kernel_rfl) (by kernel_rfl) (by kernel_rfl) (by kernel_rfl) (fun _ _ _ h => h) (by rfl) (by assumption) (by intro w hSw; obtain hS1 := hSw; go_simp) ?_
                try simp only [List.setIfInBounds_toArray, List.set_cons_zero, List.set_cons_succ]
                refine drawn_take 2 109 (.int .i64 (a : Int)) rfl rfl (by kernel_rfl) (by kernel_rfl) (by kernel_rfl) (by kernel_rfl) (fun _ _ _ h => h) (by rfl) (by assumption) (by intro w hSw; obtain hS1 := hSw; go_simp) ?_
                try simp only [List.setIfInBounds_toArray, List.set_cons_zero, List.set_cons_succ]
                refine drawn_take 3 110 (.bool true) rfl rfl (by kernel_rfl) (by kernel_rfl) (by kernel_rfl) (by kernel_rfl) (fun _ _ _ h => h) (by rfl) (by assumption) (by intro w hSw; obtain hS1 := hSw; go_simp) ?_
                try simp only [List.setIfInBounds_toArray, List.set_cons_zero, List.set_cons_succ]
                refine drawn_take 4 111 (.bool true) rfl rfl (by kernel_rfl) (by kernel_rfl) (by kernel_rfl) (by kernel_rfl) (fun _ _ _ h => h) (by rfl) (by assumption) (by intro w hSw; obtain hS1 := hSw; go_simp) ?_
                try simp only [List.setIfInBounds_toArray, List.set_cons_zero, List.set_cons_succ]
                refine drawn_take 5 112 (.int .i64 (s : Int)) rfl rfl (by kernel_rfl) (by kernel_rfl) (by kernel_rfl) (by kernel_rfl) (fun _ _ _ h => h) (by rfl) (by assumption) (by intro w hSw; obtain hS1 := hSw; go_simp) ?_
                try simp only [List.setIfInBounds_toArray, List.set_cons_zero, List.set_cons_succ]
                refine drawn_take 6 113 (.int .i64 (s : Int)) rfl rfl (by kernel_rfl) (by kernel_rfl) (by kernel_rfl) (by kernel_rfl) (fun _ _ _ h => h) (by rfl) (by assumption) (by intro w hSw; obtain hS1 := hSw; go_simp) ?_
                try simp only [List.setIfInBounds_toArray, List.set_cons_zero, List.set_cons_succ]
                refine drawn_take 7 114 (.bool true) rfl rfl (by kernel_rfl) (by kernel_rfl) (by kernel_rfl) (by kernel_rfl) (fun _ _ _ h => h) (by rfl) (by assumption) (by intro w hSw; obtain hS1 := hSw; go_simp) ?_
                try simp only [List.setIfInBounds_toArray, List.set_cons_zero, List.set_cons_succ]
                refine drawn_take 8 115 (.bool true) rfl rfl (by kernel_rfl) (by kernel_rfl) (by kernel_rfl) (by kernel_rfl) (fun _ _ _ h => h) (by rfl) (by assumption) (by intro w hSw; obtain hS1 := hSw; go_simp) ?_
                try simp only [List.setIfInBounds_toArray, List.set_cons_zero, List.set_cons_succ]
                refine drawn_take 9 116 (.bool true) rfl rfl (by kernel_rfl) (by kernel_rfl) (by kernel_rfl) (by kernel_rfl) (fun _ _ _ h => h) (by rfl) (by assumption) (by intro w hSw; obtain hS1 := hSw; go_simp) ?_
                try simp only [List.setIfInBounds_toArray, List.set_cons_zero, List.set_cons_succ]
                refine drawn_take 10 117 (.slice A5 a c5) rfl rfl (by kernel_rfl) (by kernel_rfl) (by kernel_rfl) (by kernel_rfl) (fun _ _ _ h => h) (by rfl) (by assumption) (by intro w hSw; obtain hS1 := hSw; go_simp) ?_
                try simp only [List.setIfInBounds_toArray, List.set_cons_zero, List.set_cons_succ]
                refine drawn_take 12 119 (.slice A j c) rfl rfl (by kernel_rfl) (by kernel_rfl) (by kernel_rfl) (by kernel_rfl) (fun _ _ _ h => h) (by rfl) (by assumption) (by intro w hSw; obtain hS1 := hSw; go_simp) ?_
                try simp only [List.setIfInBounds_toArray, List.set_cons_zero, List.set_cons_succ]
                refine drawn_take 13 120 (.int .i64 (a : Int)) rfl rfl (by kernel_rfl) (by kernel_rfl) (by kernel_rfl) (by kernel_rfl) (fun _ _ _ h => h) (by rfl) (by assumption) (by intro w hSw; obtain hS1 := hSw; go_simp) ?_
                try simp only [List.setIfInBounds_toArray, List.set_cons_zero, List.set_cons_succ]
                refine drawn_take 14 121 (.slice A a c) rfl rfl (by kernel_rfl) (by kernel_rfl) (by kernel_rfl) (by kernel_rfl) (fun _ _ _ h => h) (by rfl) (by assumption) (fun w _ => exec_front (E := EB17) rfl rfl rfl Try.underlying23 HSZ.out HKC.out w) ?_
                try simp only [List.setIfInBounds_toArray, List.set_cons_zero, List.set_cons_succ]
                refine drawn_any [11] (by kernel_rfl) (by simp) ?_
                refine drawn_cons rfl (fun K1 hK => ?_) drawn_nil
                go_simp
                refine (HBK.out wd hS0).mono ?_
                rintro e w6 ⟨v6, rfl, b6, t6⟩
                have hS6 := hS0.trans t6 (fun _ _ f => f)
                have HC6 := Lib.hid (HSM.out v6 w6 hS6 b6)
                obtain ⟨A6, c6, rfl⟩ := b6.shape
                refine hK.out _ _ _ hS6 ?_
                clear hK K1 t6 hS0 b6
                try simp only [List.setIfInBounds_toArray, List.set_cons_zero, List.set_cons_succ]
                refine drawn_any [15] (by kernel_rfl) (by simp) ?_
                refine drawn_cons rfl (fun K1 hK => ?_) drawn_nil
                go_simp
                refine HC6.out.mono ?_
                rintro e w7 ⟨rfl, t7⟩
                have hS7 := hS6.trans t7 (fun _ _ f => f)
                refine hK.out _ _ _ hS7 ?_
                clear hK K1 t7 hS6 HC6
                try simp only [List.setIfInBounds_toArray, List.set_cons_zero, List.set_cons_succ]
                refine drawn_take 16 123 (.bool true) rfl rfl (by kernel_rfl) (by kernel_rfl) (by kernel_rfl) (by kernel_rfl) (fun _ _ _ h => h) (by rfl) (by assumption) (by intro w hSw; obtain hS1 := hSw; go_simp) ?_
                try simp only [List.setIfInBounds_toArray, List.set_cons_zero, List.set_cons_succ]
                refine drawn_take 17 124 (.bool true) rfl rfl (by kernel_rfl) (by kernel_rfl) (by kernel_rfl) (by kernel_rfl) (fun _ _ _ h => h) (by rfl) (by assumption) (by intro w hSw; obtain hS1 := hSw; go_simp) ?_
                try simp only [List.setIfInBounds_toArray, List.set_cons_zero, List.set_cons_succ]
                refine drawn_any [18] (by kernel_rfl) (by simp) ?_
                refine drawn_cons rfl (fun K1 hK => ?_) drawn_nil
                go_simp
                refine (HAL.out w7).mono ?_
                rintro e w8 ⟨rfl, t8⟩
                have hS8 := hS7.trans t8 (fun _ _ f => f)
                have HT8 := Lib.hid hS8
                refine hK.out _ _ _ hS8 ?_
                clear hK K1 t8 hS7
                try simp only [List.setIfInBounds_toArray, List.set_cons_zero, List.set_cons_succ]
                refine drawn_take 19 126 (.bool true) rfl rfl (by kernel_rfl) (by kernel_rfl) (by kernel_rfl) (by kernel_rfl) (fun _ _ _ h => h) (by rfl) (by assumption) (by intro w hSw; obtain hS1 := hSw; go_simp) ?_
                try simp only [List.setIfInBounds_toArray, List.set_cons_zero, List.set_cons_succ]
                refine drawn_last1 20 6 (.bool true) rfl rfl (by kernel_rfl) (by kernel_rfl) (by rfl) (by intro w; go_simp) hS8 ?_
                try simp only [List.setIfInBounds_toArray, List.set_cons_zero, List.set_cons_succ]
                clear hS8
                go_wp2
                go_ret
                exact ⟨rfl, (HTW.out.trans HT5.out (fun _ _ f => f)).trans HT8.out (fun _ _ f => f)⟩

end Go.Proofs.Ytgchfckmhibeaaa

/-
  Stage 9: the program's Check and All, with the document's answers.
-/
namespace Go.Proofs.Ytgchfckmhibeaaa
open Go.RowKit

set_option maxRecDepth 100000

theorem counted_any9 (n : Int) (w : World) : Calls Try.prog 62 #[.int .i64 n] w fun e w' => e = .returned (.bool (okDims n)) ∧ w' = w := by
  unfold okDims
  by_cases n1 : 1 ≤ n
  · by_cases n4 : n ≤ 4
    · rw [decide_eq_true n1, decide_eq_true n4]
      go_enter Try.func62, Try.ntmps62
      go_wp2
      go_ret
      exact ⟨rfl, rfl⟩
    · rw [decide_eq_true n1, decide_eq_false n4]
      go_enter Try.func62, Try.ntmps62
      go_wp2
      go_ret
      exact ⟨rfl, rfl⟩
  · rw [decide_eq_false n1]
    go_enter Try.func62, Try.ntmps62
    go_wp2
    go_ret
    exact ⟨rfl, rfl⟩

theorem okText_in {n : Int} {i : Nat} {t : List UInt8} (h : (i : Int) < n) : okText n i t = decide (t.length ≤ 16) := by simp [okText, h]
theorem okText_out {n : Int} {i : Nat} {t : List UInt8} (h : ¬ (i : Int) < n) : okText n i t = decide (t.length ≤ 0) := by
  cases t with
  | nil => simp [okText]
  | cons x t => simp [okText, h]

set_option maxHeartbeats 8000000 in
theorem fits_any9 (k : K9) (n : Int) (w : World) : Calls Try.prog 84 #[.agg #[sv9 k.a, sv9 k.b, sv9 k.c, sv9 k.d], .int .i64 n] w fun e w' => e = .returned (.bool (okTexts n k)) ∧ Turn (fun _ => False) w w' := by
  obtain ⟨w0, hw0⟩ : ∃ w0, w0 = w.alloc (.cells #[sv9 k.a, sv9 k.b, sv9 k.c, sv9 k.d] 72) := ⟨_, rfl⟩
  have HT0 : Hid (Turn (fun _ => False) w w0) := by rw [hw0]; exact (Turn.refl _ w).alloc _
  have HW := Lib.hid hw0
  have hix0 : ∀ i : Nat, i < 4 → ∀ W, Sem.run Try.prog (Instr.index 72 (.agg #[sv9 k.a, sv9 k.b, sv9 k.c, sv9 k.d]) (.int .i64 (i : Int))) W = .ok (sv9 (k.dim i)) W := fun i hi W => by
    match i, hi with
    | 0, _ => rfl
    | 1, _ => rfl
    | 2, _ => rfl
    | 3, _ => rfl
  have HIX := Lib.hid hix0
  clear hw0 hix0
  go_enter Try.func84, Try.ntmps84
  go_wp2_with fail
  rw [← HW.out]
  go_loopw [9] (fun x9 wr => wr = w0 ∧ ∃ i : Nat, x9 = .int .i64 (i : Int) ∧ i ≤ 4 ∧ ∀ j, j < i → okText n j (k.dim j) = true) (fun x9 _ => 4 - (intOf x9).toNat)
  case atStart => exact ⟨rfl, 0, rfl, Nat.zero_le _, fun k hk => absurd hk (Nat.not_lt_zero k)⟩
  case round =>
    obtain ⟨rfl, i, rfl, hi, he⟩ := hrel
    have HE := Lib.hid he
    clear he
    by_cases hlt : i < 4
    · have hix := HIX.out i hlt
      have hil : (i : Int) < 4 := by omega
      unfold sv9 at hix ⊢
      have HBAD : Hid (okText n i (k.dim i) = false → okTexts n k = false) := fun h => okTexts_not hlt h
      have HGOOD : Hid (okText n i (k.dim i) = true → ∀ j, j < i + 1 → okText n j (k.dim j) = true) := fun h j hj => by
        by_cases ek : j = i
        · rw [ek]; exact h
        · exact HE.out j (by omega)
      generalize hT : k.dim i = T at *
      by_cases hin : (i : Int) < n
      · by_cases hlen : T.length ≤ 16
        · have HK := Lib.hid (HGOOD.out ((okText_in hin).trans (decide_eq_true hlen)))
          have hl2 : ¬ ((16 : Int) < T.length) := by omega
          have hnn : ¬ (n ≤ (i : Int)) := by omega
          clear HBAD HGOOD
          go_wp2
          go_roundw
          case rel => exact ⟨trivial, i + 1, by go_num, hlt, HK.out⟩
          case measure => simp [intOf]; omega
        · have HK := Lib.hid (HBAD.out ((okText_in hin).trans (decide_eq_false hlen)))
          have hl2 : (16 : Int) < T.length := by omega
          have hnn : ¬ (n ≤ (i : Int)) := by omega
          clear HBAD HGOOD
          go_wp2
          go_ret
          rw [HK.out]
          exact ⟨rfl, HT0.out⟩
      · by_cases hlen : T.length ≤ 0
        · have HK := Lib.hid (HGOOD.out ((okText_out hin).trans (decide_eq_true hlen)))
          have hl2 : ¬ ((0 : Int) < T.length) := by omega
          have hnn : n ≤ (i : Int) := by omega
          clear HBAD HGOOD
          go_wp2
          go_roundw
          case rel => exact ⟨trivial, i + 1, by go_num, hlt, HK.out⟩
          case measure => simp [intOf]; omega
        · have HK := Lib.hid (HBAD.out ((okText_out hin).trans (decide_eq_false hlen)))
          have hl2 : (0 : Int) < T.length := by omega
          have hnn : n ≤ (i : Int) := by omega
          clear HBAD HGOOD
          go_wp2
          go_ret
          rw [HK.out]
          exact ⟨rfl, HT0.out⟩
    · obtain rfl : i = 4 := by omega
      have HK : Hid (okTexts n k = true) := okTexts_all HE.out
      go_wp2
      go_ret
      rw [HK.out]
      exact ⟨rfl, HT0.out⟩

set_option maxHeartbeats 8000000 in
theorem check_any9 (f : F9) (n : Int) (w : World) : Calls Try.prog 63 #[fv9 f, .int .i64 n] w fun e w' => e = .returned (.int .i64 (chkF f n)) ∧ Turn (fun _ => False) w w' := by
  unfold fv9
  obtain ⟨w0, hw0⟩ : ∃ w0, w0 = w.alloc (.cells #[.int .i64 f.k.h, sv9 f.k.a, sv9 f.k.b, sv9 f.k.c, sv9 f.k.d, .int .i64 f.v] 76) := ⟨_, rfl⟩
  have HT0 : Hid (Turn (fun _ => False) w w0) := by rw [hw0]; exact (Turn.refl _ w).alloc _
  have hb1 : Box w0 w.heap.size 76 #[.int .i64 f.k.h, sv9 f.k.a, sv9 f.k.b, sv9 f.k.c, sv9 f.k.d, .int .i64 f.v] := by rw [hw0]; exact Box.new w _ _
  have c0 := hb1.cell 0
  have c1 := hb1.cell 1
  have c2 := hb1.cell 2
  have c3 := hb1.cell 3
  have c4 := hb1.cell 4
  have c5 := hb1.cell 5
  have HW := Lib.hid hw0
  have HCT : Hid (∀ W, Calls Try.prog 62 #[.int .i64 n] W fun e w' => e = .returned (.bool (okDims n)) ∧ w' = W) := fun W => counted_any9 n W
  clear hb1 hw0
  by_cases hn : 1 ≤ n ∧ n ≤ 4
  · rw [show okDims n = true by unfold okDims; simp [hn]] at HCT
    by_cases hr : 0 ≤ f.k.h ∧ f.k.h ≤ 16777216 ∧ f.v ≤ 1152921504606846976 ∧ -1152921504606846976 ≤ f.v
    · have HN := Lib.hid hn
      have HR := Lib.hid hr
      obtain ⟨n1, n2⟩ := hn
      obtain ⟨r1, r2, r3, r4⟩ := hr
      have HK : Hid (chkF f n = if okTexts n f.k then 0 else 4) := by
        show _ = _
        cases ht : okTexts n f.k with
        | true => exact chk_ok HN.out HR.out ht
        | false => exact chk_text HN.out HR.out ht
      have HFT := Lib.hid (fits_any9 f.k n w0)
      cases hb : okTexts n f.k with
      | true =>
        rw [hb] at HK HFT
        clear hb
        go_enter Try.func63, Try.ntmps63
        go_wp2_with fail
        rw [← HW.out]
        refine (HCT.out _).mono ?_
        rintro e w1 ⟨rfl, rfl⟩
        go_wp2_with fail
        refine HFT.out.mono ?_
        rintro e w2 ⟨rfl, t2⟩
        have HT2 := Lib.hid (HT0.out.trans t2 (fun _ _ f => f))
        clear t2 c0 c1 c2 c3 c4 c5
        go_wp2
        go_ret
        rw [HK.out]
        exact ⟨rfl, HT2.out⟩
      | false =>
        rw [hb] at HK HFT
        clear hb
        go_enter Try.func63, Try.ntmps63
        go_wp2_with fail
        rw [← HW.out]
        refine (HCT.out _).mono ?_
        rintro e w1 ⟨rfl, rfl⟩
        go_wp2_with fail
        refine HFT.out.mono ?_
        rintro e w2 ⟨rfl, t2⟩
        have HT2 := Lib.hid (HT0.out.trans t2 (fun _ _ f => f))
        clear t2 c0 c1 c2 c3 c4 c5
        go_wp2
        go_ret
        rw [HK.out]
        exact ⟨rfl, HT2.out⟩
    · rw [chk_range hn hr]
      obtain ⟨n1, n2⟩ := hn
      by_cases r1 : f.k.h < 0
      · clear hr
        go_enter Try.func63, Try.ntmps63
        go_wp2_with fail
        rw [← HW.out]
        refine (HCT.out _).mono ?_
        rintro e w1 ⟨rfl, rfl⟩
        go_wp2
        go_ret
        exact ⟨rfl, HT0.out⟩
      · by_cases r2 : 16777216 < f.k.h
        · clear hr
          go_enter Try.func63, Try.ntmps63
          go_wp2_with fail
          rw [← HW.out]
          refine (HCT.out _).mono ?_
          rintro e w1 ⟨rfl, rfl⟩
          go_wp2
          go_ret
          exact ⟨rfl, HT0.out⟩
        · by_cases r3 : 1152921504606846976 < f.v
          · clear hr
            go_enter Try.func63, Try.ntmps63
            go_wp2_with fail
            rw [← HW.out]
            refine (HCT.out _).mono ?_
            rintro e w1 ⟨rfl, rfl⟩
            go_wp2
            go_ret
            exact ⟨rfl, HT0.out⟩
          · have r4 : f.v < -1152921504606846976 := by omega
            clear hr
            go_enter Try.func63, Try.ntmps63
            go_wp2_with fail
            rw [← HW.out]
            refine (HCT.out _).mono ?_
            rintro e w1 ⟨rfl, rfl⟩
            go_wp2
            go_ret
            exact ⟨rfl, HT0.out⟩
  · rw [show okDims n = false by unfold okDims; simpa using hn] at HCT
    rw [chk_dims hn]
    clear hn
    go_enter Try.func63, Try.ntmps63
    go_wp2_with fail
    rw [← HW.out]
    refine (HCT.out _).mono ?_
    rintro e w1 ⟨rfl, rfl⟩
    go_wp2
    go_ret
    exact ⟨rfl, HT0.out⟩

set_option maxHeartbeats 8000000 in
theorem all_any9 (v : Value) (l : List F9) (n : Int) (w : World) (hv : RdE EF w v l) (hl : l.length ≤ 1000) : Calls Try.prog 39 #[v, .int .i64 n] w fun e w' => e = .returned (allV l n) ∧ Turn (fun _ => False) w w' := by
  have HV := Lib.hid hv
  obtain ⟨A, c, rfl⟩ := hv.shape
  clear hv
  have HCT : Hid (∀ W, Calls Try.prog 62 #[.int .i64 n] W fun e w' => e = .returned (.bool (okDims n)) ∧ w' = W) := fun W => counted_any9 n W
  by_cases hn : 1 ≤ n ∧ n ≤ 4
  · rw [show okDims n = true by unfold okDims; simp [hn]] at HCT
    by_cases hg : 1 ≤ l.length ∧ l.length ≤ 50
    · have HG : Hid (1 ≤ n ∧ n ≤ 4 ∧ 1 ≤ l.length ∧ l.length ≤ 50) := ⟨hn.1, hn.2, hg.1, hg.2⟩
      obtain ⟨g3, g4⟩ := hg
      have g0 : ((l.length : Int) == 0) = false := by simp; intro e; simp [e] at g3
      have g3' : (1 : Int) ≤ l.length := by omega
      have g4' : (l.length : Int) ≤ 50 := by omega
      clear hn
      go_enter Try.func39, Try.ntmps39
      go_wp2_with fail
      refine (HCT.out _).mono ?_
      rintro e w1 ⟨rfl, rfl⟩
      go_wp2_with fail
      go_loopw [24] (fun x24 wr => ∃ i : Nat, x24 = .int .i64 (i : Int) ∧ i ≤ l.length ∧ badAt n l 0 = badAt n (l.drop i) i ∧ Turn (fun _ => False) w1 wr) (fun x24 _ => l.length - (intOf x24).toNat)
      case atStart => exact ⟨0, rfl, Nat.zero_le _, rfl, Turn.refl _ w1⟩
      case round =>
        obtain ⟨i, rfl, hi, hb, ht⟩ := hrel
        have HB := Lib.hid hb
        have HT := Lib.hid ht
        clear hb ht
        by_cases hlt : i < l.length
        · obtain ⟨f, hf⟩ : ∃ f, l[i]? = some f := ⟨_, List.getElem?_eq_getElem hlt⟩
          obtain ⟨ad, rfl, hc⟩ := fact_at6 HV.out hf
          obtain ⟨c0, c1, c2, c3, c4, c5⟩ := hc wr HT.out
          have hil : (i : Int) < l.length := by omega
          have HF := Lib.hid hf
          obtain ⟨wf, hwf⟩ : ∃ wf, wf = wr.alloc (.cells #[.int .i64 f.k.h, sv9 f.k.a, sv9 f.k.b, sv9 f.k.c, sv9 f.k.d, .int .i64 f.v] 76) := ⟨_, rfl⟩
          have HTF : Hid (Turn (fun _ => False) w1 wf) := by rw [hwf]; exact HT.out.alloc _
          have HWF := Lib.hid hwf
          clear hc hf hwf
          go_wp2_with fail
          rw [← HWF.out]
          refine (check_any9 f n wf).mono ?_
          rintro e w2 ⟨rfl, t2⟩
          have HT2 : Hid (Turn (fun _ => False) w1 w2) := HTF.out.trans t2 (fun _ _ f => f)
          clear t2 c0 c1 c2 c3 c4 c5
          by_cases hk : chkF f n = 0
          · have HB2 : Hid (badAt n l 0 = badAt n (l.drop (i + 1)) (i + 1)) := HB.out.trans (bad_step HF.out hk)
            rw [hk]
            go_wp2
            go_roundw
            case rel => exact ⟨i + 1, by go_num, hlt, HB2.out, HT2.out⟩
            case measure => simp [intOf]; omega
          · have HA : Hid (allV l n = .tuple #[.int .i64 (chkF f n), .int .i64 (i : Int)]) := allV_at HG.out (HB.out.trans (bad_here HF.out hk))
            have hk2 : (chkF f n != 0) = true := by simp [bne, hk]
            clear hk
            generalize chkF f n = cf at *
            go_wp2
            go_ret2
            rw [HA.out]
            exact ⟨rfl, HT2.out⟩
        · obtain rfl : i = l.length := by omega
          have HA : Hid (allV l n = .tuple #[.int .i64 0, .int .i64 0]) := allV_at HG.out (by rw [HB.out, List.drop_length]; rfl)
          go_wp2
          go_ret2
          rw [HA.out]
          exact ⟨rfl, HT.out⟩
    · rw [allV_bad (fun h => hg h.2.2)]
      clear hn
      by_cases n3 : l.length < 1
      · have n3' : ((l.length : Int) == 0) = true := by simp; exact List.eq_nil_of_length_eq_zero (by omega)
        clear hg
        go_enter Try.func39, Try.ntmps39
        go_wp2_with fail
        refine (HCT.out _).mono ?_
        rintro e w1 ⟨rfl, rfl⟩
        go_wp2
        go_ret2
        exact ⟨rfl, Turn.refl _ w1⟩
      · have n3' : ((l.length : Int) == 0) = false := by simp; intro e; simp [e] at n3
        have n4' : (50 : Int) < l.length := by omega
        clear hg
        go_enter Try.func39, Try.ntmps39
        go_wp2_with fail
        refine (HCT.out _).mono ?_
        rintro e w1 ⟨rfl, rfl⟩
        go_wp2
        go_ret2
        exact ⟨rfl, Turn.refl _ w1⟩
  · rw [show okDims n = false by unfold okDims; simpa using hn] at HCT
    rw [allV_bad (fun h => hn ⟨h.1, h.2.1⟩)]
    clear hn
    go_enter Try.func39, Try.ntmps39
    go_wp2_with fail
    refine (HCT.out _).mono ?_
    rintro e w1 ⟨rfl, rfl⟩
    go_wp2
    go_ret2
    exact ⟨rfl, Turn.refl _ w1⟩

end Go.Proofs.Ytgchfckmhibeaaa

/-
  A writer of pack (the program's) that is new since a world: one contract a call. For every stage whose code puts bytes so.
-/
namespace Go.Proofs.Ytgchfckmhibeaaa
open Go.RowKit

/-- A writer at p, new since w, that has bytes l. -/
def Wt (w : World) (p : Nat) (wr : World) (l : List UInt8) : Prop := w.heap.size ≤ p ∧ ∃ u, Wr wr p u l ∧ (∀ k, u.ownBlock = some k → w.heap.size ≤ k) ∧ Turn (fun _ => False) w wr
section
variable {w wr w' : World} {p : Nat} {l l' : List UInt8}
theorem Wt.turn (h : Wt w p wr l) : Turn (fun _ => False) w wr := by
  obtain ⟨_, u, _, _, h⟩ := h
  exact h
theorem Wt.later (h : Wt w p wr l) (ht : Turn (fun _ => False) wr w') : Wt w p w' l := by
  obtain ⟨h0, u, ⟨h1, h2⟩, h3, h4⟩ := h
  exact ⟨h0, u, ⟨h1.turn ht (fun f => f), h2.turn ht (fun _ _ f => f)⟩, h3, h4.trans ht (fun _ _ f => f)⟩
theorem Wt.put {u u' : Value} (h0 : w.heap.size ≤ p) (h3 : ∀ k, u.ownBlock = some k → w.heap.size ≤ k) (h4 : Turn (fun _ => False) w wr) (hp : Put wr p u w' u' l') : Wt w p w' l' := by
  obtain ⟨g1, g2, g3⟩ := hp
  refine ⟨h0, u', g1, fun k hk => ?_, h4.trans g2 (fun k hk e => ?_)⟩
  · rcases g3 with e | e
    · exact h3 k (by rw [← e]; exact hk)
    · exact Nat.le_trans h4.size (e k hk)
  · rcases e with e | e
    · omega
    · have := h3 k e; omega
/-- Boxes of other types than a writer's, and a byte's rows, are as they were. -/
def KeepB (w w' : World) : Prop := ∀ g t cs, t ≠ 80 → t ≠ 5 → Box w g t cs → Box w' g t cs
theorem KeepB.of {u u' : Value} (hw : Wr wr p u l) (hp : Put wr p u w' u' l') : KeepB wr w' := by
  intro g t cs h1 h2 hb
  refine hb.turn hp.2.1 (fun e => ?_)
  rcases e with e | e
  · subst e
    have e2 := hw.1.symm.trans hb
    injection e2 with e2
    injection e2 with _ e3
    exact h1 e3.symm
  · exact hw.2.ne_box hb (fun e => h2 e.symm) e
theorem KeepB.trans {a b c : World} (h : KeepB a b) (g : KeepB b c) : KeepB a c := fun k t cs h1 h2 hb => g k t cs h1 h2 (h k t cs h1 h2 hb)
theorem KeepB.refl (w : World) : KeepB w w := fun _ _ _ _ _ h => h
/-- A writer that was just laid. -/
theorem Wt.new (w : World) (hw : Turn (fun _ => False) w wr) : Wt w wr.heap.size (wr.alloc (.cells #[.slice none 0 0] 80)) [] :=
  ⟨hw.size, _, ⟨Box.new wr _ _, By.nil _⟩, (fun k e => by simp [Value.ownBlock] at e), hw.alloc _⟩
theorem wt_num (h : Wt w p wr l) (n : Nat) (hn : Hid (n < 18446744073709551616)) (hl : l.length ≤ 1000000) :
    Calls Try.prog 36 #[.pointer (some ⟨p, 0, none⟩), .int .u64 n] wr fun e w' => e = .returned (.pointer (some ⟨p, 0, none⟩)) ∧ Wt w p w' (l ++ enc n) ∧ KeepB wr w' := by
  obtain ⟨h0, u, h1, h3, h4⟩ := h
  exact (num_put p u l n wr h1 hn hl).mono fun e w' ⟨he, v', hp⟩ => ⟨he, Wt.put h0 h3 h4 hp, KeepB.of h1 hp⟩
theorem wt_int (h : Wt w p wr l) (n : Int) (g1 : Hid (-9223372036854775808 ≤ n)) (g2 : Hid (n ≤ 9223372036854775807)) (hl : l.length ≤ 1000000) :
    Calls Try.prog 59 #[.pointer (some ⟨p, 0, none⟩), .int .i64 n] wr fun e w' => e = .returned (.pointer (some ⟨p, 0, none⟩)) ∧ Wt w p w' (l ++ enc (zig n)) ∧ KeepB wr w' := by
  obtain ⟨h0, u, h1, h3, h4⟩ := h
  exact (int_put p u l n wr h1 g1 g2 hl).mono fun e w' ⟨he, v', hp⟩ => ⟨he, Wt.put h0 h3 h4 hp, KeepB.of h1 hp⟩
theorem wt_text (h : Wt w p wr l) (t : List UInt8) (ht : t.length ≤ 900000) (hl : l.length ≤ 900000) :
    Calls Try.prog 58 #[.pointer (some ⟨p, 0, none⟩), .string ⟨t.toArray⟩] wr fun e w' => e = .returned (.pointer (some ⟨p, 0, none⟩)) ∧ Wt w p w' (l ++ (enc t.length ++ t)) ∧ KeepB wr w' := by
  obtain ⟨h0, u, h1, h3, h4⟩ := h
  exact (text_put p u l ⟨t.toArray⟩ wr h1 (by show t.toArray.size ≤ _; simpa using ht) hl).mono fun e w' ⟨he, v', hp⟩ => ⟨he, Wt.put h0 h3 h4 hp, KeepB.of h1 hp⟩
theorem wt_bytes (h : Wt w p wr l) (hl : l.length ≤ 1000000) :
    Calls Try.prog 38 #[.pointer (some ⟨p, 0, none⟩)] wr fun e w' => ∃ v', e = .returned v' ∧ Made w w' v' l := by
  obtain ⟨h0, u, h1, h3, h4⟩ := h
  exact (bytes_any p u l wr h1 hl).mono fun e w' ⟨v', he, hb, ht, hk⟩ => ⟨v', he, hb, h4.trans ht (fun _ _ f => f), fun k e => Nat.le_trans h4.size (hk k e)⟩
end

end Go.Proofs.Ytgchfckmhibeaaa

/-
  Stage 9: the program's Encode (by method values).
-/
namespace Go.Proofs.Ytgchfckmhibeaaa
open Go.RowKit

set_option maxRecDepth 100000

set_option maxHeartbeats 8000000 in
theorem encode_any9' (v : Value) (l : List F9) (n : Int) (w : World) (hv : RdE EF w v l) (hl : l.length ≤ 1000) : Calls Try.prog 35 #[v, .int .i64 n] w fun e w' => Encd w l n e w' := by
  have HV := Lib.hid hv
  obtain ⟨A, c, rfl⟩ := hv.shape
  have HALL := Lib.hid (all_any9 (.slice A l.length c) l n w hv hl)
  clear hv
  by_cases h0 : (allB l n).1 = 0
  · have hag := all_good h0
    obtain ⟨⟨n1, n4⟩, ⟨l1, l50⟩, hch, hall⟩ := hag
    obtain ⟨N, rfl⟩ := Int.eq_ofNat_of_zero_le (show 0 ≤ n by omega)
    have HG : Hid (∀ f ∈ l, Good9 f) := fun f hf => good_chk (hch f hf)
    have HEND : Hid (∀ v w', Made w w' v (batchB l N) → Encd w l (N : Int) (.returned (.tuple #[v, .int .i64 0])) w') := fun v w' hm => ⟨v, by rw [h0], by rw [if_pos h0, Int.toNat_natCast]; exact hm⟩
    unfold allV at HALL
    rw [hall] at HALL
    have hN4 : N ≤ 4 := by omega
    have HLEN := Lib.hid (partB_len (n := N) hN4 HG.out)
    have hl64 : Hid (l.length < 18446744073709551616) := by show _ < _; omega
    have hwl : IntKind.u64.wrap (l.length : Int) = (l.length : Int) := by rw [IntKind.wrap_u64]; omega
    clear h0 hch hall
    go_enter Try.func35, Try.ntmps35
    go_wp2_with fail
    refine HALL.out.mono ?_
    rintro e w1 ⟨rfl, t1⟩
    have HT1 := Lib.hid t1
    have HWT := Lib.hid (Wt.new w t1)
    clear t1
    go_wp2_with fail
    obtain ⟨P, hP⟩ : ∃ P, P = w1.heap.size := ⟨_, rfl⟩
    rw [← hP] at HWT ⊢
    refine (wt_num HWT.out l.length hl64 (by simp)).mono ?_
    rintro e w2 ⟨rfl, h2, -⟩
    have HM0 : Hid (Wt w P w2 (partB l N 0)) := by
      unfold partB
      rw [List.take_zero, List.flatMap_nil, List.append_nil]
      exact h2
    clear h2 HT1 HALL HWT hP
    go_wp2_with fail
    go_loopw [35] (fun x35 wr => ∃ i : Nat, x35 = .int .i64 (i : Int) ∧ i ≤ l.length ∧ Wt w P wr (partB l N i)) (fun x35 _ => l.length - (intOf x35).toNat)
    case atStart => exact ⟨0, rfl, Nat.zero_le _, HM0.out⟩
    case round =>
      clear HM0
      obtain ⟨i, rfl, hi, hm⟩ := hrel
      have HM := Lib.hid hm
      have hlen := HLEN.out i
      clear hm
      by_cases hlt : i < l.length
      · obtain ⟨f, hf⟩ : ∃ f, l[i]? = some f := ⟨_, List.getElem?_eq_getElem hlt⟩
        have hgf := HG.out f (List.mem_of_getElem? hf)
        obtain ⟨ad, rfl, hc⟩ := fact_at6 HV.out hf
        have HST := Lib.hid (partB_step (n := N) hf)
        have HGF := Lib.hid hgf
        obtain ⟨c0, c1, c2, c3, c4, c5⟩ := hc wr HM.out.turn
        obtain ⟨H, hH⟩ := Int.eq_ofNat_of_zero_le hgf.h0
        have hH2 : H ≤ 16777216 := by have := hgf.h1; omega
        have HHH := Lib.hid hH
        have hil : (i : Int) < l.length := by omega
        have hn64 : Hid (H < 18446744073709551616) := by show _ < _; omega
        have hwh : IntKind.u64.wrap f.k.h = (H : Int) := by rw [hH, IntKind.wrap_u64]; omega
        obtain ⟨wf, hwf⟩ : ∃ wf, wf = wr.alloc (.cells #[.int .i64 f.k.h, sv9 f.k.a, sv9 f.k.b, sv9 f.k.c, sv9 f.k.d, .int .i64 f.v] 76) := ⟨_, rfl⟩
        have HMF : Hid (Wt w P wf (partB l N i)) := by rw [hwf]; exact HM.out.later ((Turn.refl _ wr).alloc _)
        have hbf : Box wf wr.heap.size 76 #[.int .i64 f.k.h, sv9 f.k.a, sv9 f.k.b, sv9 f.k.c, sv9 f.k.d, .int .i64 f.v] := by rw [hwf]; exact Box.new wr _ _
        have HD : Hid (∀ W, Box W wr.heap.size 76 #[.int .i64 f.k.h, sv9 f.k.a, sv9 f.k.b, sv9 f.k.c, sv9 f.k.d, .int .i64 f.v] → ∀ k, k < 4 → W.cell? ⟨wr.heap.size, 1 + k, none⟩ = some (sv9 (f.k.dim k))) := fun W hb => dim_cell (o := 1) hb fact_cells
        have HB := Lib.hid hbf
        have HWF := Lib.hid hwf
        clear hc hf hgf hH hwf hbf HM
        go_wp2_with fail
        rw [← HWF.out]
        refine (wt_num HMF.out H hn64 (by omega)).mono ?_
        rintro e w3 ⟨rfl, h3, k3⟩
        obtain ⟨acc, hacc⟩ : ∃ acc, acc = partB l N i ++ enc H := ⟨_, rfl⟩
        rw [← hacc] at h3
        have hal : acc.length ≤ 100000 := by rw [hacc, List.length_append]; have := enc_len H; omega
        have HACC := Lib.hid hacc
        have HM3 : Hid (Wt w P w3 (acc ++ textsB f.k 0)) := by
          show Wt w P w3 (acc ++ [])
          rw [List.append_nil]
          exact h3
        have HB3 := Lib.hid (k3 _ _ _ (by decide) (by decide) HB.out)
        clear h3 hacc k3 HMF HB c0 c1 c2 c3 c4 c5
        go_wp2_with fail
        go_loopw [50] (fun x50 wk => ∃ k : Nat, x50 = .int .i64 (k : Int) ∧ k ≤ N ∧ Wt w P wk (acc ++ textsB f.k k) ∧ Box wk wr.heap.size 76 #[.int .i64 f.k.h, sv9 f.k.a, sv9 f.k.b, sv9 f.k.c, sv9 f.k.d, .int .i64 f.v]) (fun x50 _ => N - (intOf x50).toNat)
        case atStart => exact ⟨0, rfl, Nat.zero_le _, HM3.out, HB3.out⟩
        case round =>
          clear HM3 HB3
          rename_i wk
          obtain ⟨k, rfl, hk, hm, hb⟩ := hrel
          have HM := Lib.hid hm
          have HB := Lib.hid hb
          have htl := texts_len f HGF.out k (by omega)
          clear hm hb
          by_cases hkN : k < N
          · have e1 := HD.out _ HB.out k (by omega)
            have ht16 := HGF.out.t k (by omega)
            have hki : (k : Int) < N := by omega
            have HTS : Hid (textsB f.k (k + 1) = textsB f.k k ++ textB (f.k.dim k)) := rfl
            unfold sv9 at e1
            have hlen2 : (acc ++ textsB f.k k).length ≤ 200000 := by rw [List.length_append]; omega
            generalize hacc2 : acc ++ textsB f.k k = acc2 at *
            have HACC2 := Lib.hid hacc2
            generalize hT : f.k.dim k = T at *
            have hk4 : (k : Int) < 4 := by omega
            clear hacc2 hT
            go_wp2_with fail
            refine (wt_text HM.out T (by omega) (by omega)).mono ?_
            rintro e w4 ⟨rfl, h4, k4⟩
            have HM4 : Hid (Wt w P w4 (acc ++ textsB f.k (k + 1))) := by rw [HTS.out, ← List.append_assoc, HACC2.out]; exact h4
            have HB4 := Lib.hid (k4 _ _ _ (by decide) (by decide) HB.out)
            clear h4 k4
            go_wp2
            go_roundw
            case rel => exact ⟨k + 1, by go_num, hkN, HM4.out, HB4.out⟩
            case measure => simp [intOf]; omega
          · obtain rfl : k = N := by omega
            have e5 := HB.out.cell 5
            have hlen2 : (acc ++ textsB f.k k).length ≤ 200000 := by rw [List.length_append]; omega
            have hst2 : partB l k (i + 1) = acc ++ textsB f.k k ++ enc (zig f.v) := by
              rw [HST.out, HACC.out]
              unfold factB
              rw [HHH.out]
              simp only [Int.toNat_natCast, List.append_assoc]
            have HST2 := Lib.hid hst2
            clear hst2
            generalize hacc2 : acc ++ textsB f.k k = acc2 at *
            have hv1 : Hid (-9223372036854775808 ≤ f.v) := by have := HGF.out.v0; show _ ≤ _; omega
            have hv2 : Hid (f.v ≤ 9223372036854775807) := by have := HGF.out.v1; show _ ≤ _; omega
            clear hacc2
            go_wp2_with fail
            refine (wt_int HM.out f.v hv1 hv2 (by omega)).mono ?_
            rintro e w4 ⟨rfl, h4, -⟩
            have HM4 : Hid (Wt w P w4 (partB l k (i + 1))) := by rw [HST2.out]; exact h4
            clear h4 e5
            go_wp2
            go_roundw
            case rel => exact ⟨i + 1, by go_num, hlt, HM4.out⟩
            case measure => simp [intOf]; omega
      · obtain rfl : i = l.length := by omega
        have HM2 : Hid (Wt w P wr (batchB l N)) := by rw [← partB_all]; exact HM.out
        have hbl : (batchB l N).length ≤ 1000000 := by rw [← partB_all]; omega
        go_wp2_with fail
        refine (wt_bytes HM2.out hbl).mono ?_
        rintro e w4 ⟨v', rfl, hm⟩
        have HE := Lib.hid (HEND.out _ _ hm)
        clear hm
        go_wp2
        go_ret2
        exact HE.out
  · have HEND : Hid (∀ w', Turn (fun _ => False) w w' → Encd w l n (.returned (.tuple #[.slice none 0 0, .int .i64 (allB l n).1])) w') := fun w' ht => ⟨_, rfl, by rw [if_neg h0]; exact ⟨By.nil w', ht, fun k hk => by simp [Value.ownBlock] at hk⟩⟩
    have hne : ((allB l n).1 != 0) = true := by simp [bne, h0]
    unfold allV at HALL
    clear h0
    generalize (allB l n).1 = a at *
    generalize (allB l n).2 = b at *
    go_enter Try.func35, Try.ntmps35
    go_wp2_with fail
    refine HALL.out.mono ?_
    rintro e w1 ⟨rfl, t1⟩
    have HT1 := Lib.hid t1
    clear t1
    go_wp2
    go_ret2
    exact HEND.out _ HT1.out

end Go.Proofs.Ytgchfckmhibeaaa

/-
  Stage 17: the program's fit, Right, Record.
-/
namespace Go.Proofs.Ytgchfckmhibeaaa
open Go.RowKit

set_option maxRecDepth 100000

def fitB17 (s t u : Int) : Bool := decide (1 ≤ s) && decide (s ≤ 4611686018427387904) && decide (t ≤ 1006633020) && decide (u ≤ 4611686018427387904)
theorem fit_any17 (s t u : Int) (w : World) : Calls Try.prog 40 #[.int .u64 s, .int .u64 t, .int .u64 u] w fun e w' => e = .returned (.bool (fitB17 s t u)) ∧ w' = w := by
  by_cases h1 : 1 ≤ s
  · by_cases h2 : s ≤ 4611686018427387904
    · by_cases h3 : t ≤ 1006633020
      · by_cases h4 : u ≤ 4611686018427387904
        · have HB : Hid (fitB17 s t u = true) := by show _ = _; unfold fitB17; rw [decide_eq_true h1, decide_eq_true h2, decide_eq_true h3, decide_eq_true h4]; rfl
          go_enter Try.func40, Try.ntmps40
          go_wp2
          go_ret
          exact ⟨by rw [HB.out]; first | rfl | exact ret_bool (decide_eq_true (by omega)), rfl⟩
        · have HB : Hid (fitB17 s t u = false) := by show _ = _; unfold fitB17; rw [decide_eq_false h4, Bool.and_false]
          have h5 : 4611686018427387904 < u := by omega
          go_enter Try.func40, Try.ntmps40
          go_wp2
          go_ret
          exact ⟨by rw [HB.out]; first | rfl | exact ret_bool (decide_eq_false (by omega)), rfl⟩
      · have HB : Hid (fitB17 s t u = false) := by show _ = _; unfold fitB17; rw [decide_eq_false h3, Bool.and_false, Bool.false_and]
        have h5 : 1006633020 < t := by omega
        go_enter Try.func40, Try.ntmps40
        go_wp2
        go_ret
        exact ⟨by rw [HB.out]; first | rfl | exact ret_bool (decide_eq_false (by omega)), rfl⟩
    · have HB : Hid (fitB17 s t u = false) := by show _ = _; unfold fitB17; rw [decide_eq_false h2, Bool.and_false, Bool.false_and, Bool.false_and]
      have h5 : 4611686018427387904 < s := by omega
      go_enter Try.func40, Try.ntmps40
      go_wp2
      go_ret
      exact ⟨by rw [HB.out]; first | rfl | exact ret_bool (decide_eq_false (by omega)), rfl⟩
  · have HB : Hid (fitB17 s t u = false) := by show _ = _; unfold fitB17; rw [decide_eq_false h1, Bool.false_and, Bool.false_and, Bool.false_and]
    have h5 : s < 1 := by omega
    clear h1
    go_enter Try.func40, Try.ntmps40
    go_wp2
    go_ret
    exact ⟨by rw [HB.out]; first | rfl | exact ret_bool (decide_eq_false (by omega)), rfl⟩

theorem fit_nums17 {s t u : Int} (hs : I64 s) (ht : I64 t) (hu : I64 u) : fitB17 (IntKind.u64.wrap s) (IntKind.u64.wrap t) (IntKind.u64.wrap u) = numsR17 s t u := by
  unfold I64 at hs ht hu
  unfold fitB17 numsR17 in17
  rw [IntKind.wrap_u64, IntKind.wrap_u64, IntKind.wrap_u64, Bool.eq_iff_iff]
  simp only [Bool.and_eq_true, decide_eq_true_iff]
  omega

set_option maxHeartbeats 4000000 in
theorem right_anyP17 (b : B17) (n : Int) (w : World) (hv : RdE EF w b.sl b.f) (hl : b.f.length ≤ 1000) (hfi : b.fits) :
    Calls Try.prog 25 #[bv17 b, .int .i64 n] w fun e w' => e = .returned (.bool (right17 b.p n)) ∧ Turn (fun _ => False) w w' := by
  obtain ⟨wb, hwb⟩ : ∃ wb, wb = w.alloc (.cells (bcells17 b) 50) := ⟨_, rfl⟩
  obtain ⟨q, hq⟩ : ∃ q, q = w.heap.size := ⟨_, rfl⟩
  have HTB : Hid (Turn (fun _ => False) w wb) := by rw [hwb]; exact (Turn.refl _ w).alloc _
  have HBX : Hid (Box wb q 50 (bcells17 b)) := by rw [hwb, hq]; exact Box.new w _ _
  have HWB := Lib.hid hwb; have HQ := Lib.hid hq
  have hk3 : (w.alloc (.cells (bcells17 b) 50)).cell? ⟨w.heap.size, 3, none⟩ = some b.sl := (Box.new w 50 (bcells17 b)).cell 3
  have HALL : Hid (Calls Try.prog 39 #[b.sl, .int .i64 n] wb fun e w' => e = .returned (allV b.f n) ∧ Turn (fun _ => False) wb w') := all_any9 _ _ _ _ (hv.later HTB.out) hl
  have HFT : Hid (∀ W, Calls Try.prog 40 #[.int .u64 (IntKind.u64.wrap b.seq), .int .u64 (IntKind.u64.wrap b.tick), .int .u64 (IntKind.u64.wrap b.bud)] W fun e w' => e = .returned (.bool (numsR17 b.seq b.tick b.bud)) ∧ w' = W) := fun W => by rw [← fit_nums17 hfi.1 hfi.2.1 hfi.2.2]; exact fit_any17 _ _ _ W
  have HR : Hid (right17 b.p n = (decide ((allB b.f n).1 = 0) && numsR17 b.seq b.tick b.bud)) := rfl
  unfold allV at HALL
  obtain ⟨S, hS⟩ : ∃ S, IntKind.u64.wrap b.seq = S := ⟨_, rfl⟩
  obtain ⟨T, hT⟩ : ∃ T, IntKind.u64.wrap b.tick = T := ⟨_, rfl⟩
  obtain ⟨U, hU⟩ : ∃ U, IntKind.u64.wrap b.bud = U := ⟨_, rfl⟩
  rw [hS, hT, hU] at HFT
  generalize right17 b.p n = res at *
  generalize numsR17 b.seq b.tick b.bud = p1 at *
  generalize (allB b.f n).1 = x at *
  generalize (allB b.f n).2 = y at *
  clear hv hl hwb hq hfi
  by_cases h0 : x = 0
  · subst h0
    cases p1
    all_goals (
      have HB := HR.out
      simp at HB
      have HB := Lib.hid HB
      clear HR
      go_enter Try.func25, Try.ntmps25
      go_wp2_with fail
      rw [← HWB.out, ← HQ.out]
      refine HALL.out.mono ?_
      rintro e w1 ⟨rfl, t1⟩
      have hb1 := HBX.out.turn t1 (fun f => f)
      have c0 := hb1.cell 0; have c1 := hb1.cell 1; have c2 := hb1.cell 2
      have HT1 := Lib.hid (HTB.out.trans t1 (fun _ _ f => f))
      clear t1 hb1 HALL hk3
      go_wp2_with fail
      refine (HFT.out _).mono ?_
      rintro e w' ⟨rfl, rfl⟩
      go_wp2
      go_ret
      exact ⟨by rw [HB.out]; rfl, HT1.out⟩)
  · have HB : Hid (res = false) := by show _ = _; rw [HR.out, decide_eq_false h0, Bool.false_and]
    have hx1 : (x == 0) = false := by rw [beq_eq_false_iff_ne]; exact h0
    clear HR h0
    go_enter Try.func25, Try.ntmps25
    go_wp2_with fail
    rw [← HWB.out, ← HQ.out]
    refine HALL.out.mono ?_
    rintro e w1 ⟨rfl, t1⟩
    have HT1 := Lib.hid (HTB.out.trans t1 (fun _ _ f => f))
    clear t1 HALL hk3
    go_wp2
    go_ret
    exact ⟨by rw [HB.out]; rfl, HT1.out⟩

set_option maxHeartbeats 8000000 in
theorem record_any17 (b : B17) (n : Int) (w : World) (hv : RdE EF w b.sl b.f) (hl : b.f.length ≤ 1000) (hfi : b.fits) :
    Calls Try.prog 21 #[bv17 b, .int .i64 n] w fun e w' => RecP17 w (rec17 b.p n) e w' := by
  obtain ⟨wb, hwb⟩ : ∃ wb, wb = w.alloc (.cells (bcells17 b) 50) := ⟨_, rfl⟩
  obtain ⟨q, hq⟩ : ∃ q, q = w.heap.size := ⟨_, rfl⟩
  have HTB : Hid (Turn (fun _ => False) w wb) := by rw [hwb]; exact (Turn.refl _ w).alloc _
  have HBX : Hid (Box wb q 50 (bcells17 b)) := by rw [hwb, hq]; exact Box.new w _ _
  have HWB := Lib.hid hwb; have HQ := Lib.hid hq
  have y0 := (Box.new w 50 (bcells17 b)).cell 0; have y1 := (Box.new w 50 (bcells17 b)).cell 1; have y2 := (Box.new w 50 (bcells17 b)).cell 2; have y3 := (Box.new w 50 (bcells17 b)).cell 3
  have HRT : Hid (Calls Try.prog 25 #[bv17 b, .int .i64 n] wb fun e w' => e = .returned (.bool (right17 b.p n)) ∧ Turn (fun _ => False) wb w') := right_anyP17 b n wb (hv.later HTB.out) hl hfi
  clear hwb hq
  cases hr : right17 b.p n with
  | false =>
    have HS : Hid (rec17 b.p n = ([], 1)) := by show _ = _; unfold rec17; rw [hr]; rfl
    rw [hr] at HRT
    clear hr hv hl hfi
    go_enter Try.func21, Try.ntmps21
    go_wp2_with fail
    rw [← HWB.out]
    refine HRT.out.mono ?_
    rintro e w1 ⟨rfl, t1⟩
    have HT1 := Lib.hid (HTB.out.trans t1 (fun _ _ f => f))
    clear t1 y0 y1 y2 y3
    go_wp2
    go_ret2
    rw [HS.out]
    exact ⟨_, rfl, (By.nil _).rd, HT1.out⟩
  | true =>
    have HS : Hid (rec17 b.p n = (fr (pay17 b.p n.toNat), 0)) := by show _ = _; unfold rec17; rw [hr]; rfl
    rw [hr] at HRT
    have hr2 := hr
    unfold right17 at hr2
    rw [Bool.and_eq_true, decide_eq_true_iff] at hr2
    obtain ⟨s, t, u, e1, e2, e3, e4, -, -⟩ := nums_of17 hr2.2
    have HBL : Hid ((batchB b.f n.toNat).length ≤ 700000) := by show _ ≤ _; have h : (batchB b.f n.toNat).length ≤ 100000 := batch_len9 hr2.1; omega
    have HEN : Hid (∀ W, Turn (fun _ => False) wb W → Calls Try.prog 35 #[b.sl, .int .i64 n] W fun e w' => ∃ v, e = .returned (.tuple #[v, .int .i64 0]) ∧ Made W w' v (batchB b.f n.toNat)) := fun W hW => (encode_any9' _ _ n W ((hv.later HTB.out).later hW) hl).mono (by
      rintro e w' ⟨v, rfl, hmm⟩
      have h0 : (allB b.f n).1 = 0 := hr2.1
      rw [h0, if_pos rfl] at hmm
      exact ⟨v, by rw [h0], hmm⟩)
    have HPY : Hid (pay17 b.p n.toNat = enc s ++ enc t ++ enc u ++ batchB b.f n.toNat) := by
      show enc b.seq.toNat ++ enc b.tick.toNat ++ enc b.bud.toNat ++ _ = _
      rw [show b.seq = s from e1, show b.tick = t from e2, show b.bud = u from e3]
      rfl
    have HLE : Hid ((enc s).length ≤ 20 ∧ (enc t).length ≤ 20 ∧ (enc u).length ≤ 20) := ⟨by have := enc_len s; omega, by have := enc_len t; omega, by have := enc_len u; omega⟩
    have hw1 : IntKind.u64.wrap (s : Int) = (s : Int) := by rw [IntKind.wrap_u64]; omega
    have hw2 : IntKind.u64.wrap (t : Int) = (t : Int) := by rw [IntKind.wrap_u64]; omega
    have hw3 : IntKind.u64.wrap (u : Int) = (u : Int) := by rw [IntKind.wrap_u64]; omega
    have HN1 : Hid (s < 18446744073709551616) := by show _ < _; omega
    have HN2 : Hid (t < 18446744073709551616) := by show _ < _; omega
    have HN3 : Hid (u < 18446744073709551616) := by show _ < _; omega
    have HC : Hid (∀ W, Turn (fun _ => False) wb W → W.cell? ⟨q, 0, none⟩ = some (.int .i64 (s : Int)) ∧ W.cell? ⟨q, 1, none⟩ = some (.int .i64 (t : Int)) ∧ W.cell? ⟨q, 2, none⟩ = some (.int .i64 (u : Int)) ∧ W.cell? ⟨q, 3, none⟩ = some b.sl) := fun W hW => by
      have hx := HBX.out.turn hW (fun f => f)
      exact ⟨by rw [← show b.seq = s from e1]; exact hx.cell 0, by rw [← show b.tick = t from e2]; exact hx.cell 1, by rw [← show b.bud = u from e3]; exact hx.cell 2, hx.cell 3⟩
    clear hr hr2 e1 e2 e3 e4 hv hl hfi
    generalize batchB b.f n.toNat = X at *
    go_enter Try.func21, Try.ntmps21
    go_wp2_with fail
    rw [← HWB.out]
    refine HRT.out.mono ?_
    rintro e w1 ⟨rfl, t1⟩
    rw [← HQ.out]
    obtain ⟨z0, z1, z2, z3⟩ := HC.out w1 t1
    have HTQ := Lib.hid t1
    have HE1 := Lib.hid (HEN.out w1 t1)
    clear t1 y0 y1 y2 y3 HRT z0 z1 z2
    go_wp2_with fail
    refine HE1.out.mono ?_
    rintro e w2 ⟨v2, rfl, hm2⟩
    obtain ⟨A2, c2, rfl⟩ := hm2.1.shape
    have HM2 := Lib.hid hm2.1
    have HT2 := Lib.hid (HTQ.out.trans hm2.2.1 (fun _ _ f => f))
    have HM2N : Hid (∀ k, (Value.slice A2 X.length c2).ownBlock = some k → k < w2.heap.size) := fun k hk => hm2.1.lt hk
    clear hm2 z3 HE1 HEN
    obtain ⟨P, hP⟩ : ∃ P, P = w2.heap.size := ⟨_, rfl⟩
    have HW0 : Hid (Wt wb P (w2.alloc (.cells #[.slice none 0 0] 80)) []) := by rw [hP]; exact Wt.new wb HT2.out
    have HWZ : Hid (Wt w2 P (w2.alloc (.cells #[.slice none 0 0] 80)) []) := by rw [hP]; exact Wt.new w2 (Turn.refl _ _)
    go_wp2_with fail
    rw [← hP]
    clear hP
    generalize w2.alloc (.cells #[.slice none 0 0] 80) = w3 at *
    refine drawn_region (fun W => Turn (fun _ => False) wb W) [11] (by kernel_rfl) ?_
    have hS0 : Turn (fun _ => False) wb (World.drew w3) := HW0.out.turn.drew
    have HWD : Hid (Wt w2 P (World.drew w3) []) := HWZ.out.later (Turn.refl _ w3).drew
    generalize World.drew w3 = wd at *
    clear HW0 HWZ
    refine drawn_take 0 20 (.pointer (some ⟨q, 0, none⟩)) rfl rfl (by kernel_rfl) (by kernel_rfl) (by kernel_rfl) (by kernel_rfl) (fun _ _ _ h => h) (by rfl) (by assumption) (by intro w hSw; obtain hS1 := hSw; go_simp) ?_
    try simp only [List.setIfInBounds_toArray, List.set_cons_zero, List.set_cons_succ]
    refine drawn_take 1 21 (.int .i64 (s : Int)) rfl rfl (by kernel_rfl) (by kernel_rfl) (by kernel_rfl) (by kernel_rfl) (fun _ _ _ h => h) (by rfl) (by assumption) (by intro w hSw; obtain ⟨b0, -, -, -⟩ := HC.out _ hSw; clear hSw; go_simp) ?_
    try simp only [List.setIfInBounds_toArray, List.set_cons_zero, List.set_cons_succ]
    refine drawn_take 2 22 (.int .u64 (s : Int)) rfl rfl (by kernel_rfl) (by kernel_rfl) (by kernel_rfl) (by kernel_rfl) (fun _ _ _ h => h) (by rfl) (by assumption) (by intro w hSw; obtain hS1 := hSw; go_simp) ?_
    try simp only [List.setIfInBounds_toArray, List.set_cons_zero, List.set_cons_succ]
    refine drawn_take 4 24 (.pointer (some ⟨q, 1, none⟩)) rfl rfl (by kernel_rfl) (by kernel_rfl) (by kernel_rfl) (by kernel_rfl) (fun _ _ _ h => h) (by rfl) (by assumption) (by intro w hSw; obtain hS1 := hSw; go_simp) ?_
    try simp only [List.setIfInBounds_toArray, List.set_cons_zero, List.set_cons_succ]
    refine drawn_take 5 25 (.int .i64 (t : Int)) rfl rfl (by kernel_rfl) (by kernel_rfl) (by kernel_rfl) (by kernel_rfl) (fun _ _ _ h => h) (by rfl) (by assumption) (by intro w hSw; obtain ⟨-, b0, -, -⟩ := HC.out _ hSw; clear hSw; go_simp) ?_
    try simp only [List.setIfInBounds_toArray, List.set_cons_zero, List.set_cons_succ]
    refine drawn_take 6 26 (.int .u64 (t : Int)) rfl rfl (by kernel_rfl) (by kernel_rfl) (by kernel_rfl) (by kernel_rfl) (fun _ _ _ h => h) (by rfl) (by assumption) (by intro w hSw; obtain hS1 := hSw; go_simp) ?_
    try simp only [List.setIfInBounds_toArray, List.set_cons_zero, List.set_cons_succ]
    refine drawn_take 8 28 (.pointer (some ⟨q, 2, none⟩)) rfl rfl (by kernel_rfl) (by kernel_rfl) (by kernel_rfl) (by kernel_rfl) (fun _ _ _ h => h) (by rfl) (by assumption) (by intro w hSw; obtain hS1 := hSw; go_simp) ?_
    try simp only [List.setIfInBounds_toArray, List.set_cons_zero, List.set_cons_succ]
    refine drawn_take 9 29 (.int .i64 (u : Int)) rfl rfl (by kernel_rfl) (by kernel_rfl) (by kernel_rfl) (by kernel_rfl) (fun _ _ _ h => h) (by rfl) (by assumption) (by intro w hSw; obtain ⟨-, -, b0, -⟩ := HC.out _ hSw; clear hSw; go_simp) ?_
    try simp only [List.setIfInBounds_toArray, List.set_cons_zero, List.set_cons_succ]
    refine drawn_take 10 30 (.int .u64 (u : Int)) rfl rfl (by kernel_rfl) (by kernel_rfl) (by kernel_rfl) (by kernel_rfl) (fun _ _ _ h => h) (by rfl) (by assumption) (by intro w hSw; obtain hS1 := hSw; go_simp) ?_
    try simp only [List.setIfInBounds_toArray, List.set_cons_zero, List.set_cons_succ]
    refine drawn_any [3] (by kernel_rfl) (by simp) ?_
    refine drawn_cons rfl (fun K hK => ?_) drawn_nil
    go_simp
    refine (wt_num HWD.out s HN1.out (by simp)).mono ?_
    rintro e w4 ⟨rfl, h4, -⟩
    rw [List.nil_append] at h4
    have HW4 := Lib.hid h4
    have hS4 : Turn (fun _ => False) wb w4 := HT2.out.trans h4.turn (fun _ _ f => f)
    refine hK.out _ _ _ hS4 ?_
    clear hK K hS0 HWD h4
    try simp only [List.setIfInBounds_toArray, List.set_cons_zero, List.set_cons_succ]
    refine drawn_any [7] (by kernel_rfl) (by simp) ?_
    refine drawn_cons rfl (fun K hK => ?_) drawn_nil
    go_simp
    refine (wt_num HW4.out t HN2.out (by have := HLE.out; omega)).mono ?_
    rintro e w5 ⟨rfl, h5, -⟩
    have HW5 := Lib.hid h5
    have hS5 : Turn (fun _ => False) wb w5 := HT2.out.trans h5.turn (fun _ _ f => f)
    refine hK.out _ _ _ hS5 ?_
    clear hK K hS4 HW4 h5
    try simp only [List.setIfInBounds_toArray, List.set_cons_zero, List.set_cons_succ]
    refine drawn_last (z := 11) rfl (by kernel_rfl) (by kernel_rfl) (by kernel_rfl) (fun K hK => ?_)
    go_simp
    refine (wt_num HW5.out u HN3.out (by rw [List.length_append]; have := HLE.out; omega)).mono ?_
    rintro e w6 ⟨rfl, h6, -⟩
    have HW6 := Lib.hid h6
    refine hK.out _ _ ?_
    clear hK K hS5 HW5 h6
    try simp only [List.setIfInBounds_toArray, List.set_cons_zero, List.set_cons_succ]
    go_wp2_with fail
    refine (wt_bytes HW6.out (by rw [List.length_append, List.length_append]; have := HLE.out; omega)).mono ?_
    rintro e w7 ⟨v7, rfl, hm7⟩
    obtain ⟨acc, hacc⟩ : ∃ acc, acc = enc s ++ enc t ++ enc u := ⟨_, rfl⟩
    rw [← hacc] at hm7 HPY
    have HAL : Hid (acc.length ≤ 60) := by show _ ≤ _; rw [hacc, List.length_append, List.length_append]; have := HLE.out; omega
    clear hacc
    obtain ⟨A7, c7, rfl⟩ := hm7.1.shape
    have HM7 := Lib.hid hm7
    have HX7 : Hid (By w7 (.slice A2 X.length c2) X) := HM2.out.turn hm7.2.1 (fun _ _ f => f)
    have HLC : Hid (acc.length + X.length ≤ 1000000000) := by show _ ≤ _; have := HAL.out; have := HBL.out; omega
    clear hm7
    go_wp2_with (at_builtin; go_must (refine wpList_app _ rfl _ _ _ rfl _ acc rfl HM7.out.1 _ rfl X HX7.out.yields HLC.out ?_))
    intro A8 n8 c8 w8 hby hg ha
    have HM8 := Lib.hid (made_more17 HM7.out (Turn.refl _ _) hby hg ha)
    clear hby hg ha HX7 HM2
    have HPT := Lib.hid (frame_put _ _ w8 HM8.out.1.rd (by rw [List.length_append]; have := HAL.out; have := HBL.out; omega))
    go_wp2_with fail
    refine HPT.out.mono ?_
    rintro e w9 ⟨v9, rfl, hm9⟩
    have HM9 := Lib.hid hm9
    clear hm9 HPT
    go_wp2
    go_ret2
    rw [HS.out, HPY.out]
    exact ⟨_, rfl, HM9.out.1.rd, ((HTB.out.trans HT2.out (fun _ _ f => f)).trans HM8.out.2.1 (fun _ _ f => f)).trans HM9.out.2.1 (fun _ _ f => f)⟩

end Go.Proofs.Ytgchfckmhibeaaa

/-
  A reader of pack (the program's) by its state: the bytes that are left, the fault. For every stage whose code reads bytes so.
-/
namespace Go.Proofs.Ytgchfckmhibeaaa
open Go.RowKit

theorem rdF_zero : ∀ (k i acc : Nat) (l : List UInt8), (rdF k i acc l).2.1 ≠ 0 → (rdF k i acc l).1 = 0
  | 0, _, _, _, _ => rfl
  | _ + 1, _, _, [], _ => rfl
  | k + 1, i, acc, b :: l, h => by
    unfold rdF at h ⊢
    split
    · rename_i hb
      rw [if_pos hb] at h
      exact rdF_zero k _ _ l h
    · rename_i hb
      rw [if_neg hb] at h
      split
      · rfl
      · rename_i hc
        rw [if_neg hc] at h
        exact absurd rfl h
theorem rdNum_zero {l : List UInt8} (h : (rdNum l).2.1 ≠ 0) : (rdNum l).1 = 0 := rdF_zero 10 0 0 l h
theorem rdCount_zero {most : Nat} {l : List UInt8} (h : (rdCount most l).2.1 ≠ 0) : (rdCount most l).1 = 0 := by
  unfold rdCount at h ⊢
  split
  · rfl
  · rename_i h1
    split
    · rfl
    · rename_i h2
      rw [if_neg h1, if_neg h2] at h
      exact absurd rfl h
theorem rdText_zero {most : Nat} {l : List UInt8} (h : (rdText most l).2.1 ≠ 0) : (rdText most l).1 = [] := by
  unfold rdText at h ⊢
  generalize rdCount most l = r at *
  obtain ⟨n, f, m⟩ := r
  simp only at h ⊢
  split
  · rfl
  · rename_i h1
    split
    · rfl
    · rename_i h2
      rw [if_neg h1, if_neg h2] at h
      exact absurd rfl h

/-- What is read in a state, and the state behind it. -/
def gNum (s : List UInt8 × Nat) : Nat := if s.2 = 0 then (rdNum s.1).1 else 0
def gNum' (s : List UInt8 × Nat) : List UInt8 × Nat := if s.2 = 0 then (s.1.drop (rdNum s.1).2.2, (rdNum s.1).2.1) else s
def gInt (s : List UInt8 × Nat) : Int := if s.2 = 0 then zag (rdNum s.1).1 else 0
def gText (most : Nat) (s : List UInt8 × Nat) : List UInt8 := if s.2 = 0 then (rdText most s.1).1 else []
def gText' (most : Nat) (s : List UInt8 × Nat) : List UInt8 × Nat := if s.2 = 0 then (s.1.drop (rdText most s.1).2.2, (rdText most s.1).2.1) else s
def gCount (most : Nat) (s : List UInt8 × Nat) : Nat := if s.2 = 0 then (rdCount most s.1).1 else 0
def gCount' (most : Nat) (s : List UInt8 × Nat) : List UInt8 × Nat := if s.2 = 0 then (s.1.drop (rdCount most s.1).2.2, (rdCount most s.1).2.1) else s

/-- The program's reader in a state, new since a world (behind a fault what is left is of no account). -/
def PR (w : World) (p : Nat) (wr : World) (s : List UInt8 × Nat) : Prop :=
  w.heap.size ≤ p ∧ (∃ v l k, Rdr wr p v l k s.2 ∧ (s.2 = 0 → l.drop k = s.1) ∧ ∀ g, v.ownBlock = some g → w.heap.size ≤ g) ∧ Turn (fun _ => False) w wr
section
variable {w wr : World} {p : Nat} {s : List UInt8 × Nat}
theorem PR.turn (h : PR w p wr s) : Turn (fun _ => False) w wr := h.2.2
theorem PR.later {w' : World} (h : PR w p wr s) (ht : Turn (fun _ => False) wr w') : PR w p w' s := by
  obtain ⟨h0, ⟨v, l, k, h1, h2, h3⟩, h4⟩ := h
  exact ⟨h0, ⟨v, l, k, h1.turn ht (fun f => f) (fun _ _ f => f), h2, h3⟩, h4.trans ht (fun _ _ f => f)⟩
theorem PR.box (h : PR w p wr s) : ∃ cs, Box wr p 117 cs := by
  obtain ⟨_, ⟨v, l, k, h1, _⟩, _⟩ := h
  exact ⟨_, h1.1⟩
/-- A reader is kept where boxes of other types turn. -/
theorem PR.keep {S : Nat → Prop} {w' : World} (h : PR w p wr s) (ht : Turn S wr w') (h1 : ∀ g, S g → w.heap.size ≤ g) (h2 : ∀ g, S g → ∃ t cs, t ≠ 117 ∧ t ≠ 5 ∧ Box wr g t cs) : PR w p w' s := by
  obtain ⟨h0, ⟨v, l, k, g1, g2, g3⟩, h4⟩ := h
  refine ⟨h0, ⟨v, l, k, g1.turn ht (fun e => ?_) (fun g hg e => ?_), g2, g3⟩, h4.trans ht (fun g hg e => by have := h1 g e; omega)⟩
  · obtain ⟨t, cs, n1, _, hb⟩ := h2 p e
    have e2 := g1.1.symm.trans hb
    injection e2 with e2
    injection e2 with _ e3
    exact n1 e3.symm
  · obtain ⟨t, cs, _, n2, hb⟩ := h2 g e
    exact g1.2.1.ne_box hb (fun e => n2 e.symm) hg
theorem PR.step {none x : Value} {f1 d : Nat} {v : Value} {l : List UInt8} {k : Nat} {e : Ending} {w' : World} (h0 : w.heap.size ≤ p) (h2 : s.2 = 0 → l.drop k = s.1) (h3 : ∀ g, v.ownBlock = some g → w.heap.size ≤ g) (h4 : Turn (fun _ => False) w wr)
    (hg : Got p v l k s.2 wr none x (k + d) f1 e w') (hx : f1 ≠ 0 → x = none) :
    e = .returned (if s.2 = 0 then x else none) ∧ PR w p w' (if s.2 = 0 then (s.1.drop d, f1) else s) ∧ Turn (fun g => g = p) wr w' := by
  by_cases hs : s.2 = 0
  · rw [if_pos hs, if_pos hs]
    have ht := hg.1 hs
    by_cases hf : f1 = 0
    · obtain ⟨g1, g2⟩ := ht.1 hf
      refine ⟨g1, ⟨h0, ⟨v, l, k + d, ?_, fun _ => ?_, h3⟩, h4.trans g2.2 (fun g hg e => by omega)⟩, g2.2⟩
      · rw [hf]
        exact g2.1
      · show l.drop (k + d) = s.1.drop d
        rw [← h2 hs, List.drop_drop]
    · obtain ⟨g1, g2⟩ := ht.2 hf
      refine ⟨by rw [g1, hx hf], ⟨h0, ⟨v, l, k, g2.1, fun e => absurd e hf, h3⟩, h4.trans g2.2 (fun g hg e => by omega)⟩, g2.2⟩
  · rw [if_neg hs, if_neg hs]
    obtain ⟨g1, g2⟩ := hg.2 hs
    exact ⟨g1, ⟨h0, ⟨v, l, k, g2.1, fun e => absurd e hs, h3⟩, h4.trans g2.2 (fun g hg e => by omega)⟩, g2.2⟩
theorem pr_num (h : PR w p wr s) : Calls Try.prog 45 #[.pointer (some ⟨p, 0, none⟩)] wr fun e w' => e = .returned (.int .u64 (gNum s : Int)) ∧ PR w p w' (gNum' s) ∧ Turn (fun g => g = p) wr w' := by
  obtain ⟨h0, ⟨v, l, k, h1, h2, h3⟩, h4⟩ := h
  refine (rnum p v l k s.2 wr h1).mono fun e w' hg => ?_
  by_cases hs : s.2 = 0
  · rw [h2 hs] at hg
    obtain ⟨g1, g2, g3⟩ := PR.step h0 h2 h3 h4 hg (fun hf => by rw [rdNum_zero hf]; rfl)
    refine ⟨?_, g2, g3⟩
    rw [g1]
    unfold gNum
    rw [if_pos hs, if_pos hs]
  · obtain ⟨g1, g2⟩ := hg.2 hs
    refine ⟨by rw [g1]; unfold gNum; rw [if_neg hs]; rfl, ?_, g2.2⟩
    unfold gNum'
    rw [if_neg hs]
    exact ⟨h0, ⟨v, l, k, g2.1, h2, h3⟩, h4.trans g2.2 (fun g hg e => by omega)⟩
theorem pr_int (h : PR w p wr s) : Calls Try.prog 99 #[.pointer (some ⟨p, 0, none⟩)] wr fun e w' => e = .returned (.int .i64 (gInt s)) ∧ PR w p w' (gNum' s) ∧ Turn (fun g => g = p) wr w' := by
  obtain ⟨h0, ⟨v, l, k, h1, h2, h3⟩, h4⟩ := h
  refine (rint p v l k s.2 wr h1).mono fun e w' hg => ?_
  unfold RInt at hg
  by_cases hs : s.2 = 0
  · rw [h2 hs] at hg
    obtain ⟨g1, g2, g3⟩ := PR.step h0 h2 h3 h4 hg (fun hf => by rw [rdNum_zero hf, zag_zero])
    refine ⟨?_, g2, g3⟩
    rw [g1]
    unfold gInt
    rw [if_pos hs, if_pos hs]
  · obtain ⟨g1, g2⟩ := hg.2 hs
    refine ⟨by rw [g1]; unfold gInt; rw [if_neg hs], ?_, g2.2⟩
    unfold gNum'
    rw [if_neg hs]
    exact ⟨h0, ⟨v, l, k, g2.1, h2, h3⟩, h4.trans g2.2 (fun g hg e => by omega)⟩
theorem pr_text (most : Nat) (hm : most ≤ 1000000) (h : PR w p wr s) : Calls Try.prog 98 #[.pointer (some ⟨p, 0, none⟩), .int .i64 most] wr fun e w' => e = .returned (.string ⟨(gText most s).toArray⟩) ∧ PR w p w' (gText' most s) ∧ Turn (fun g => g = p) wr w' := by
  obtain ⟨h0, ⟨v, l, k, h1, h2, h3⟩, h4⟩ := h
  refine (rtext p v l k s.2 wr most hm h1).mono fun e w' hg => ?_
  by_cases hs : s.2 = 0
  · rw [h2 hs] at hg
    obtain ⟨g1, g2, g3⟩ := PR.step h0 h2 h3 h4 hg (fun hf => by rw [rdText_zero hf])
    refine ⟨?_, g2, g3⟩
    rw [g1]
    unfold gText
    rw [if_pos hs, if_pos hs]
  · obtain ⟨g1, g2⟩ := hg.2 hs
    refine ⟨by rw [g1]; unfold gText; rw [if_neg hs], ?_, g2.2⟩
    unfold gText'
    rw [if_neg hs]
    exact ⟨h0, ⟨v, l, k, g2.1, h2, h3⟩, h4.trans g2.2 (fun g hg e => by omega)⟩
theorem pr_count (most : Nat) (hm : most ≤ 1000000000) (h : PR w p wr s) : Calls Try.prog 85 #[.pointer (some ⟨p, 0, none⟩), .int .i64 most] wr fun e w' => e = .returned (.int .i64 (gCount most s : Int)) ∧ PR w p w' (gCount' most s) ∧ Turn (fun g => g = p) wr w' := by
  obtain ⟨h0, ⟨v, l, k, h1, h2, h3⟩, h4⟩ := h
  refine (rcount p v l k s.2 wr most hm h1).mono fun e w' hg => ?_
  by_cases hs : s.2 = 0
  · rw [h2 hs] at hg
    obtain ⟨g1, g2, g3⟩ := PR.step h0 h2 h3 h4 hg (fun hf => by rw [rdCount_zero hf]; rfl)
    refine ⟨?_, g2, g3⟩
    rw [g1]
    unfold gCount
    rw [if_pos hs, if_pos hs]
  · obtain ⟨g1, g2⟩ := hg.2 hs
    refine ⟨by rw [g1]; unfold gCount; rw [if_neg hs]; rfl, ?_, g2.2⟩
    unfold gCount'
    rw [if_neg hs]
    exact ⟨h0, ⟨v, l, k, g2.1, h2, h3⟩, h4.trans g2.2 (fun g hg e => by omega)⟩
theorem pr_fault (h : PR w p wr s) : Calls Try.prog 46 #[.pointer (some ⟨p, 0, none⟩)] wr fun e w' => e = .returned (.int .i64 (s.2 : Int)) ∧ wr = w' := by
  obtain ⟨h0, ⟨v, l, k, h1, h2, h3⟩, h4⟩ := h
  exact fault_any p v l k s.2 wr h1
/-- Where nothing is wrong: how many bytes are left. -/
theorem pr_left (h : PR w p wr s) (h0 : s.2 = 0) : Calls Try.prog 48 #[.pointer (some ⟨p, 0, none⟩)] wr fun e w' => e = .returned (.int .i64 (s.1.length : Int)) ∧ ∃ n, w' = wr.drewN n := by
  obtain ⟨_, ⟨v, l, k, h1, h2, h3⟩, h4⟩ := h
  rw [← h2 h0, List.length_drop]
  exact left_any p v l k s.2 wr h1
theorem pr_new (v : Value) (l : List UInt8) (h : Turn (fun _ => False) w wr) (hv : Rd wr v l) (hl : l.length ≤ 1000000) : Calls Try.prog 44 #[v] wr fun e w' => ∃ p, e = .returned (.pointer (some ⟨p, 0, none⟩)) ∧ PR w p w' (l, 0) ∧ wr.heap.size ≤ p :=
  (new_reader v l wr hv hl).mono fun _ _ ⟨p, u, he, h1, h2, h3, h4⟩ => ⟨p, he, ⟨Nat.le_trans h.size h3, ⟨u, l, 0, h1, fun _ => rfl, fun g hg => Nat.le_trans h.size (h4 g hg)⟩, h.trans h2 (fun _ _ f => f)⟩, h3⟩
end

end Go.Proofs.Ytgchfckmhibeaaa

/-
  Stage 9: the program's readFact.
-/
namespace Go.Proofs.Ytgchfckmhibeaaa
open Go.RowKit Go.ChangeShapes Go.WideShapes Go.Deep

set_option maxRecDepth 100000

section
variable {w wr : World} {p : Nat} {s : RS9}
theorem ps_num (h : PR w p wr s) : Calls Try.prog 45 #[.pointer (some ⟨p, 0, none⟩)] wr fun e w' => e = .returned (.int .u64 (sNum s : Int)) ∧ PR w p w' (sNum' s) ∧ Turn (fun g => g = p) wr w' := pr_num h
theorem ps_int (h : PR w p wr s) : Calls Try.prog 99 #[.pointer (some ⟨p, 0, none⟩)] wr fun e w' => e = .returned (.int .i64 (sInt s)) ∧ PR w p w' (sNum' s) ∧ Turn (fun g => g = p) wr w' := pr_int h
theorem ps_text (h : PR w p wr s) : Calls Try.prog 98 #[.pointer (some ⟨p, 0, none⟩), .int .i64 16] wr fun e w' => e = .returned (.string ⟨(sText s).toArray⟩) ∧ PR w p w' (sText' s) ∧ Turn (fun g => g = p) wr w' := pr_text 16 (by omega) h
theorem ps_count (h : PR w p wr s) : Calls Try.prog 85 #[.pointer (some ⟨p, 0, none⟩), .int .i64 50] wr fun e w' => e = .returned (.int .i64 (sCount s : Int)) ∧ PR w p w' (sCount' s) ∧ Turn (fun g => g = p) wr w' := pr_count 50 (by omega) h
end

/-- A fact as the program reads it, what is wrong, and the state behind it. -/
def zeroK : K9 := ⟨0, [], [], [], []⟩
def zeroF : F9 := ⟨zeroK, 0⟩
def factR (N : Nat) (s : RS9) : F9 × Nat × RS9 := if 16777216 < sNum s then (zeroF, 2, sNum' s) else ((oneF N (sNum s) (sNum' s)).1, (oneF N (sNum s) (sNum' s)).2.2, (oneF N (sNum s) (sNum' s)).2)

section
variable {w wr W W2 : World} {p b r : Nat} {x8 : Value} {out : List F9} {k : K9} {v : Int} {s s2 : RS9}
theorem PR.off (h : PR w p W s) {t : TypeId} {cs : Array Value} (hb : Box W b t cs) (hn : t ≠ 117) : b ≠ p := fun e => by
  obtain ⟨cs2, h2⟩ := h.box
  subst e
  have e2 := h2.symm.trans hb
  injection e2 with e2
  injection e2 with _ e3
  exact hn e3.symm
theorem PR.row (h : PR w p W s) (hn : NewE EF 76 w W x8 out) : ∀ k, x8.ownBlock = some k → k ≠ p := fun k hk e => by
  obtain ⟨cs2, h2⟩ := h.box
  exact hn.own.not_box h2 (by decide) (e ▸ hk)
end
structure InQ (w wr : World) (p b r : Nat) (k : K9) (v : Int) (s : RS9) (W : World) : Prop where
  box : Box W b 76 (cells9 k v)
  res : Box W r 76 (cells9 zeroK 0)
  pr : PR w p W s
  turn : Turn (fun g => g = p) wr W
  nb : wr.heap.size ≤ b
  nr : wr.heap.size ≤ r
  ne : r ≠ b
  lo : w.heap.size ≤ wr.heap.size
section
variable {w wr W W2 : World} {p b r : Nat} {k : K9} {v : Int} {s s2 : RS9}
theorem InQ.read (h : InQ w wr p b r k v s W) (hx : PR w p W2 s2) (ht : Turn (fun g => g = p) W W2) : InQ w wr p b r k v s2 W2 :=
  ⟨h.box.turn ht (h.pr.off h.box (by decide)), h.res.turn ht (h.pr.off h.res (by decide)), hx, h.turn.trans ht (fun _ _ e => e), h.nb, h.nr, h.ne, h.lo⟩
theorem InQ.set (h : InQ w wr p b r k v s W) (i : Nat) (u : Value) {k2 : K9} {v2 : Int} (hc : (cells9 k v).setIfInBounds i u = cells9 k2 v2) : InQ w wr p b r k2 v2 s (W.setCell ⟨b, i, none⟩ u) := by
  have ht : Turn (fun g => g = b) W (W.setCell ⟨b, i, none⟩ u) := Turn.setCell (S := fun g => g = b) (p := ⟨b, i, none⟩) (Turn.refl _ W) (fun _ => rfl) u
  refine ⟨?_, h.res.turn ht h.ne, h.pr.keep ht (fun g e => by rw [e]; have := h.nb; have := h.lo; omega) (fun g e => ⟨76, cells9 k v, by decide, by decide, e ▸ h.box⟩), h.turn.trans ht (fun k hk e => by have := h.nb; omega), h.nb, h.nr, h.ne, h.lo⟩
  rw [← hc]
  exact h.box.set i u
/-- The result laid into its cell. -/
theorem InQ.out (h : InQ w wr p b r k v s W) (k2 : K9) (v2 : Int) : PR w p (W.setCells r 0 (cells9 k2 v2).toList) s ∧ Turn (fun g => g = p) wr (W.setCells r 0 (cells9 k2 v2).toList) ∧ Box (W.setCells r 0 (cells9 k2 v2).toList) r 76 (cells9 k2 v2) := by
  have ht := turn_setCells (S := fun g => g = r) rfl (cells9 k2 v2).toList 0 W
  exact ⟨h.pr.keep ht (fun g e => by rw [e]; have := h.nr; have := h.lo; omega) (fun g e => ⟨76, cells9 zeroK 0, by decide, by decide, e ▸ h.res⟩), h.turn.trans ht (fun k hk e => by have := h.nr; omega), h.res.all _ rfl⟩
end

/-- Behind readFact. -/
def FactRead (w : World) (p : Nat) (wr : World) (N : Nat) (s : RS9) (e : Ending) (w' : World) : Prop := e = .returned (.tuple #[fv9 (factR N s).1, .int .i64 ((factR N s).2.1 : Int)]) ∧ PR w p w' (factR N s).2.2 ∧ Turn (fun g => g = p) wr w'

set_option maxHeartbeats 8000000 in
theorem readFact_any9 {w wa : World} {p : Nat} {s : RS9} (N : Nat) (hN : N ≤ 4) (h : PR w p wa s) : Calls Try.prog 88 #[.pointer (some ⟨p, 0, none⟩), .int .i64 (N : Int)] wa fun e w' => FactRead w p wa N s e w' := by
  obtain ⟨w1, hw1⟩ : ∃ w1, w1 = (wa.alloc (.cells #[.int .i64 0, .string ⟨#[]⟩, .string ⟨#[]⟩, .string ⟨#[]⟩, .string ⟨#[]⟩, .int .i64 0] 76)).alloc (.cells #[.int .i64 0, .string ⟨#[]⟩, .string ⟨#[]⟩, .string ⟨#[]⟩, .string ⟨#[]⟩, .int .i64 0] 76) := ⟨_, rfl⟩
  have hin : InQ w wa p (wa.heap.size + 1) wa.heap.size zeroK 0 s w1 := by
    have t1 := ((Turn.refl (fun _ => False) wa).alloc (.cells #[.int .i64 0, .string ⟨#[]⟩, .string ⟨#[]⟩, .string ⟨#[]⟩, .string ⟨#[]⟩, .int .i64 0] 76)).alloc (.cells #[.int .i64 0, .string ⟨#[]⟩, .string ⟨#[]⟩, .string ⟨#[]⟩, .string ⟨#[]⟩, .int .i64 0] 76)
    rw [← hw1] at t1
    refine ⟨?_, ?_, h.later t1, t1.mono (fun _ _ f => f.elim), Nat.le_succ _, Nat.le_refl _, Nat.ne_of_lt (Nat.lt_succ_self _), h.turn.size⟩
    · have hb := Box.new (wa.alloc (.cells #[.int .i64 0, .string ⟨#[]⟩, .string ⟨#[]⟩, .string ⟨#[]⟩, .string ⟨#[]⟩, .int .i64 0] 76)) 76 #[.int .i64 0, .string ⟨#[]⟩, .string ⟨#[]⟩, .string ⟨#[]⟩, .string ⟨#[]⟩, .int .i64 0]
      rw [World.size_alloc] at hb
      rw [hw1]
      exact hb
    · rw [hw1]
      exact (Box.new wa 76 #[.int .i64 0, .string ⟨#[]⟩, .string ⟨#[]⟩, .string ⟨#[]⟩, .string ⟨#[]⟩, .int .i64 0]).alloc _
  obtain ⟨b, hb⟩ : ∃ b, b = wa.heap.size + 1 := ⟨_, rfl⟩
  obtain ⟨r, hr⟩ : ∃ r, r = wa.heap.size := ⟨_, rfl⟩
  rw [← hb, ← hr] at hin
  have HIN := Lib.hid hin
  have HSI : Hid ((Try.prog.info? 76).map (·.size) = some 6) := by show _ = _; kernel_rfl
  have HW := Lib.hid hw1
  have HB := Lib.hid hb
  have HR := Lib.hid hr
  clear hin hw1 hb hr h
  go_enter Try.func88, Try.ntmps88
  go_wp2_with fail
  rw [← HW.out, ← HB.out, ← HR.out]
  refine (ps_num HIN.out.pr).mono ?_
  rintro e w2 ⟨rfl, h2, t2⟩
  have H2 := Lib.hid (HIN.out.read h2 t2)
  clear h2 t2 HIN HW HB HR
  by_cases hbig : 16777216 < sNum s
  · have hbi : (16777216 : Int) < (sNum s : Nat) := by omega
    have HE : Hid (factR N s = (zeroF, 2, sNum' s)) := if_pos hbig
    have HOUT := Lib.hid (H2.out.out zeroK 0)
    have c0 : w2.cell? ⟨b, 0, none⟩ = some (.int .i64 0) := H2.out.box.cell 0
    have c1 : w2.cell? ⟨b, 1, none⟩ = some (.string ⟨#[]⟩) := H2.out.box.cell 1
    have c2 : w2.cell? ⟨b, 2, none⟩ = some (.string ⟨#[]⟩) := H2.out.box.cell 2
    have c3 : w2.cell? ⟨b, 3, none⟩ = some (.string ⟨#[]⟩) := H2.out.box.cell 3
    have c4 : w2.cell? ⟨b, 4, none⟩ = some (.string ⟨#[]⟩) := H2.out.box.cell 4
    have c5 : w2.cell? ⟨b, 5, none⟩ = some (.int .i64 0) := H2.out.box.cell 5
    have d0 : w2.cell? ⟨r, 0, none⟩ = some (.int .i64 0) := H2.out.res.cell 0
    have z0 : w2.frozen? ⟨r, 0, none⟩ = false := H2.out.res.free 0
    have d1 : w2.cell? ⟨r, 1, none⟩ = some (.string ⟨#[]⟩) := H2.out.res.cell 1
    have z1 : w2.frozen? ⟨r, 1, none⟩ = false := H2.out.res.free 1
    have d2 : w2.cell? ⟨r, 2, none⟩ = some (.string ⟨#[]⟩) := H2.out.res.cell 2
    have z2 : w2.frozen? ⟨r, 2, none⟩ = false := H2.out.res.free 2
    have d3 : w2.cell? ⟨r, 3, none⟩ = some (.string ⟨#[]⟩) := H2.out.res.cell 3
    have z3 : w2.frozen? ⟨r, 3, none⟩ = false := H2.out.res.free 3
    have d4 : w2.cell? ⟨r, 4, none⟩ = some (.string ⟨#[]⟩) := H2.out.res.cell 4
    have z4 : w2.frozen? ⟨r, 4, none⟩ = false := H2.out.res.free 4
    have d5 : w2.cell? ⟨r, 5, none⟩ = some (.int .i64 0) := H2.out.res.cell 5
    have z5 : w2.frozen? ⟨r, 5, none⟩ = false := H2.out.res.free 5
    clear hbig
    have hrb : r ≠ b := H2.out.ne
    go_wp2
    refine bodyPost_ret (v := .tuple #[.agg #[.int .i64 0, .string ⟨#[]⟩, .string ⟨#[]⟩, .string ⟨#[]⟩, .string ⟨#[]⟩, .int .i64 0], .int .i64 2]) ?_ rfl ⟨by rw [HE.out]; rfl, by rw [HE.out]; exact HOUT.out.1, HOUT.out.2.1⟩
    rw [results_cell_tmp rfl]
    go_simp
  · have hbig' : ((sNum s : Nat) : Int) ≤ 16777216 := by omega
    have hwr : IntKind.i64.wrap ((sNum s : Nat) : Int) = ((sNum s : Nat) : Int) := IntWalk.i64_in _ (by omega)
    have HE : Hid (factR N s = (⟨(textsK ⟨(sNum s : Int), [], [], [], []⟩ (sNum' s) N).1, sInt (textsK ⟨(sNum s : Int), [], [], [], []⟩ (sNum' s) N).2⟩, (sNum' (textsK ⟨(sNum s : Int), [], [], [], []⟩ (sNum' s) N).2).2, sNum' (textsK ⟨(sNum s : Int), [], [], [], []⟩ (sNum' s) N).2)) := if_neg hbig
    have H3 := Lib.hid (H2.out.set 0 (.int .i64 (sNum s : Int)) (k2 := ⟨(sNum s : Int), [], [], [], []⟩) (v2 := 0) rfl)
    have c0 : w2.cell? ⟨b, 0, none⟩ = some (.int .i64 0) := H2.out.box.cell 0
    have z0 : w2.frozen? ⟨b, 0, none⟩ = false := H2.out.box.free 0
    clear hbig
    go_wp2_with fail
    obtain ⟨w3, hw3⟩ : ∃ w3, w3 = w2.setCell ⟨b, 0, none⟩ (.int .i64 (sNum s : Int)) := ⟨_, rfl⟩
    rw [← hw3]
    rw [← hw3] at H3
    clear H2 c0 z0 hw3 hbig' hwr
    go_loopw [19] (fun x19 wk => ∃ k : Nat, x19 = .int .i64 (k : Int) ∧ k ≤ N ∧ InQ w wa p b r (textsK ⟨(sNum s : Int), [], [], [], []⟩ (sNum' s) k).1 0 (textsK ⟨(sNum s : Int), [], [], [], []⟩ (sNum' s) k).2 wk) (fun x19 _ => N - (intOf x19).toNat)
    case atStart => exact ⟨0, rfl, Nat.zero_le _, H3.out⟩
    case round =>
      clear H3
      obtain ⟨k, rfl, hk, hm⟩ := hrel
      have HM := Lib.hid hm
      clear hm
      by_cases hkN : k < N
      · clear HE HSI
        have hki : (k : Int) < N := Int.ofNat_lt.mpr hkN
        have hk4 : (k : Int) < 4 := by omega
        have HST : Hid (textsK ⟨(sNum s : Int), [], [], [], []⟩ (sNum' s) (k + 1) = ((textsK ⟨(sNum s : Int), [], [], [], []⟩ (sNum' s) k).1.put k (sText (textsK ⟨(sNum s : Int), [], [], [], []⟩ (sNum' s) k).2), sText' (textsK ⟨(sNum s : Int), [], [], [], []⟩ (sNum' s) k).2)) := rfl
        obtain ⟨kk, hkk⟩ : ∃ kk, kk = textsK ⟨(sNum s : Int), [], [], [], []⟩ (sNum' s) k := ⟨_, rfl⟩
        rw [← hkk] at HM HST
        clear hkk
        go_wp2_with fail
        refine (ps_text HM.out.pr).mono ?_
        rintro e w5 ⟨rfl, h5, t5⟩
        have hm5 := HM.out.read h5 t5
        have HM5 := Lib.hid hm5
        have e1 := dim_cell (o := 1) (k := kk.1) hm5.box (fact_cells (f := ⟨kk.1, 0⟩)) k (by omega)
        have f1 := hm5.box.free (1 + k)
        unfold sv9 at e1
        clear h5 t5 hm5
        have hm6 := HM5.out.set (1 + k) (sv9 (sText kk.2)) (put_cells9 kk.1 0 (by omega) (sText kk.2))
        have HM6 := Lib.hid hm6
        clear hm6
        generalize sText kk.2 = T at *
        go_wp2_with fail
        go_roundw
        case rel => exact ⟨k + 1, by go_num, hkN, by rw [HST.out]; exact HM6.out⟩
        case measure => simp [intOf]; omega
      · obtain rfl : k = N := by omega
        generalize textsK ⟨(sNum s : Int), [], [], [], []⟩ (sNum' s) k = kk at *
        go_wp2_with fail
        refine (ps_int HM.out.pr).mono ?_
        rintro e w5 ⟨rfl, h5, t5⟩
        have hm5 := HM.out.read h5 t5
        have f1 : w5.frozen? ⟨b, 5, none⟩ = false := hm5.box.free 5
        have e1 : w5.cell? ⟨b, 5, none⟩ = some (.int .i64 0) := hm5.box.cell 5
        have HM5 := Lib.hid hm5
        clear h5 t5 hm5
        generalize sInt kk.2 = V at *
        have HM6 := Lib.hid (HM5.out.set 5 (.int .i64 V) (k2 := kk.1) (v2 := V) rfl)
        go_wp2_with fail
        obtain ⟨w6, hw6⟩ : ∃ w6, w6 = w5.setCell ⟨b, 5, none⟩ (.int .i64 V) := ⟨_, rfl⟩
        rw [← hw6]
        rw [← hw6] at HM6
        clear HM5 HM e1 f1 hw6
        obtain ⟨K, sk⟩ := kk
        dsimp only at *
        generalize hs2 : sNum' sk = s2 at *
        clear hs2
        refine drawn_region (fun W => Box W b 76 (cells9 K V)) [] (by kernel_rfl) ?_
        have HM7 : Hid (InQ w wa p b r K V s2 (World.drew w6)) := ⟨HM6.out.box.turn (Turn.refl (fun _ => False) w6).drew (fun f => f), HM6.out.res.turn (Turn.refl (fun _ => False) w6).drew (fun f => f), HM6.out.pr.later (Turn.refl _ w6).drew, HM6.out.turn.drew, HM6.out.nb, HM6.out.nr, HM6.out.ne, HM6.out.lo⟩
        generalize World.drew w6 = wd at *
        clear HM6
        have hS0 := HM7.out.box
        refine drawn_take 0 32 (.agg (cells9 K V)) rfl rfl (by kernel_rfl) (by kernel_rfl) (by kernel_rfl) (by kernel_rfl) (fun _ _ _ h => h) (by rfl) (by assumption) (by intro w hSw; have b0 : w.cell? ⟨b, 0, none⟩ = some (.int .i64 K.h) := hSw.cell 0; have b1 : w.cell? ⟨b, 1, none⟩ = some (sv9 K.a) := hSw.cell 1; have b2 : w.cell? ⟨b, 2, none⟩ = some (sv9 K.b) := hSw.cell 2; have b3 : w.cell? ⟨b, 3, none⟩ = some (sv9 K.c) := hSw.cell 3; have b4 : w.cell? ⟨b, 4, none⟩ = some (sv9 K.d) := hSw.cell 4; have b5 : w.cell? ⟨b, 5, none⟩ = some (.int .i64 V) := hSw.cell 5; clear hSw; go_simp) ?_
        try simp only [List.setIfInBounds_toArray, List.set_cons_zero, List.set_cons_succ]
        refine drawn_move 1 33 (.pointer (some ⟨p, 0, none⟩)) rfl rfl (by kernel_rfl) (by kernel_rfl) (by kernel_rfl) (by kernel_rfl) (fun _ _ _ h => h) (by rfl) (fun _ => by assumption) (by intro w; go_simp) ?_
        try simp only [List.setIfInBounds_toArray, List.set_cons_zero, List.set_cons_succ]
        obtain ⟨w9, hw9⟩ : ∃ w9, w9 = wd.setCells r 0 (cells9 K V).toList := ⟨_, rfl⟩
        have HOUT : Hid (True ∧ PR w p w9 s2 ∧ Turn (fun g => g = p) wa w9 ∧ Box w9 r 76 (cells9 K V) ∧ Box w9 b 76 (cells9 K V)) := by
          obtain ⟨g1, g2, g3⟩ := HM7.out.out K V
          rw [hw9]
          exact ⟨trivial, g1, g2, g3, HM7.out.box.turn (turn_setCells (S := fun g => g = r) rfl _ _ _) (fun e => HM7.out.ne e.symm)⟩
        have HTH : Hid (wd.there r 0 6) := HM7.out.res.there (Nat.le_refl 6)
        have HON : Hid ((cells9 K V).all (·.oneCell') = true) := all_oneCell_toArray (EF.one ⟨K, V⟩)
        have HW9 := Lib.hid hw9
        clear hw9
        refine drawn_any [2] (by kernel_rfl) (by simp) ?_
        refine drawn_cons rfl (fun K2 hK => ?_) drawn_nil
        go_simp
        refine (pr_fault HM7.out.pr).mono ?_
        rintro e w7 ⟨rfl, rfl⟩
        refine hK.out _ _ _ hS0 ?_
        clear hK K2 hS0
        try simp only [List.setIfInBounds_toArray, List.set_cons_zero, List.set_cons_succ]
        refine drawn_any [3] (by kernel_rfl) (by simp) ?_
        refine drawn_cons rfl (fun K2 hK => ?_) drawn_nil
        refine put_box r 0 (cells9 K V) HTH.out rfl rfl HSI.out HON.out ?_
        rw [← HW9.out]
        refine hK.out _ _ _ HOUT.out.2.2.2.2 ?_
        clear hK K2
        try simp only [List.setIfInBounds_toArray, List.set_cons_zero, List.set_cons_succ]
        refine drawn_last1 4 5 (.int .i64 (s2.2 : Int)) rfl rfl (by kernel_rfl) (by kernel_rfl) (by rfl) (by intro w; go_simp) HOUT.out.2.2.2.2 ?_
        try simp only [List.setIfInBounds_toArray, List.set_cons_zero, List.set_cons_succ]
        go_wp2
        obtain ⟨-, g1, g2, g3, -⟩ := HOUT.out
        refine bodyPost_ret (v := .tuple #[.agg (cells9 K V), .int .i64 (s2.2 : Int)]) ?_ rfl ⟨by rw [HE.out], by rw [HE.out]; exact g1, g2⟩
        rw [results_cell_tmp rfl]
        have b0 : w9.cell? ⟨r, 0, none⟩ = some (.int .i64 K.h) := g3.cell 0
        have b1 : w9.cell? ⟨r, 1, none⟩ = some (sv9 K.a) := g3.cell 1
        have b2 : w9.cell? ⟨r, 2, none⟩ = some (sv9 K.b) := g3.cell 2
        have b3 : w9.cell? ⟨r, 3, none⟩ = some (sv9 K.c) := g3.cell 3
        have b4 : w9.cell? ⟨r, 4, none⟩ = some (sv9 K.d) := g3.cell 4
        have b5 : w9.cell? ⟨r, 5, none⟩ = some (.int .i64 V) := g3.cell 5
        clear g1 g2 g3
        go_simp

end Go.Proofs.Ytgchfckmhibeaaa
