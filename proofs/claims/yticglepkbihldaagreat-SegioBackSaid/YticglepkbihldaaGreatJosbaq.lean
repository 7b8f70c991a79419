/-
  'SegioBack': a segment that fits is decoded as it was, of fewer bytes it is none, and what is decoded has just those bytes. No condition.
-/
import Derived.Test.YticglepkbihldaaGreatJocap
import Derived.Test.YticglepkbihldaaGreatJocaa
import Derived.ProofKit
import Derived.OpenShut

namespace Go.Proofs.YticglepkbihldaaGreat.segioBack
open Go.ChangeShapes Go.WideShapes Go.ChangeAt Go.RowKit
set_option linter.unusedVariables false

theorem own : ownKnob Tryz.prog.godebug = none := by kernel_rfl
theorem laidOut : laidOutB Tryz.prog = true := by kernel_rfl

theorem encL_len12 {l : List R11} {n : Int} (hf : fitL l n = 0) (hl : l.length ≤ 60) : (encL l n).length ≤ 20000 := by
  have h := payB_len hf hl
  rw [encL_ok hf, fr_len]
  have h2 := enc_len (payB l n.toNat).length
  have h3 : sz (payB l n.toNat).length = (enc (payB l n.toNat).length).length + (payB l n.toNat).length + 4 := rfl
  omega

set_option maxRecDepth 100000 in
set_option maxHeartbeats 16000000 in
theorem walk (v u : Value) (l : List R11) (m : List UInt8) (n : Int) (_wn : (Lit.int .i64 n).wf = true) (less : Int) (_wl : (Lit.int .i64 less).wf = true) (w : World) (h : RdE ER w v l) (hlen : l.length ≤ maxLen) (hok : ∀ r ∈ l, okC r.c) (hu : Rd w u m) :
    Calls Tryz.prog 5 #[v, u, .int .i64 n, .int .i64 less] w fun e w' => e = .returned (.bool true) ∧ Below w.heap.size w w' := by
  have HV := Lib.hid h
  have HU := Lib.hid hu
  have HOK := Lib.hid hok
  have HLI := Lib.hid (light_any12 v l w h hlen)
  have HAL : Hid (∀ W, Calls Tryz.prog 7 #[] W fun e w' => e = .returned (.bool true) ∧ Turn (fun _ => False) W w') := fun W => alive_any12 W
  obtain ⟨A, c, rfl⟩ := h.shape
  obtain ⟨B, d, rfl⟩ := hu.shape
  clear h _wn _wl hu hlen hok
  cases hL : light12 l with
  | false =>
    rw [hL] at HLI
    clear hL
    go_enter Tryz.func5, Tryz.ntmps5
    go_wp2_with fail
    refine HLI.out.mono ?_
    rintro e w1 ⟨rfl, t1⟩
    have HT1 := Lib.hid t1
    clear t1 HLI
    go_wp2_with fail
    refine (HAL.out w1).mono ?_
    rintro e w2 ⟨rfl, t2⟩
    have HT2 := Lib.hid (HT1.out.trans t2 (fun _ _ f => f))
    clear t2
    go_wp2
    go_ret
    exact ⟨rfl, HT2.out.below (Nat.le_refl _) (fun _ f => f.elim)⟩
  | true =>
    rw [hL] at HLI
    obtain ⟨h60, hrr⟩ := light12_spec hL
    clear hL
    by_cases hm : m.length ≤ 1500
    · have hmk : ¬ (1500 : Int) < (m.length : Int) := by omega
      have HMD := Lib.hid (fun W (ht : Turn (fun _ => False) w W) => made_any12 _ l W (HV.out.later ht) HOK.out (by omega) hrr)
      have HENC := Lib.hid (fun (s : Value) (W : World) (hs : SV11 W s l) => encode_any12 s l n W hs (fun hf => by have := payB_len hf h60; omega))
      by_cases hfit : fitL l n = 0
      · have HX0 := Lib.hid (decodeL_enc hfit hrr HOK.out (by omega) (by have := payB_len hfit h60; omega))
        have HXL := Lib.hid (encL_len12 hfit h60)
        have HXC := Lib.hid (fun k (hk : k < (encL l n).length) => decodeL_cut hfit (by have := payB_len hfit h60; omega) hk)
        obtain ⟨X, hX⟩ : ∃ X, X = encL l n := ⟨_, rfl⟩
        rw [← hX] at HX0 HXL HXC
        have HXE := Lib.hid hX
        have HFI := Lib.hid hfit
        clear hX hfit
        by_cases h0 : 0 < less
        · by_cases h1 : less ≤ (X.length : Int)
          · obtain ⟨K, rfl⟩ := Int.eq_ofNat_of_zero_le (show 0 ≤ less by omega)
            have hxl := HXL.out
            obtain ⟨xl, hxl2⟩ : ∃ xl, xl = X.length := ⟨_, rfl⟩
            have HXN := Lib.hid hxl2
            have hsub : IntKind.i64.wrap ((X.length : Int) - (K : Int)) = ((X.length - K : Nat) : Int) := by rw [IntWalk.i64_in _ (by omega)]; omega
            have hle : ((X.length - K : Nat) : Int) ≤ (X.length : Int) := by omega
            have HCUT := Lib.hid (HXC.out (X.length - K) (by omega))
            clear hxl hxl2
            go_enter Tryz.func5, Tryz.ntmps5
            go_wp2_with fail
            refine HLI.out.mono ?_
            rintro e w1 ⟨rfl, t1⟩
            have HT1 := Lib.hid t1
            clear t1 HLI
            go_wp2_with fail
            refine (HMD.out w1 HT1.out).mono ?_
            rintro e w2 ⟨s, rfl, hs, t2⟩
            obtain ⟨ps, rfl⟩ := hs.ptr
            have HS := Lib.hid hs; have HT2 := Lib.hid (HT1.out.trans t2 (fun _ _ f => f))
            have HEN := Lib.hid (HENC.out _ w2 hs)
            clear hs t2 HMD
            unfold Enc12 at HEN
            rw [HFI.out, ← HXE.out] at HEN
            go_wp2_with fail
            refine HEN.out.mono ?_
            rintro e w3 ⟨x, rfl, hm3⟩
            obtain ⟨A3, c3, rfl⟩ := hm3.1.shape
            have HR3 := Lib.hid hm3.1.rd
            have HS3 := Lib.hid (HS.out.later hm3.2.1); have HT3 := Lib.hid (HT2.out.trans hm3.2.1 (fun _ _ f => f))
            clear hm3 HEN
            have HD3 := decodes_any12 _ X n w3 HR3.out HXL.out
            unfold DecA12 at HD3
            rw [HX0.out] at HD3
            have HD3' := Lib.hid HD3
            clear HD3
            go_wp2_with fail
            refine HD3'.out.mono ?_
            rintro e w4 ⟨t, rfl, ht, -, t4⟩
            have HSA := Lib.hid (same_any11 _ t l l w4 (HS3.out.later t4) ht)
            obtain ⟨pt, rfl⟩ := ht.ptr
            have HT4 := Lib.hid (HT3.out.trans t4 (fun _ _ f => f)); have HR4 := Lib.hid (HR3.out.later t4)
            clear ht t4 HD3'
            rw [decide_eq_true rfl] at HSA
            go_wp2_with fail
            refine HSA.out.mono ?_
            rintro e w5 ⟨rfl, t5⟩
            have HT5 := Lib.hid (HT4.out.trans t5 (fun _ _ f => f)); have HR5 := Lib.hid (HR4.out.later t5)
            clear t5 HSA
            have hcc := HR5.out.fits
            have hc1 : ((X.length - K : Nat) : Int) ≤ (c3 : Int) := by omega
            have HF5 := Lib.hid (HR5.out.front (X.length - K) (by omega))
            clear hcc
            go_wp2_with fail
            have HDC := decodes_any12 _ (X.take (X.length - K)) n w5 HF5.out (by have := HXL.out; rw [List.length_take]; omega)
            unfold DecA12 at HDC
            rw [HCUT.out] at HDC
            have HDC' := Lib.hid HDC
            clear HDC
            refine HDC'.out.mono ?_
            rintro e w6 ⟨t6, rfl, hs6, -, tt6⟩
            obtain ⟨p6, rfl⟩ := hs6.ptr
            have HT6 := Lib.hid (HT5.out.trans tt6 (fun _ _ f => f))
            clear hs6 tt6 HDC'
            go_wp2_with fail
            obtain ⟨WX, hWX⟩ : ∃ WX, WX = w6 := ⟨_, rfl⟩
            subst hWX
            have HTX := Lib.hid HT6.out
            have HUX := Lib.hid (HU.out.later HTX.out)
            have HDB := Lib.hid (decodes_any12 _ m n WX HUX.out (by omega))
            by_cases hfb : (decodeL m n).1 = 0
            · have hdl : decodeL m n = (0, (decodeL m n).2) := by rw [← hfb]
              obtain ⟨e1, e2, e3⟩ := decodeL_there hdl
              have HE1 := Lib.hid e1; have HE2 := Lib.hid e2; have HE3 := Lib.hid e3
              unfold DecA12 at HDB
              rw [hfb] at HDB
              obtain ⟨l2, hl2⟩ : ∃ l2, l2 = (decodeL m n).2 := ⟨_, rfl⟩
              rw [← hl2] at HDB HE1 HE2 HE3
              clear hfb hdl e1 e2 e3 hl2
              go_wp2_with fail
              refine HDB.out.mono ?_
              rintro e wd ⟨t, rfl, hs, -, td⟩
              have HSD := Lib.hid hs
              obtain ⟨pt, rfl⟩ := hs.ptr
              have HTD := Lib.hid (HTX.out.trans td (fun _ _ f => f)); have HUD := Lib.hid (HUX.out.later td)
              have HEN2 := Lib.hid (encode_any12 _ l2 n wd HSD.out (fun _ => by have := HE3.out; omega))
              unfold Enc12 at HEN2
              rw [HE2.out, HE1.out] at HEN2
              clear hs td HDB
              go_wp2_with fail
              refine HEN2.out.mono ?_
              rintro e we ⟨y, rfl, hm2⟩
              obtain ⟨A9, c9, rfl⟩ := hm2.1.shape
              have HM2 := Lib.hid hm2
              have HTE := Lib.hid (HTD.out.trans hm2.2.1 (fun _ _ f => f)); have HUE := Lib.hid (HUD.out.later hm2.2.1)
              clear hm2 HEN2
              go_wp2_with fail
              refine (same_any _ _ m m we HM2.out.1.rd HUE.out).mono ?_
              rintro e wf ⟨rfl, hwf⟩
              subst hwf
              rw [beq_self_eq_true]
              go_wp2_with fail
              refine (HAL.out _).mono ?_
              rintro e wg ⟨rfl, tg⟩
              have HTG := Lib.hid (HTE.out.trans tg (fun _ _ f => f))
              clear tg
              go_wp2
              go_ret
              exact ⟨rfl, HTG.out.below (Nat.le_refl _) (fun _ f => f.elim)⟩
            · have hnone := decodeL_none hfb
              unfold DecA12 at HDB
              rw [hnone] at HDB
              obtain ⟨fb, hfbe⟩ : ∃ fb, fb = (decodeL m n).1 := ⟨_, rfl⟩
              rw [← hfbe] at HDB hfb
              have hx1 : (fb == 0) = false := by rw [beq_eq_false_iff_ne]; exact hfb
              have hx2 : (fb != 0) = true := by rw [bne_iff_ne]; exact hfb
              clear hfb hnone hfbe
              go_wp2_with fail
              refine HDB.out.mono ?_
              rintro e wd ⟨t, rfl, hs, -, td⟩
              have HLE := Lib.hid (len_same11 t [] wd hs)
              obtain ⟨pt, rfl⟩ := hs.ptr
              have HTD := Lib.hid (HTX.out.trans td (fun _ _ f => f))
              clear hs td HDB
              go_wp2_with fail
              refine HLE.out.mono ?_
              rintro e we ⟨rfl, hwe⟩
              subst hwe
              clear HLE
              go_wp2_with fail
              refine (HAL.out _).mono ?_
              rintro e wg ⟨rfl, tg⟩
              have HTG := Lib.hid (HTD.out.trans tg (fun _ _ f => f))
              clear tg
              go_wp2
              go_ret
              exact ⟨rfl, HTG.out.below (Nat.le_refl _) (fun _ f => f.elim)⟩
          · skip
            go_enter Tryz.func5, Tryz.ntmps5
            go_wp2_with fail
            refine HLI.out.mono ?_
            rintro e w1 ⟨rfl, t1⟩
            have HT1 := Lib.hid t1
            clear t1 HLI
            go_wp2_with fail
            refine (HMD.out w1 HT1.out).mono ?_
            rintro e w2 ⟨s, rfl, hs, t2⟩
            obtain ⟨ps, rfl⟩ := hs.ptr
            have HS := Lib.hid hs; have HT2 := Lib.hid (HT1.out.trans t2 (fun _ _ f => f))
            have HEN := Lib.hid (HENC.out _ w2 hs)
            clear hs t2 HMD
            unfold Enc12 at HEN
            rw [HFI.out, ← HXE.out] at HEN
            go_wp2_with fail
            refine HEN.out.mono ?_
            rintro e w3 ⟨x, rfl, hm3⟩
            obtain ⟨A3, c3, rfl⟩ := hm3.1.shape
            have HR3 := Lib.hid hm3.1.rd
            have HS3 := Lib.hid (HS.out.later hm3.2.1); have HT3 := Lib.hid (HT2.out.trans hm3.2.1 (fun _ _ f => f))
            clear hm3 HEN
            have HD3 := decodes_any12 _ X n w3 HR3.out HXL.out
            unfold DecA12 at HD3
            rw [HX0.out] at HD3
            have HD3' := Lib.hid HD3
            clear HD3
            go_wp2_with fail
            refine HD3'.out.mono ?_
            rintro e w4 ⟨t, rfl, ht, -, t4⟩
            have HSA := Lib.hid (same_any11 _ t l l w4 (HS3.out.later t4) ht)
            obtain ⟨pt, rfl⟩ := ht.ptr
            have HT4 := Lib.hid (HT3.out.trans t4 (fun _ _ f => f)); have HR4 := Lib.hid (HR3.out.later t4)
            clear ht t4 HD3'
            rw [decide_eq_true rfl] at HSA
            go_wp2_with fail
            refine HSA.out.mono ?_
            rintro e w5 ⟨rfl, t5⟩
            have HT5 := Lib.hid (HT4.out.trans t5 (fun _ _ f => f)); have HR5 := Lib.hid (HR4.out.later t5)
            clear t5 HSA
            go_wp2_with fail
            obtain ⟨WX, hWX⟩ : ∃ WX, WX = w5 := ⟨_, rfl⟩
            subst hWX
            have HTX := Lib.hid HT5.out
            have HUX := Lib.hid (HU.out.later HTX.out)
            have HDB := Lib.hid (decodes_any12 _ m n WX HUX.out (by omega))
            by_cases hfb : (decodeL m n).1 = 0
            · have hdl : decodeL m n = (0, (decodeL m n).2) := by rw [← hfb]
              obtain ⟨e1, e2, e3⟩ := decodeL_there hdl
              have HE1 := Lib.hid e1; have HE2 := Lib.hid e2; have HE3 := Lib.hid e3
              unfold DecA12 at HDB
              rw [hfb] at HDB
              obtain ⟨l2, hl2⟩ : ∃ l2, l2 = (decodeL m n).2 := ⟨_, rfl⟩
              rw [← hl2] at HDB HE1 HE2 HE3
              clear hfb hdl e1 e2 e3 hl2
              go_wp2_with fail
              refine HDB.out.mono ?_
              rintro e wd ⟨t, rfl, hs, -, td⟩
              have HSD := Lib.hid hs
              obtain ⟨pt, rfl⟩ := hs.ptr
              have HTD := Lib.hid (HTX.out.trans td (fun _ _ f => f)); have HUD := Lib.hid (HUX.out.later td)
              have HEN2 := Lib.hid (encode_any12 _ l2 n wd HSD.out (fun _ => by have := HE3.out; omega))
              unfold Enc12 at HEN2
              rw [HE2.out, HE1.out] at HEN2
              clear hs td HDB
              go_wp2_with fail
              refine HEN2.out.mono ?_
              rintro e we ⟨y, rfl, hm2⟩
              obtain ⟨A9, c9, rfl⟩ := hm2.1.shape
              have HM2 := Lib.hid hm2
              have HTE := Lib.hid (HTD.out.trans hm2.2.1 (fun _ _ f => f)); have HUE := Lib.hid (HUD.out.later hm2.2.1)
              clear hm2 HEN2
              go_wp2_with fail
              refine (same_any _ _ m m we HM2.out.1.rd HUE.out).mono ?_
              rintro e wf ⟨rfl, hwf⟩
              subst hwf
              rw [beq_self_eq_true]
              go_wp2_with fail
              refine (HAL.out _).mono ?_
              rintro e wg ⟨rfl, tg⟩
              have HTG := Lib.hid (HTE.out.trans tg (fun _ _ f => f))
              clear tg
              go_wp2
              go_ret
              exact ⟨rfl, HTG.out.below (Nat.le_refl _) (fun _ f => f.elim)⟩
            · have hnone := decodeL_none hfb
              unfold DecA12 at HDB
              rw [hnone] at HDB
              obtain ⟨fb, hfbe⟩ : ∃ fb, fb = (decodeL m n).1 := ⟨_, rfl⟩
              rw [← hfbe] at HDB hfb
              have hx1 : (fb == 0) = false := by rw [beq_eq_false_iff_ne]; exact hfb
              have hx2 : (fb != 0) = true := by rw [bne_iff_ne]; exact hfb
              clear hfb hnone hfbe
              go_wp2_with fail
              refine HDB.out.mono ?_
              rintro e wd ⟨t, rfl, hs, -, td⟩
              have HLE := Lib.hid (len_same11 t [] wd hs)
              obtain ⟨pt, rfl⟩ := hs.ptr
              have HTD := Lib.hid (HTX.out.trans td (fun _ _ f => f))
              clear hs td HDB
              go_wp2_with fail
              refine HLE.out.mono ?_
              rintro e we ⟨rfl, hwe⟩
              subst hwe
              clear HLE
              go_wp2_with fail
              refine (HAL.out _).mono ?_
              rintro e wg ⟨rfl, tg⟩
              have HTG := Lib.hid (HTD.out.trans tg (fun _ _ f => f))
              clear tg
              go_wp2
              go_ret
              exact ⟨rfl, HTG.out.below (Nat.le_refl _) (fun _ f => f.elim)⟩
        · skip
          go_enter Tryz.func5, Tryz.ntmps5
          go_wp2_with fail
          refine HLI.out.mono ?_
          rintro e w1 ⟨rfl, t1⟩
          have HT1 := Lib.hid t1
          clear t1 HLI
          go_wp2_with fail
          refine (HMD.out w1 HT1.out).mono ?_
          rintro e w2 ⟨s, rfl, hs, t2⟩
          obtain ⟨ps, rfl⟩ := hs.ptr
          have HS := Lib.hid hs; have HT2 := Lib.hid (HT1.out.trans t2 (fun _ _ f => f))
          have HEN := Lib.hid (HENC.out _ w2 hs)
          clear hs t2 HMD
          unfold Enc12 at HEN
          rw [HFI.out, ← HXE.out] at HEN
          go_wp2_with fail
          refine HEN.out.mono ?_
          rintro e w3 ⟨x, rfl, hm3⟩
          obtain ⟨A3, c3, rfl⟩ := hm3.1.shape
          have HR3 := Lib.hid hm3.1.rd
          have HS3 := Lib.hid (HS.out.later hm3.2.1); have HT3 := Lib.hid (HT2.out.trans hm3.2.1 (fun _ _ f => f))
          clear hm3 HEN
          have HD3 := decodes_any12 _ X n w3 HR3.out HXL.out
          unfold DecA12 at HD3
          rw [HX0.out] at HD3
          have HD3' := Lib.hid HD3
          clear HD3
          go_wp2_with fail
          refine HD3'.out.mono ?_
          rintro e w4 ⟨t, rfl, ht, -, t4⟩
          have HSA := Lib.hid (same_any11 _ t l l w4 (HS3.out.later t4) ht)
          obtain ⟨pt, rfl⟩ := ht.ptr
          have HT4 := Lib.hid (HT3.out.trans t4 (fun _ _ f => f)); have HR4 := Lib.hid (HR3.out.later t4)
          clear ht t4 HD3'
          rw [decide_eq_true rfl] at HSA
          go_wp2_with fail
          refine HSA.out.mono ?_
          rintro e w5 ⟨rfl, t5⟩
          have HT5 := Lib.hid (HT4.out.trans t5 (fun _ _ f => f)); have HR5 := Lib.hid (HR4.out.later t5)
          clear t5 HSA
          go_wp2_with fail
          obtain ⟨WX, hWX⟩ : ∃ WX, WX = w5 := ⟨_, rfl⟩
          subst hWX
          have HTX := Lib.hid HT5.out
          have HUX := Lib.hid (HU.out.later HTX.out)
          have HDB := Lib.hid (decodes_any12 _ m n WX HUX.out (by omega))
          by_cases hfb : (decodeL m n).1 = 0
          · have hdl : decodeL m n = (0, (decodeL m n).2) := by rw [← hfb]
            obtain ⟨e1, e2, e3⟩ := decodeL_there hdl
            have HE1 := Lib.hid e1; have HE2 := Lib.hid e2; have HE3 := Lib.hid e3
            unfold DecA12 at HDB
            rw [hfb] at HDB
            obtain ⟨l2, hl2⟩ : ∃ l2, l2 = (decodeL m n).2 := ⟨_, rfl⟩
            rw [← hl2] at HDB HE1 HE2 HE3
            clear hfb hdl e1 e2 e3 hl2
            go_wp2_with fail
            refine HDB.out.mono ?_
            rintro e wd ⟨t, rfl, hs, -, td⟩
            have HSD := Lib.hid hs
            obtain ⟨pt, rfl⟩ := hs.ptr
            have HTD := Lib.hid (HTX.out.trans td (fun _ _ f => f)); have HUD := Lib.hid (HUX.out.later td)
            have HEN2 := Lib.hid (encode_any12 _ l2 n wd HSD.out (fun _ => by have := HE3.out; omega))
            unfold Enc12 at HEN2
            rw [HE2.out, HE1.out] at HEN2
            clear hs td HDB
            go_wp2_with fail
            refine HEN2.out.mono ?_
            rintro e we ⟨y, rfl, hm2⟩
            obtain ⟨A9, c9, rfl⟩ := hm2.1.shape
            have HM2 := Lib.hid hm2
            have HTE := Lib.hid (HTD.out.trans hm2.2.1 (fun _ _ f => f)); have HUE := Lib.hid (HUD.out.later hm2.2.1)
            clear hm2 HEN2
            go_wp2_with fail
            refine (same_any _ _ m m we HM2.out.1.rd HUE.out).mono ?_
            rintro e wf ⟨rfl, hwf⟩
            subst hwf
            rw [beq_self_eq_true]
            go_wp2_with fail
            refine (HAL.out _).mono ?_
            rintro e wg ⟨rfl, tg⟩
            have HTG := Lib.hid (HTE.out.trans tg (fun _ _ f => f))
            clear tg
            go_wp2
            go_ret
            exact ⟨rfl, HTG.out.below (Nat.le_refl _) (fun _ f => f.elim)⟩
          · have hnone := decodeL_none hfb
            unfold DecA12 at HDB
            rw [hnone] at HDB
            obtain ⟨fb, hfbe⟩ : ∃ fb, fb = (decodeL m n).1 := ⟨_, rfl⟩
            rw [← hfbe] at HDB hfb
            have hx1 : (fb == 0) = false := by rw [beq_eq_false_iff_ne]; exact hfb
            have hx2 : (fb != 0) = true := by rw [bne_iff_ne]; exact hfb
            clear hfb hnone hfbe
            go_wp2_with fail
            refine HDB.out.mono ?_
            rintro e wd ⟨t, rfl, hs, -, td⟩
            have HLE := Lib.hid (len_same11 t [] wd hs)
            obtain ⟨pt, rfl⟩ := hs.ptr
            have HTD := Lib.hid (HTX.out.trans td (fun _ _ f => f))
            clear hs td HDB
            go_wp2_with fail
            refine HLE.out.mono ?_
            rintro e we ⟨rfl, hwe⟩
            subst hwe
            clear HLE
            go_wp2_with fail
            refine (HAL.out _).mono ?_
            rintro e wg ⟨rfl, tg⟩
            have HTG := Lib.hid (HTD.out.trans tg (fun _ _ f => f))
            clear tg
            go_wp2
            go_ret
            exact ⟨rfl, HTG.out.below (Nat.le_refl _) (fun _ f => f.elim)⟩
      · have hne := hfit
        obtain ⟨f, hf⟩ : ∃ f, f = fitL l n := ⟨_, rfl⟩
        rw [← hf] at hne
        have hx1 : (f == 0) = false := by rw [beq_eq_false_iff_ne]; exact hne
        have hx2 : (f != 0) = true := by rw [bne_iff_ne]; exact hne
        have HFE := Lib.hid hf
        clear hne hf hfit
        go_enter Tryz.func5, Tryz.ntmps5
        go_wp2_with fail
        refine HLI.out.mono ?_
        rintro e w1 ⟨rfl, t1⟩
        have HT1 := Lib.hid t1
        clear t1 HLI
        go_wp2_with fail
        refine (HMD.out w1 HT1.out).mono ?_
        rintro e w2 ⟨s, rfl, hs, t2⟩
        obtain ⟨ps, rfl⟩ := hs.ptr
        have HS := Lib.hid hs; have HT2 := Lib.hid (HT1.out.trans t2 (fun _ _ f => f))
        have HEN := Lib.hid (HENC.out _ w2 hs)
        clear hs t2 HMD
        unfold Enc12 at HEN
        rw [← HFE.out] at HEN
        go_wp2_with fail
        refine HEN.out.mono ?_
        rintro e w3 ⟨x, rfl, hm3⟩
        obtain ⟨A3, c3, rfl⟩ := hm3.1.shape
        have HT3 := Lib.hid (HT2.out.trans hm3.2.1 (fun _ _ f => f))
        clear hm3 HEN
        go_wp2_with fail
        obtain ⟨WX, hWX⟩ : ∃ WX, WX = w3 := ⟨_, rfl⟩
        subst hWX
        have HTX := Lib.hid HT3.out
        have HUX := Lib.hid (HU.out.later HTX.out)
        have HDB := Lib.hid (decodes_any12 _ m n WX HUX.out (by omega))
        by_cases hfb : (decodeL m n).1 = 0
        · have hdl : decodeL m n = (0, (decodeL m n).2) := by rw [← hfb]
          obtain ⟨e1, e2, e3⟩ := decodeL_there hdl
          have HE1 := Lib.hid e1; have HE2 := Lib.hid e2; have HE3 := Lib.hid e3
          unfold DecA12 at HDB
          rw [hfb] at HDB
          obtain ⟨l2, hl2⟩ : ∃ l2, l2 = (decodeL m n).2 := ⟨_, rfl⟩
          rw [← hl2] at HDB HE1 HE2 HE3
          clear hfb hdl e1 e2 e3 hl2
          go_wp2_with fail
          refine HDB.out.mono ?_
          rintro e wd ⟨t, rfl, hs, -, td⟩
          have HSD := Lib.hid hs
          obtain ⟨pt, rfl⟩ := hs.ptr
          have HTD := Lib.hid (HTX.out.trans td (fun _ _ f => f)); have HUD := Lib.hid (HUX.out.later td)
          have HEN2 := Lib.hid (encode_any12 _ l2 n wd HSD.out (fun _ => by have := HE3.out; omega))
          unfold Enc12 at HEN2
          rw [HE2.out, HE1.out] at HEN2
          clear hs td HDB
          go_wp2_with fail
          refine HEN2.out.mono ?_
          rintro e we ⟨y, rfl, hm2⟩
          obtain ⟨A9, c9, rfl⟩ := hm2.1.shape
          have HM2 := Lib.hid hm2
          have HTE := Lib.hid (HTD.out.trans hm2.2.1 (fun _ _ f => f)); have HUE := Lib.hid (HUD.out.later hm2.2.1)
          clear hm2 HEN2
          go_wp2_with fail
          refine (same_any _ _ m m we HM2.out.1.rd HUE.out).mono ?_
          rintro e wf ⟨rfl, hwf⟩
          subst hwf
          rw [beq_self_eq_true]
          go_wp2_with fail
          refine (HAL.out _).mono ?_
          rintro e wg ⟨rfl, tg⟩
          have HTG := Lib.hid (HTE.out.trans tg (fun _ _ f => f))
          clear tg
          go_wp2
          go_ret
          exact ⟨rfl, HTG.out.below (Nat.le_refl _) (fun _ f => f.elim)⟩
        · have hnone := decodeL_none hfb
          unfold DecA12 at HDB
          rw [hnone] at HDB
          obtain ⟨fb, hfbe⟩ : ∃ fb, fb = (decodeL m n).1 := ⟨_, rfl⟩
          rw [← hfbe] at HDB hfb
          have hx1 : (fb == 0) = false := by rw [beq_eq_false_iff_ne]; exact hfb
          have hx2 : (fb != 0) = true := by rw [bne_iff_ne]; exact hfb
          clear hfb hnone hfbe
          go_wp2_with fail
          refine HDB.out.mono ?_
          rintro e wd ⟨t, rfl, hs, -, td⟩
          have HLE := Lib.hid (len_same11 t [] wd hs)
          obtain ⟨pt, rfl⟩ := hs.ptr
          have HTD := Lib.hid (HTX.out.trans td (fun _ _ f => f))
          clear hs td HDB
          go_wp2_with fail
          refine HLE.out.mono ?_
          rintro e we ⟨rfl, hwe⟩
          subst hwe
          clear HLE
          go_wp2_with fail
          refine (HAL.out _).mono ?_
          rintro e wg ⟨rfl, tg⟩
          have HTG := Lib.hid (HTD.out.trans tg (fun _ _ f => f))
          clear tg
          go_wp2
          go_ret
          exact ⟨rfl, HTG.out.below (Nat.le_refl _) (fun _ f => f.elim)⟩
    · have hmk : (1500 : Int) < (m.length : Int) := by omega
      go_enter Tryz.func5, Tryz.ntmps5
      go_wp2_with fail
      refine HLI.out.mono ?_
      rintro e w1 ⟨rfl, t1⟩
      have HT1 := Lib.hid t1
      clear t1 HLI
      go_wp2_with fail
      refine (HAL.out w1).mono ?_
      rintro e w2 ⟨rfl, t2⟩
      have HT2 := Lib.hid (HT1.out.trans t2 (fun _ _ f => f))
      clear t2
      go_wp2
      go_ret
      exact ⟨rfl, HT2.out.below (Nat.le_refl _) (fun _ f => f.elim)⟩

set_option maxRecDepth 100000 in
set_option maxRecDepth 100000 in
theorem lifted (os : Os) (started : os.Started) (H : Type) (enc : TypeId × Value → H) :
    ReturnsInHanded {} Tryz.checked os 5 .any (Rows.segioBackSpec.pre6 enc Tryz.prog Tryz.f5 Rows.segioBackRow.domain false) (Rows.segioBackSpec.post enc Tryz.prog Tryz.f5 false true false false) := by
  refine returnsInHanded_of_change (C := Tryz.checked) own started (by kernel_rfl) Tryz.func5
    (ChangeSpec.witness6 (enc := enc) (C := Tryz.checked) false ⟨#[], #[.slice none 0 0, .slice none 0 0, .int .i64 0, .int .i64 0], []⟩ 8 (by kernel_rfl) (by kernel_rfl) (by kernel_rfl) (by kernel_rfl)) ?_
  intro W base args ds gs before hval0 hW hcnd _
  have hval : ∀ (j : Nat) t v, Tryz.f5.params[j]? = some t → args[j]? = some v → Value.okWide Tryz.prog W .any base t v := hval0
  have hW' := hW
  obtain ⟨p, q, hA0, hV, rfl, hfz, hnd⟩ := hW
  have hA : DataW.TrodAll enc Tryz.prog W 0 (fun _ => true) true Tryz.f5.params.toList args.toList ds p := hA0
  rw [Tryz.params5] at hA hval
  obtain ⟨v0, vs0, d0, ds0, p0, q0, hargs, rfl, rfl, h0, r0⟩ := trodAll_cons hA
  obtain ⟨v1, vs1, d1, ds1, p1, q1, rfl, rfl, rfl, h1, r1⟩ := trodAll_cons r0
  obtain ⟨v2, vs2, d2, ds2, p2, q2, rfl, rfl, rfl, h2, r2⟩ := trodAll_cons r1
  obtain ⟨v3, vs3, d3, ds3, p3, q3, rfl, rfl, rfl, h3, r3⟩ := trodAll_cons r2
  obtain ⟨rfl, rfl, rfl⟩ := trodAll_nil r3
  obtain rfl : args = #[v0, v1, v2, v3] := by cases args; simp_all
  obtain ⟨rfl, rfl⟩ := trodVars_none hV
  have k0 := h0
  have lt0 : ∀ x ∈ p0, x.block < W.heap.size := by obtain ⟨m, hm⟩ := k0; exact DataW.trod_lt m _ _ _ hm
  obtain ⟨a0, len0, cap0, rfl⟩ := okWide_slice Tryz.underlying22 (hval 0 22 v0 rfl rfl)
  obtain ⟨l0, hp0, hl0, hf0⟩ := open_rows11 rfl h0
  have k1 := h1
  have lt1 : ∀ x ∈ p1, x.block < W.heap.size := by obtain ⟨m, hm⟩ := k1; exact DataW.trod_lt m _ _ _ hm
  have hb1 := came_in9 Tryz.underlying35 (hval 1 35 v1 rfl rfl)
  obtain ⟨a1, len1, cap1, rfl⟩ := okWide_slice Tryz.underlying35 (hval 1 35 v1 rfl rfl)
  obtain ⟨l1, hp1, hl1⟩ := open_bytes rfl h1
  obtain ⟨a2, rfl, rfl, rfl, w2⟩ := open_int Tryz.underlying3 (hval 2 3 v2 rfl rfl) h2
  obtain ⟨a3, rfl, rfl, rfl, w3⟩ := open_int Tryz.underlying3 (hval 3 3 v3 rfl rfl) h3
  clear hA0 hval0
  refine (walk _ _ l0 l1 a2 w2 a3 w3 W hp0 hl0 hf0 hp1).mono fun e W' ⟨he, bel⟩ => ?_
  subst he
  exact ⟨_, rfl, _, _, _, [], _, [], hW', trodAll_mk1 (shut_bool Tryz.underlying4 _), (trodAll_cons_mk (Below.trod laidOut (by kernel_rfl) (of_decide_eq_true (by kernel_rfl)) k0 bel lt0) (trodAll_cons_mk (Below.trod laidOut (by kernel_rfl) (of_decide_eq_true (by kernel_rfl)) k1 bel lt1) (trodAll_cons_mk (shut_int Tryz.underlying3 w2) (trodAll_cons_mk (shut_int Tryz.underlying3 w3) trodAll_mk0)))), rfl, bel.frame _, fun h => by cases h⟩

theorem over : Rows.segioBackRow.holds Tryz.pinned (OpenSpec.ofChange Rows.segioBackSpec) :=
  OpenClaim.holds_of_wide 5 Tryz.f5 rfl rfl rfl rfl rfl rfl rfl ⟨rfl, rfl, rfl, rfl, rfl⟩ rfl rfl rfl rfl rfl (by kernel_rfl) Tryz.func5 (by kernel_rfl)
    (of_decide_eq_true (by kernel_rfl)) (by unfold Func.isWrapper; first | (rw [if_pos (by decide +kernel)]; kernel_rfl) | (rw [if_neg (by decide +kernel)]; exact ⟨rfl, rfl⟩))
    (fun os started H enc _ => lifted os started H enc)

theorem proved : Rows.SegioBackSaid := over
#print axioms proved
end Go.Proofs.YticglepkbihldaaGreat.segioBack
