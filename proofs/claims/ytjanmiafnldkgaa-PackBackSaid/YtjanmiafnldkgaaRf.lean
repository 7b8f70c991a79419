/-
  'PackBack': what is put is read as it was, and of fewer bytes it is not. No condition.
-/
import Derived.Test.YtjanmiafnldkgaaRe
namespace Go.Proofs.Ytjanmiafnldkgaa.packBack
open Go.ChangeShapes Go.WideShapes Go.ChangeAt Go.RowKit
set_option linter.unusedVariables false

theorem own : ownKnob Try.prog.godebug = none := by kernel_rfl
theorem laidOut : laidOutB Try.prog = true := by kernel_rfl

def Rel1 (w : World) (l : List PD) (x6 : Value) (wr : World) (k : Nat) (v : Value) : Prop :=
  x6 = .int .i64 k ∧ k ≤ l.length ∧ Own w wr w.heap.size v (all l k) ∧ ∀ (i : Nat) (x : PD), i < k → l[i]? = some x → 1 ≤ x.K ∧ x.K ≤ 4

def Rel2 (l : List PD) (p3 : Nat) (u3 : Value) (w3 : World) (x9 : Value) (wr : World) (k : Nat) : Prop :=
  x9 = .int .i64 k ∧ k ≤ l.length ∧ Rdr wr p3 u3 (all l l.length) (all l k).length 0 ∧ Turn (fun g => g = p3) w3 wr

def Rel3 (l : List PD) (n : Nat) (p4 q B : Nat) (u4 : Value) (w6 : World) (x13 : Value) (wr : World) (k kk f : Nat) : Prop :=
  x13 = .int .i64 k ∧ k ≤ l.length ∧ Rdr wr p4 u4 ((all l l.length).take n) kk f ∧ (f = 3 ∨ (f = 0 ∧ kk = (all l k).length ∧ kk ≤ n)) ∧ (∃ A c m g, XRd wr q B A c m g) ∧ Turn (fun g => g = p4 ∨ g = q) w6 wr

set_option maxRecDepth 100000 in
set_option maxHeartbeats 8000000 in
theorem walk (v : Value) (l : List PD) (less : Int) (w : World) (h : PSl w v l) (hlen : l.length ≤ maxLen) :
    Calls Try.prog 6 #[v, .int .i64 less] w fun e w' => e = .returned (.bool true) ∧ Below w.heap.size w w' := by
  have HP := Lib.hid h
  obtain ⟨A, c, hv, _⟩ := h
  subst hv
  have HL := Lib.hid (light_any _ l w HP.out hlen)
  clear hlen
  cases hlit : lit l with
  | false =>
    rw [hlit] at HL
    clear hlit
    go_enter Try.func6, Try.ntmps6
    go_wp2_with (first
      | (go_at_call 15; refine HL.out.mono ?_; rintro e w1 ⟨rfl, rfl⟩)
      | (go_at_call 12; refine (alive_any w).mono ?_; rintro e w5 ⟨rfl, ht⟩; have HT5 := Lib.hid ht; clear ht))
    go_ret
    exact ⟨rfl, HT5.out.below (Nat.le_refl _) (fun _ f => f.elim)⟩
  | true =>
    rw [hlit] at HL
    obtain ⟨h40, h60⟩ := lit_use hlit
    clear hlit
    by_cases hl0 : l.length < 1
    · go_enter Try.func6, Try.ntmps6
      go_wp2_with (first
        | (go_at_call 15; refine HL.out.mono ?_; rintro e w1 ⟨rfl, rfl⟩)
        | (go_at_call 12; refine (alive_any w).mono ?_; rintro e w5 ⟨rfl, ht⟩; have HT5 := Lib.hid ht; clear ht))
      go_ret
      exact ⟨rfl, HT5.out.below (Nat.le_refl _) (fun _ f => f.elim)⟩
    · have hl1 : 1 ≤ l.length := by omega
      clear hl0
      have hz0 : ((l.length : Int) == 0) = false := by rw [beq_eq_false_iff_ne]; omega
      have HA := Lib.hid (all_len l h60)
      have H60 := Lib.hid h60; clear h60
      go_enter Try.func6, Try.ntmps6
      go_wp2_with (go_at_call 15; refine HL.out.mono ?_; rintro e w1 ⟨rfl, rfl⟩)
      go_loopw [6] (fun x6 wr => ∃ (k : Nat) (u : Value), Rel1 w l x6 wr k u) (fun x6 _ => l.length - (intOf x6).toNat)
      case atStart => exact ⟨0, .slice none 0 0, rfl, Nat.zero_le _, Own.new w, fun i x hi => absurd hi (by omega)⟩
      case round =>
        obtain ⟨k, v0, rfl, hk, hown, hks⟩ := hrel
        by_cases hlt : k < l.length
        · obtain ⟨x, hx⟩ : ∃ x, l[k]? = some x := ⟨_, List.getElem?_eq_getElem hlt⟩
          obtain ⟨b, o, hAb, hat, hfit⟩ := HP.out.at hx
          subst hAb
          obtain ⟨a0, a1, a2, a3, a4, a5⟩ := PSl.cells HP.out hown.2.1 rfl hx
          have HF := Lib.hid hfit; clear hfit
          have h60 := H60.out x (List.mem_of_getElem? hx)
          have hlen := HA.out k
          have HX := Lib.hid hx; clear hx hat
          have HO := Lib.hid hown; clear hown
          have HK := Lib.hid hks; clear hks
          by_cases hK1 : x.K < 1
          · go_wp2_with (go_at_call 12; refine (alive_any wr).mono ?_; rintro e w5 ⟨rfl, ht⟩; have HT5 := Lib.hid (HO.out.2.1.fresh ht (fun _ f => f.elim)); clear ht)
            go_ret
            exact ⟨rfl, HT5.out.below (Nat.le_refl _) (fun _ f => f.elim)⟩
          · by_cases hK4 : 4 < x.K
            · go_wp2_with (go_at_call 12; refine (alive_any wr).mono ?_; rintro e w5 ⟨rfl, ht⟩; have HT5 := Lib.hid (HO.out.2.1.fresh ht (fun _ f => f.elim)); clear ht)
              go_ret
              exact ⟨rfl, HT5.out.below (Nat.le_refl _) (fun _ f => f.elim)⟩
            · go_wp2_with (go_at_call 17; refine (put_any w.heap.size v0 (all l k) x wr HO.out.1 (by omega) HF.out h60).mono ?_; rintro e w3 ⟨rfl, v3, hp⟩; have HO3 := Lib.hid (HO.out.put hp); clear hp)
              go_roundw
              case rel => exact ⟨k + 1, v3, by go_num, by omega, by rw [all_succ HX.out]; exact HO3.out, fun i y hi hy => by
                by_cases e : i = k
                · subst e
                  have e2 : y = x := Option.some.inj (hy.symm.trans HX.out)
                  subst e2
                  omega
                · exact HK.out i y (by omega) hy⟩
              case measure => simp [intOf]; omega
        · have ek : k = l.length := by omega
          subst ek
          have HO := Lib.hid hown; clear hown
          have HK := Lib.hid hks; clear hks
          have hlen := HA.out l.length
          obtain ⟨L, hL⟩ : ∃ L, L = all l l.length := ⟨_, rfl⟩
          rw [← hL] at HO hlen
          have HLL := Lib.hid hL; clear hL
          go_wp2_with (first
            | (go_at_call 10; refine (bytes_any w.heap.size v0 L wr HO.out.1 (by omega)).mono ?_; rintro e w2 ⟨v2, rfl, hb, ht, hk2⟩; obtain ⟨A2, c2, hv2⟩ := hb.shape; subst hv2; have HB2 := Lib.hid hb; have HT2 := Lib.hid (HO.out.2.1.fresh ht (fun _ f => f.elim)); clear hb ht hk2)
            | (go_at_call 19; refine (new_reader _ L w2 HB2.out.rd (by omega)).mono ?_; rintro e w3 ⟨p3, u3, rfl, hr, ht, hp3, hu3⟩; have HR3 := Lib.hid hr; have HT3 := Lib.hid ht; have HP3 := Lib.hid hp3; have HU3 := Lib.hid hu3; clear hr ht hp3 hu3))
          go_loopw [9] (fun x9 wr => ∃ (k : Nat), Rel2 l p3 u3 w3 x9 wr k) (fun x9 _ => l.length - (intOf x9).toNat)
          case atStart => exact ⟨0, rfl, Nat.zero_le _, by rw [← HLL.out]; exact HR3.out, Turn.refl _ _⟩
          case round =>
            obtain ⟨k, rfl, hk, hrd, ht⟩ := hrel
            rw [← HLL.out] at hrd
            by_cases hlt : k < l.length
            · obtain ⟨x, hx⟩ : ∃ x, l[k]? = some x := ⟨_, List.getElem?_eq_getElem hlt⟩
              obtain ⟨b, o, hAb, hat, hfit⟩ := HP.out.at hx
              subst hAb
              have htw := ((HT2.out.fresh HT3.out (fun _ f => f.elim)).fresh ht (fun g e => by have := HP3.out; have := HT2.out.size; omega))
              obtain ⟨a0, a1, a2, a3, a4, a5⟩ := PSl.cells HP.out htw rfl hx
              have HF := Lib.hid hfit; clear hfit hat
              have h60 := H60.out x (List.mem_of_getElem? hx)
              have hK := HK.out k x hlt hx
              have HX := Lib.hid hx; clear hx
              have HRD := Lib.hid hrd; clear hrd
              have HTT := Lib.hid ht; clear ht htw
              obtain ⟨rest, hrest⟩ := all_drop HX.out
              rw [← HLL.out] at hrest
              have HDR := Lib.hid hrest; clear hrest
              have hKa := hK.1
              have hKb := hK.2
              clear hK
              by_cases h1 : x.K ≤ 1
              · have HN := Lib.hid (late_num x HRD.out HDR.out HF.out (by omega))
                go_wp2_with fail
                go_region_with (go_at_call 20; refine (HN.out _ (.int .u64 x.N) (by exact ((Turn.refl _ wr).alloc _).drew) (by go_simp)).mono ?_; rintro e w5 ⟨rfl, hm, hcell⟩; have HM := Lib.hid hm; clear hm)
                all_goals
                  go_wp2_with fail
                  go_roundw
                  case rel => exact ⟨k + 1, by go_num, by omega, by rw [← HLL.out, all_succ HX.out, List.length_append]; exact HM.out.1.1, HTT.out.trans ((HM.out.2.mono (fun _ _ f => f.elim)).trans HM.out.1.2 (fun _ _ e => e)) (fun _ _ e => e)⟩
                  case measure => simp [intOf]; omega
              by_cases h2 : x.K ≤ 2
              · have HN := Lib.hid (late_int x HRD.out HDR.out HF.out (by omega))
                go_wp2_with fail
                go_region_with (go_at_call 21; refine (HN.out _ (.int .i64 x.S) (by exact ((Turn.refl _ wr).alloc _).drew) (by go_simp)).mono ?_; rintro e w5 ⟨rfl, hm, hcell⟩; have HM := Lib.hid hm; clear hm)
                all_goals
                  go_wp2_with fail
                  go_roundw
                  case rel => exact ⟨k + 1, by go_num, by omega, by rw [← HLL.out, all_succ HX.out, List.length_append]; exact HM.out.1.1, HTT.out.trans ((HM.out.2.mono (fun _ _ f => f.elim)).trans HM.out.1.2 (fun _ _ e => e)) (fun _ _ e => e)⟩
                  case measure => simp [intOf]; omega
              by_cases h3 : x.K ≤ 3
              · have HN := Lib.hid (late_text x HRD.out HDR.out h60 (by omega))
                go_wp2_with fail
                go_region_with (go_at_call 22; refine (HN.out _ (.string x.T) (by exact ((Turn.refl _ wr).alloc _).drew) (by go_simp)).mono ?_; rintro e w5 ⟨rfl, hm, hcell⟩; have HM := Lib.hid hm; clear hm)
                all_goals
                  go_wp2_with fail
                  go_roundw
                  case rel => exact ⟨k + 1, by go_num, by omega, by rw [← HLL.out, all_succ HX.out, List.length_append]; exact HM.out.1.1, HTT.out.trans ((HM.out.2.mono (fun _ _ f => f.elim)).trans HM.out.1.2 (fun _ _ e => e)) (fun _ _ e => e)⟩
                  case measure => simp [intOf]; omega
              · have HN := Lib.hid (late_bool x HRD.out HDR.out (by omega))
                go_wp2_with fail
                go_region_with (go_at_call 23; refine (HN.out _ (.bool x.B) (by exact ((Turn.refl _ wr).alloc _).drew) (by go_simp)).mono ?_; rintro e w5 ⟨rfl, hm, hcell⟩; have HM := Lib.hid hm; clear hm)
                all_goals
                  go_wp2_with fail
                  go_roundw
                  case rel => exact ⟨k + 1, by go_num, by omega, by rw [← HLL.out, all_succ HX.out, List.length_append]; exact HM.out.1.1, HTT.out.trans ((HM.out.2.mono (fun _ _ f => f.elim)).trans HM.out.1.2 (fun _ _ e => e)) (fun _ _ e => e)⟩
                  case measure => simp [intOf]; omega
            · have ek : k = l.length := by omega
              subst ek
              rw [← HLL.out] at hrd
              have HRD := Lib.hid hrd; clear hrd
              have HTT := Lib.hid ht; clear ht
              have HTW := Lib.hid ((HT2.out.fresh HT3.out (fun _ f => f.elim)).fresh HTT.out (fun g e => by have := HP3.out; have := HT2.out.size; omega))
              have hne : (Value.slice A2 L.length c2).ownBlock ≠ some p3 := fun e => by
                have h1 := HB2.out.lt e
                have h2 := HP3.out
                omega
              have HBW := Lib.hid ((HB2.out.turn HT3.out (fun _ _ f => f)).turn HTT.out (fun g hg e => hne (by rw [← e]; exact hg)))
              clear hne
              by_cases hls : less < 1
              · go_wp2_with (first
                  | (go_at_call 24; refine (left_any p3 u3 L L.length 0 wr HRD.out).mono ?_; rintro e w5 ⟨rfl, mm, rfl⟩)
                  | (go_at_call 25; refine (fault_any p3 u3 L L.length 0 (wr.drewN mm) (HRD.out.drewN mm)).mono ?_; rintro e w5 ⟨rfl, rfl⟩)
                  | (go_at_call 12; refine (alive_any _).mono ?_; rintro e w5 ⟨rfl, ht⟩; have HT5 := Lib.hid ((HTW.out.drewN mm).fresh ht (fun _ f => f.elim)); clear ht))
                go_ret
                exact ⟨rfl, HT5.out.below (Nat.le_refl _) (fun _ f => f.elim)⟩
              · by_cases hlg : (L.length : Int) < less
                · go_wp2_with (first
                    | (go_at_call 24; refine (left_any p3 u3 L L.length 0 wr HRD.out).mono ?_; rintro e w5 ⟨rfl, mm, rfl⟩)
                    | (go_at_call 25; refine (fault_any p3 u3 L L.length 0 (wr.drewN mm) (HRD.out.drewN mm)).mono ?_; rintro e w5 ⟨rfl, rfl⟩)
                    | (go_at_call 12; refine (alive_any _).mono ?_; rintro e w5 ⟨rfl, ht⟩; have HT5 := Lib.hid ((HTW.out.drewN mm).fresh ht (fun _ f => f.elim)); clear ht))
                  go_ret
                  exact ⟨rfl, HT5.out.below (Nat.le_refl _) (fun _ f => f.elim)⟩
                · obtain ⟨d, rfl⟩ := Int.eq_ofNat_of_zero_le (show 0 ≤ less by omega)
                  have hd1 : 1 ≤ d := by omega
                  have hd2 : d ≤ L.length := by omega
                  clear hls hlg
                  have hcap := HBW.out.cap.2.1
                  go_wp2_with (first
                    | (go_at_call 24; refine (left_any p3 u3 L L.length 0 wr HRD.out).mono ?_; rintro e w5 ⟨rfl, mm, rfl⟩)
                    | (go_at_call 25; refine (fault_any p3 u3 L L.length 0 (wr.drewN mm) (HRD.out.drewN mm)).mono ?_; rintro e w5 ⟨rfl, rfl⟩))
                  go_wp2_with (go_at_call 19; refine (new_reader _ (L.take (L.length - d)) (wr.drewN mm) ((HBW.out.drewN mm).rd.front (L.length - d) (by omega)) (by rw [List.length_take]; omega)).mono ?_; rintro e w5 ⟨p4, u4, rfl, hr, ht, hp4, hu4⟩; have HR4 := Lib.hid hr; have HT4 := Lib.hid ht; have HP4 := Lib.hid hp4; have HU4 := Lib.hid hu4; clear hr ht hp4 hu4)
                  have HT6 := Lib.hid (HT4.out.alloc (.cells #[.slice A2 L.length c2, .int .i64 0] 52))
                  have HB5 := Lib.hid ((HBW.out.drewN mm).turn HT4.out (fun _ _ f => f))
                  have HX6 := Lib.hid (XRd.new HB5.out)
                  obtain ⟨B, hB⟩ : ∃ B, B = ((Value.slice A2 L.length c2).ownBlock).getD (w5.heap.size + 1) := ⟨_, rfl⟩
                  rw [← hB] at HX6
                  have hp4 : p4 < w5.heap.size := HR4.out.1.lt
                  have hpB : p4 ≠ B := by
                    subst hB
                    cases hb : (Value.slice A2 L.length c2).ownBlock with
                    | none => simp only [Option.getD_none]; omega
                    | some g =>
                      have h1 := (HBW.out.drewN mm).lt hb
                      have h2 := HP4.out
                      simp only [Option.getD_some]
                      omega
                  have HB6 := Lib.hid hB; clear hB
                  have HTW5 := Lib.hid ((HTW.out.drewN mm).fresh HT4.out (fun _ f => f.elim))
                  have hp4w : w.heap.size ≤ p4 := Nat.le_trans HTW.out.size HP4.out
                  go_loopw [13] (fun x13 wr => ∃ (k kk f : Nat), Rel3 l (L.length - d) p4 w5.heap.size B u4 (w5.alloc (.cells #[.slice A2 L.length c2, .int .i64 0] 52)) x13 wr k kk f) (fun x13 _ => l.length - (intOf x13).toNat)
                  case atStart => exact ⟨0, 0, 0, rfl, Nat.zero_le _, by rw [← HLL.out]; exact HR4.out.alloc _, .inr ⟨rfl, by simp [all], Nat.zero_le _⟩, ⟨_, _, _, _, HX6.out⟩, Turn.refl _ _⟩
                  case round =>
                    obtain ⟨k, kk, f, rfl, hk, hrd, hinv, ⟨Ax, cx, mx, gx, hx⟩, ht⟩ := hrel
                    rw [← HLL.out] at hrd
                    have htw := (HTW5.out.alloc (.cells #[.slice A2 L.length c2, .int .i64 0] 52)).fresh ht (fun g e => by have := HTW5.out.size; rcases e with e | e <;> omega)
                    have HRD3 := Lib.hid hrd; clear hrd
                    have HIN := Lib.hid hinv; clear hinv
                    have HX3 := Lib.hid hx; clear hx
                    have HT3b := Lib.hid ht; clear ht
                    have HU4b : Hid (∀ g, u4.ownBlock = some g → g ≠ w5.heap.size) := fun g hg e => by have := HR4.out.2.1.lt hg; omega
                    by_cases hlt : k < l.length
                    · obtain ⟨x, hx⟩ : ∃ x, l[k]? = some x := ⟨_, List.getElem?_eq_getElem hlt⟩
                      obtain ⟨b, o, hAb, hat, hfit⟩ := HP.out.at hx
                      subst hAb
                      obtain ⟨a0, a1, a2, a3, a4, a5⟩ := PSl.cells HP.out htw rfl hx
                      have HF := Lib.hid hfit; clear hfit hat
                      have h60 := H60.out x (List.mem_of_getElem? hx)
                      have HKx := Lib.hid (HK.out k x hlt hx)
                      have HX := Lib.hid hx; clear hx
                      clear htw
                      go_wp2_with (go_at_call 26; refine (one_any p4 w5.heap.size B u4 (L.take (L.length - d)) kk f Ax cx mx gx { x with M := 60 } (wr.alloc (.cells #[.int .i64 x.K, .int .i64 60, .int .u64 x.N, .int .i64 x.S, .string x.T, .bool x.B] 40)) (HRD3.out.alloc _) (HX3.out.turn ((Turn.refl (fun _ => False) wr).alloc _) (fun f => f) (fun f => f)) HKx.out rfl (by omega) hpB HU4b.out).mono ?_; rintro e w7 ⟨⟨bb, rfl⟩, hr7, ⟨A7, c7, m7, g7, hx7⟩, ht7⟩; have HR7 := Lib.hid hr7; have HX7 := Lib.hid hx7; have HT7 := Lib.hid ht7; clear hr7 hx7 ht7)
                      go_roundw
                      case rel =>
                        refine ⟨k + 1, (rstep x (L.take (L.length - d)) kk f).1, (rstep x (L.take (L.length - d)) kk f).2, by go_num, by omega, ?_, ?_, ⟨A7, c7, m7, g7, HX7.out⟩, ?_⟩
                        · rw [← HLL.out]
                          exact HR7.out
                        · have hcs := cut_step (n := L.length - d) HX.out HKx.out HF.out h60 HIN.out
                          rw [← HLL.out] at hcs
                          rcases hcs with h | ⟨h, h1, h2⟩
                          · exact .inl h
                          · exact .inr ⟨h, h1, by rw [h1]; exact h2⟩
                        · exact (HT3b.out.alloc _).trans HT7.out (fun _ _ e => e)
                      case measure => simp [intOf]; omega
                    · have ek : k = l.length := by omega
                      subst ek
                      have hf3 : f = 3 := by
                        rcases HIN.out with h | ⟨_, h1, h2⟩
                        · exact h
                        · rw [← HLL.out] at h1
                          omega
                      subst hf3
                      have HTE := Lib.hid htw; clear htw
                      go_wp2_with (first
                        | (go_at_call 25; refine (fault_any p4 u4 _ kk 3 wr HRD3.out).mono ?_; rintro e w8 ⟨rfl, rfl⟩)
                        | (go_at_call 12; refine (alive_any wr).mono ?_; rintro e w8 ⟨rfl, ht⟩; have HT8 := Lib.hid (HTE.out.fresh ht (fun _ f => f.elim)); clear ht))
                      go_ret
                      exact ⟨rfl, HT8.out.below (Nat.le_refl _) (fun _ f => f.elim)⟩

set_option maxRecDepth 100000 in
theorem lifted (os : Os) (started : os.Started) (H : Type) (enc : TypeId × Value → H) :
    ReturnsInHanded {} Try.checked os 6 .any (Rows.packBackSpec.pre6 enc Try.prog Try.f6 Rows.packBackRow.domain false) (Rows.packBackSpec.post enc Try.prog Try.f6 false true false false) := by
  refine returnsInHanded_of_change (C := Try.checked) own started (by kernel_rfl) Try.func6
    (ChangeSpec.witness6 (enc := enc) (C := Try.checked) false ⟨#[], #[.slice none 0 0, .int .i64 0], []⟩ 8 (by kernel_rfl) (by kernel_rfl) (by kernel_rfl) (by kernel_rfl)) ?_
  intro W base args ds gs before hval0 hW hcnd _
  have hval : ∀ (j : Nat) t v, Try.f6.params[j]? = some t → args[j]? = some v → Value.okWide Try.prog W .any base t v := hval0
  have hW' := hW
  obtain ⟨p, q, hA0, hV, rfl, hfz, hnd⟩ := hW
  have hA : DataW.TrodAll enc Try.prog W 0 (fun _ => true) true Try.f6.params.toList args.toList ds p := hA0
  rw [Try.params6] at hA hval
  obtain ⟨v0, vs0, d0, ds0, p0, q0, hargs, rfl, rfl, h0, r0⟩ := trodAll_cons hA
  obtain ⟨v1, vs1, d1, ds1, p1, q1, rfl, rfl, rfl, h1, r1⟩ := trodAll_cons r0
  obtain ⟨rfl, rfl, rfl⟩ := trodAll_nil r1
  obtain rfl : args = #[v0, v1] := by cases args; simp_all
  obtain ⟨rfl, rfl⟩ := trodVars_none hV
  have k0 := h0
  have lt0 : ∀ x ∈ p0, x.block < W.heap.size := by obtain ⟨m, hm⟩ := k0; exact DataW.trod_lt m _ _ _ hm
  obtain ⟨a0, len0, cap0, rfl⟩ := okWide_slice Try.underlying36 (hval 0 36 v0 rfl rfl)
  obtain ⟨l0, hp0, hl0⟩ := open_parts rfl h0
  obtain ⟨a1, rfl, rfl, rfl, w1⟩ := open_int Try.underlying3 (hval 1 3 v1 rfl rfl) h1
  clear hA0 hval0
  refine (walk _ l0 a1 W hp0 hl0).mono fun e W' ⟨he, bel⟩ => ?_
  subst he
  exact ⟨_, rfl, _, _, _, [], _, [], hW', trodAll_mk1 (shut_bool Try.underlying4 _), (trodAll_cons_mk (Below.trod laidOut (by kernel_rfl) (of_decide_eq_true (by kernel_rfl)) k0 bel lt0) (trodAll_cons_mk (shut_int Try.underlying3 w1) trodAll_mk0)), rfl, bel.frame _, fun h => by cases h⟩

theorem over : Rows.packBackRow.holds Try.pinned (OpenSpec.ofChange Rows.packBackSpec) :=
  OpenClaim.holds_of_wide 6 Try.f6 rfl rfl rfl rfl rfl rfl rfl ⟨rfl, rfl, rfl, rfl, rfl⟩ rfl rfl rfl rfl rfl (by kernel_rfl) Try.func6 (by kernel_rfl)
    (of_decide_eq_true (by kernel_rfl)) (by unfold Func.isWrapper; first | (rw [if_pos (by decide +kernel)]; kernel_rfl) | (rw [if_neg (by decide +kernel)]; exact ⟨rfl, rfl⟩))
    (fun os started H enc _ => lifted os started H enc)

theorem proved : Rows.PackBackSaid := over
#print axioms proved
end Go.Proofs.Ytjanmiafnldkgaa.packBack
