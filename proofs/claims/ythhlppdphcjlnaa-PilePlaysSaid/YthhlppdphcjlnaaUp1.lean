
/-
  'PilePlays': what any acts on a pile answer, one behind the other, how many things it has, and all of them, in order. No condition.
-/
import Derived.Test.YthhlppdphcjlnaaUt
import Derived.ProofKit
import Derived.OpenShut
namespace Go.Proofs.Ythhlppdphcjlnaa.pilePlays
open Go.ChangeShapes Go.WideShapes Go.ChangeAt Go.RowKit
set_option linter.unusedVariables false

theorem own : ownKnob Try.prog.godebug = none := by kernel_rfl
theorem laidOut : laidOutB Try.prog = true := by kernel_rfl

open plw

set_option maxRecDepth 100000 in
set_option maxHeartbeats 8000000 in
theorem walk (v : Value) (l : List AC) (w : World) (h : RdE EA w v l) (hlen : l.length ≤ maxLen) :
    Calls Try.prog 3 #[v] w fun e w' => e = .returned (.bool true) ∧ Below w.heap.size w w' := by
  have HV := Lib.hid h
  obtain ⟨A, c, rfl⟩ := h.shape
  unfold maxLen at hlen
  clear h
  by_cases h150 : l.length ≤ 150
  · go_enter Try.func3, Try.ntmps3
    go_wp2_with fail
    refine (new_any w).mono ?_
    rintro e w1 ⟨rfl, hm, ht⟩
    have HR0 : Hid (Run7 w w.heap.size w1.heap.size 0 (w1.alloc (.cells #[.slice none 0 0] 32))) :=
      ⟨_, _, [], 0, ⟨hm.later ((Turn.refl _ w1).alloc _), Nat.le_refl _, (fun k e => by simp [Value.ownBlock] at e), ⟨Box.new w1 _ _, RdE.nil _, by simp [Value.ownBlock]⟩, ht.size, (fun k e => by simp [Value.ownBlock] at e), ht.alloc _⟩, Nat.le_refl _, Nat.le_refl _⟩
    clear hm ht
    go_wp2_with fail
    go_loopw [5] (fun x5 wr => ∃ i : Nat, x5 = .int .i64 (i : Int) ∧ i ≤ l.length ∧ Run7 w w.heap.size w1.heap.size i wr) (fun x5 _ => l.length - (intOf x5).toNat)
    case atStart => exact ⟨0, rfl, Nat.zero_le _, HR0.out⟩
    case round =>
      obtain ⟨i, rfl, hi, svp, sv, L, n, hb, hni, hLi⟩ := hrel
      have HB := Lib.hid hb
      clear hb
      by_cases hlt : i < l.length
      · obtain ⟨a, ha⟩ : ∃ a, l[i]? = some a := ⟨_, List.getElem?_eq_getElem hlt⟩
        obtain ⟨ad, rfl, hc⟩ := act_at HV.out ha
        have HC := Lib.hid hc
        obtain ⟨c0, c1, c2⟩ := hc wr HB.out.turn
        have hil : (i : Int) < l.length := by omega
        clear hc ha
        by_cases hk0 : a.kind = 0
        · rw [hk0] at c0
          go_wp2_with fail
          refine (push_any _ n svp L a.x wr HB.out.m (by omega) (by omega)).mono ?_
          rintro e w2 ⟨⟨v2, rfl⟩, svp2, m2, t2, s2⟩
          obtain ⟨hrp, htw⟩ := HB.out.half (fun _ e => e) t2
          have HM2 := Lib.hid m2; have HT2 := Lib.hid t2; have HS2 := Lib.hid s2; have HRP2 := Lib.hid hrp; have HTW2 := Lib.hid htw
          clear m2 t2 s2 hrp htw c0 c1 c2
          obtain ⟨-, d1, d2⟩ := HC.out w2 HTW2.out
          go_wp2_with fail
          refine (ref_push7 _ _ L a.x w2 HRP2.out (by omega)).mono ?_
          rintro e wz ⟨⟨v3, rfl⟩, sv3, p3, t3, s3⟩
          have HZ : Hid (Both7 w w.heap.size w1.heap.size svp2 sv3 (insS ltW a.x L) (n + 1) wz) := HB.out.whole HM2.out HS2.out HTW2.out HT2.out.size p3 t3 (.inl (fun k hk => ⟨s3 k hk, lt_of_row p3.row (by rw [insS_len]; omega) hk⟩)) HRP2.out.obj
          have hmi : n + 1 ≤ i + 1 := by omega
          have hMi : (insS ltW a.x L).length ≤ i + 1 := by rw [insS_len]; omega
          clear p3 t3 s3 d1 d2 HM2 HT2 HS2 HRP2 HTW2 HB hni hLi
          generalize insS ltW a.x L = M at *
          generalize n + 1 = m at *
          -- from Top on, in world wz
          obtain ⟨AZ, cZ, hsvz⟩ := HZ.out.r.row.shape
          subst hsvz
          have HLEN : Hid (∀ W, Turn (fun _ => False) wz W → Calls Try.prog 15 #[.pointer (some ⟨w.heap.size, 0, none⟩)] W fun e w' => e = .returned (.int .i64 (M.length : Int)) ∧ W = w') := fun W ht => len_any _ _ _ M W (HZ.out.m.later ht)
          have HRUN : Hid (∀ W, Turn (fun _ => False) wz W → Run7 w w.heap.size w1.heap.size (i + 1) W) := fun W ht => ⟨_, _, _, _, HZ.out.later ht, hmi, hMi⟩
          cases M with
          | nil =>
            have HTOP := Lib.hid (top_any _ _ _ [] wz HZ.out.m)
            go_wp2_with fail
            refine HTOP.out.mono ?_
            rintro e wt ⟨rfl, ht⟩
            obtain ⟨wu, hwu⟩ : ∃ wu, wu = wt.alloc (.cells #[.int .i64 0, .string ⟨#[]⟩] 27) := ⟨_, rfl⟩
            have HTU : Hid (Turn (fun _ => False) wz wu) := by rw [hwu]; exact ht.alloc _
            have o0 := (HZ.out.r.obj.turn HTU.out (fun f => f)).cell 0
            clear ht
            have HWU := Lib.hid hwu
            unfold topV
            simp only [List.isEmpty_nil, Bool.not_true, List.length_nil] at HLEN o0 ⊢
            clear hwu
            go_wp2_with fail
            rw [← HWU.out]
            go_quiet ((go_at_call 15; with_reducible exact quiet_left (HLEN.out _ (HTU.out.drewN _))))
            go_wp2
            go_roundw
            case rel => exact ⟨i + 1, by go_num, hlt, HRUN.out _ (HTU.out.drewN _)⟩
            case measure => simp [intOf]; omega
          | cons y R =>
            have HTOP := Lib.hid (top_any _ _ _ (y :: R) wz HZ.out.m)
            obtain ⟨az, haz, hcz⟩ := item_at HZ.out.r.row (j := 0) rfl
            subst haz
            go_wp2_with fail
            refine HTOP.out.mono ?_
            rintro e wt ⟨rfl, ht⟩
            obtain ⟨wu, hwu⟩ : ∃ wu, wu = wt.alloc (.cells #[.int .i64 y.1, .string ⟨y.2.toArray⟩] 27) := ⟨_, rfl⟩
            have HTU : Hid (Turn (fun _ => False) wz wu) := by rw [hwu]; exact ht.alloc _
            have o0 := (HZ.out.r.obj.turn HTU.out (fun f => f)).cell 0
            have hcz0 := hcz wu HTU.out
            rw [show az.add (0 * 2) = az from rfl] at hcz0
            obtain ⟨o1, o2⟩ := hcz0
            have hbx : Box wu wt.heap.size 27 #[.int .i64 y.1, .string ⟨y.2.toArray⟩] := by rw [hwu]; exact Box.new wt _ _
            have o3 := hbx.cell 0
            have o4 := hbx.cell 1
            have hRe : ¬ (R.length : Int) + 1 = 0 := by omega
            have hR0 : (0 : Int) < (R.length : Int) + 1 := by omega
            clear ht hbx hcz
            have HWU := Lib.hid hwu
            unfold topV
            simp only [List.isEmpty_cons, Bool.not_false, List.length_cons] at HLEN o0 ⊢
            clear hwu
            go_wp2_with fail
            rw [← HWU.out]
            go_quiet ((go_at_call 15; with_reducible exact quiet_left (HLEN.out _ (HTU.out.drewN _))))
            go_wp2
            go_roundw
            case rel => exact ⟨i + 1, by go_num, hlt, HRUN.out _ (HTU.out.drewN _)⟩
            case measure => simp [intOf]; omega
        · by_cases hk1 : a.kind = 1
          · rw [hk1] at c0
            cases L with
            | nil =>
              have HPO := Lib.hid (pop_none _ n svp wr HB.out.m)
              go_wp2_with fail
              refine HPO.out.mono ?_
              rintro e w2 ⟨rfl, svp2, m2, t2, s2⟩
              obtain ⟨hrp, htw⟩ := HB.out.half (fun _ e => e) t2
              obtain ⟨w2', hw2⟩ : ∃ w2', w2' = w2.alloc (.cells #[.int .i64 0, .string ⟨#[]⟩] 27) := ⟨_, rfl⟩
              have ht2' : Turn (fun _ => False) w2 w2' := by rw [hw2]; exact (Turn.refl _ w2).alloc _
              have hbx : Box w2' w2.heap.size 27 #[.int .i64 0, .string ⟨#[]⟩] := by rw [hw2]; exact Box.new w2 _ _
              have HM2 := Lib.hid (m2.later ht2'); have HS2 := Lib.hid s2; have HRP2 := Lib.hid (hrp.later ht2'); have HTW2 := Lib.hid (htw.trans ht2' (fun _ _ f => f)); have HSZ := Lib.hid (Nat.le_trans t2.size ht2'.size); have HBX := Lib.hid hbx
              have hgx : w1.heap.size ≠ w2.heap.size := by have := hrp.obj.lt; omega
              have HW2 := Lib.hid hw2
              clear m2 t2 s2 hrp htw ht2' hbx hw2 HPO
              have HRO := Lib.hid (ref_pop0 _ sv w2' HRP2.out)
              go_wp2_with fail
              rw [← HW2.out]
              refine HRO.out.mono ?_
              rintro e w3 ⟨rfl, sv3, p3, t3, s3⟩
              have h3 : Both7 w w.heap.size w1.heap.size svp2 sv3 [] n w3 := HB.out.whole HM2.out (fun k hk => .inr (HS2.out k hk)) HTW2.out HSZ.out p3 t3 (.inr s3) HRP2.out.obj
              obtain ⟨wz, hwz⟩ : ∃ wz, wz = w3.alloc (.cells #[.int .i64 0, .string ⟨#[]⟩] 27) := ⟨_, rfl⟩
              have htz : Turn (fun _ => False) w3 wz := by rw [hwz]; exact (Turn.refl _ w3).alloc _
              have HZ : Hid (Both7 w w.heap.size w1.heap.size svp2 sv3 [] n wz) := h3.later htz
              have hbx3 : Box wz w2.heap.size 27 #[.int .i64 0, .string ⟨#[]⟩] := (HBX.out.turn t3 (fun e => hgx e.symm)).turn htz (fun f => f)
              have hby : Box wz w3.heap.size 27 #[.int .i64 0, .string ⟨#[]⟩] := by rw [hwz]; exact Box.new w3 _ _
              have q0 := hbx3.cell 0
              have q1 := hbx3.cell 1
              have q2 := hby.cell 0
              have q3 := hby.cell 1
              have HWZ := Lib.hid hwz
              have hmi : n ≤ i + 1 := by omega
              have hMi : ([] : List (Int × List UInt8)).length ≤ i + 1 := by simp
              clear p3 t3 s3 h3 htz hbx3 hby hwz HM2 HS2 HRP2 HTW2 HSZ HBX HRO HB hni hLi c0 c1 c2
              rw [HWZ.out] at q0 q1 q2 q3
              go_wp2_with fail
              rw [← HWZ.out]
              clear q0 q1 q2 q3
              generalize hMM : ([] : List (Int × List UInt8)) = M at *
              clear hMM
              -- from Top on, in world wz
              obtain ⟨AZ, cZ, hsvz⟩ := HZ.out.r.row.shape
              subst hsvz
              have HLEN : Hid (∀ W, Turn (fun _ => False) wz W → Calls Try.prog 15 #[.pointer (some ⟨w.heap.size, 0, none⟩)] W fun e w' => e = .returned (.int .i64 (M.length : Int)) ∧ W = w') := fun W ht => len_any _ _ _ M W (HZ.out.m.later ht)
              have HRUN : Hid (∀ W, Turn (fun _ => False) wz W → Run7 w w.heap.size w1.heap.size (i + 1) W) := fun W ht => ⟨_, _, _, _, HZ.out.later ht, hmi, hMi⟩
              cases M with
              | nil =>
                have HTOP := Lib.hid (top_any _ _ _ [] wz HZ.out.m)
                go_wp2_with fail
                refine HTOP.out.mono ?_
                rintro e wt ⟨rfl, ht⟩
                obtain ⟨wu, hwu⟩ : ∃ wu, wu = wt.alloc (.cells #[.int .i64 0, .string ⟨#[]⟩] 27) := ⟨_, rfl⟩
                have HTU : Hid (Turn (fun _ => False) wz wu) := by rw [hwu]; exact ht.alloc _
                have o0 := (HZ.out.r.obj.turn HTU.out (fun f => f)).cell 0
                clear ht
                have HWU := Lib.hid hwu
                unfold topV
                simp only [List.isEmpty_nil, Bool.not_true, List.length_nil] at HLEN o0 ⊢
                clear hwu
                go_wp2_with fail
                rw [← HWU.out]
                go_quiet ((go_at_call 15; with_reducible exact quiet_left (HLEN.out _ (HTU.out.drewN _))))
                go_wp2
                go_roundw
                case rel => exact ⟨i + 1, by go_num, hlt, HRUN.out _ (HTU.out.drewN _)⟩
                case measure => simp [intOf]; omega
              | cons y R =>
                have HTOP := Lib.hid (top_any _ _ _ (y :: R) wz HZ.out.m)
                obtain ⟨az, haz, hcz⟩ := item_at HZ.out.r.row (j := 0) rfl
                subst haz
                go_wp2_with fail
                refine HTOP.out.mono ?_
                rintro e wt ⟨rfl, ht⟩
                obtain ⟨wu, hwu⟩ : ∃ wu, wu = wt.alloc (.cells #[.int .i64 y.1, .string ⟨y.2.toArray⟩] 27) := ⟨_, rfl⟩
                have HTU : Hid (Turn (fun _ => False) wz wu) := by rw [hwu]; exact ht.alloc _
                have o0 := (HZ.out.r.obj.turn HTU.out (fun f => f)).cell 0
                have hcz0 := hcz wu HTU.out
                rw [show az.add (0 * 2) = az from rfl] at hcz0
                obtain ⟨o1, o2⟩ := hcz0
                have hbx : Box wu wt.heap.size 27 #[.int .i64 y.1, .string ⟨y.2.toArray⟩] := by rw [hwu]; exact Box.new wt _ _
                have o3 := hbx.cell 0
                have o4 := hbx.cell 1
                have hRe : ¬ (R.length : Int) + 1 = 0 := by omega
                have hR0 : (0 : Int) < (R.length : Int) + 1 := by omega
                clear ht hbx hcz
                have HWU := Lib.hid hwu
                unfold topV
                simp only [List.isEmpty_cons, Bool.not_false, List.length_cons] at HLEN o0 ⊢
                clear hwu
                go_wp2_with fail
                rw [← HWU.out]
                go_quiet ((go_at_call 15; with_reducible exact quiet_left (HLEN.out _ (HTU.out.drewN _))))
                go_wp2
                go_roundw
                case rel => exact ⟨i + 1, by go_num, hlt, HRUN.out _ (HTU.out.drewN _)⟩
                case measure => simp [intOf]; omega
            | cons x R =>
              have HPO := Lib.hid (pop_some _ n svp x R wr HB.out.m (by simp at hLi; omega))
              go_wp2_with fail
              refine HPO.out.mono ?_
              rintro e w2 ⟨rfl, svp2, m2, t2, s2⟩
              obtain ⟨hrp, htw⟩ := HB.out.half (fun _ e => e) t2
              obtain ⟨w2', hw2⟩ : ∃ w2', w2' = w2.alloc (.cells #[.int .i64 x.1, .string ⟨x.2.toArray⟩] 27) := ⟨_, rfl⟩
              have ht2' : Turn (fun _ => False) w2 w2' := by rw [hw2]; exact (Turn.refl _ w2).alloc _
              have hbx : Box w2' w2.heap.size 27 #[.int .i64 x.1, .string ⟨x.2.toArray⟩] := by rw [hw2]; exact Box.new w2 _ _
              have HM2 := Lib.hid (m2.later ht2'); have HS2 := Lib.hid s2; have HRP2 := Lib.hid (hrp.later ht2'); have HTW2 := Lib.hid (htw.trans ht2' (fun _ _ f => f)); have HSZ := Lib.hid (Nat.le_trans t2.size ht2'.size); have HBX := Lib.hid hbx
              have hgx : w1.heap.size ≠ w2.heap.size := by have := hrp.obj.lt; omega
              have HW2 := Lib.hid hw2
              clear m2 t2 s2 hrp htw ht2' hbx hw2 HPO
              have hro := ref_pop7 _ sv x R w2' HRP2.out
              unfold iv at hro
              have HRO := Lib.hid hro
              clear hro
              go_wp2_with fail
              rw [← HW2.out]
              refine HRO.out.mono ?_
              rintro e w3 ⟨rfl, sv3, p3, t3, s3⟩
              have h3 : Both7 w w.heap.size w1.heap.size svp2 sv3 R n w3 := HB.out.whole HM2.out (fun k hk => .inr (HS2.out k hk)) HTW2.out HSZ.out p3 t3 (.inr s3) HRP2.out.obj
              obtain ⟨wz, hwz⟩ : ∃ wz, wz = w3.alloc (.cells #[.int .i64 x.1, .string ⟨x.2.toArray⟩] 27) := ⟨_, rfl⟩
              have htz : Turn (fun _ => False) w3 wz := by rw [hwz]; exact (Turn.refl _ w3).alloc _
              have HZ : Hid (Both7 w w.heap.size w1.heap.size svp2 sv3 R n wz) := h3.later htz
              have hbx3 : Box wz w2.heap.size 27 #[.int .i64 x.1, .string ⟨x.2.toArray⟩] := (HBX.out.turn t3 (fun e => hgx e.symm)).turn htz (fun f => f)
              have hby : Box wz w3.heap.size 27 #[.int .i64 x.1, .string ⟨x.2.toArray⟩] := by rw [hwz]; exact Box.new w3 _ _
              have q0 := hbx3.cell 0
              have q1 := hbx3.cell 1
              have q2 := hby.cell 0
              have q3 := hby.cell 1
              have HWZ := Lib.hid hwz
              have hmi : n ≤ i + 1 := by omega
              have hMi : (R : List (Int × List UInt8)).length ≤ i + 1 := by simp at hLi; omega
              clear p3 t3 s3 h3 htz hbx3 hby hwz HM2 HS2 HRP2 HTW2 HSZ HBX HRO HB hni hLi c0 c1 c2
              rw [HWZ.out] at q0 q1 q2 q3
              go_wp2_with fail
              rw [← HWZ.out]
              clear q0 q1 q2 q3
              obtain ⟨M, hMM⟩ : ∃ M, M = R := ⟨_, rfl⟩
              subst hMM
              -- from Top on, in world wz
              obtain ⟨AZ, cZ, hsvz⟩ := HZ.out.r.row.shape
              subst hsvz
              have HLEN : Hid (∀ W, Turn (fun _ => False) wz W → Calls Try.prog 15 #[.pointer (some ⟨w.heap.size, 0, none⟩)] W fun e w' => e = .returned (.int .i64 (M.length : Int)) ∧ W = w') := fun W ht => len_any _ _ _ M W (HZ.out.m.later ht)
              have HRUN : Hid (∀ W, Turn (fun _ => False) wz W → Run7 w w.heap.size w1.heap.size (i + 1) W) := fun W ht => ⟨_, _, _, _, HZ.out.later ht, hmi, hMi⟩
              cases M with
              | nil =>
                have HTOP := Lib.hid (top_any _ _ _ [] wz HZ.out.m)
                go_wp2_with fail
                refine HTOP.out.mono ?_
                rintro e wt ⟨rfl, ht⟩
                obtain ⟨wu, hwu⟩ : ∃ wu, wu = wt.alloc (.cells #[.int .i64 0, .string ⟨#[]⟩] 27) := ⟨_, rfl⟩
                have HTU : Hid (Turn (fun _ => False) wz wu) := by rw [hwu]; exact ht.alloc _
                have o0 := (HZ.out.r.obj.turn HTU.out (fun f => f)).cell 0
                clear ht
                have HWU := Lib.hid hwu
                unfold topV
                simp only [List.isEmpty_nil, Bool.not_true, List.length_nil] at HLEN o0 ⊢
                clear hwu
                go_wp2_with fail
                rw [← HWU.out]
                go_quiet ((go_at_call 15; with_reducible exact quiet_left (HLEN.out _ (HTU.out.drewN _))))
                go_wp2
                go_roundw
                case rel => exact ⟨i + 1, by go_num, hlt, HRUN.out _ (HTU.out.drewN _)⟩
                case measure => simp [intOf]; omega
              | cons y R =>
                have HTOP := Lib.hid (top_any _ _ _ (y :: R) wz HZ.out.m)
                obtain ⟨az, haz, hcz⟩ := item_at HZ.out.r.row (j := 0) rfl
                subst haz
                go_wp2_with fail
                refine HTOP.out.mono ?_
                rintro e wt ⟨rfl, ht⟩
                obtain ⟨wu, hwu⟩ : ∃ wu, wu = wt.alloc (.cells #[.int .i64 y.1, .string ⟨y.2.toArray⟩] 27) := ⟨_, rfl⟩
                have HTU : Hid (Turn (fun _ => False) wz wu) := by rw [hwu]; exact ht.alloc _
                have o0 := (HZ.out.r.obj.turn HTU.out (fun f => f)).cell 0
                have hcz0 := hcz wu HTU.out
                rw [show az.add (0 * 2) = az from rfl] at hcz0
                obtain ⟨o1, o2⟩ := hcz0
                have hbx : Box wu wt.heap.size 27 #[.int .i64 y.1, .string ⟨y.2.toArray⟩] := by rw [hwu]; exact Box.new wt _ _
                have o3 := hbx.cell 0
                have o4 := hbx.cell 1
                have hRe : ¬ (R.length : Int) + 1 = 0 := by omega
                have hR0 : (0 : Int) < (R.length : Int) + 1 := by omega
                clear ht hbx hcz
                have HWU := Lib.hid hwu
                unfold topV
                simp only [List.isEmpty_cons, Bool.not_false, List.length_cons] at HLEN o0 ⊢
                clear hwu
                go_wp2_with fail
                rw [← HWU.out]
                go_quiet ((go_at_call 15; with_reducible exact quiet_left (HLEN.out _ (HTU.out.drewN _))))
                go_wp2
                go_roundw
                case rel => exact ⟨i + 1, by go_num, hlt, HRUN.out _ (HTU.out.drewN _)⟩
                case measure => simp [intOf]; omega
          · have hk00 : (a.kind == 0) = false := by simpa using hk0
            have hk11 : (a.kind == 1) = false := by simpa using hk1
            have HZ := HB
            have hmi : n ≤ i + 1 := by omega
            have hMi : L.length ≤ i + 1 := by omega
            clear HB hni hLi
            obtain ⟨M, hMM⟩ : ∃ M, M = L := ⟨_, rfl⟩
            subst hMM
            obtain ⟨wz, hwz⟩ : ∃ wz, wz = wr := ⟨_, rfl⟩
            subst hwz
            -- from Top on, in world wz
            obtain ⟨AZ, cZ, hsvz⟩ := HZ.out.r.row.shape
            subst hsvz
            have HLEN : Hid (∀ W, Turn (fun _ => False) wz W → Calls Try.prog 15 #[.pointer (some ⟨w.heap.size, 0, none⟩)] W fun e w' => e = .returned (.int .i64 (M.length : Int)) ∧ W = w') := fun W ht => len_any _ _ _ M W (HZ.out.m.later ht)
            have HRUN : Hid (∀ W, Turn (fun _ => False) wz W → Run7 w w.heap.size w1.heap.size (i + 1) W) := fun W ht => ⟨_, _, _, _, HZ.out.later ht, hmi, hMi⟩
            cases M with
            | nil =>
              have HTOP := Lib.hid (top_any _ _ _ [] wz HZ.out.m)
              go_wp2_with fail
              refine HTOP.out.mono ?_
              rintro e wt ⟨rfl, ht⟩
              obtain ⟨wu, hwu⟩ : ∃ wu, wu = wt.alloc (.cells #[.int .i64 0, .string ⟨#[]⟩] 27) := ⟨_, rfl⟩
              have HTU : Hid (Turn (fun _ => False) wz wu) := by rw [hwu]; exact ht.alloc _
              have o0 := (HZ.out.r.obj.turn HTU.out (fun f => f)).cell 0
              clear ht
              have HWU := Lib.hid hwu
              unfold topV
              simp only [List.isEmpty_nil, Bool.not_true, List.length_nil] at HLEN o0 ⊢
              clear hwu
              go_wp2_with fail
              rw [← HWU.out]
              go_quiet ((go_at_call 15; with_reducible exact quiet_left (HLEN.out _ (HTU.out.drewN _))))
              go_wp2
              go_roundw
              case rel => exact ⟨i + 1, by go_num, hlt, HRUN.out _ (HTU.out.drewN _)⟩
              case measure => simp [intOf]; omega
            | cons y R =>
              have HTOP := Lib.hid (top_any _ _ _ (y :: R) wz HZ.out.m)
              obtain ⟨az, haz, hcz⟩ := item_at HZ.out.r.row (j := 0) rfl
              subst haz
              go_wp2_with fail
              refine HTOP.out.mono ?_
              rintro e wt ⟨rfl, ht⟩
              obtain ⟨wu, hwu⟩ : ∃ wu, wu = wt.alloc (.cells #[.int .i64 y.1, .string ⟨y.2.toArray⟩] 27) := ⟨_, rfl⟩
              have HTU : Hid (Turn (fun _ => False) wz wu) := by rw [hwu]; exact ht.alloc _
              have o0 := (HZ.out.r.obj.turn HTU.out (fun f => f)).cell 0
              have hcz0 := hcz wu HTU.out
              rw [show az.add (0 * 2) = az from rfl] at hcz0
              obtain ⟨o1, o2⟩ := hcz0
              have hbx : Box wu wt.heap.size 27 #[.int .i64 y.1, .string ⟨y.2.toArray⟩] := by rw [hwu]; exact Box.new wt _ _
              have o3 := hbx.cell 0
              have o4 := hbx.cell 1
              have hRe : ¬ (R.length : Int) + 1 = 0 := by omega
              have hR0 : (0 : Int) < (R.length : Int) + 1 := by omega
              clear ht hbx hcz
              have HWU := Lib.hid hwu
              unfold topV
              simp only [List.isEmpty_cons, Bool.not_false, List.length_cons] at HLEN o0 ⊢
              clear hwu
              go_wp2_with fail
              rw [← HWU.out]
              go_quiet ((go_at_call 15; with_reducible exact quiet_left (HLEN.out _ (HTU.out.drewN _))))
              go_wp2
              go_roundw
              case rel => exact ⟨i + 1, by go_num, hlt, HRUN.out _ (HTU.out.drewN _)⟩
              case measure => simp [intOf]; omega
      · obtain rfl : i = l.length := by omega
        obtain ⟨AZ, cZ, hsvz⟩ := HB.out.r.row.shape
        subst hsvz
        have HSK : Hid (∀ W, Turn (fun _ => False) wr W → W.cell? ⟨w1.heap.size, 0, none⟩ = some (.slice AZ L.length cZ) ∧ Turn (fun _ => False) wr W) := fun W ht => ⟨(HB.out.r.obj.turn ht (fun f => f)).cell 0, ht⟩
        go_wp2_with fail
        refine drawn_region (fun W => W.cell? ⟨w1.heap.size, 0, none⟩ = some (.slice AZ L.length cZ) ∧ Turn (fun _ => False) wr W) [] (by kernel_rfl) ?_
        have ht0 : Turn (fun _ => False) wr wr.drew := (Turn.refl _ wr).drew
        generalize World.drew wr = wd at *
        have HT0 := Lib.hid ht0
        clear ht0
        have hS0 := HSK.out _ HT0.out
        refine drawn_take 0 102 (.pointer (some ⟨w.heap.size, 0, none⟩)) rfl rfl (by kernel_rfl) (by kernel_rfl) (by kernel_rfl) (by kernel_rfl) (fun _ _ _ h => h) (by rfl) (by assumption) (by intro w hSw; obtain ⟨hS1, hS2⟩ := hSw; go_simp) ?_
        try simp only [List.setIfInBounds_toArray, List.set_cons_zero, List.set_cons_succ]
        refine drawn_take 2 104 (.pointer (some ⟨w1.heap.size, 0, none⟩)) rfl rfl (by kernel_rfl) (by kernel_rfl) (by kernel_rfl) (by kernel_rfl) (fun _ _ _ h => h) (by rfl) (by assumption) (by intro w hSw; obtain ⟨hS1, hS2⟩ := hSw; go_simp) ?_
        try simp only [List.setIfInBounds_toArray, List.set_cons_zero, List.set_cons_succ]
        refine drawn_take 3 105 (.pointer (some ⟨w1.heap.size, 0, none⟩)) rfl rfl (by kernel_rfl) (by kernel_rfl) (by kernel_rfl) (by kernel_rfl) (fun _ _ _ h => h) (by rfl) (by assumption) (by intro w hSw; obtain ⟨hS1, hS2⟩ := hSw; go_simp) ?_
        try simp only [List.setIfInBounds_toArray, List.set_cons_zero, List.set_cons_succ]
        refine drawn_take 4 106 (.pointer (some ⟨w1.heap.size, 0, none⟩)) rfl rfl (by kernel_rfl) (by kernel_rfl) (by kernel_rfl) (by kernel_rfl) (fun _ _ _ h => h) (by rfl) (by assumption) (by intro w hSw; obtain ⟨hS1, hS2⟩ := hSw; go_simp) ?_
        try simp only [List.setIfInBounds_toArray, List.set_cons_zero, List.set_cons_succ]
        refine drawn_take 5 107 (.slice AZ L.length cZ) rfl rfl (by kernel_rfl) (by kernel_rfl) (by kernel_rfl) (by kernel_rfl) (fun _ _ _ h => h) (by rfl) (by assumption) (by intro w hSw; obtain ⟨hS1, hS2⟩ := hSw; go_simp) ?_
        try simp only [List.setIfInBounds_toArray, List.set_cons_zero, List.set_cons_succ]
        refine drawn_any [1] (by kernel_rfl) (by simp) ?_
        refine drawn_cons rfl (fun K hK => ?_) drawn_nil
        go_simp
        refine (sorted_any _ n svp L wd (HB.out.m.later HT0.out) (by omega)).mono ?_
        rintro e w2 ⟨v2, rfl, o2, n2, t2⟩
        have HT2 : Hid (Turn (fun _ => False) wr w2) := HT0.out.trans t2 (fun _ _ f => f)
        have HO2 := Lib.hid o2.rd
        have hS3 := HSK.out _ HT2.out
        refine hK.out _ _ _ hS3 ?_
        clear hK K hS0 o2 n2 t2
        try simp only [List.setIfInBounds_toArray, List.set_cons_zero, List.set_cons_succ]
        refine drawn_any [6] (by kernel_rfl) (by simp) ?_
        refine drawn_cons rfl (fun K hK => ?_) drawn_nil
        go_simp
        refine (same_refl7 _ _ L w2 HO2.out (HB.out.r.row.later HT2.out) (by omega)).mono ?_
        rintro e w3 ⟨rfl, t3⟩
        have HT3 : Hid (Turn (fun _ => False) wr w3) := HT2.out.trans t3 (fun _ _ f => f)
        have hS4 := HSK.out _ HT3.out
        refine hK.out _ _ _ hS4 ?_
        clear hK K hS3 t3
        try simp only [List.setIfInBounds_toArray, List.set_cons_zero, List.set_cons_succ]
        refine drawn_take 7 109 (.bool true) rfl rfl (by kernel_rfl) (by kernel_rfl) (by kernel_rfl) (by kernel_rfl) (fun _ _ _ h => h) (by rfl) (by assumption) (by intro w hSw; obtain ⟨hS1, hS2⟩ := hSw; go_simp) ?_
        try simp only [List.setIfInBounds_toArray, List.set_cons_zero, List.set_cons_succ]
        refine drawn_take 8 110 (.pointer (some ⟨w.heap.size, 0, none⟩)) rfl rfl (by kernel_rfl) (by kernel_rfl) (by kernel_rfl) (by kernel_rfl) (fun _ _ _ h => h) (by rfl) (by assumption) (by intro w hSw; obtain ⟨hS1, hS2⟩ := hSw; go_simp) ?_
        try simp only [List.setIfInBounds_toArray, List.set_cons_zero, List.set_cons_succ]
        refine drawn_take 10 112 (.pointer (some ⟨w1.heap.size, 0, none⟩)) rfl rfl (by kernel_rfl) (by kernel_rfl) (by kernel_rfl) (by kernel_rfl) (fun _ _ _ h => h) (by rfl) (by assumption) (by intro w hSw; obtain ⟨hS1, hS2⟩ := hSw; go_simp) ?_
        try simp only [List.setIfInBounds_toArray, List.set_cons_zero, List.set_cons_succ]
        refine drawn_take 11 113 (.pointer (some ⟨w1.heap.size, 0, none⟩)) rfl rfl (by kernel_rfl) (by kernel_rfl) (by kernel_rfl) (by kernel_rfl) (fun _ _ _ h => h) (by rfl) (by assumption) (by intro w hSw; obtain ⟨hS1, hS2⟩ := hSw; go_simp) ?_
        try simp only [List.setIfInBounds_toArray, List.set_cons_zero, List.set_cons_succ]
        refine drawn_take 12 114 (.pointer (some ⟨w1.heap.size, 0, none⟩)) rfl rfl (by kernel_rfl) (by kernel_rfl) (by kernel_rfl) (by kernel_rfl) (fun _ _ _ h => h) (by rfl) (by assumption) (by intro w hSw; obtain ⟨hS1, hS2⟩ := hSw; go_simp) ?_
        try simp only [List.setIfInBounds_toArray, List.set_cons_zero, List.set_cons_succ]
        refine drawn_take 13 115 (.slice AZ L.length cZ) rfl rfl (by kernel_rfl) (by kernel_rfl) (by kernel_rfl) (by kernel_rfl) (fun _ _ _ h => h) (by rfl) (by assumption) (by intro w hSw; obtain ⟨hS1, hS2⟩ := hSw; go_simp) ?_
        try simp only [List.setIfInBounds_toArray, List.set_cons_zero, List.set_cons_succ]
        refine drawn_take 14 116 (.int .i64 (L.length : Int)) rfl rfl (by kernel_rfl) (by kernel_rfl) (by kernel_rfl) (by kernel_rfl) (fun _ _ _ h => h) (by rfl) (by assumption) (by intro w hSw; obtain ⟨hS1, hS2⟩ := hSw; go_simp) ?_
        try simp only [List.setIfInBounds_toArray, List.set_cons_zero, List.set_cons_succ]
        refine drawn_any [9] (by kernel_rfl) (by simp) ?_
        refine drawn_cons rfl (fun K hK => ?_) drawn_nil
        go_simp
        refine (len_any _ n svp L w3 (HB.out.m.later HT3.out)).mono ?_
        rintro e w4 ⟨rfl, rfl⟩
        refine hK.out _ _ _ hS4 ?_
        clear hK K
        try simp only [List.setIfInBounds_toArray, List.set_cons_zero, List.set_cons_succ]
        refine drawn_take 15 117 (.bool true) rfl rfl (by kernel_rfl) (by kernel_rfl) (by kernel_rfl) (by kernel_rfl) (fun _ _ _ h => h) (by rfl) (by assumption) (by intro w hSw; obtain ⟨hS1, hS2⟩ := hSw; go_simp) ?_
        try simp only [List.setIfInBounds_toArray, List.set_cons_zero, List.set_cons_succ]
        refine drawn_take 16 118 (.bool true) rfl rfl (by kernel_rfl) (by kernel_rfl) (by kernel_rfl) (by kernel_rfl) (fun _ _ _ h => h) (by rfl) (by assumption) (by intro w hSw; obtain ⟨hS1, hS2⟩ := hSw; go_simp) ?_
        try simp only [List.setIfInBounds_toArray, List.set_cons_zero, List.set_cons_succ]
        refine drawn_take 17 119 (.bool true) rfl rfl (by kernel_rfl) (by kernel_rfl) (by kernel_rfl) (by kernel_rfl) (fun _ _ _ h => h) (by rfl) (by assumption) (by intro w hSw; obtain ⟨hS1, hS2⟩ := hSw; go_simp) ?_
        try simp only [List.setIfInBounds_toArray, List.set_cons_zero, List.set_cons_succ]
        refine drawn_any [18] (by kernel_rfl) (by simp) ?_
        refine drawn_cons rfl (fun K hK => ?_) drawn_nil
        go_simp
        refine (alive_any7 w3).mono ?_
        rintro e w5 ⟨rfl, t5⟩
        have HT5 : Hid (Turn (fun _ => False) wr w5) := HT3.out.trans t5 (fun _ _ f => f)
        have hS5 := HSK.out _ HT5.out
        refine hK.out _ _ _ hS5 ?_
        clear hK K hS4 t5
        try simp only [List.setIfInBounds_toArray, List.set_cons_zero, List.set_cons_succ]
        refine drawn_take 19 121 (.bool true) rfl rfl (by kernel_rfl) (by kernel_rfl) (by kernel_rfl) (by kernel_rfl) (fun _ _ _ h => h) (by rfl) (by assumption) (by intro w hSw; obtain ⟨hS1, hS2⟩ := hSw; go_simp) ?_
        try simp only [List.setIfInBounds_toArray, List.set_cons_zero, List.set_cons_succ]
        refine drawn_last1 20 2 (.bool true) rfl rfl (by kernel_rfl) (by kernel_rfl) (by rfl) (by intro w; go_simp) hS5 ?_
        try simp only [List.setIfInBounds_toArray, List.set_cons_zero, List.set_cons_succ]
        clear hS5
        go_wp2
        go_ret
        exact ⟨rfl, (HB.out.turn.trans HT5.out (fun _ _ f => f)).below (Nat.le_refl _) (fun _ f => f.elim)⟩
  · go_enter Try.func3, Try.ntmps3
    go_wp2_with fail
    refine (alive_any7 w).mono ?_
    rintro e w5 ⟨rfl, ht⟩
    have HTa := Lib.hid ht
    clear ht
    go_wp2
    go_ret
    exact ⟨rfl, HTa.out.below (Nat.le_refl _) (fun _ f => f.elim)⟩

set_option maxRecDepth 100000 in
theorem lifted (os : Os) (started : os.Started) (H : Type) (enc : TypeId × Value → H) :
    ReturnsInHanded {} Try.checked os 3 .any (Rows.pilePlaysSpec.pre6 enc Try.prog Try.f3 Rows.pilePlaysRow.domain false) (Rows.pilePlaysSpec.post enc Try.prog Try.f3 false true false false) := by
  refine returnsInHanded_of_change (C := Try.checked) own started (by kernel_rfl) Try.func3
    (ChangeSpec.witness6 (enc := enc) (C := Try.checked) false ⟨#[], #[.slice none 0 0], []⟩ 8 (by kernel_rfl) (by kernel_rfl) (by kernel_rfl) (by kernel_rfl)) ?_
  intro W base args ds gs before hval0 hW hcnd _
  have hval : ∀ (j : Nat) t v, Try.f3.params[j]? = some t → args[j]? = some v → Value.okWide Try.prog W .any base t v := hval0
  have hW' := hW
  obtain ⟨p, q, hA0, hV, rfl, hfz, hnd⟩ := hW
  have hA : DataW.TrodAll enc Try.prog W 0 (fun _ => true) true Try.f3.params.toList args.toList ds p := hA0
  rw [Try.params3] at hA hval
  obtain ⟨v0, vs0, d0, ds0, p0, q0, hargs, rfl, rfl, h0, r0⟩ := trodAll_cons hA
  obtain ⟨rfl, rfl, rfl⟩ := trodAll_nil r0
  obtain rfl : args = #[v0] := by cases args; simp_all
  obtain ⟨rfl, rfl⟩ := trodVars_none hV
  have k0 := h0
  have lt0 : ∀ x ∈ p0, x.block < W.heap.size := by obtain ⟨m, hm⟩ := k0; exact DataW.trod_lt m _ _ _ hm
  obtain ⟨a0, len0, cap0, rfl⟩ := okWide_slice Try.underlying22 (hval 0 22 v0 rfl rfl)
  obtain ⟨l0, hp0, hl0, hf0⟩ := open_acts7 rfl h0
  clear hA0 hval0
  refine (walk _ l0 W hp0 hl0).mono fun e W' ⟨he, bel⟩ => ?_
  subst he
  exact ⟨_, rfl, _, _, _, [], _, [], hW', trodAll_mk1 (shut_bool Try.underlying4 _), (trodAll_cons_mk (Below.trod laidOut (by kernel_rfl) (of_decide_eq_true (by kernel_rfl)) k0 bel lt0) trodAll_mk0), rfl, bel.frame _, fun h => by cases h⟩

theorem over : Rows.pilePlaysRow.holds Try.pinned (OpenSpec.ofChange Rows.pilePlaysSpec) :=
  OpenClaim.holds_of_wide 3 Try.f3 rfl rfl rfl rfl rfl rfl rfl ⟨rfl, rfl, rfl, rfl, rfl⟩ rfl rfl rfl rfl rfl (by kernel_rfl) Try.func3 (by kernel_rfl)
    (of_decide_eq_true (by kernel_rfl)) (by unfold Func.isWrapper; first | (rw [if_pos (by decide +kernel)]; kernel_rfl) | (rw [if_neg (by decide +kernel)]; exact ⟨rfl, rfl⟩))
    (fun os started H enc _ => lifted os started H enc)

theorem proved : Rows.PilePlaysSaid := over
#print axioms proved
end Go.Proofs.Ythhlppdphcjlnaa.pilePlays
