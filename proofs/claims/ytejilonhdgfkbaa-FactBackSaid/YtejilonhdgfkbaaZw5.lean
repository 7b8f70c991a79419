
/-
  'FactBack': a batch that is right is read as it was, and what is read has just those bytes. No condition.
-/
import Derived.Test.YtejilonhdgfkbaaZs
import Derived.Test.YtejilonhdgfkbaaZo
import Derived.Test.YtejilonhdgfkbaaBs
import Derived.Test.YtejilonhdgfkbaaZn
import Derived.Test.YtejilonhdgfkbaaZrd
import Derived.Test.YtejilonhdgfkbaaZf
import Derived.Test.YtejilonhdgfkbaaZp
import Derived.Test.YtejilonhdgfkbaaZck
import Derived.ProofKit
import Derived.OpenShut
namespace Go.Proofs.Ytejilonhdgfkbaa.factBack
open Go.ChangeShapes Go.WideShapes Go.ChangeAt Go.RowKit
set_option linter.unusedVariables false

theorem own : ownKnob Try.prog.godebug = none := by kernel_rfl
theorem laidOut : laidOutB Try.prog = true := by kernel_rfl

set_option maxRecDepth 100000 in
set_option maxHeartbeats 8000000 in
theorem walk (v u : Value) (l : List F9) (m : List UInt8) (n : Int) (_wn : (Lit.int .i64 n).wf = true) (w : World) (h : RdE EF w v l) (hlen : l.length ≤ maxLen) (hu : Rd w u m) :
    Calls Try.prog 7 #[v, u, .int .i64 n] w fun e w' => e = .returned (.bool true) ∧ Below w.heap.size w w' := by
  have HV := Lib.hid h
  have HU := Lib.hid hu
  have HLI := Lib.hid (light_any9 v l w h hlen)
  obtain ⟨A, c, rfl⟩ := h.shape
  obtain ⟨B, d, rfl⟩ := hu.shape
  clear h _wn hu hlen
  by_cases hgood : light9 l = true ∧ m.length ≤ 1000
  · obtain ⟨hL, hm⟩ := hgood
    rw [hL] at HLI
    have h100 := light_len9 hL
    have h1k : l.length ≤ 1000 := by omega
    have hmk : (m.length : Int) ≤ 1000 := by omega
    have hm1 : m.length ≤ 100000 := by omega
    have hen := encode_any9 _ l n w HV.out h1k
    unfold Encp at hen
    by_cases hfa : (allB l n).1 = 0
    · have hbl := batch_len9 hfa
      have hrb := readB_back hfa
      rw [hfa, if_pos rfl] at hen
      have HEN := Lib.hid hen
      have HFA := Lib.hid hfa
      have HBL := Lib.hid hbl
      have hr1 := fun (X : Value) (W : World) (hx : Rd W X (batchB l n.toNat)) => read_any9 X (batchB l n.toNat) n W hx hbl
      unfold Readed at hr1
      rw [hrb] at hr1
      have HR1 := Lib.hid hr1
      clear hen hfa hbl hrb hr1
      go_enter Try.func7, Try.ntmps7
      go_wp2_with fail
      refine HLI.out.mono ?_
      rintro e w2 ⟨rfl, rfl⟩
      clear HLI
      go_wp2_with fail
      refine HEN.out.mono ?_
      rintro e w3 ⟨v3, rfl, r3, t3⟩
      have HV3 := Lib.hid (HV.out.later t3); have HU3 := Lib.hid (HU.out.later t3); have HT3 := Lib.hid t3; have HR3 := Lib.hid r3
      clear r3 t3 HEN
      have hal := all_any9 _ l n w3 HV3.out h1k
      unfold allV at hal
      rw [HFA.out] at hal
      go_wp2_with fail
      refine hal.mono ?_
      rintro e w4 ⟨rfl, t4⟩
      clear hal
      have HV4 := Lib.hid (HV3.out.later t4); have HU4 := Lib.hid (HU3.out.later t4); have HT4 := Lib.hid (HT3.out.trans t4 (fun _ _ f => f)); have HR4 := Lib.hid (HR3.out.later t4)
      clear t4
      go_wp2_with fail
      refine (HR1.out _ _ HR4.out).mono ?_
      rintro e w5 ⟨v5, rfl, r5, t5⟩
      have HV5 := Lib.hid (HV4.out.later t5); have HU5 := Lib.hid (HU4.out.later t5); have HT5 := Lib.hid (HT4.out.trans t5 (fun _ _ f => f)); have HR5 := Lib.hid r5
      clear r5 t5
      go_wp2_with fail
      refine (same_refl9 _ _ l w5 HV5.out HR5.out (by omega)).mono ?_
      rintro e w5b ⟨rfl, t5⟩
      obtain ⟨WX, hWX⟩ : ∃ WX, WX = w5b := ⟨_, rfl⟩
      subst hWX
      have HUX := Lib.hid (HU5.out.later t5); have HTX := Lib.hid (HT5.out.trans t5 (fun _ _ f => f))
      clear t5
      have hrd := read_any9 _ m n WX HUX.out hm1
      unfold Readed at hrd
      by_cases hfb : (readB m n).1 = 0
      · have HRB : Hid (readB m n = (0, (readB m n).2)) := by show _ = _; rw [← hfb]
        obtain ⟨hb1, hb2⟩ := readB_there HRB.out
        have HB1 := Lib.hid hb1
        have HB2 := Lib.hid hb2
        have hl2 := readB_len (m := m) (n := n)
        rw [hfb] at hrd
        generalize (readB m n).2 = res at *
        clear hfb hb1 hb2 HRB
        go_wp2_with fail
        refine hrd.mono ?_
        rintro e w6 ⟨v6, rfl, r6, t6⟩
        have HT6 := Lib.hid (HTX.out.trans t6 (fun _ _ f => f)); have HR6 := Lib.hid r6; have HU6 := Lib.hid (HUX.out.later t6)
        clear r6 t6 hrd
        have hen2 := encode_any9 _ res n w6 HR6.out hl2
        unfold Encp at hen2
        rw [HB2.out, if_pos rfl, ← HB1.out] at hen2
        go_wp2_with fail
        refine hen2.mono ?_
        rintro e w7 ⟨v7, rfl, r7, t7⟩
        have HT7 := Lib.hid (HT6.out.trans t7 (fun _ _ f => f)); have HR7 := Lib.hid r7; have HU7 := Lib.hid (HU6.out.later t7)
        clear r7 t7 hen2
        go_wp2_with fail
        refine (same_any _ _ _ _ w7 HR7.out HU7.out).mono ?_
        rintro e w8 ⟨rfl, rfl⟩
        rw [beq_self_eq_true]
        go_wp2_with fail
        refine (alive_any9 w7).mono ?_
        rintro e wB ⟨rfl, tB⟩
        have HTB := Lib.hid (HT7.out.trans tB (fun _ _ f => f))
        clear tB
        go_wp2
        go_ret
        exact ⟨rfl, HTB.out.below (Nat.le_refl _) (fun _ f => f.elim)⟩
      · rw [readB_none hfb] at hrd
        have hfbd : ((readB m n).1 != 0) = true := by simp [bne, hfb]
        clear hfb
        generalize (readB m n).1 = fb at *
        go_wp2_with fail
        refine hrd.mono ?_
        rintro e w6 ⟨v6, rfl, r6, t6⟩
        obtain ⟨A6, c6, rfl⟩ := r6.shape
        have HT6 := Lib.hid (HTX.out.trans t6 (fun _ _ f => f))
        clear r6 t6 hrd
        go_wp2_with fail
        refine (alive_any9 w6).mono ?_
        rintro e wB ⟨rfl, tB⟩
        have HTB := Lib.hid (HT6.out.trans tB (fun _ _ f => f))
        clear tB
        go_wp2
        go_ret
        exact ⟨rfl, HTB.out.below (Nat.le_refl _) (fun _ f => f.elim)⟩
    · rw [if_neg hfa] at hen
      obtain ⟨fa, hfe⟩ : ∃ fa, (allB l n).1 = fa := ⟨_, rfl⟩
      rw [hfe] at hen hfa
      have HFA := Lib.hid hfe
      have HEN := Lib.hid hen
      have hfad : (fa == 0) = false := by simp [hfa]
      clear hen hfa hfe
      go_enter Try.func7, Try.ntmps7
      go_wp2_with fail
      refine HLI.out.mono ?_
      rintro e w2 ⟨rfl, rfl⟩
      clear HLI
      go_wp2_with fail
      refine HEN.out.mono ?_
      rintro e w3 ⟨v3, rfl, r3, t3⟩
      have HV3 := Lib.hid (HV.out.later t3); have HU3 := Lib.hid (HU.out.later t3); have HT3 := Lib.hid t3; have HR3 := Lib.hid r3
      clear r3 t3 HEN
      have hal := all_any9 _ l n w3 HV3.out h1k
      unfold allV at hal
      rw [HFA.out] at hal
      go_wp2_with fail
      refine hal.mono ?_
      rintro e w4 ⟨rfl, t4⟩
      clear hal
      have HV4 := Lib.hid (HV3.out.later t4); have HU4 := Lib.hid (HU3.out.later t4); have HT4 := Lib.hid (HT3.out.trans t4 (fun _ _ f => f)); have HR4 := Lib.hid (HR3.out.later t4)
      clear t4
      obtain ⟨WX, hWX⟩ : ∃ WX, WX = w4 := ⟨_, rfl⟩
      subst hWX
      have HUX := HU4
      have HTX := HT4
      have hrd := read_any9 _ m n WX HUX.out hm1
      unfold Readed at hrd
      by_cases hfb : (readB m n).1 = 0
      · have HRB : Hid (readB m n = (0, (readB m n).2)) := by show _ = _; rw [← hfb]
        obtain ⟨hb1, hb2⟩ := readB_there HRB.out
        have HB1 := Lib.hid hb1
        have HB2 := Lib.hid hb2
        have hl2 := readB_len (m := m) (n := n)
        rw [hfb] at hrd
        generalize (readB m n).2 = res at *
        clear hfb hb1 hb2 HRB
        go_wp2_with fail
        refine hrd.mono ?_
        rintro e w6 ⟨v6, rfl, r6, t6⟩
        have HT6 := Lib.hid (HTX.out.trans t6 (fun _ _ f => f)); have HR6 := Lib.hid r6; have HU6 := Lib.hid (HUX.out.later t6)
        clear r6 t6 hrd
        have hen2 := encode_any9 _ res n w6 HR6.out hl2
        unfold Encp at hen2
        rw [HB2.out, if_pos rfl, ← HB1.out] at hen2
        go_wp2_with fail
        refine hen2.mono ?_
        rintro e w7 ⟨v7, rfl, r7, t7⟩
        have HT7 := Lib.hid (HT6.out.trans t7 (fun _ _ f => f)); have HR7 := Lib.hid r7; have HU7 := Lib.hid (HU6.out.later t7)
        clear r7 t7 hen2
        go_wp2_with fail
        refine (same_any _ _ _ _ w7 HR7.out HU7.out).mono ?_
        rintro e w8 ⟨rfl, rfl⟩
        rw [beq_self_eq_true]
        go_wp2_with fail
        refine (alive_any9 w7).mono ?_
        rintro e wB ⟨rfl, tB⟩
        have HTB := Lib.hid (HT7.out.trans tB (fun _ _ f => f))
        clear tB
        go_wp2
        go_ret
        exact ⟨rfl, HTB.out.below (Nat.le_refl _) (fun _ f => f.elim)⟩
      · rw [readB_none hfb] at hrd
        have hfbd : ((readB m n).1 != 0) = true := by simp [bne, hfb]
        clear hfb
        generalize (readB m n).1 = fb at *
        go_wp2_with fail
        refine hrd.mono ?_
        rintro e w6 ⟨v6, rfl, r6, t6⟩
        obtain ⟨A6, c6, rfl⟩ := r6.shape
        have HT6 := Lib.hid (HTX.out.trans t6 (fun _ _ f => f))
        clear r6 t6 hrd
        go_wp2_with fail
        refine (alive_any9 w6).mono ?_
        rintro e wB ⟨rfl, tB⟩
        have HTB := Lib.hid (HT6.out.trans tB (fun _ _ f => f))
        clear tB
        go_wp2
        go_ret
        exact ⟨rfl, HTB.out.below (Nat.le_refl _) (fun _ f => f.elim)⟩
  · have hno : light9 l = false ∨ (light9 l = true ∧ ¬ ((m.length : Int) ≤ 1000)) := by
      cases hL : light9 l
      · exact .inl rfl
      · exact .inr ⟨rfl, fun hm => hgood ⟨hL, by omega⟩⟩
    rcases hno with hL | ⟨hL, hmk⟩
    all_goals
      rw [hL] at HLI
      clear hgood
      go_enter Try.func7, Try.ntmps7
      go_wp2_with fail
      refine HLI.out.mono ?_
      rintro e w2 ⟨rfl, rfl⟩
      go_wp2_with fail
      refine (alive_any9 w2).mono ?_
      rintro e w3 ⟨rfl, ht⟩
      have HTa := Lib.hid ht
      clear ht
      go_wp2
      go_ret
      exact ⟨rfl, HTa.out.below (Nat.le_refl _) (fun _ f => f.elim)⟩

set_option maxRecDepth 100000 in
theorem lifted (os : Os) (started : os.Started) (H : Type) (enc : TypeId × Value → H) :
    ReturnsInHanded {} Try.checked os 7 .any (Rows.factBackSpec.pre6 enc Try.prog Try.f7 Rows.factBackRow.domain false) (Rows.factBackSpec.post enc Try.prog Try.f7 false true false false) := by
  refine returnsInHanded_of_change (C := Try.checked) own started (by kernel_rfl) Try.func7
    (ChangeSpec.witness6 (enc := enc) (C := Try.checked) false ⟨#[], #[.slice none 0 0, .slice none 0 0, .int .i64 0], []⟩ 8 (by kernel_rfl) (by kernel_rfl) (by kernel_rfl) (by kernel_rfl)) ?_
  intro W base args ds gs before hval0 hW hcnd _
  have hval : ∀ (j : Nat) t v, Try.f7.params[j]? = some t → args[j]? = some v → Value.okWide Try.prog W .any base t v := hval0
  have hW' := hW
  obtain ⟨p, q, hA0, hV, rfl, hfz, hnd⟩ := hW
  have hA : DataW.TrodAll enc Try.prog W 0 (fun _ => true) true Try.f7.params.toList args.toList ds p := hA0
  rw [Try.params7] at hA hval
  obtain ⟨v0, vs0, d0, ds0, p0, q0, hargs, rfl, rfl, h0, r0⟩ := trodAll_cons hA
  obtain ⟨v1, vs1, d1, ds1, p1, q1, rfl, rfl, rfl, h1, r1⟩ := trodAll_cons r0
  obtain ⟨v2, vs2, d2, ds2, p2, q2, rfl, rfl, rfl, h2, r2⟩ := trodAll_cons r1
  obtain ⟨rfl, rfl, rfl⟩ := trodAll_nil r2
  obtain rfl : args = #[v0, v1, v2] := by cases args; simp_all
  obtain ⟨rfl, rfl⟩ := trodVars_none hV
  have k0 := h0
  have lt0 : ∀ x ∈ p0, x.block < W.heap.size := by obtain ⟨m, hm⟩ := k0; exact DataW.trod_lt m _ _ _ hm
  obtain ⟨a0, len0, cap0, rfl⟩ := okWide_slice Try.underlying28 (hval 0 28 v0 rfl rfl)
  obtain ⟨l0, hp0, hl0, hf0⟩ := open_facts9 rfl h0
  have k1 := h1
  have lt1 : ∀ x ∈ p1, x.block < W.heap.size := by obtain ⟨m, hm⟩ := k1; exact DataW.trod_lt m _ _ _ hm
  have hb1 := came_in9 Try.underlying44 (hval 1 44 v1 rfl rfl)
  obtain ⟨a1, len1, cap1, rfl⟩ := okWide_slice Try.underlying44 (hval 1 44 v1 rfl rfl)
  obtain ⟨l1, hp1, hl1⟩ := open_bytes rfl h1
  obtain ⟨a2, rfl, rfl, rfl, w2⟩ := open_int Try.underlying3 (hval 2 3 v2 rfl rfl) h2
  clear hA0 hval0
  refine (walk _ _ l0 l1 a2 w2 W hp0 hl0 hp1).mono fun e W' ⟨he, bel⟩ => ?_
  subst he
  exact ⟨_, rfl, _, _, _, [], _, [], hW', trodAll_mk1 (shut_bool Try.underlying4 _), (trodAll_cons_mk (Below.trod laidOut (by kernel_rfl) (of_decide_eq_true (by kernel_rfl)) k0 bel lt0) (trodAll_cons_mk (Below.trod laidOut (by kernel_rfl) (of_decide_eq_true (by kernel_rfl)) k1 bel lt1) (trodAll_cons_mk (shut_int Try.underlying3 w2) trodAll_mk0))), rfl, bel.frame _, fun h => by cases h⟩

theorem over : Rows.factBackRow.holds Try.pinned (OpenSpec.ofChange Rows.factBackSpec) :=
  OpenClaim.holds_of_wide 7 Try.f7 rfl rfl rfl rfl rfl rfl rfl ⟨rfl, rfl, rfl, rfl, rfl⟩ rfl rfl rfl rfl rfl (by kernel_rfl) Try.func7 (by kernel_rfl)
    (of_decide_eq_true (by kernel_rfl)) (by unfold Func.isWrapper; first | (rw [if_pos (by decide +kernel)]; kernel_rfl) | (rw [if_neg (by decide +kernel)]; exact ⟨rfl, rfl⟩))
    (fun os started H enc _ => lifted os started H enc)

theorem proved : Rows.FactBackSaid := over
#print axioms proved
end Go.Proofs.Ytejilonhdgfkbaa.factBack
