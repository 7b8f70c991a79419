
/-
  'FactCodes': the bytes of any batch, and the batch of any bytes, or what is wrong. No condition.
-/
import Derived.Test.YtejilonhdgfkbaaZs
import Derived.Test.YtejilonhdgfkbaaZo
import Derived.Test.YtejilonhdgfkbaaBs
import Derived.Test.YtejilonhdgfkbaaZn
import Derived.Test.YtejilonhdgfkbaaZrd
import Derived.Test.YtejilonhdgfkbaaZf
import Derived.Test.YtejilonhdgfkbaaZj
import Derived.Test.YtejilonhdgfkbaaZm
import Derived.ProofKit
import Derived.OpenShut
namespace Go.Proofs.Ytejilonhdgfkbaa.factCodes
open Go.ChangeShapes Go.WideShapes Go.ChangeAt Go.RowKit
set_option linter.unusedVariables false

theorem own : ownKnob Try.prog.godebug = none := by kernel_rfl
theorem laidOut : laidOutB Try.prog = true := by kernel_rfl

set_option maxRecDepth 100000 in
set_option maxHeartbeats 8000000 in
theorem walk (v u : Value) (l : List F9) (m : List UInt8) (n : Int) (_wn : (Lit.int .i64 n).wf = true) (w : World) (h : RdE EF w v l) (hlen : l.length ≤ maxLen) (hu : Rd w u m) (hB : ∀ g, u.ownBlock = some g → g < w.heap.size) :
    Calls Try.prog 6 #[v, u, .int .i64 n] w fun e w' => e = .returned (.bool true) ∧ Below w.heap.size w w' := by
  have HV := Lib.hid h
  have HU := Lib.hid hu
  have HBB := Lib.hid hB
  have HLI := Lib.hid (light_any9 v l w h hlen)
  obtain ⟨A, c, rfl⟩ := h.shape
  obtain ⟨B, d, rfl⟩ := hu.shape
  clear h _wn hu hB hlen
  by_cases hgood : light9 l = true ∧ m.length ≤ 1000
  · obtain ⟨hL, hm⟩ := hgood
    rw [hL] at HLI
    have h100 := light_len9 hL
    have h1k : l.length ≤ 1000 := by omega
    have hmk : (m.length : Int) ≤ 1000 := by omega
    have hm1 : m.length ≤ 100000 := by omega
    go_enter Try.func6, Try.ntmps6
    go_wp2_with fail
    refine HLI.out.mono ?_
    rintro e w2 ⟨rfl, rfl⟩
    clear HLI
    go_wp2_with fail
    refine (encode_any9 _ l n w2 HV.out h1k).mono ?_
    rintro e w3 ⟨v3, rfl, r3, t3⟩
    have HV3 := Lib.hid (HV.out.later t3); have HU3 := Lib.hid (HU.out.later t3); have HT3 := Lib.hid t3; have HR3 := Lib.hid r3
    clear r3 t3
    go_wp2_with fail
    refine (ref_encode9 _ l n w3 HV3.out h1k).mono ?_
    intro e w4 g4
    obtain ⟨v4, rfl, r4, t4⟩ := g4.p
    have HU4 := Lib.hid (HU3.out.later t4); have HT4 := Lib.hid (HT3.out.trans t4 (fun _ _ f => f)); have HR4 := Lib.hid r4; have HRa := Lib.hid (HR3.out.later t4)
    clear r4 t4 g4
    go_wp2_with fail
    refine (read_any9 _ m n w4 HU4.out hm1).mono ?_
    rintro e w5 ⟨v5, rfl, r5, t5⟩
    have HU5 := Lib.hid (HU4.out.later t5); have HT5 := Lib.hid (HT4.out.trans t5 (fun _ _ f => f)); have HR5 := Lib.hid r5; have HRb := Lib.hid (HRa.out.later t5); have HRc := Lib.hid (HR4.out.later t5)
    clear r5 t5
    go_wp2_with fail
    refine (ref_read9 _ m n w5 HU5.out (fun g hg => Nat.lt_of_lt_of_le (HBB.out g hg) HT5.out.size)).mono ?_
    rintro e w6 ⟨v6, rfl, r6, t6⟩
    have HT6 := Lib.hid (HT5.out.trans t6 (fun _ _ f => f)); have HR6 := Lib.hid r6; have HRd := Lib.hid (HRb.out.later t6); have HRe := Lib.hid (HRc.out.later t6); have HRf := Lib.hid (HR5.out.later t6)
    have hrl : Hid ((readB m n).2.length ≤ 1000000) := by have := readB_len (m := m) (n := n); show _ ≤ _; omega
    clear r6 t6
    generalize (allB l n).1 = fa at *
    generalize (readB m n).1 = fb at *
    go_wp2_with fail
    refine (same_any _ _ _ _ w6 HRd.out HRe.out).mono ?_
    rintro e w7 ⟨rfl, rfl⟩
    rw [beq_self_eq_true]
    go_wp2_with fail
    refine (same_refl9 _ _ _ w6 HRf.out HR6.out hrl.out).mono ?_
    rintro e w8 ⟨rfl, t8⟩
    have HT8 := Lib.hid (HT6.out.trans t8 (fun _ _ f => f))
    clear t8
    go_wp2_with fail
    refine (alive_any9 w8).mono ?_
    rintro e wB ⟨rfl, tB⟩
    have HTB := Lib.hid (HT8.out.trans tB (fun _ _ f => f))
    clear tB
    go_wp2
    go_ret
    exact ⟨rfl, HTB.out.below (Nat.le_refl _) (fun _ f => f.elim)⟩
  · have hno : light9 l = false ∨ (light9 l = true ∧ ¬ ((m.length : Int) ≤ 1000)) := by
      cases hL : light9 l
      · exact .inl rfl
      · exact .inr ⟨rfl, fun hm => hgood ⟨hL, by omega⟩⟩
    rcases hno with hL | ⟨hL, hmk⟩
    all_goals
      rw [hL] at HLI
      clear hgood
      go_enter Try.func6, Try.ntmps6
      go_wp2_with fail
      refine HLI.out.mono ?_
      rintro e w2 ⟨rfl, rfl⟩
      go_wp2_with fail
      refine (alive_any9 w2).mono ?_
      rintro e w3 ⟨rfl, ht⟩
      have HTa := Lib.hid ht
      clear ht
      go_wp2
      go_ret
      exact ⟨rfl, HTa.out.below (Nat.le_refl _) (fun _ f => f.elim)⟩

set_option maxRecDepth 100000 in
theorem lifted (os : Os) (started : os.Started) (H : Type) (enc : TypeId × Value → H) :
    ReturnsInHanded {} Try.checked os 6 .any (Rows.factCodesSpec.pre6 enc Try.prog Try.f6 Rows.factCodesRow.domain false) (Rows.factCodesSpec.post enc Try.prog Try.f6 false true false false) := by
  refine returnsInHanded_of_change (C := Try.checked) own started (by kernel_rfl) Try.func6
    (ChangeSpec.witness6 (enc := enc) (C := Try.checked) false ⟨#[], #[.slice none 0 0, .slice none 0 0, .int .i64 0], []⟩ 8 (by kernel_rfl) (by kernel_rfl) (by kernel_rfl) (by kernel_rfl)) ?_
  intro W base args ds gs before hval0 hW hcnd _
  have hval : ∀ (j : Nat) t v, Try.f6.params[j]? = some t → args[j]? = some v → Value.okWide Try.prog W .any base t v := hval0
  have hW' := hW
  obtain ⟨p, q, hA0, hV, rfl, hfz, hnd⟩ := hW
  have hA : DataW.TrodAll enc Try.prog W 0 (fun _ => true) true Try.f6.params.toList args.toList ds p := hA0
  rw [Try.params6] at hA hval
  obtain ⟨v0, vs0, d0, ds0, p0, q0, hargs, rfl, rfl, h0, r0⟩ := trodAll_cons hA
  obtain ⟨v1, vs1, d1, ds1, p1, q1, rfl, rfl, rfl, h1, r1⟩ := trodAll_cons r0
  obtain ⟨v2, vs2, d2, ds2, p2, q2, rfl, rfl, rfl, h2, r2⟩ := trodAll_cons r1
  obtain ⟨rfl, rfl, rfl⟩ := trodAll_nil r2
  obtain rfl : args = #[v0, v1, v2] := by cases args; simp_all
  obtain ⟨rfl, rfl⟩ := trodVars_none hV
  have k0 := h0
  have lt0 : ∀ x ∈ p0, x.block < W.heap.size := by obtain ⟨m, hm⟩ := k0; exact DataW.trod_lt m _ _ _ hm
  obtain ⟨a0, len0, cap0, rfl⟩ := okWide_slice Try.underlying28 (hval 0 28 v0 rfl rfl)
  obtain ⟨l0, hp0, hl0, hf0⟩ := open_facts9 rfl h0
  have k1 := h1
  have lt1 : ∀ x ∈ p1, x.block < W.heap.size := by obtain ⟨m, hm⟩ := k1; exact DataW.trod_lt m _ _ _ hm
  have hb1 := came_in9 Try.underlying44 (hval 1 44 v1 rfl rfl)
  obtain ⟨a1, len1, cap1, rfl⟩ := okWide_slice Try.underlying44 (hval 1 44 v1 rfl rfl)
  obtain ⟨l1, hp1, hl1⟩ := open_bytes rfl h1
  obtain ⟨a2, rfl, rfl, rfl, w2⟩ := open_int Try.underlying3 (hval 2 3 v2 rfl rfl) h2
  clear hA0 hval0
  refine (walk _ _ l0 l1 a2 w2 W hp0 hl0 hp1 hb1).mono fun e W' ⟨he, bel⟩ => ?_
  subst he
  exact ⟨_, rfl, _, _, _, [], _, [], hW', trodAll_mk1 (shut_bool Try.underlying4 _), (trodAll_cons_mk (Below.trod laidOut (by kernel_rfl) (of_decide_eq_true (by kernel_rfl)) k0 bel lt0) (trodAll_cons_mk (Below.trod laidOut (by kernel_rfl) (of_decide_eq_true (by kernel_rfl)) k1 bel lt1) (trodAll_cons_mk (shut_int Try.underlying3 w2) trodAll_mk0))), rfl, bel.frame _, fun h => by cases h⟩

theorem over : Rows.factCodesRow.holds Try.pinned (OpenSpec.ofChange Rows.factCodesSpec) :=
  OpenClaim.holds_of_wide 6 Try.f6 rfl rfl rfl rfl rfl rfl rfl ⟨rfl, rfl, rfl, rfl, rfl⟩ rfl rfl rfl rfl rfl (by kernel_rfl) Try.func6 (by kernel_rfl)
    (of_decide_eq_true (by kernel_rfl)) (by unfold Func.isWrapper; first | (rw [if_pos (by decide +kernel)]; kernel_rfl) | (rw [if_neg (by decide +kernel)]; exact ⟨rfl, rfl⟩))
    (fun os started H enc _ => lifted os started H enc)

theorem proved : Rows.FactCodesSaid := over
#print axioms proved
end Go.Proofs.Ytejilonhdgfkbaa.factCodes
