/-
  'AskCodes': the bytes of any query, and the query of any bytes, or what is wrong. No condition.
-/
import Derived.Test.YtieffpngknglpaaJoacaf
import Derived.Laws.IdiomArrays
import Derived.Test.YtieffpngknglpaaJoacaz
import Derived.Deep.Strs
import Derived.Test.YtieffpngknglpaaJoacaw
import Derived.Test.YtieffpngknglpaaJoacbb
import Derived.Test.YtieffpngknglpaaJoacai
import Derived.ProofKit
import Derived.OpenShut

/-
  Stage 9: keys and facts that came in.
-/
namespace Go.Proofs.Ytieffpngknglpaa
open Go.RowKit Go.ChangeShapes Go.WideShapes Go.Deep

set_option maxRecDepth 100000

theorem open_text9 {H : Type} {enc : TypeId × Value → H} {W : World} {n : Nat} {c0 : Value} {y : DataW H × List MemPlace} (h : DataW.trod enc Try.prog W 0 (fun _ => true) true n 9 [c0] = some y) : ∃ a : List UInt8, c0 = sv9 a := by
  obtain ⟨S, k2, _, sw⟩ := DataW.trod_string Try.underlying9 h
  simp only [List.cons.injEq, and_true] at k2
  exact ⟨S.data.toList, k2⟩
theorem open_texts9 {H : Type} {enc : TypeId × Value → H} {W : World} {n : Nat} {c0 c1 c2 c3 : Value} {y : DataW H × List MemPlace} (h : DataW.trod enc Try.prog W 0 (fun _ => true) true n 23 [c0, c1, c2, c3] = some y) :
    ∃ a b c d : List UInt8, c0 = sv9 a ∧ c1 = sv9 b ∧ c2 = sv9 c ∧ c3 = sv9 d := by
  obtain ⟨y0, y1, y2, y3, n', _, h0, h1, h2, h3⟩ := trod_array4 Try.underlying23 (by kernel_rfl) h
  obtain ⟨a, ha⟩ := open_text9 h0
  obtain ⟨b, hb⟩ := open_text9 h1
  obtain ⟨c, hc⟩ := open_text9 h2
  obtain ⟨d, hd⟩ := open_text9 h3
  exact ⟨a, b, c, d, ha, hb, hc, hd⟩
theorem open_keyc {H : Type} {enc : TypeId × Value → H} {W : World} {n : Nat} {cs : List Value} {y : DataW H × List MemPlace} (hl : cs.length = 5) (h : DataW.trod enc Try.prog W 0 (fun _ => true) true n 27 cs = some y) :
    ∃ k : K9, cs = [.int .i64 k.h, sv9 k.a, sv9 k.b, sv9 k.c, sv9 k.d] := by
  obtain ⟨y0, y1, n', _, _, g0, g1⟩ := trod_struct2 Try.underlying27 h
  have e1 : Try.prog.cellsOf 2 = 1 := by kernel_rfl
  have e4 : Try.prog.cellsOf 23 = 4 := by kernel_rfl
  match cs, hl with
  | [c0, c1, c2, c3, c4], _ =>
    simp [e1, e4] at g0 g1
    obtain ⟨K, k0, _, kw⟩ := DataW.trod_int Try.underlying2 g0
    simp only [List.cons.injEq, and_true] at k0
    subst k0
    obtain ⟨a, b, c, d, rfl, rfl, rfl, rfl⟩ := open_texts9 g1
    exact ⟨⟨K, a, b, c, d⟩, rfl⟩
theorem open_key9 {H : Type} {enc : TypeId × Value → H} {W : World} {b0 : Nat} {v : Value} {d : DataW H} {p : List MemPlace} (hv : Value.okWide Try.prog W .any b0 27 v) (h : DataW.Trod enc Try.prog W 0 (fun _ => true) true 27 v d p) : ∃ k : K9, v = kv9 k := by
  simp only [Value.okWide, Try.underlying27] at hv
  obtain ⟨cs, rfl, hsz, _⟩ := hv
  obtain ⟨fuel, hf⟩ := h
  have e5 : Try.prog.cellsOf 27 = 5 := by kernel_rfl
  obtain ⟨k, hk⟩ := open_keyc (by show (Value.cells (.agg cs)).toList.length = 5; simp [Value.cells]; omega) hf
  refine ⟨k, ?_⟩
  have hk2 : cs.toList = [.int .i64 k.h, sv9 k.a, sv9 k.b, sv9 k.c, sv9 k.d] := hk
  have hk3 : cs = #[.int .i64 k.h, sv9 k.a, sv9 k.b, sv9 k.c, sv9 k.d] := by rw [← Array.toList_inj]; exact hk2
  rw [hk3]
theorem open_factc {H : Type} {enc : TypeId × Value → H} {W : World} (n : Nat) (cs : List Value) (y : DataW H × List MemPlace) (hl : cs.length = EF.sz) (h : DataW.trod enc Try.prog W 0 (fun _ => true) true n 77 cs = some y) :
    ∃ f : F9, cs = EF.enc f ∧ (Lit.int .i64 f.v).wf = true := by
  obtain ⟨y0, y1, n', _, _, g0, g1⟩ := trod_struct2 Try.underlying77 h
  have e1 : Try.prog.cellsOf 2 = 1 := by kernel_rfl
  have e5 : Try.prog.cellsOf 27 = 5 := by kernel_rfl
  match cs, hl with
  | [c0, c1, c2, c3, c4, c5], _ =>
    simp [e1, e5] at g0 g1
    obtain ⟨K, k0, _, kw⟩ := DataW.trod_int Try.underlying2 g1
    simp only [List.cons.injEq, and_true] at k0
    subst k0
    obtain ⟨k, hk⟩ := open_keyc rfl g0
    simp only [List.cons.injEq, and_true] at hk
    obtain ⟨rfl, rfl, rfl, rfl, rfl⟩ := hk
    exact ⟨⟨k, K⟩, rfl, kw⟩
end Go.Proofs.Ytieffpngknglpaa

/-
  Stage 13: queries that came in; the chapter's example.
-/
namespace Go.Proofs.Ytieffpngknglpaa
open Go.RowKit Go.ChangeShapes Go.WideShapes Go.Deep

set_option maxRecDepth 100000

theorem trod_struct5_13 {P : Program} {H : Type} {enc : TypeId × Value → H} {w : World} {base : Nat} {spare : Nat → Bool} {held : Bool} {t : TypeId} {f0 f1 f2 f3 f4 : Field} {fuel : Nat} {cs : List Value} {x : DataW H × List MemPlace} (ht : P.underlying t = some (.struct #[f0, f1, f2, f3, f4])) (h : DataW.trod enc P w base spare held fuel t cs = some x) :
    ∃ y0 y1 y2 y3 y4 n, DataW.trod enc P w base spare held n f0.type ((cs.drop f0.offset).take (P.cellsOf f0.type)) = some y0 ∧
      DataW.trod enc P w base spare held n f1.type ((cs.drop f1.offset).take (P.cellsOf f1.type)) = some y1 ∧ DataW.trod enc P w base spare held n f2.type ((cs.drop f2.offset).take (P.cellsOf f2.type)) = some y2 ∧
      DataW.trod enc P w base spare held n f3.type ((cs.drop f3.offset).take (P.cellsOf f3.type)) = some y3 ∧ DataW.trod enc P w base spare held n f4.type ((cs.drop f4.offset).take (P.cellsOf f4.type)) = some y4 := by
  obtain ⟨xs, n, _, rfl, hl, hlen, hf⟩ := DataW.trod_struct ht h
  match xs, hlen with
  | [y0, y1, y2, y3, y4], _ => exact ⟨y0, y1, y2, y3, y4, n, by simpa using hf 0 f0 rfl, by simpa using hf 1 f1 rfl, by simpa using hf 2 f2 rfl, by simpa using hf 3 f3 rfl, by simpa using hf 4 f4 rfl⟩
theorem open_flag13 {H : Type} {enc : TypeId × Value → H} {W : World} {n : Nat} {c0 : Value} {y : DataW H × List MemPlace} (h : DataW.trod enc Try.prog W 0 (fun _ => true) true n 4 [c0] = some y) : ∃ a : Bool, c0 = .bool a := by
  obtain ⟨S, k2, _⟩ := DataW.trod_bool Try.underlying4 h
  simp only [List.cons.injEq, and_true] at k2
  exact ⟨S, k2⟩
theorem open_flags13 {H : Type} {enc : TypeId × Value → H} {W : World} {n : Nat} {c0 c1 c2 c3 : Value} {y : DataW H × List MemPlace} (h : DataW.trod enc Try.prog W 0 (fun _ => true) true n 22 [c0, c1, c2, c3] = some y) :
    ∃ v : V4 Bool, c0 = .bool v.a ∧ c1 = .bool v.b ∧ c2 = .bool v.c ∧ c3 = .bool v.d := by
  obtain ⟨y0, y1, y2, y3, n', _, h0, h1, h2, h3⟩ := trod_array4 Try.underlying22 (by kernel_rfl) h
  obtain ⟨a, ha⟩ := open_flag13 h0
  obtain ⟨b, hb⟩ := open_flag13 h1
  obtain ⟨c, hc⟩ := open_flag13 h2
  obtain ⟨d, hd⟩ := open_flag13 h3
  exact ⟨⟨a, b, c, d⟩, ha, hb, hc, hd⟩
theorem open_queryc13 {H : Type} {enc : TypeId × Value → H} {W : World} {n : Nat} {cs : List Value} {y : DataW H × List MemPlace} (hl : cs.length = 14) (h : DataW.trod enc Try.prog W 0 (fun _ => true) true n 25 cs = some y) :
    ∃ q : Q13, cs = (cells13 q).toList := by
  obtain ⟨y0, y1, y2, y3, y4, n', g0, g1, g2, g3, g4⟩ := trod_struct5_13 Try.underlying25 h
  have e1 : Try.prog.cellsOf 2 = 1 := by kernel_rfl
  have e4 : Try.prog.cellsOf 23 = 4 := by kernel_rfl
  have e5 : Try.prog.cellsOf 22 = 4 := by kernel_rfl
  match cs, hl with
  | [c0, c1, c2, c3, c4, c5, c6, c7, c8, c9, c10, c11, c12, c13], _ =>
    simp [e1, e4, e5] at g0 g1 g2 g3 g4
    obtain ⟨K, k0, _, kw⟩ := DataW.trod_int Try.underlying2 g0
    simp only [List.cons.injEq, and_true] at k0
    subst k0
    obtain ⟨L, l0, _, lw⟩ := DataW.trod_int Try.underlying2 g1
    simp only [List.cons.injEq, and_true] at l0
    subst l0
    obtain ⟨g, rfl, rfl, rfl, rfl⟩ := open_flags13 g2
    obtain ⟨h', rfl, rfl, rfl, rfl⟩ := open_flags13 g3
    obtain ⟨a, b, c, d, rfl, rfl, rfl, rfl⟩ := open_texts9 g4
    exact ⟨⟨K, L, g, h', ⟨a, b, c, d⟩⟩, rfl⟩
theorem open_query13 {H : Type} {enc : TypeId × Value → H} {W : World} {b0 : Nat} {v : Value} {d : DataW H} {p : List MemPlace} (hv : Value.okWide Try.prog W .any b0 25 v) (h : DataW.Trod enc Try.prog W 0 (fun _ => true) true 25 v d p) : ∃ q : Q13, v = qv13 q := by
  simp only [Value.okWide, Try.underlying25] at hv
  obtain ⟨cs, rfl, hsz, _⟩ := hv
  obtain ⟨fuel, hf⟩ := h
  have e5 : Try.prog.cellsOf 25 = 14 := by kernel_rfl
  obtain ⟨q, hq⟩ := open_queryc13 (by show (Value.cells (.agg cs)).toList.length = 14; simp [Value.cells]; omega) hf
  refine ⟨q, ?_⟩
  have hq2 : cs.toList = (cells13 q).toList := hq
  have hq3 : cs = cells13 q := by rw [← Array.toList_inj]; exact hq2
  rw [hq3]

theorem Encd13.rd {w w' : World} {q : Q13} {n : Int} {e : Ending} (h : Encd13 w q n e w') : ∃ v, e = .returned (.tuple #[v, .int .i64 (chkQ q n)]) ∧ Rd w' v (if chkQ q n = 0 then encQ q n.toNat else []) ∧ Turn (fun _ => False) w w' ∧ ∀ g, v.ownBlock = some g → g < w'.heap.size := by
  obtain ⟨v, h1, h2⟩ := h
  exact ⟨v, h1, h2.rd, h2.2.1, fun g hg => h2.1.lt hg⟩

def q130 : Q13 := ⟨3, 5, ⟨true, false, false, false⟩, V4.fill false, V4.fill []⟩
set_option maxHeartbeats 4000000 in
theorem alive_any13 (w : World) : Calls Try.prog 8 #[] w fun e w' => e = .returned (.bool true) ∧ Turn (fun _ => False) w w' := by
  have e1 : chkQ q130 1 = 0 := by decide
  have e2 : encQ q130 (1 : Int).toNat = [3, 5, 1, 0] := by decide
  have HEN : Hid (∀ W, Calls Try.prog 13 #[.agg #[.int .i64 3, .int .i64 5, .bool true, .bool false, .bool false, .bool false, .bool false, .bool false, .bool false, .bool false, .string ⟨#[]⟩, .string ⟨#[]⟩, .string ⟨#[]⟩, .string ⟨#[]⟩], .int .i64 1] W fun e w' => ∃ v, e = .returned (.tuple #[v, .int .i64 0]) ∧ Rd w' v [3, 5, 1, 0] ∧ Turn (fun _ => False) W w') := fun W => by
    refine (encode_any13 q130 1 W).mono fun e w' h => ?_
    obtain ⟨v, h1, h2, h3, -⟩ := h.rd
    rw [e1, if_pos rfl, e2] at h2
    rw [e1] at h1
    exact ⟨v, h1, h2, h3⟩
  clear e1 e2
  go_enter Try.func8, Try.ntmps8
  go_wp2_with fail
  refine (HEN.out _).mono ?_
  rintro e w1 ⟨v, rfl, hr, ht⟩
  have HT := Lib.hid ht
  obtain ⟨A, c, rfl⟩ := hr.shape
  obtain ⟨ad, rfl, x0⟩ := hr.at (k := 0) rfl
  obtain ⟨_, h1, x1⟩ := hr.at (k := 1) rfl
  cases h1
  obtain ⟨_, h2, x2⟩ := hr.at (k := 2) rfl
  cases h2
  obtain ⟨_, h3, x3⟩ := hr.at (k := 3) rfl
  cases h3
  rw [show ad.add 0 = ad from rfl] at x0
  have y0 : w1.cell? ad = some (.int .u8 3) := x0
  have y1 : w1.cell? ⟨ad.block, ad.off + 1, none⟩ = some (.int .u8 5) := x1
  have y2 : w1.cell? ⟨ad.block, ad.off + 2, none⟩ = some (.int .u8 1) := x2
  have y3 : w1.cell? ⟨ad.block, ad.off + 3, none⟩ = some (.int .u8 0) := x3
  clear hr ht x0 x1 x2 x3
  go_wp2
  go_ret
  exact ⟨rfl, HT.out⟩

end Go.Proofs.Ytieffpngknglpaa

namespace Go.Proofs.Ytieffpngknglpaa.askCodes
open Go.ChangeShapes Go.WideShapes Go.ChangeAt Go.RowKit
set_option linter.unusedVariables false

theorem own : ownKnob Try.prog.godebug = none := by kernel_rfl
theorem laidOut : laidOutB Try.prog = true := by kernel_rfl

set_option maxRecDepth 100000 in
set_option maxHeartbeats 16000000 in
theorem walk (q : Q13) (u : Value) (m : List UInt8) (n : Int) (_wn : (Lit.int .i64 n).wf = true) (w : World) (hu : Rd w u m) (hB : ∀ g, u.ownBlock = some g → g < w.heap.size) :
    Calls Try.prog 4 #[qv13 q, u, .int .i64 n] w fun e w' => e = .returned (.bool true) ∧ Below w.heap.size w w' := by
  unfold qv13
  obtain ⟨A, c, rfl⟩ := hu.shape
  obtain ⟨w0, hw0⟩ : ∃ w0, w0 = w.alloc (.cells (cells13 q) 25) := ⟨_, rfl⟩
  have ht0 : Turn (fun _ => False) w w0 := by rw [hw0]; exact (Turn.refl _ w).alloc _
  have hb0 : Box w0 w.heap.size 25 (cells13 q) := by rw [hw0]; exact Box.new w _ _
  have HT0 := Lib.hid ht0
  have HB0 := Lib.hid hb0
  have HU := Lib.hid hu
  have HBB := Lib.hid hB
  have HW := Lib.hid hw0
  have HAL : Hid (∀ W, Calls Try.prog 8 #[] W fun e w' => e = .returned (.bool true) ∧ Turn (fun _ => False) W w') := fun W => alive_any13 W
  have HLI : Hid (∀ W, Calls Try.prog 6 #[.agg (cells13 q)] W fun e w' => e = .returned (.bool (light13 q)) ∧ Turn (fun _ => False) W w') := fun W => light_any13 q W
  have HEN : Hid (∀ W, Calls Try.prog 13 #[.agg (cells13 q), .int .i64 n] W fun e w' => Encd13 W q n e w') := fun W => encode_any13 q n W
  have HER : Hid (∀ W, Calls Try.prog 14 #[.agg (cells13 q), .int .i64 n] W fun e w' => Encd13 W q n e w') := fun W => ref_encode13 q n W
  obtain ⟨c0, c1, c2, c3, c4, c5, c6, c7, c8, c9, c10, c11, c12, c13⟩ := box_query13 hb0
  rw [hw0] at c0 c1 c2 c3 c4 c5 c6 c7 c8 c9 c10 c11 c12 c13
  clear hw0 hb0 ht0 hu hB _wn
  cases hL : light13 q with
  | false =>
    rw [hL] at HLI
    clear hL
    go_enter Try.func4, Try.ntmps4
    go_wp2_with fail
    rw [← HW.out]
    refine (HLI.out _).mono ?_
    rintro e w1 ⟨rfl, t1⟩
    have HT1 := Lib.hid (HT0.out.trans t1 (fun _ _ f => f))
    have HB1 := Lib.hid (HB0.out.turn t1 (fun f => f))
    clear t1 c0 c1 c2 c3 c4 c5 c6 c7 c8 c9 c10 c11 c12 c13 HT0 HB0
    go_wp2_with fail
    refine (HAL.out _).mono ?_
    rintro e wB ⟨rfl, tB⟩
    have HTB := Lib.hid (HT1.out.trans tB (fun _ _ f => f))
    clear tB
    go_wp2
    go_ret
    exact ⟨rfl, HTB.out.below (Nat.le_refl _) (fun _ f => f.elim)⟩
  | true =>
    rw [hL] at HLI
    clear hL
    by_cases hm : m.length ≤ 200
    · have hmk : ¬ (200 : Int) < (m.length : Int) := by omega
      have hm1 : m.length ≤ 1000000 := by omega
      clear hm
      go_enter Try.func4, Try.ntmps4
      go_wp2_with fail
      rw [← HW.out]
      refine (HLI.out _).mono ?_
      rintro e w1 ⟨rfl, t1⟩
      have HT1 := Lib.hid (HT0.out.trans t1 (fun _ _ f => f))
      have HB1 := Lib.hid (HB0.out.turn t1 (fun f => f))
      clear t1 c0 c1 c2 c3 c4 c5 c6 c7 c8 c9 c10 c11 c12 c13 HT0 HB0
      obtain ⟨b0, b1, b2, b3, b4, b5, b6, b7, b8, b9, b10, b11, b12, b13⟩ := box_query13 HB1.out
      go_wp2_with fail
      refine (HEN.out w1).mono ?_
      intro e w2 g2
      obtain ⟨v2, rfl, r2, t2, -⟩ := g2.rd
      have HT2 := Lib.hid (HT1.out.trans t2 (fun _ _ f => f))
      have HB2 := Lib.hid (HB1.out.turn t2 (fun f => f))
      have HR2 := Lib.hid r2
      clear g2 r2 t2 b0 b1 b2 b3 b4 b5 b6 b7 b8 b9 b10 b11 b12 b13 HT1 HB1 HEN
      obtain ⟨b0, b1, b2, b3, b4, b5, b6, b7, b8, b9, b10, b11, b12, b13⟩ := box_query13 HB2.out
      go_wp2_with fail
      refine (HER.out w2).mono ?_
      intro e w3 g3
      obtain ⟨v3, rfl, r3, t3, -⟩ := g3.rd
      have HT3 := Lib.hid (HT2.out.trans t3 (fun _ _ f => f))
      have HR3 := Lib.hid r3
      have HRa := Lib.hid (HR2.out.later t3)
      clear g3 r3 t3 b0 b1 b2 b3 b4 b5 b6 b7 b8 b9 b10 b11 b12 b13 HT2 HB2 HER HR2
      generalize chkQ q n = fa at *
      generalize (if fa = 0 then encQ q n.toNat else []) = bb at *
      obtain ⟨q2, hq2⟩ : ∃ q2, q2 = (readQ m n).2 := ⟨_, rfl⟩
      obtain ⟨fb, hfb⟩ : ∃ fb, fb = (readQ m n).1 := ⟨_, rfl⟩
      have hrd := read_any13 _ m n w3 (HU.out.later HT3.out) hm1
      unfold Readed13 at hrd
      rw [← hq2, ← hfb] at hrd
      go_wp2_with fail
      refine hrd.mono ?_
      rintro e w4 ⟨rfl, t4⟩
      clear hrd
      have HT4 := Lib.hid (HT3.out.trans t4 (fun _ _ f => f))
      have HRb := Lib.hid (HRa.out.later t4)
      have HRc := Lib.hid (HR3.out.later t4)
      clear t4 HT3 HRa HR3
      obtain ⟨wp, hwp⟩ : ∃ wp, wp = w4.alloc (.cells (cells13 q2) 25) := ⟨_, rfl⟩
      have htp : Turn (fun _ => False) w4 wp := by rw [hwp]; exact (Turn.refl _ w4).alloc _
      have HBP : Hid (Box wp w4.heap.size 25 (cells13 q2)) := by rw [hwp]; exact Box.new w4 _ _
      have HT5 := Lib.hid (HT4.out.trans htp (fun _ _ f => f))
      have HRd := Lib.hid (HRb.out.later htp)
      have HRe := Lib.hid (HRc.out.later htp)
      have HWP := Lib.hid hwp
      clear hwp htp HT4 HRb HRc
      have hrr := ref_read13 _ m n wp (HU.out.later HT5.out) (fun g hg => Nat.lt_of_lt_of_le (HBB.out g hg) HT5.out.size)
      unfold Readed13 at hrr
      rw [← hq2, ← hfb] at hrr
      clear hq2 hfb
      have HWQ := HWP.out
      unfold cells13 sv9 at HWQ
      go_wp2_with fail
      rw [← HWQ]
      clear HWQ HWP
      refine hrr.mono ?_
      rintro e w6 ⟨rfl, t6⟩
      clear hrr
      obtain ⟨w7, hw7⟩ : ∃ w7, w7 = w6.alloc (.cells (cells13 q2) 25) := ⟨_, rfl⟩
      have ht7 : Turn (fun _ => False) w6 w7 := by rw [hw7]; exact (Turn.refl _ w6).alloc _
      have hbq : Box w7 w6.heap.size 25 (cells13 q2) := by rw [hw7]; exact Box.new w6 _ _
      have ht67 := t6.trans ht7 (fun _ _ f => f)
      have HT7 := Lib.hid (HT5.out.trans ht67 (fun _ _ f => f))
      have HB7 := Lib.hid (HBP.out.turn ht67 (fun f => f))
      have HBQ := Lib.hid hbq
      have HRf := Lib.hid (HRd.out.later ht67)
      have HRg := Lib.hid (HRe.out.later ht67)
      have HW7 := Lib.hid hw7
      clear hw7 ht7 hbq ht67 t6 HT5 HBP HRd HRe
      have HWR := HW7.out
      unfold cells13 sv9 at HWR
      go_wp2_with fail
      rw [← HWR]
      clear HWR HW7
      refine (same_any _ _ _ _ w7 HRf.out HRg.out).mono ?_
      rintro e w8 ⟨rfl, rfl⟩
      rw [beq_self_eq_true]
      obtain ⟨b0, b1, b2, b3, b4, b5, b6, b7, b8, b9, b10, b11, b12, b13⟩ := box_query13 HB7.out
      obtain ⟨d0, d1, d2, d3, d4, d5, d6, d7, d8, d9, d10, d11, d12, d13⟩ := box_query13 HBQ.out
      have hne := run_eql_query13 q2 q2
      have hgd := fun op X Y => guard_query13 op X Y q2 q2
      rw [decide_eq_true rfl] at hne
      unfold qv13 cells13 at hne hgd
      generalize w4.heap.size = x4 at *
      generalize w6.heap.size = x6 at *
      go_wp2_with fail
      refine (HAL.out w7).mono ?_
      rintro e wB ⟨rfl, tB⟩
      have HTB := Lib.hid (HT7.out.trans tB (fun _ _ f => f))
      clear tB
      go_wp2
      go_ret
      exact ⟨rfl, HTB.out.below (Nat.le_refl _) (fun _ f => f.elim)⟩
    · have hmk : (200 : Int) < (m.length : Int) := by omega
      clear hm
      go_enter Try.func4, Try.ntmps4
      go_wp2_with fail
      rw [← HW.out]
      refine (HLI.out _).mono ?_
      rintro e w1 ⟨rfl, t1⟩
      have HT1 := Lib.hid (HT0.out.trans t1 (fun _ _ f => f))
      have HB1 := Lib.hid (HB0.out.turn t1 (fun f => f))
      clear t1 c0 c1 c2 c3 c4 c5 c6 c7 c8 c9 c10 c11 c12 c13 HT0 HB0
      go_wp2_with fail
      refine (HAL.out _).mono ?_
      rintro e wB ⟨rfl, tB⟩
      have HTB := Lib.hid (HT1.out.trans tB (fun _ _ f => f))
      clear tB
      go_wp2
      go_ret
      exact ⟨rfl, HTB.out.below (Nat.le_refl _) (fun _ f => f.elim)⟩

set_option maxRecDepth 100000 in
set_option maxRecDepth 100000 in
theorem lifted (os : Os) (started : os.Started) (H : Type) (enc : TypeId × Value → H) :
    ReturnsInHanded {} Try.checked os 4 .any (Rows.askCodesSpec.pre6 enc Try.prog Try.f4 Rows.askCodesRow.domain false) (Rows.askCodesSpec.post enc Try.prog Try.f4 false true false false) := by
  refine returnsInHanded_of_change (C := Try.checked) own started (by kernel_rfl) Try.func4
    (ChangeSpec.witness6 (enc := enc) (C := Try.checked) false ⟨#[], #[.agg #[.int .i64 0, .int .i64 0, .bool false, .bool false, .bool false, .bool false, .bool false, .bool false, .bool false, .bool false, .string ⟨#[]⟩, .string ⟨#[]⟩, .string ⟨#[]⟩, .string ⟨#[]⟩], .slice none 0 0, .int .i64 0], []⟩ 8 (by kernel_rfl) (by kernel_rfl) (by kernel_rfl) (by kernel_rfl)) ?_
  intro W base args ds gs before hval0 hW hcnd _
  have hval : ∀ (j : Nat) t v, Try.f4.params[j]? = some t → args[j]? = some v → Value.okWide Try.prog W .any base t v := hval0
  have hW' := hW
  obtain ⟨p, q, hA0, hV, rfl, hfz, hnd⟩ := hW
  have hA : DataW.TrodAll enc Try.prog W 0 (fun _ => true) true Try.f4.params.toList args.toList ds p := hA0
  rw [Try.params4] at hA hval
  obtain ⟨v0, vs0, d0, ds0, p0, q0, hargs, rfl, rfl, h0, r0⟩ := trodAll_cons hA
  obtain ⟨v1, vs1, d1, ds1, p1, q1, rfl, rfl, rfl, h1, r1⟩ := trodAll_cons r0
  obtain ⟨v2, vs2, d2, ds2, p2, q2, rfl, rfl, rfl, h2, r2⟩ := trodAll_cons r1
  obtain ⟨rfl, rfl, rfl⟩ := trodAll_nil r2
  obtain rfl : args = #[v0, v1, v2] := by cases args; simp_all
  obtain ⟨rfl, rfl⟩ := trodVars_none hV
  have k0 := h0
  have lt0 : ∀ x ∈ p0, x.block < W.heap.size := by obtain ⟨m, hm⟩ := k0; exact DataW.trod_lt m _ _ _ hm
  obtain ⟨qy0, hq0⟩ := open_query13 (hval 0 25 v0 rfl rfl) h0
  subst hq0
  have k1 := h1
  have lt1 : ∀ x ∈ p1, x.block < W.heap.size := by obtain ⟨m, hm⟩ := k1; exact DataW.trod_lt m _ _ _ hm
  have hb1 := came_in9 Try.underlying34 (hval 1 34 v1 rfl rfl)
  obtain ⟨a1, len1, cap1, rfl⟩ := okWide_slice Try.underlying34 (hval 1 34 v1 rfl rfl)
  obtain ⟨l1, hp1, hl1⟩ := open_bytes rfl h1
  obtain ⟨a2, rfl, rfl, rfl, w2⟩ := open_int Try.underlying3 (hval 2 3 v2 rfl rfl) h2
  clear hA0 hval0
  refine (walk qy0 _ l1 a2 w2 W hp1 hb1).mono fun e W' ⟨he, bel⟩ => ?_
  subst he
  exact ⟨_, rfl, _, _, _, [], _, [], hW', trodAll_mk1 (shut_bool Try.underlying4 _), (trodAll_cons_mk (Below.trod laidOut (by kernel_rfl) (of_decide_eq_true (by kernel_rfl)) k0 bel lt0) (trodAll_cons_mk (Below.trod laidOut (by kernel_rfl) (of_decide_eq_true (by kernel_rfl)) k1 bel lt1) (trodAll_cons_mk (shut_int Try.underlying3 w2) trodAll_mk0))), rfl, bel.frame _, fun h => by cases h⟩

theorem over : Rows.askCodesRow.holds Try.pinned (OpenSpec.ofChange Rows.askCodesSpec) :=
  OpenClaim.holds_of_wide 4 Try.f4 rfl rfl rfl rfl rfl rfl rfl ⟨rfl, rfl, rfl, rfl, rfl⟩ rfl rfl rfl rfl rfl (by kernel_rfl) Try.func4 (by kernel_rfl)
    (of_decide_eq_true (by kernel_rfl)) (by unfold Func.isWrapper; first | (rw [if_pos (by decide +kernel)]; kernel_rfl) | (rw [if_neg (by decide +kernel)]; exact ⟨rfl, rfl⟩))
    (fun os started H enc _ => lifted os started H enc)

theorem proved : Rows.AskCodesSaid := over
#print axioms proved
end Go.Proofs.Ytieffpngknglpaa.askCodes
