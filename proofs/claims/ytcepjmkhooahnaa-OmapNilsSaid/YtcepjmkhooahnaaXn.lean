
/-
  'OmapNils': what a nil map says. No condition.
-/
import Derived.Test.YtcepjmkhooahnaaHh
import Derived.Test.YtcepjmkhooahnaaHl
import Derived.ProofKit
import Derived.OpenShut
namespace Go.Proofs.Ytcepjmkhooahnaa.omapNils
open Go.ChangeShapes Go.WideShapes Go.ChangeAt Go.RowKit
set_option linter.unusedVariables false

theorem own : ownKnob Try.prog.godebug = none := by kernel_rfl
theorem laidOut : laidOutB Try.prog = true := by kernel_rfl

open omi Go.Shelf
attribute [local go_sem] Oper.semAt_some wide_fn

set_option maxRecDepth 100000 in
theorem put_nil (k : Int) (v : List UInt8) (w : World) : Calls Try.prog 24 #[.pointer none, .int .i64 k, .string ⟨v.toArray⟩] w fun e w' => e = .returned (.bool false) ∧ w = w' := by
  go_enter Try.func24, Try.ntmps24
  go_wp2
  go_ret
  exact ⟨rfl, rfl⟩
set_option maxRecDepth 100000 in
theorem drop_nil (k : Int) (w : World) : Calls Try.prog 25 #[.pointer none, .int .i64 k] w fun e w' => e = .returned (.bool false) ∧ w = w' := by
  go_enter Try.func25, Try.ntmps25
  go_wp2
  go_ret
  exact ⟨rfl, rfl⟩
set_option maxRecDepth 100000 in
theorem len_nil (w : World) : Calls Try.prog 11 #[.pointer none] w fun e w' => e = .returned (.int .i64 0) ∧ w = w' := by
  go_enter Try.func11, Try.ntmps11
  go_wp2
  go_ret
  exact ⟨rfl, rfl⟩
set_option maxRecDepth 100000 in
theorem copy_nil (w : World) : Calls Try.prog 15 #[.pointer none] w fun e w' => e = .returned (.pointer none) ∧ w = w' := by
  go_enter Try.func15, Try.ntmps15
  go_wp2
  go_ret
  exact ⟨rfl, rfl⟩
set_option maxRecDepth 100000 in
theorem floor_nil (k : Int) (w : World) : Calls Try.prog 23 #[.pointer none, .int .i64 k] w fun e w' => e = .returned (.tuple #[.int .i64 0, .string ⟨#[]⟩, .bool false]) ∧ Turn (fun _ => False) w w' := by
  go_enter Try.func23, Try.ntmps23
  go_wp2
  go_ret3
  exact ⟨rfl, (Turn.refl _ w).alloc _⟩
set_option maxRecDepth 100000 in
theorem get_nil (k : Int) (w : World) : Calls Try.prog 22 #[.pointer none, .int .i64 k] w fun e w' => e = .returned (.tuple #[.string ⟨#[]⟩, .bool false]) ∧ Turn (fun _ => False) w w' := by
  go_enter Try.func22, Try.ntmps22
  go_wp2_with (go_at_call 23; refine (floor_nil _ _).mono ?_; rintro e w2 ⟨rfl, ht⟩; have HT := Lib.hid ht; clear ht)
  go_ret2
  exact ⟨rfl, HT.out⟩

set_option maxRecDepth 100000 in
set_option maxHeartbeats 2000000 in
theorem walk (k : Int) (wk : (Lit.int .i64 k).wf = true) (s : ByteArray) (ws : s.size ≤ maxLen) (w : World) :
    Calls Try.prog 7 #[.int .i64 k, .string s] w fun e w' => e = .returned (.bool true) ∧ Below w.heap.size w w' := by
  refine (callsIn_wide (n := 5)).1 ?_
  refine callsIn_of_wp_marks Try.func7 rfl trivial ?_ rfl
  simp only [Try.ntmps7, List.size_toArray, List.length_cons, List.length_nil, Nat.reduceAdd, Nat.reduceSub, Array.replicate_succ, Array.replicate_zero, List.push_toArray, List.append_toArray, List.nil_append, List.cons_append]
  refine wpIn_wide.2 ?_
  go_wp2_with (go_at_call 8; refine (alive_any6 _).mono ?_; rintro e w1 ⟨rfl, ht⟩; have HT1 := Lib.hid ht; clear ht)
  have HB1 := Lib.hid ((Box.new w 4 #[.bool false]).turn HT1.out (fun f => f))
  have HTW1 : Hid (Turn (fun _ => False) w w1) := ((Turn.refl _ w).alloc _).trans HT1.out (fun _ _ f => f)
  refine (all_nil w1).mono ?_
  rintro e w2 ⟨q1, q2, rfl, hr⟩
  have HR := Lib.hid hr
  have HTW2 : Hid (Turn (fun _ => False) w w2) := HTW1.out.trans hr.turn (fun _ _ f => f)
  have HB2 := Lib.hid (HB1.out.turn hr.turn (fun f => f))
  obtain ⟨A0, x0, hq1, hq2, -, -⟩ := hr.out
  have HQ1 := Lib.hid hq1.lt; have HQ2 := Lib.hid hq2.lt
  clear hr hq1 hq2
  unfold RisV
  go_wp2_with fail
  refine (wpIn_wide (n := 5)).1 ?_
  refine' over2 (n := 5) (by omega) (gf := 47) (lb := #[.pointer (some ⟨q1, 0, none⟩), .pointer (some ⟨q2, 0, none⟩)]) rfl (enters_of Try.func47 (by kernel_rfl) rfl)
    (all_feeds 4 HR.out (fun k => k = w2.heap.size + 1) (by have := HQ1.out; omega) (by have := HQ2.out; omega) ⟨fun g cs hb e => by have := hb.lt; omega⟩) (Turn.refl _ _) rfl (fun k e => by omega) (fun pre => fun _ _ _ h _ => h) (fun _ => rfl)
    (fun (_ : List (Int × List UInt8)) V => Box V w.heap.size 4 #[.bool false] ∧ Turn (fun _ => False) w V)
    (fun _ _ _ => False) (Holds.and (holds_box _ _ _ (fun _ => #[.bool false])) (holds_turn (fun k h1 h2 => by have := HTW2.out.size; omega))) (fun _ _ _ _ h _ => h) ⟨HB2.out, HTW2.out⟩ _ ?assign ?body ?done ?stop
  case assign =>
    intro l0 x W K hK
    have HK := Lib.hid hK; clear hK
    gi_wp2
    exact HK.out
  case body =>
    rintro l0 pre y V _ hgv
    obtain ⟨r, hr⟩ := hgv
    simp at hr
  case stop =>
    rintro D c0 pre V _ _ h _
    exact h.elim
  case done =>
    rintro D xs V hD hA ⟨hb, ht⟩ hK
    have HBV := Lib.hid hb; have HTV := Lib.hid ht; have HKD := Lib.hid hK
    clear hb ht hK hA
    go_wp2_with fail
    refine (range_nil k k V).mono ?_
    rintro e w3 ⟨qr, qt, qf, p1, p2, rfl, hr⟩
    have HR3 := Lib.hid hr
    have HTW3 : Hid (Turn (fun _ => False) w w3) := HTV.out.trans hr.turn (fun _ _ f => f)
    have HB3 := Lib.hid (HBV.out.turn hr.turn (fun f => f))
    have HK3 : Hid (w3.heap[D]? = some (.deferred (some []))) := (hr.turn.block D (Array.getElem?_eq_some_iff.1 HKD.out).1 (fun f => f)).trans HKD.out
    obtain ⟨A3, x3, hs3, -⟩ := hr.at'.src
    have HQ : Hid (qr < w3.heap.size ∧ qt < w3.heap.size ∧ qf < w3.heap.size ∧ p1 < w3.heap.size ∧ p2 < w3.heap.size) := ⟨hr.at'.rest.lt, hr.at'.top.lt, hr.at'.low.lt, hs3.root.lt, hs3.fun'.lt⟩
    have hDl := (Array.getElem?_eq_some_iff.1 HK3.out).1
    have HDL := Lib.hid hDl
    clear hr hs3 hDl
    unfold RngV
    go_wp2_with fail
    refine (wpIn_wide (n := 5)).1 ?_
    refine' over2 (n := 5) (by omega) (gf := 34) (lb := #[.pointer (some ⟨qr, 0, none⟩), .pointer (some ⟨qt, 0, none⟩)]) rfl (enters_of Try.func34 (by kernel_rfl) rfl)
      (range_feeds 4 HR3.out.at' (fun k => k = w3.heap.size + 1) (by have := HQ.out; omega) (by have := HQ.out; omega) (by have := HQ.out; omega) (by have := HQ.out; omega) (by have := HQ.out; omega) ⟨fun g cs hb e => by have := hb.lt; omega⟩) (Turn.refl _ _) rfl (fun k e => by omega) (fun pre => fun _ _ _ h _ => h) (fun _ => rfl)
      (fun (_ : List (Int × List UInt8)) V => V.heap[D]? = some (.deferred (some [])) ∧ Box V w.heap.size 4 #[.bool false] ∧ Turn (fun _ => False) w V)
      (fun _ _ _ => False) (Holds.and (fun _ A B h ht => (ht.block D (Array.getElem?_eq_some_iff.1 h).1 (fun o => by have := HDL.out; have := o.1; omega)).trans h) (Holds.and (holds_box _ _ _ (fun _ => #[.bool false])) (holds_turn (fun k h1 h2 => by have := HTW3.out.size; omega)))) (fun _ _ _ _ h _ => h) ⟨HK3.out, HB3.out, HTW3.out⟩ _ ?assign ?body ?done ?stop
    case assign =>
      intro l0 x W K hK
      have HK := Lib.hid hK; clear hK
      gi_wp2
      exact HK.out
    case body =>
      rintro l0 pre y V _ hgv
      obtain ⟨r, hr⟩ := hgv
      simp [rangeK] at hr
    case stop =>
      rintro D c0 pre V _ _ h _
      exact h.elim
    case done =>
      rintro D2 xs V3 hD2 hA ⟨hk, hb, ht⟩ hK
      have HBX := Lib.hid hb; have HTX := Lib.hid ht; have HKD1 := Lib.hid hk; have HKD2 := Lib.hid hK
      have HDD : Hid (w.heap.size ≤ D ∧ w.heap.size ≤ D2) := ⟨Nat.le_trans HTW2.out.size hD, Nat.le_trans HTW3.out.size hD2⟩
      have HNE : Hid (D ≠ D2) := by have := HDL.out; show D ≠ D2; omega
      clear hb ht hk hK hA hD hD2
      go_wp2_with (first
        | (go_at_call 22; refine (get_nil k V3).mono ?_; rintro e w4 ⟨rfl, ht⟩; have HT4 := Lib.hid ht; clear ht)
        | (go_at_call 23; refine (floor_nil k _).mono ?_; rintro e w5 ⟨rfl, ht⟩; have HT5 := Lib.hid (HT4.out.trans ht (fun _ _ f => f)); have hc5 := (HBX.out.turn HT5.out (fun f => f)).cell 0; have hf5 := (HBX.out.turn HT5.out (fun f => f)).free 0; clear ht)
        | (go_at_call 25; refine (drop_nil k _).mono ?_; rintro e w' ⟨rfl, rfl⟩)
        | (go_at_call 11; refine (len_nil _).mono ?_; rintro e w' ⟨rfl, rfl⟩)
        | (go_at_call 15; refine (copy_nil _).mono ?_; rintro e w' ⟨rfl, rfl⟩)
        | (go_at_call 24; refine (put_nil k s.data.toList _).mono ?_; rintro e w' ⟨rfl, rfl⟩)
        | fail)
      have k1 := (KeepsOthers.setCell w5 ⟨w.heap.size, 0, none⟩ (.bool true)).same D _ ((KeepsOthers.turned HT5.out).same D _ HKD1.out rfl) rfl
      have k2 := (KeepsOthers.setCell w5 ⟨w.heap.size, 0, none⟩ (.bool true)).same D2 _ ((KeepsOthers.turned HT5.out).same D2 _ HKD2.out rfl) rfl
      have b9 := (HBX.out.turn HT5.out (fun f => f)).set 0 (.bool true)
      have t9 : Turn (fun _ => False) w (w5.setCell ⟨w.heap.size, 0, none⟩ (.bool true)) := (HTX.out.trans HT5.out (fun _ _ f => f)).setCell (p := ⟨w.heap.size, 0, none⟩) (fun h => absurd h (Nat.lt_irrefl _)) _
      generalize w5.setCell ⟨w.heap.size, 0, none⟩ (.bool true) = w9 at *
      have u1 : Turn (fun g => g = D2) w9 (w9.putObj D2 (.deferred none)) := Turn.putObj _ D2 _ rfl
      have k3 : (w9.putObj D2 (.deferred none)).heap[D]? = some (.deferred (some [])) := (World.putObj_heap_other (fun e => HNE.out e)).trans k1
      have u2 : Turn (fun g => g = D) (w9.putObj D2 (.deferred none)) ((w9.putObj D2 (.deferred none)).putObj D (.deferred none)) := Turn.putObj _ D _ rfl
      have b10 := (b9.turn u1 (fun e => by rw [← e, show w9.heap[w.heap.size]? = _ from b9] at k2; cases k2))
      have b11 := b10.turn u2 (fun e => by rw [← e, show (w9.putObj D2 (.deferred none)).heap[w.heap.size]? = _ from b10] at k3; cases k3)
      have h11 := b11.cell 0
      refine ⟨by simp, .inl ⟨_, _, rfl, run_takeDeferred k2, by simp, .inl ⟨_, _, rfl, run_takeDeferred k3, ?_⟩⟩⟩
      refine ⟨.bool true, ?_, rfl, ?_⟩
      · simp [results, Try.f7, go_sem, h11]
      · exact ((t9.fresh u1 (fun g e => by rw [e]; exact HDD.out.2)).fresh u2 (fun g e => by rw [e]; exact HDD.out.1)).below (Nat.le_refl _) (fun _ f => f.elim)

set_option maxRecDepth 100000 in
theorem lifted (os : Os) (started : os.Started) (H : Type) (enc : TypeId × Value → H) :
    ReturnsInHanded {} Try.checked os 7 .any (Rows.omapNilsSpec.pre6 enc Try.prog Try.f7 Rows.omapNilsRow.domain false) (Rows.omapNilsSpec.post enc Try.prog Try.f7 false true false false) := by
  refine returnsInHanded_of_change (C := Try.checked) own started (by kernel_rfl) Try.func7
    (ChangeSpec.witness6 (enc := enc) (C := Try.checked) false ⟨#[], #[.int .i64 0, .string ⟨#[]⟩], []⟩ 8 (by kernel_rfl) (by kernel_rfl) (by kernel_rfl) (by kernel_rfl)) ?_
  intro W base args ds gs before hval0 hW hcnd _
  have hval : ∀ (j : Nat) t v, Try.f7.params[j]? = some t → args[j]? = some v → Value.okWide Try.prog W .any base t v := hval0
  have hW' := hW
  obtain ⟨p, q, hA0, hV, rfl, hfz, hnd⟩ := hW
  have hA : DataW.TrodAll enc Try.prog W 0 (fun _ => true) true Try.f7.params.toList args.toList ds p := hA0
  rw [Try.params7] at hA hval
  obtain ⟨v0, vs0, d0, ds0, p0, q0, hargs, rfl, rfl, h0, r0⟩ := trodAll_cons hA
  obtain ⟨v1, vs1, d1, ds1, p1, q1, rfl, rfl, rfl, h1, r1⟩ := trodAll_cons r0
  obtain ⟨rfl, rfl, rfl⟩ := trodAll_nil r1
  obtain rfl : args = #[v0, v1] := by cases args; simp_all
  obtain ⟨rfl, rfl⟩ := trodVars_none hV
  obtain ⟨a0, rfl, rfl, rfl, w0⟩ := open_int Try.underlying2 (hval 0 2 v0 rfl rfl) h0
  obtain ⟨a1, rfl, rfl, rfl, w1⟩ := Go.ChangeMaps.open_string Try.underlying9 (hval 1 9 v1 rfl rfl) h1
  clear hA0 hval0
  simp only [List.append_nil] at hW'
  refine (walk a0 w0 a1 w1 W).mono fun e W' ⟨he, bel⟩ => ?_
  subst he
  exact ⟨_, rfl, _, _, _, [], [], [], hW', trodAll_mk1 (shut_bool Try.underlying4 _), (trodAll_cons_mk (shut_int Try.underlying2 w0) (trodAll_cons_mk (Go.ChangeMaps.shut_string Try.underlying9 w1) trodAll_mk0)), rfl, bel.frame _, fun h => by cases h⟩

theorem over : Rows.omapNilsRow.holds Try.pinned (OpenSpec.ofChange Rows.omapNilsSpec) :=
  OpenClaim.holds_of_wide 7 Try.f7 rfl rfl rfl rfl rfl rfl rfl ⟨rfl, rfl, rfl, rfl, rfl⟩ rfl rfl rfl rfl rfl (by kernel_rfl) Try.func7 (by kernel_rfl)
    (of_decide_eq_true (by kernel_rfl)) (by unfold Func.isWrapper; first | (rw [if_pos (by decide +kernel)]; kernel_rfl) | (rw [if_neg (by decide +kernel)]; exact ⟨rfl, rfl⟩))
    (fun os started H enc _ => lifted os started H enc)

theorem proved : Rows.OmapNilsSaid := over
#print axioms proved
end Go.Proofs.Ytcepjmkhooahnaa.omapNils
