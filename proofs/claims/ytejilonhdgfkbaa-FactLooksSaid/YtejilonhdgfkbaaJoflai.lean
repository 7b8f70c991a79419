/-
  'FactLooks': how much facts weigh, their hours, and their order. No condition.
-/
import Derived.Test.YtejilonhdgfkbaaJoflah
import Derived.Test.YtejilonhdgfkbaaJoflae
import Derived.Test.YtejilonhdgfkbaaJoflad
import Derived.Test.YtejilonhdgfkbaaJoflaa
import Derived.Test.YtejilonhdgfkbaaJoflag
import Derived.ProofKit
import Derived.OpenShut

/-
  Stage 9: the program's Hours.
-/
namespace Go.Proofs.Ytejilonhdgfkbaa
open Go.RowKit Go.ChangeShapes Go.WideShapes Go.Deep

set_option maxRecDepth 100000

/-- Hours laid into a row, as far as it has come. -/
def fill9 (l : List F9) (i : Nat) : List Int := (l.take i).map (·.k.h) ++ List.replicate (l.length - i) 0
theorem fill_len9 (l : List F9) {i : Nat} (hi : i ≤ l.length) : (fill9 l i).length = l.length := by
  unfold fill9
  rw [List.length_append, List.length_map, List.length_take, List.length_replicate]
  omega
theorem fill_set9 {l : List F9} {i : Nat} {f : F9} (h : l[i]? = some f) : (fill9 l i).set i f.k.h = fill9 l (i + 1) := by
  obtain ⟨hi, e⟩ := List.getElem?_eq_some_iff.1 h
  unfold fill9
  rw [List.take_succ_eq_append_getElem hi, e, List.map_append, show l.length - i = (l.length - (i + 1)) + 1 by omega, List.replicate_succ, List.set_append_right _ _ (by rw [List.length_map, List.length_take]; omega)]
  rw [List.length_map, List.length_take, Nat.min_eq_left (by omega), Nat.sub_self, List.set_cons_zero, List.append_assoc]
  rfl
theorem fill_all9 (l : List F9) : fill9 l l.length = l.map (·.k.h) := by
  unfold fill9
  rw [List.take_length, Nat.sub_self, List.replicate_zero, List.append_nil]

set_option maxHeartbeats 4000000 in
theorem hours_any9 (v : Value) (l : List F9) (w : World) (hv : RdE EF w v l) (hl : l.length ≤ 1000) : Calls Try.prog 19 #[v] w fun e w' => Listed9 w (hoursL l) e w' := by
  have HV := Lib.hid hv
  obtain ⟨A, c, rfl⟩ := hv.shape
  clear hv
  have hmk := made_nums9 l.length (by omega)
  have HO0 := Lib.hid (own_nums9 l.length (by omega) w)
  have HF0 : Hid (List.replicate l.length (0 : Int) = fill9 l 0) := rfl
  go_enter Try.func19, Try.ntmps19
  go_wp2_with fail
  obtain ⟨w1, hw1⟩ : ∃ w1, w1 = w.alloc (.cells (madeCells #[.int .i64 0] l.length) 2) := ⟨_, rfl⟩
  have HT1 : Hid (Turn (fun _ => False) w w1) := by rw [hw1]; exact (Turn.refl _ w).alloc _
  have HO1 : Hid (OwE EN9 2 w1 (.slice (some ⟨w.heap.size, 0, none⟩) l.length l.length) (fill9 l 0)) := by rw [hw1]; exact HO0.out
  rw [← hw1]
  have HW1 := Lib.hid hw1
  clear HO0 hmk hw1
  go_loopw [11] (fun x11 wr => ∃ i : Nat, x11 = .int .i64 (i : Int) ∧ i ≤ l.length ∧ OwE EN9 2 wr (.slice (some ⟨w.heap.size, 0, none⟩) l.length l.length) (fill9 l i) ∧ Turn (fun _ => False) w wr) (fun x11 _ => l.length - (intOf x11).toNat)
  case atStart => exact ⟨0, rfl, Nat.zero_le _, HO1.out, HT1.out⟩
  case round =>
    clear HO1 HT1
    obtain ⟨i, rfl, hi, ho, ht⟩ := hrel
    have HO := Lib.hid ho
    have HT := Lib.hid ht
    clear ho ht
    by_cases hlt : i < l.length
    · obtain ⟨f, hf⟩ : ∃ f, l[i]? = some f := ⟨_, List.getElem?_eq_getElem hlt⟩
      obtain ⟨ad, rfl, hc⟩ := fact_at6 HV.out hf
      have HF := Lib.hid hf
      obtain ⟨c0, c1, c2, c3, c4, c5⟩ := hc wr HT.out
      have hil : (i : Int) < l.length := by omega
      obtain ⟨cur, _, _, hbx, _, _, hcs, _⟩ := HO.out.home
      have hbx2 : Box (wr.alloc (.cells #[.int .i64 f.k.h, sv9 f.k.a, sv9 f.k.b, sv9 f.k.c, sv9 f.k.d, .int .i64 f.v] 33)) w.heap.size 2 cur := hbx.alloc _
      have hsz : i < cur.size := by rw [hcs]; show i < l.length * 1; omega
      obtain ⟨x0, hx0⟩ : ∃ x0, (wr.alloc (.cells #[.int .i64 f.k.h, sv9 f.k.a, sv9 f.k.b, sv9 f.k.c, sv9 f.k.d, .int .i64 f.v] 33)).cell? ⟨w.heap.size, i, none⟩ = some x0 := ⟨cur[i], by rw [hbx2.cell]; exact Array.getElem?_eq_getElem hsz⟩
      have hfz := hbx2.free i
      have hput := (HO.out.later ((Turn.refl _ wr).alloc (.cells #[.int .i64 f.k.h, sv9 f.k.a, sv9 f.k.b, sv9 f.k.c, sv9 f.k.d, .int .i64 f.v] 33))).put (j := i) (by rw [fill_len9 l hi]; exact hlt) f.k.h
      rw [fill_set9 HF.out] at hput
      have HP : Hid (OwE EN9 2 ((wr.alloc (.cells #[.int .i64 f.k.h, sv9 f.k.a, sv9 f.k.b, sv9 f.k.c, sv9 f.k.d, .int .i64 f.v] 33)).setCell ⟨w.heap.size, i, none⟩ (.int .i64 f.k.h)) (.slice (some ⟨w.heap.size, 0, none⟩) l.length l.length) (fill9 l (i + 1))) := by
        have e1 : 0 + i * EN9.sz = i := by show 0 + i * 1 = i; omega
        have h := hput
        simp only [e1] at h
        exact h
      have HT2 : Hid (Turn (fun _ => False) w ((wr.alloc (.cells #[.int .i64 f.k.h, sv9 f.k.a, sv9 f.k.b, sv9 f.k.c, sv9 f.k.d, .int .i64 f.v] 33)).setCell ⟨w.heap.size, i, none⟩ (.int .i64 f.k.h))) := Turn.setCell (HT.out.alloc _) (fun e => absurd e (Nat.lt_irrefl _)) _
      clear hc hf hbx hbx2 hcs hsz hput
      go_wp2_with fail
      go_roundw
      case rel => exact ⟨i + 1, by go_num, hlt, HP.out, HT2.out⟩
      case measure => simp [intOf]; omega
    · obtain rfl : i = l.length := by omega
      have HO2 : Hid (OwE EN9 2 wr (.slice (some ⟨w.heap.size, 0, none⟩) l.length l.length) (l.map (·.k.h))) := by have h := HO.out; rw [fill_all9] at h; exact h
      have hml : (l.map (·.k.h)).length ≤ 1000000 := by rw [List.length_map]; omega
      go_wp2_with fail
      refine (sortnums9 _ _ wr HO2.out hml).mono ?_
      rintro e w2 ⟨rfl, ho, ht⟩
      have HO3 := Lib.hid ho
      have HT3 : Hid (Turn (fun k => k = w.heap.size) wr w2) := ht.mono fun k _ e => by simpa [Value.ownBlock] using e.symm
      have hml2 : ((l.map (·.k.h)).mergeSort fun x y => decide (x ≤ y)).length ≤ 1000000 := by rw [(List.mergeSort_perm _ _).length_eq]; exact hml
      clear ho ht
      go_wp2_with fail
      refine (compactnums9 _ _ w2 HO3.out hml2).mono ?_
      rintro e w3 ⟨v', rfl, ho, hb, ht⟩
      rw [hours_sorted] at ho
      have HO4 := Lib.hid ho
      have HT4 : Hid (Turn (fun k => k = w.heap.size) w2 w3) := ht.mono fun k _ e => by simpa [Value.ownBlock] using e.symm
      clear ho hb ht
      go_wp2
      go_ret
      exact ⟨_, rfl, HO4.out.rd, (HT.out.trans HT3.out (fun k hk e => absurd hk (by omega))).trans HT4.out (fun k hk e => absurd hk (by omega))⟩

end Go.Proofs.Ytejilonhdgfkbaa

/-
  Stage 9: the program's Weight.
-/
namespace Go.Proofs.Ytejilonhdgfkbaa
open Go.RowKit Go.ChangeShapes Go.WideShapes Go.Deep

set_option maxRecDepth 100000

/-- Values laid into a row, as far as it has come. -/
def fillv9 (l : List F9) (i : Nat) : List Int := (l.take i).map (·.v) ++ List.replicate (l.length - i) 0
theorem fillv_len9 (l : List F9) {i : Nat} (hi : i ≤ l.length) : (fillv9 l i).length = l.length := by
  unfold fillv9
  rw [List.length_append, List.length_map, List.length_take, List.length_replicate]
  omega
theorem fillv_set9 {l : List F9} {i : Nat} {f : F9} (h : l[i]? = some f) : (fillv9 l i).set i f.v = fillv9 l (i + 1) := by
  obtain ⟨hi, e⟩ := List.getElem?_eq_some_iff.1 h
  unfold fillv9
  rw [List.take_succ_eq_append_getElem hi, e, List.map_append, show l.length - i = (l.length - (i + 1)) + 1 by omega, List.replicate_succ, List.set_append_right _ _ (by rw [List.length_map, List.length_take]; omega)]
  rw [List.length_map, List.length_take, Nat.min_eq_left (by omega), Nat.sub_self, List.set_cons_zero, List.append_assoc]
  rfl
theorem fillv_all9 (l : List F9) : fillv9 l l.length = values9 l := by
  unfold fillv9 values9
  rw [List.take_length, Nat.sub_self, List.replicate_zero, List.append_nil]

set_option maxHeartbeats 4000000 in
theorem weight_any9 (v : Value) (l : List F9) (w : World) (hv : RdE EF w v l) (hl : l.length ≤ 1000) (hf : ∀ f ∈ l, (Lit.int .i64 f.v).wf = true) : Calls Try.prog 16 #[v] w fun e w' => e = .returned (weighV (values9 l)) ∧ Turn (fun _ => False) w w' := by
  have HV := Lib.hid hv
  have HFT := Lib.hid hf
  obtain ⟨A, c, rfl⟩ := hv.shape
  clear hv hf
  have hmk := made_nums9 l.length (by omega)
  have HO0 := Lib.hid (own_nums9 l.length (by omega) w)
  go_enter Try.func16, Try.ntmps16
  go_wp2_with fail
  obtain ⟨w1, hw1⟩ : ∃ w1, w1 = w.alloc (.cells (madeCells #[.int .i64 0] l.length) 2) := ⟨_, rfl⟩
  have HT1 : Hid (Turn (fun _ => False) w w1) := by rw [hw1]; exact (Turn.refl _ w).alloc _
  have HO1 : Hid (OwE EN9 2 w1 (.slice (some ⟨w.heap.size, 0, none⟩) l.length l.length) (fillv9 l 0)) := by rw [hw1]; exact HO0.out
  rw [← hw1]
  clear HO0 hmk hw1
  go_loopw [12] (fun x12 wr => ∃ i : Nat, x12 = .int .i64 (i : Int) ∧ i ≤ l.length ∧ OwE EN9 2 wr (.slice (some ⟨w.heap.size, 0, none⟩) l.length l.length) (fillv9 l i) ∧ Turn (fun _ => False) w wr) (fun x12 _ => l.length - (intOf x12).toNat)
  case atStart => exact ⟨0, rfl, Nat.zero_le _, HO1.out, HT1.out⟩
  case round =>
    clear HO1 HT1
    obtain ⟨i, rfl, hi, ho, ht⟩ := hrel
    have HO := Lib.hid ho
    have HT := Lib.hid ht
    clear ho ht
    by_cases hlt : i < l.length
    · obtain ⟨f, hf⟩ : ∃ f, l[i]? = some f := ⟨_, List.getElem?_eq_getElem hlt⟩
      obtain ⟨ad, rfl, hc⟩ := fact_at6 HV.out hf
      have HF := Lib.hid hf
      obtain ⟨c0, c1, c2, c3, c4, c5⟩ := hc wr HT.out
      have hil : (i : Int) < l.length := by omega
      obtain ⟨cur, _, _, hbx, _, _, hcs, _⟩ := HO.out.home
      have hbx2 : Box (wr.alloc (.cells #[.int .i64 f.k.h, sv9 f.k.a, sv9 f.k.b, sv9 f.k.c, sv9 f.k.d, .int .i64 f.v] 33)) w.heap.size 2 cur := hbx.alloc _
      have hsz : i < cur.size := by rw [hcs]; show i < l.length * 1; omega
      obtain ⟨x0, hx0⟩ : ∃ x0, (wr.alloc (.cells #[.int .i64 f.k.h, sv9 f.k.a, sv9 f.k.b, sv9 f.k.c, sv9 f.k.d, .int .i64 f.v] 33)).cell? ⟨w.heap.size, i, none⟩ = some x0 := ⟨cur[i], by rw [hbx2.cell]; exact Array.getElem?_eq_getElem hsz⟩
      have hfz := hbx2.free i
      have hput := (HO.out.later ((Turn.refl _ wr).alloc (.cells #[.int .i64 f.k.h, sv9 f.k.a, sv9 f.k.b, sv9 f.k.c, sv9 f.k.d, .int .i64 f.v] 33))).put (j := i) (by rw [fillv_len9 l hi]; exact hlt) f.v
      rw [fillv_set9 HF.out] at hput
      have HP : Hid (OwE EN9 2 ((wr.alloc (.cells #[.int .i64 f.k.h, sv9 f.k.a, sv9 f.k.b, sv9 f.k.c, sv9 f.k.d, .int .i64 f.v] 33)).setCell ⟨w.heap.size, i, none⟩ (.int .i64 f.v)) (.slice (some ⟨w.heap.size, 0, none⟩) l.length l.length) (fillv9 l (i + 1))) := by
        have e1 : 0 + i * EN9.sz = i := by show 0 + i * 1 = i; omega
        have h := hput
        simp only [e1] at h
        exact h
      have HT2 : Hid (Turn (fun _ => False) w ((wr.alloc (.cells #[.int .i64 f.k.h, sv9 f.k.a, sv9 f.k.b, sv9 f.k.c, sv9 f.k.d, .int .i64 f.v] 33)).setCell ⟨w.heap.size, i, none⟩ (.int .i64 f.v))) := Turn.setCell (HT.out.alloc _) (fun e => absurd e (Nat.lt_irrefl _)) _
      clear hc hf hbx hbx2 hcs hsz hput
      go_wp2_with fail
      go_roundw
      case rel => exact ⟨i + 1, by go_num, hlt, HP.out, HT2.out⟩
      case measure => simp [intOf]; omega
    · obtain rfl : i = l.length := by omega
      have hrd := rd_num9 HO.out.rd
      rw [fillv_all9] at hrd
      have HRD := Lib.hid hrd
      have hvl : (values9 l).length ≤ 1000000 := by unfold values9; rw [List.length_map]; omega
      have hfit : Hid (∀ x ∈ values9 l, fit x = true) := fun x hx => by
        obtain ⟨f, hf, rfl⟩ := List.mem_map.1 hx
        exact HFT.out f hf
      clear hrd
      go_wp2_with fail
      refine (weight_any _ (values9 l) wr HRD.out hvl hfit.out).mono ?_
      unfold weighV
      rintro e w2 ⟨rfl, rfl⟩
      go_wp2
      go_ret2
      exact ⟨rfl, HT.out⟩

end Go.Proofs.Ytejilonhdgfkbaa

namespace Go.Proofs.Ytejilonhdgfkbaa.factLooks
open Go.ChangeShapes Go.WideShapes Go.ChangeAt Go.RowKit
set_option linter.unusedVariables false

theorem own : ownKnob Try.prog.godebug = none := by kernel_rfl
theorem laidOut : laidOutB Try.prog = true := by kernel_rfl

set_option maxRecDepth 100000 in
set_option maxHeartbeats 8000000 in
theorem walk (v : Value) (l : List F9) (w : World) (h : RdE EF w v l) (hlen : l.length ≤ maxLen) (hfit : ∀ f ∈ l, (Lit.int .i64 f.v).wf = true) :
    Calls Try.prog 5 #[v] w fun e w' => e = .returned (.bool true) ∧ Below w.heap.size w w' := by
  have HV := Lib.hid h
  have HF := Lib.hid hfit
  have HLI := Lib.hid (light_any9 v l w h hlen)
  obtain ⟨A, c, rfl⟩ := h.shape
  unfold maxLen at hlen
  clear h hfit
  cases hL : light9 l
  · rw [hL] at HLI
    go_enter Try.func5, Try.ntmps5
    go_wp2_with fail
    refine HLI.out.mono ?_
    rintro e w2 ⟨rfl, rfl⟩
    go_wp2_with fail
    refine (alive_any9 w2).mono ?_
    rintro e w3 ⟨rfl, ht⟩
    have HTa := Lib.hid ht
    clear ht
    go_wp2
    go_ret
    exact ⟨rfl, HTa.out.below (Nat.le_refl _) (fun _ f => f.elim)⟩
  · rw [hL] at HLI
    have h100 := light_len9 hL
    have h1k : l.length ≤ 1000 := by omega
    have HW1 := Lib.hid (weight_any9 _ l w HV.out h1k HF.out)
    go_enter Try.func5, Try.ntmps5
    go_wp2_with fail
    refine HLI.out.mono ?_
    rintro e w2 ⟨rfl, rfl⟩
    go_wp2_with fail
    refine HW1.out.mono ?_
    unfold weighV
    rintro e w3 ⟨rfl, t3⟩
    have HV3 := Lib.hid (HV.out.later t3); have HT3 := Lib.hid t3
    have HW2 := Lib.hid (ref_weight9 _ l w3 HV3.out h1k)
    clear t3 HW1 HLI
    go_wp2_with fail
    refine HW2.out.mono ?_
    unfold weighV
    rintro e w4 ⟨rfl, t4⟩
    have HV4 := Lib.hid (HV3.out.later t4); have HT4 := Lib.hid (HT3.out.trans t4 (fun _ _ f => f))
    clear t4 HW2
    generalize (weighO (values9 l)).1 = wa at *
    generalize (weighO (values9 l)).2 = wb at *
    have hwa : decide ((wa : Int) = (wa : Int)) = true := decide_eq_true rfl
    go_wp2_with fail
    refine (hours_any9 _ l w4 HV4.out h1k).mono ?_
    rintro e w5 ⟨v5, rfl, r5, t5⟩
    have HV5 := Lib.hid (HV4.out.later t5); have HT5 := Lib.hid (HT4.out.trans t5 (fun _ _ f => f)); have HR5 := Lib.hid r5
    clear r5 t5
    go_wp2_with fail
    refine (ref_hours9 _ l w5 HV5.out h1k).mono ?_
    rintro e w6 ⟨v6, rfl, r6, t6⟩
    have HV6 := Lib.hid (HV5.out.later t6); have HT6 := Lib.hid (HT5.out.trans t6 (fun _ _ f => f)); have HR6 := Lib.hid r6; have HRa := Lib.hid (HR5.out.later t6)
    clear r6 t6
    have hhl : (hoursL l).length ≤ 1000000 := by have := hours_len l l.length; rw [List.take_length] at this; omega
    go_wp2_with fail
    refine (same_nums9 _ _ _ w6 HRa.out HR6.out hhl).mono ?_
    rintro e w7 ⟨rfl, t7⟩
    have HV7 := Lib.hid (HV6.out.later t7); have HT7 := Lib.hid (HT6.out.trans t7 (fun _ _ f => f))
    clear t7
    go_wp2_with fail
    refine (sort_any9 _ l w7 HV7.out h1k).mono ?_
    rintro e w8 ⟨v8, rfl, r8, t8⟩
    have HV8 := Lib.hid (HV7.out.later t8); have HT8 := Lib.hid (HT7.out.trans t8 (fun _ _ f => f)); have HR8 := Lib.hid r8
    clear r8 t8
    go_wp2_with fail
    refine (ref_sort9 _ l w8 HV8.out h1k).mono ?_
    rintro e w9 ⟨v9, rfl, r9, t9⟩
    have HT9 := Lib.hid (HT8.out.trans t9 (fun _ _ f => f)); have HR9 := Lib.hid r9; have HRb := Lib.hid (HR8.out.later t9)
    clear r9 t9
    have hsl : (sortL l).length ≤ 1000000 := by have := sort_len l l.length; rw [List.take_length] at this; omega
    go_wp2_with fail
    refine (same_refl9 _ _ _ w9 HRb.out HR9.out hsl).mono ?_
    rintro e wA ⟨rfl, tA⟩
    have HTA := Lib.hid (HT9.out.trans tA (fun _ _ f => f))
    clear tA
    go_wp2_with fail
    refine (alive_any9 wA).mono ?_
    rintro e wB ⟨rfl, tB⟩
    have HTB := Lib.hid (HTA.out.trans tB (fun _ _ f => f))
    clear tB
    go_wp2
    go_ret
    exact ⟨rfl, HTB.out.below (Nat.le_refl _) (fun _ f => f.elim)⟩

set_option maxRecDepth 100000 in
theorem lifted (os : Os) (started : os.Started) (H : Type) (enc : TypeId × Value → H) :
    ReturnsInHanded {} Try.checked os 5 .any (Rows.factLooksSpec.pre6 enc Try.prog Try.f5 Rows.factLooksRow.domain false) (Rows.factLooksSpec.post enc Try.prog Try.f5 false true false false) := by
  refine returnsInHanded_of_change (C := Try.checked) own started (by kernel_rfl) Try.func5
    (ChangeSpec.witness6 (enc := enc) (C := Try.checked) false ⟨#[], #[.slice none 0 0], []⟩ 8 (by kernel_rfl) (by kernel_rfl) (by kernel_rfl) (by kernel_rfl)) ?_
  intro W base args ds gs before hval0 hW hcnd _
  have hval : ∀ (j : Nat) t v, Try.f5.params[j]? = some t → args[j]? = some v → Value.okWide Try.prog W .any base t v := hval0
  have hW' := hW
  obtain ⟨p, q, hA0, hV, rfl, hfz, hnd⟩ := hW
  have hA : DataW.TrodAll enc Try.prog W 0 (fun _ => true) true Try.f5.params.toList args.toList ds p := hA0
  rw [Try.params5] at hA hval
  obtain ⟨v0, vs0, d0, ds0, p0, q0, hargs, rfl, rfl, h0, r0⟩ := trodAll_cons hA
  obtain ⟨rfl, rfl, rfl⟩ := trodAll_nil r0
  obtain rfl : args = #[v0] := by cases args; simp_all
  obtain ⟨rfl, rfl⟩ := trodVars_none hV
  have k0 := h0
  have lt0 : ∀ x ∈ p0, x.block < W.heap.size := by obtain ⟨m, hm⟩ := k0; exact DataW.trod_lt m _ _ _ hm
  obtain ⟨a0, len0, cap0, rfl⟩ := okWide_slice Try.underlying28 (hval 0 28 v0 rfl rfl)
  obtain ⟨l0, hp0, hl0, hf0⟩ := open_facts9 rfl h0
  clear hA0 hval0
  refine (walk _ l0 W hp0 hl0 hf0).mono fun e W' ⟨he, bel⟩ => ?_
  subst he
  exact ⟨_, rfl, _, _, _, [], _, [], hW', trodAll_mk1 (shut_bool Try.underlying4 _), (trodAll_cons_mk (Below.trod laidOut (by kernel_rfl) (of_decide_eq_true (by kernel_rfl)) k0 bel lt0) trodAll_mk0), rfl, bel.frame _, fun h => by cases h⟩

theorem over : Rows.factLooksRow.holds Try.pinned (OpenSpec.ofChange Rows.factLooksSpec) :=
  OpenClaim.holds_of_wide 5 Try.f5 rfl rfl rfl rfl rfl rfl rfl ⟨rfl, rfl, rfl, rfl, rfl⟩ rfl rfl rfl rfl rfl (by kernel_rfl) Try.func5 (by kernel_rfl)
    (of_decide_eq_true (by kernel_rfl)) (by unfold Func.isWrapper; first | (rw [if_pos (by decide +kernel)]; kernel_rfl) | (rw [if_neg (by decide +kernel)]; exact ⟨rfl, rfl⟩))
    (fun os started H enc _ => lifted os started H enc)

theorem proved : Rows.FactLooksSaid := over
#print axioms proved
end Go.Proofs.Ytejilonhdgfkbaa.factLooks
