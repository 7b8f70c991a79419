/-
  Texts laid one behind the other: Zz Zre Zs Zo Zk La Ma Mb.
-/
import Derived.Test.YtejilonhdgfkbaaJoflac
import Derived.Test.YtejilonhdgfkbaaJoflab
import Derived.Laws.IdiomArrays
import Derived.Laws.StructEq
import Derived.WalkKit
import Derived.WalkSmall
import Derived.Test.YtejilonhdgfkbaaJoflaa
import Derived.BigQuiet
import Derived.Laws.ResultCell
import Derived.Deep.RegionWith

/-
  Stage 9: the program's Encode (by method values).
-/
namespace Go.Proofs.Ytejilonhdgfkbaa
open Go.RowKit

set_option maxRecDepth 100000

set_option maxHeartbeats 8000000 in
theorem encode_any9' (v : Value) (l : List F9) (n : Int) (w : World) (hv : RdE EF w v l) (hl : l.length ≤ 1000) : Calls Try.prog 24 #[v, .int .i64 n] w fun e w' => Encd w l n e w' := by
  have HV := Lib.hid hv
  obtain ⟨A, c, rfl⟩ := hv.shape
  have HALL := Lib.hid (all_any9 (.slice A l.length c) l n w hv hl)
  clear hv
  by_cases h0 : (allB l n).1 = 0
  · have hag := all_good h0
    obtain ⟨⟨n1, n4⟩, ⟨l1, l50⟩, hch, hall⟩ := hag
    obtain ⟨N, rfl⟩ := Int.eq_ofNat_of_zero_le (show 0 ≤ n by omega)
    have HG : Hid (∀ f ∈ l, Good9 f) := fun f hf => good_chk (hch f hf)
    have HEND : Hid (∀ v w', Made w w' v (batchB l N) → Encd w l (N : Int) (.returned (.tuple #[v, .int .i64 0])) w') := fun v w' hm => ⟨v, by rw [h0], by rw [if_pos h0, Int.toNat_natCast]; exact hm⟩
    unfold allV at HALL
    rw [hall] at HALL
    have hN4 : N ≤ 4 := by omega
    have HLEN := Lib.hid (partB_len (n := N) hN4 HG.out)
    have hl64 : Hid (l.length < 18446744073709551616) := by show _ < _; omega
    have hwl : IntKind.u64.wrap (l.length : Int) = (l.length : Int) := by rw [IntKind.wrap_u64]; omega
    clear h0 hch hall
    go_enter Try.func24, Try.ntmps24
    go_wp2_with fail
    refine HALL.out.mono ?_
    rintro e w1 ⟨rfl, t1⟩
    have HT1 := Lib.hid t1
    have HWT := Lib.hid (Wt.new w t1)
    clear t1
    go_wp2_with fail
    obtain ⟨P, hP⟩ : ∃ P, P = w1.heap.size := ⟨_, rfl⟩
    rw [← hP] at HWT ⊢
    refine (wt_num HWT.out l.length hl64 (by simp)).mono ?_
    rintro e w2 ⟨rfl, h2, -⟩
    have HM0 : Hid (Wt w P w2 (partB l N 0)) := by
      unfold partB
      rw [List.take_zero, List.flatMap_nil, List.append_nil]
      exact h2
    clear h2 HT1 HALL HWT hP
    go_wp2_with fail
    go_loopw [35] (fun x35 wr => ∃ i : Nat, x35 = .int .i64 (i : Int) ∧ i ≤ l.length ∧ Wt w P wr (partB l N i)) (fun x35 _ => l.length - (intOf x35).toNat)
    case atStart => exact ⟨0, rfl, Nat.zero_le _, HM0.out⟩
    case round =>
      clear HM0
      obtain ⟨i, rfl, hi, hm⟩ := hrel
      have HM := Lib.hid hm
      have hlen := HLEN.out i
      clear hm
      by_cases hlt : i < l.length
      · obtain ⟨f, hf⟩ : ∃ f, l[i]? = some f := ⟨_, List.getElem?_eq_getElem hlt⟩
        have hgf := HG.out f (List.mem_of_getElem? hf)
        obtain ⟨ad, rfl, hc⟩ := fact_at6 HV.out hf
        have HST := Lib.hid (partB_step (n := N) hf)
        have HGF := Lib.hid hgf
        obtain ⟨c0, c1, c2, c3, c4, c5⟩ := hc wr HM.out.turn
        obtain ⟨H, hH⟩ := Int.eq_ofNat_of_zero_le hgf.h0
        have hH2 : H ≤ 16777216 := by have := hgf.h1; omega
        have HHH := Lib.hid hH
        have hil : (i : Int) < l.length := by omega
        have hn64 : Hid (H < 18446744073709551616) := by show _ < _; omega
        have hwh : IntKind.u64.wrap f.k.h = (H : Int) := by rw [hH, IntKind.wrap_u64]; omega
        obtain ⟨wf, hwf⟩ : ∃ wf, wf = wr.alloc (.cells #[.int .i64 f.k.h, sv9 f.k.a, sv9 f.k.b, sv9 f.k.c, sv9 f.k.d, .int .i64 f.v] 33) := ⟨_, rfl⟩
        have HMF : Hid (Wt w P wf (partB l N i)) := by rw [hwf]; exact HM.out.later ((Turn.refl _ wr).alloc _)
        have hbf : Box wf wr.heap.size 33 #[.int .i64 f.k.h, sv9 f.k.a, sv9 f.k.b, sv9 f.k.c, sv9 f.k.d, .int .i64 f.v] := by rw [hwf]; exact Box.new wr _ _
        have HD : Hid (∀ W, Box W wr.heap.size 33 #[.int .i64 f.k.h, sv9 f.k.a, sv9 f.k.b, sv9 f.k.c, sv9 f.k.d, .int .i64 f.v] → ∀ k, k < 4 → W.cell? ⟨wr.heap.size, 1 + k, none⟩ = some (sv9 (f.k.dim k))) := fun W hb => dim_cell (o := 1) hb fact_cells
        have HB := Lib.hid hbf
        have HWF := Lib.hid hwf
        clear hc hf hgf hH hwf hbf HM
        go_wp2_with fail
        rw [← HWF.out]
        refine (wt_num HMF.out H hn64 (by omega)).mono ?_
        rintro e w3 ⟨rfl, h3, k3⟩
        obtain ⟨acc, hacc⟩ : ∃ acc, acc = partB l N i ++ enc H := ⟨_, rfl⟩
        rw [← hacc] at h3
        have hal : acc.length ≤ 100000 := by rw [hacc, List.length_append]; have := enc_len H; omega
        have HACC := Lib.hid hacc
        have HM3 : Hid (Wt w P w3 (acc ++ textsB f.k 0)) := by
          show Wt w P w3 (acc ++ [])
          rw [List.append_nil]
          exact h3
        have HB3 := Lib.hid (k3 _ _ _ (by decide) (by decide) HB.out)
        clear h3 hacc k3 HMF HB c0 c1 c2 c3 c4 c5
        go_wp2_with fail
        go_loopw [50] (fun x50 wk => ∃ k : Nat, x50 = .int .i64 (k : Int) ∧ k ≤ N ∧ Wt w P wk (acc ++ textsB f.k k) ∧ Box wk wr.heap.size 33 #[.int .i64 f.k.h, sv9 f.k.a, sv9 f.k.b, sv9 f.k.c, sv9 f.k.d, .int .i64 f.v]) (fun x50 _ => N - (intOf x50).toNat)
        case atStart => exact ⟨0, rfl, Nat.zero_le _, HM3.out, HB3.out⟩
        case round =>
          clear HM3 HB3
          rename_i wk
          obtain ⟨k, rfl, hk, hm, hb⟩ := hrel
          have HM := Lib.hid hm
          have HB := Lib.hid hb
          have htl := texts_len f HGF.out k (by omega)
          clear hm hb
          by_cases hkN : k < N
          · have e1 := HD.out _ HB.out k (by omega)
            have ht16 := HGF.out.t k (by omega)
            have hki : (k : Int) < N := by omega
            have HTS : Hid (textsB f.k (k + 1) = textsB f.k k ++ textB (f.k.dim k)) := rfl
            unfold sv9 at e1
            have hlen2 : (acc ++ textsB f.k k).length ≤ 200000 := by rw [List.length_append]; omega
            generalize hacc2 : acc ++ textsB f.k k = acc2 at *
            have HACC2 := Lib.hid hacc2
            generalize hT : f.k.dim k = T at *
            have hk4 : (k : Int) < 4 := by omega
            clear hacc2 hT
            go_wp2_with fail
            refine (wt_text HM.out T (by omega) (by omega)).mono ?_
            rintro e w4 ⟨rfl, h4, k4⟩
            have HM4 : Hid (Wt w P w4 (acc ++ textsB f.k (k + 1))) := by rw [HTS.out, ← List.append_assoc, HACC2.out]; exact h4
            have HB4 := Lib.hid (k4 _ _ _ (by decide) (by decide) HB.out)
            clear h4 k4
            go_wp2
            go_roundw
            case rel => exact ⟨k + 1, by go_num, hkN, HM4.out, HB4.out⟩
            case measure => simp [intOf]; omega
          · obtain rfl : k = N := by omega
            have e5 := HB.out.cell 5
            have hlen2 : (acc ++ textsB f.k k).length ≤ 200000 := by rw [List.length_append]; omega
            have hst2 : partB l k (i + 1) = acc ++ textsB f.k k ++ enc (zig f.v) := by
              rw [HST.out, HACC.out]
              unfold factB
              rw [HHH.out]
              simp only [Int.toNat_natCast, List.append_assoc]
            have HST2 := Lib.hid hst2
            clear hst2
            generalize hacc2 : acc ++ textsB f.k k = acc2 at *
            have hv1 : Hid (-9223372036854775808 ≤ f.v) := by have := HGF.out.v0; show _ ≤ _; omega
            have hv2 : Hid (f.v ≤ 9223372036854775807) := by have := HGF.out.v1; show _ ≤ _; omega
            clear hacc2
            go_wp2_with fail
            refine (wt_int HM.out f.v hv1 hv2 (by omega)).mono ?_
            rintro e w4 ⟨rfl, h4, -⟩
            have HM4 : Hid (Wt w P w4 (partB l k (i + 1))) := by rw [HST2.out]; exact h4
            clear h4 e5
            go_wp2
            go_roundw
            case rel => exact ⟨i + 1, by go_num, hlt, HM4.out⟩
            case measure => simp [intOf]; omega
      · obtain rfl : i = l.length := by omega
        have HM2 : Hid (Wt w P wr (batchB l N)) := by rw [← partB_all]; exact HM.out
        have hbl : (batchB l N).length ≤ 1000000 := by rw [← partB_all]; omega
        go_wp2_with fail
        refine (wt_bytes HM2.out hbl).mono ?_
        rintro e w4 ⟨v', rfl, hm⟩
        have HE := Lib.hid (HEND.out _ _ hm)
        clear hm
        go_wp2
        go_ret2
        exact HE.out
  · have HEND : Hid (∀ w', Turn (fun _ => False) w w' → Encd w l n (.returned (.tuple #[.slice none 0 0, .int .i64 (allB l n).1])) w') := fun w' ht => ⟨_, rfl, by rw [if_neg h0]; exact ⟨By.nil w', ht, fun k hk => by simp [Value.ownBlock] at hk⟩⟩
    have hne : ((allB l n).1 != 0) = true := by simp [bne, h0]
    unfold allV at HALL
    clear h0
    generalize (allB l n).1 = a at *
    generalize (allB l n).2 = b at *
    go_enter Try.func24, Try.ntmps24
    go_wp2_with fail
    refine HALL.out.mono ?_
    rintro e w1 ⟨rfl, t1⟩
    have HT1 := Lib.hid t1
    clear t1
    go_wp2
    go_ret2
    exact HEND.out _ HT1.out

end Go.Proofs.Ytejilonhdgfkbaa

/-
  Stage 9: the program's Encode, as the laws want it.
-/
namespace Go.Proofs.Ytejilonhdgfkbaa
open Go.RowKit

/-- Behind Encode: the bytes, or none, wherever they lie. -/
def Encp (w : World) (l : List F9) (n : Int) (e : Ending) (w' : World) : Prop :=
  ∃ v, e = .returned (.tuple #[v, .int .i64 (allB l n).1]) ∧ Rd w' v (if (allB l n).1 = 0 then batchB l n.toNat else []) ∧ Turn (fun _ => False) w w'
theorem Encd.p {w : World} {l : List F9} {n : Int} {e : Ending} {w' : World} (h : Encd w l n e w') : Encp w l n e w' := by
  obtain ⟨v, h1, h2⟩ := h
  exact ⟨v, h1, h2.rd, h2.2.1⟩
theorem encode_any9 (v : Value) (l : List F9) (n : Int) (w : World) (hv : RdE EF w v l) (hl : l.length ≤ 1000) : Calls Try.prog 24 #[v, .int .i64 n] w fun e w' => Encp w l n e w' :=
  (encode_any9' v l n w hv hl).mono fun _ _ h => h.p

end Go.Proofs.Ytejilonhdgfkbaa

/-
  Stage 9: the chapter's example.
-/
namespace Go.Proofs.Ytejilonhdgfkbaa
open Go.RowKit

set_option maxRecDepth 100000
def f90 : F9 := ⟨⟨5, [97], [], [], []⟩, -1⟩
set_option maxHeartbeats 2000000 in
theorem alive_any9 (w : World) : Calls Try.prog 10 #[] w fun e w' => e = .returned (.bool true) ∧ Turn (fun _ => False) w w' := by
  have e1 : (allB [f90] 1).1 = 0 := by decide
  have e2 : batchB [f90] (1 : Int).toNat = [1, 5, 1, 97, 1] := by decide
  have hen := encode_any9 (.slice (some ⟨w.heap.size, 0, none⟩) 1 1) [f90] 1 (w.alloc (.cells (EF.enc f90).toArray 33)) (one_row EF 33 w f90) (by simp)
  unfold Encp at hen
  rw [e1, if_pos rfl, e2] at hen
  have HEN := Lib.hid hen
  clear e1 e2 hen
  go_enter Try.func10, Try.ntmps10
  go_wp2_with fail
  refine HEN.out.mono ?_
  rintro e w1 ⟨v, rfl, hr, ht⟩
  have HT : Hid (Turn (fun _ => False) w w1) := ((Turn.refl _ w).alloc _).trans ht (fun _ _ f => f)
  obtain ⟨A, c, rfl⟩ := hr.shape
  obtain ⟨ad, rfl, x0⟩ := hr.at (k := 0) rfl
  obtain ⟨_, h1, x1⟩ := hr.at (k := 1) rfl
  cases h1
  obtain ⟨_, h2, x2⟩ := hr.at (k := 2) rfl
  cases h2
  obtain ⟨_, h3, x3⟩ := hr.at (k := 3) rfl
  cases h3
  obtain ⟨_, h4, x4⟩ := hr.at (k := 4) rfl
  cases h4
  rw [show ad.add 0 = ad from rfl] at x0
  have y0 : w1.cell? ad = some (.int .u8 1) := x0
  have y1 : w1.cell? ⟨ad.block, ad.off + 1, none⟩ = some (.int .u8 5) := x1
  have y2 : w1.cell? ⟨ad.block, ad.off + 2, none⟩ = some (.int .u8 1) := x2
  have y3 : w1.cell? ⟨ad.block, ad.off + 3, none⟩ = some (.int .u8 97) := x3
  have y4 : w1.cell? ⟨ad.block, ad.off + 4, none⟩ = some (.int .u8 1) := x4
  clear hr ht x0 x1 x2 x3 x4
  go_wp2
  go_ret
  exact ⟨rfl, HT.out⟩

end Go.Proofs.Ytejilonhdgfkbaa

/-
  Stage 9: keys and facts that came in.
-/
namespace Go.Proofs.Ytejilonhdgfkbaa
open Go.RowKit Go.ChangeShapes Go.WideShapes Go.Deep

set_option maxRecDepth 100000

theorem open_text9 {H : Type} {enc : TypeId × Value → H} {W : World} {n : Nat} {c0 : Value} {y : DataW H × List MemPlace} (h : DataW.trod enc Try.prog W 0 (fun _ => true) true n 9 [c0] = some y) : ∃ a : List UInt8, c0 = sv9 a := by
  obtain ⟨S, k2, _, sw⟩ := DataW.trod_string Try.underlying9 h
  simp only [List.cons.injEq, and_true] at k2
  exact ⟨S.data.toList, k2⟩
theorem open_texts9 {H : Type} {enc : TypeId × Value → H} {W : World} {n : Nat} {c0 c1 c2 c3 : Value} {y : DataW H × List MemPlace} (h : DataW.trod enc Try.prog W 0 (fun _ => true) true n 22 [c0, c1, c2, c3] = some y) :
    ∃ a b c d : List UInt8, c0 = sv9 a ∧ c1 = sv9 b ∧ c2 = sv9 c ∧ c3 = sv9 d := by
  obtain ⟨y0, y1, y2, y3, n', _, h0, h1, h2, h3⟩ := trod_array4 Try.underlying22 (by kernel_rfl) h
  obtain ⟨a, ha⟩ := open_text9 h0
  obtain ⟨b, hb⟩ := open_text9 h1
  obtain ⟨c, hc⟩ := open_text9 h2
  obtain ⟨d, hd⟩ := open_text9 h3
  exact ⟨a, b, c, d, ha, hb, hc, hd⟩
theorem open_keyc {H : Type} {enc : TypeId × Value → H} {W : World} {n : Nat} {cs : List Value} {y : DataW H × List MemPlace} (hl : cs.length = 5) (h : DataW.trod enc Try.prog W 0 (fun _ => true) true n 24 cs = some y) :
    ∃ k : K9, cs = [.int .i64 k.h, sv9 k.a, sv9 k.b, sv9 k.c, sv9 k.d] := by
  obtain ⟨y0, y1, n', _, _, g0, g1⟩ := trod_struct2 Try.underlying24 h
  have e1 : Try.prog.cellsOf 2 = 1 := by kernel_rfl
  have e4 : Try.prog.cellsOf 22 = 4 := by kernel_rfl
  match cs, hl with
  | [c0, c1, c2, c3, c4], _ =>
    simp [e1, e4] at g0 g1
    obtain ⟨K, k0, _, kw⟩ := DataW.trod_int Try.underlying2 g0
    simp only [List.cons.injEq, and_true] at k0
    subst k0
    obtain ⟨a, b, c, d, rfl, rfl, rfl, rfl⟩ := open_texts9 g1
    exact ⟨⟨K, a, b, c, d⟩, rfl⟩
theorem open_key9 {H : Type} {enc : TypeId × Value → H} {W : World} {b0 : Nat} {v : Value} {d : DataW H} {p : List MemPlace} (hv : Value.okWide Try.prog W .any b0 24 v) (h : DataW.Trod enc Try.prog W 0 (fun _ => true) true 24 v d p) : ∃ k : K9, v = kv9 k := by
  simp only [Value.okWide, Try.underlying24] at hv
  obtain ⟨cs, rfl, hsz, _⟩ := hv
  obtain ⟨fuel, hf⟩ := h
  have e5 : Try.prog.cellsOf 24 = 5 := by kernel_rfl
  obtain ⟨k, hk⟩ := open_keyc (by show (Value.cells (.agg cs)).toList.length = 5; simp [Value.cells]; omega) hf
  refine ⟨k, ?_⟩
  have hk2 : cs.toList = [.int .i64 k.h, sv9 k.a, sv9 k.b, sv9 k.c, sv9 k.d] := hk
  have hk3 : cs = #[.int .i64 k.h, sv9 k.a, sv9 k.b, sv9 k.c, sv9 k.d] := by rw [← Array.toList_inj]; exact hk2
  rw [hk3]
theorem open_factc {H : Type} {enc : TypeId × Value → H} {W : World} (n : Nat) (cs : List Value) (y : DataW H × List MemPlace) (hl : cs.length = EF.sz) (h : DataW.trod enc Try.prog W 0 (fun _ => true) true n 33 cs = some y) :
    ∃ f : F9, cs = EF.enc f ∧ (Lit.int .i64 f.v).wf = true := by
  obtain ⟨y0, y1, n', _, _, g0, g1⟩ := trod_struct2 Try.underlying33 h
  have e1 : Try.prog.cellsOf 2 = 1 := by kernel_rfl
  have e5 : Try.prog.cellsOf 24 = 5 := by kernel_rfl
  match cs, hl with
  | [c0, c1, c2, c3, c4, c5], _ =>
    simp [e1, e5] at g0 g1
    obtain ⟨K, k0, _, kw⟩ := DataW.trod_int Try.underlying2 g1
    simp only [List.cons.injEq, and_true] at k0
    subst k0
    obtain ⟨k, hk⟩ := open_keyc rfl g0
    simp only [List.cons.injEq, and_true] at hk
    obtain ⟨rfl, rfl, rfl, rfl, rfl⟩ := hk
    exact ⟨⟨k, K⟩, rfl, kw⟩
theorem open_facts9 {H : Type} {enc : TypeId × Value → H} {W : World} {v : Value} {d : DataW H} {p : List MemPlace} {a : Option Addr} {len cap : Nat} (hv : v = .slice a len cap)
    (h : DataW.Trod enc Try.prog W 0 (fun _ => true) true 28 v d p) : ∃ l : List F9, RdE EF W v l ∧ l.length ≤ maxLen ∧ ∀ f ∈ l, (Lit.int .i64 f.v).wf = true :=
  open_elems EF _ Try.underlying28 (by kernel_rfl) hv h open_factc

end Go.Proofs.Ytejilonhdgfkbaa

/-
  Stage 9: keys and facts held against each other by ==.
-/
namespace Go.Proofs.Ytejilonhdgfkbaa
open Go.RowKit

theorem bytes_beq9 (a b : List UInt8) : ((⟨a.toArray⟩ : ByteArray).toList == (⟨b.toArray⟩ : ByteArray).toList) = decide (a = b) := by
  rw [ByteArray.toList_eq, ByteArray.toList_eq]
  by_cases h : a = b
  · subst h; simp
  · simp [h]
theorem eq_texts9 (d : Nat) (a0 a1 a2 a3 b0 b1 b2 b3 : List UInt8) (w : World) :
    (Op.equalIn (d + 2) 22 (.agg #[sv9 a0, sv9 a1, sv9 a2, sv9 a3]) (.agg #[sv9 b0, sv9 b1, sv9 b2, sv9 b3])).run Try.prog w = .ok (decide (a0 = b0) && decide (a1 = b1) && decide (a2 = b2) && decide (a3 = b3)) w := by
  have u3 := Try.underlying9
  have a3' := Try.isAgg9
  have z3 := Try.sizeOf9
  rw [Op.equalIn]
  simp only [Sem.run_bind, run_underlying Try.underlying22, Result.andThen_ok]
  simp only [Std.Legacy.Range.forIn_eq_forIn_range', Std.Legacy.Range.size, Nat.sub_zero, Nat.add_sub_cancel, Nat.div_one, List.range'_succ, List.range'_zero, List.forIn_cons, List.forIn_nil]
  go_simp
  by_cases h0 : a0 = b0 <;> by_cases h1 : a1 = b1 <;> by_cases h2 : a2 = b2 <;> by_cases h3 : a3 = b3 <;> simp [h0, h1, h2, h3]

theorem eq_key9 (d : Nat) (p q : K9) (w : World) : (Op.equalIn (d + 3) 24 (kv9 p) (kv9 q)).run Try.prog w = .ok (decide (p = q)) w := by
  have hS : Try.prog.underlying 24 = some (.struct (Try.prog.fieldsOf 24)) := by kernel_rfl
  have hp : Try.prog.stoodInHeld 24 = false := by kernel_rfl
  have u2 := Try.underlying2
  have i2 := Try.isAgg2
  have z2 := Try.sizeOf2
  have i4 := Try.isAgg22
  have z4 := Try.sizeOf22
  have key := eq_texts9 d p.a p.b p.c p.d q.a q.b q.c q.d
  rw [run_equalIn_agg w (d + 2) 24 _ _ hS hp]
  simp only [Program.fieldsOf, Try.underlying24]
  go_simp
  obtain ⟨h, a, b, c, e⟩ := p
  obtain ⟨h', a', b', c', e'⟩ := q
  by_cases h0 : h = h' <;> by_cases h1 : a = a' <;> by_cases h2 : b = b' <;> by_cases h3 : c = c' <;> by_cases h4 : e = e' <;> simp [h0, h1, h2, h3, h4]
theorem eq_fact9 (d : Nat) (f g : F9) (w : World) : (Op.equalIn (d + 4) 33 (fv9 f) (fv9 g)).run Try.prog w = .ok (decide (f = g)) w := by
  have hS : Try.prog.underlying 33 = some (.struct (Try.prog.fieldsOf 33)) := by kernel_rfl
  have hp : Try.prog.stoodInHeld 33 = false := by kernel_rfl
  have u2 := Try.underlying2
  have i2 := Try.isAgg2
  have z2 := Try.sizeOf2
  have i4 := Try.isAgg24
  have z4 := Try.sizeOf24
  have key := eq_key9 d f.k g.k
  rw [run_equalIn_agg w (d + 3) 33 _ _ hS hp]
  simp only [Program.fieldsOf, Try.underlying33]
  go_simp
  obtain ⟨k, v⟩ := f
  obtain ⟨k', v'⟩ := g
  by_cases h0 : k = k' <;> by_cases h1 : v = v' <;> simp [h0, h1]
theorem run_neq_fact (f g : F9) (w : World) : (binOp .neq 33 (fv9 f) (fv9 g)).run Try.prog w = .ok (.bool (!decide (f = g))) w := by
  rw [run_neq_struct, show (10000 : Nat) = 9996 + 4 from rfl, eq_fact9]
  rfl
theorem run_eql_fact (f g : F9) (w : World) : (binOp .eql 33 (fv9 f) (fv9 g)).run Try.prog w = .ok (.bool (decide (f = g))) w := by
  rw [run_eql_struct, show (10000 : Nat) = 9996 + 4 from rfl, eq_fact9]
  rfl
theorem run_neq_key (p q : K9) (w : World) : (binOp .neq 24 (kv9 p) (kv9 q)).run Try.prog w = .ok (.bool (!decide (p = q))) w := by
  rw [run_neq_struct, show (10000 : Nat) = 9997 + 3 from rfl, eq_key9]
  rfl
theorem run_eql_key (p q : K9) (w : World) : (binOp .eql 24 (kv9 p) (kv9 q)).run Try.prog w = .ok (.bool (decide (p = q))) w := by
  rw [run_eql_struct, show (10000 : Nat) = 9997 + 3 from rfl, eq_key9]
  rfl
theorem guard_fact9 (op : BinOp) (x y : Operand) (f g : F9) (w : World) : (eqGuard op 33 x y (fv9 f) (fv9 g)).run Try.prog w = .ok () w := run_eqGuard_agg w op _ x y _ _ (by kernel_rfl)
theorem guard_key9 (op : BinOp) (x y : Operand) (p q : K9) (w : World) : (eqGuard op 24 x y (kv9 p) (kv9 q)).run Try.prog w = .ok () w := run_eqGuard_agg w op _ x y _ _ (by kernel_rfl)

end Go.Proofs.Ytejilonhdgfkbaa

/-
  Cells, plain: what values come to, merged from the first on; that values that weigh not too much have a cell, the same in whatever parts.
-/
namespace Go.Proofs.Ytejilonhdgfkbaa
open Go.RowKit

/-- A cell: Count, Sum, Min, Max. -/
structure Cl where
  n : Int
  s : Int
  lo : Int
  hi : Int
  deriving DecidableEq
def Cl.zero : Cl := ⟨0, 0, 0, 0⟩
def Cl.of (v : Int) : Cl := ⟨1, v, v, v⟩
/-- A number that an int64 holds. -/
def fit (x : Int) : Bool := decide (-9223372036854775808 ≤ x) && decide (x ≤ 9223372036854775807)
theorem fit_iff (x : Int) : fit x = true ↔ -9223372036854775808 ≤ x ∧ x ≤ 9223372036854775807 := by simp [fit]
/-- Two cells together, if that may be. -/
def mergeC (a b : Cl) : Option Cl :=
  if a.n = 0 then some b else if b.n = 0 then some a else if fit (a.n + b.n) && fit (a.s + b.s) then some ⟨a.n + b.n, a.s + b.s, min a.lo b.lo, max a.hi b.hi⟩ else none
/-- Values behind a cell; all values. -/
def moreC : Cl → List Int → Option Cl
  | c, [] => some c
  | c, x :: l => match mergeC c (Cl.of x) with
    | some d => moreC d l
    | none => none
def allC (l : List Int) : Option Cl := moreC Cl.zero l
theorem moreC_append (c : Cl) (l m : List Int) : moreC c (l ++ m) = (moreC c l).bind fun d => moreC d m := by
  induction l generalizing c with
  | nil => rfl
  | cons x l ih =>
    show (match mergeC c (Cl.of x) with | some d => moreC d (l ++ m) | none => none) = (match mergeC c (Cl.of x) with | some d => moreC d l | none => none).bind _
    cases mergeC c (Cl.of x) with
    | none => rfl
    | some d => exact ih d
theorem allC_take {l : List Int} {k : Nat} {x : Int} (h : l[k]? = some x) : allC (l.take (k + 1)) = (allC (l.take k)).bind fun d => mergeC d (Cl.of x) := by
  obtain ⟨hk, e⟩ := List.getElem?_eq_some_iff.1 h
  unfold allC
  rw [List.take_succ_eq_append_getElem hk, e, moreC_append]
  congr 1
  funext d
  show (match mergeC d (Cl.of x) with | some e => some e | none => none) = _
  cases mergeC d (Cl.of x) <;> rfl
theorem allC_none {l : List Int} {k : Nat} (h : allC (l.take k) = none) : allC l = none := by
  unfold allC at *
  rw [← List.take_append_drop k l, moreC_append, h]
  rfl

/-- The weight of values, that of one as far as it counts. -/
def weighN (l : List Int) : Nat := (l.map Int.natAbs).sum
theorem weighN_append (l m : List Int) : weighN (l ++ m) = weighN l + weighN m := by simp [weighN]
theorem weighN_take {l : List Int} {k : Nat} {x : Int} (h : l[k]? = some x) : weighN (l.take (k + 1)) = weighN (l.take k) + x.natAbs := by
  obtain ⟨hk, e⟩ := List.getElem?_eq_some_iff.1 h
  rw [List.take_succ_eq_append_getElem hk, e, weighN_append]
  simp [weighN]
theorem weighN_le_take (l : List Int) (k : Nat) : weighN (l.take k) ≤ weighN l := by
  have := weighN_append (l.take k) (l.drop k)
  rw [List.take_append_drop] at this
  omega
theorem sum_abs (l : List Int) : l.sum.natAbs ≤ weighN l := by
  induction l with
  | nil => exact Nat.le_refl _
  | cons x l ih =>
    show (x + l.sum).natAbs ≤ ((x :: l).map Int.natAbs).sum
    have : ((x :: l).map Int.natAbs).sum = x.natAbs + weighN l := by simp [weighN]
    rw [this]
    omega

/-- The cell of values, told at once. -/
def cellL : List Int → Cl
  | [] => Cl.zero
  | x :: l => ⟨(l.length + 1 : Nat), (x :: l).sum, l.foldl min x, l.foldl max x⟩
theorem cellL_n (l : List Int) : (cellL l).n = l.length := by cases l <;> rfl
theorem cellL_s (l : List Int) : (cellL l).s = l.sum := by cases l <;> rfl
theorem cellL_one (x : Int) : cellL [x] = Cl.of x := by simp [cellL, Cl.of]
theorem foldl_min (l : List Int) (a b : Int) : l.foldl min (min a b) = min a (l.foldl min b) := by
  induction l generalizing a b with
  | nil => rfl
  | cons x l ih =>
    show l.foldl min (min (min a b) x) = min a (l.foldl min (min b x))
    rw [← ih]
    congr 1
    omega
theorem foldl_max (l : List Int) (a b : Int) : l.foldl max (max a b) = max a (l.foldl max b) := by
  induction l generalizing a b with
  | nil => rfl
  | cons x l ih =>
    show l.foldl max (max (max a b) x) = max a (l.foldl max (max b x))
    rw [← ih]
    congr 1
    omega
/-- In whatever parts, in either order. -/
theorem merge_parts (a b : List Int) (h : weighN a + weighN b ≤ 4611686018427387904) (hn : a.length + b.length ≤ 1000000) : mergeC (cellL a) (cellL b) = some (cellL (a ++ b)) := by
  cases a with
  | nil => rfl
  | cons x a =>
    cases b with
    | nil =>
      rw [List.append_nil]
      unfold mergeC
      rw [if_neg (by rw [cellL_n]; simp; omega), if_pos (show (cellL []).n = 0 from rfl)]
    | cons y b =>
      have ha := sum_abs (x :: a)
      have hb := sum_abs (y :: b)
      unfold mergeC
      rw [if_neg (by rw [cellL_n]; simp; omega), if_neg (by rw [cellL_n]; simp; omega), if_pos]
      · have e1 : (cellL (x :: a)).n + (cellL (y :: b)).n = (cellL ((x :: a) ++ (y :: b))).n := by
          rw [cellL_n, cellL_n, cellL_n, List.length_append]
          omega
        have e2 : (cellL (x :: a)).s + (cellL (y :: b)).s = (cellL ((x :: a) ++ (y :: b))).s := by
          rw [cellL_s, cellL_s, cellL_s, List.sum_append]
        have e3 : min (cellL (x :: a)).lo (cellL (y :: b)).lo = (cellL ((x :: a) ++ (y :: b))).lo := by
          show min (a.foldl min x) (b.foldl min y) = (a ++ (y :: b)).foldl min x
          rw [List.foldl_append]
          show _ = b.foldl min (min (a.foldl min x) y)
          rw [foldl_min]
        have e4 : max (cellL (x :: a)).hi (cellL (y :: b)).hi = (cellL ((x :: a) ++ (y :: b))).hi := by
          show max (a.foldl max x) (b.foldl max y) = (a ++ (y :: b)).foldl max x
          rw [List.foldl_append]
          show _ = b.foldl max (max (a.foldl max x) y)
          rw [foldl_max]
        rw [e1, e2, e3, e4]
      · rw [Bool.and_eq_true, fit_iff, fit_iff, cellL_n, cellL_n, cellL_s, cellL_s]
        simp only [List.length_cons] at *
        omega
theorem merge_swap (a b : Cl) (h : a.n ≠ 0 ∨ b.n ≠ 0 ∨ a = b) : mergeC a b = mergeC b a := by
  unfold mergeC
  by_cases ha : a.n = 0
  · by_cases hb : b.n = 0
    · rcases h with h | h | h
      · exact absurd ha h
      · exact absurd hb h
      · rw [h]
    · rw [if_pos ha, if_neg hb, if_pos ha]
  · by_cases hb : b.n = 0
    · rw [if_neg ha, if_pos hb, if_pos hb]
    · rw [if_neg ha, if_neg hb, if_neg hb, if_neg ha, Int.add_comm a.n b.n, Int.add_comm a.s b.s]
      have e1 : min a.lo b.lo = min b.lo a.lo := by omega
      have e2 : max a.hi b.hi = max b.hi a.hi := by omega
      rw [e1, e2]
/-- What weighs not too much has a cell. -/
theorem all_light (l : List Int) (h : weighN l ≤ 4611686018427387904) (hn : l.length ≤ 1000000) : allC l = some (cellL l) := by
  suffices g : ∀ k, k ≤ l.length → allC (l.take k) = some (cellL (l.take k)) by
    have := g l.length (Nat.le_refl _)
    rw [List.take_length] at this
    exact this
  intro k
  induction k with
  | zero => intro _; rfl
  | succ k ih =>
    intro hk
    obtain ⟨x, hx⟩ : ∃ x, l[k]? = some x := ⟨_, List.getElem?_eq_getElem (by omega)⟩
    rw [allC_take hx, ih (by omega)]
    show mergeC (cellL (l.take k)) (Cl.of x) = _
    rw [← cellL_one]
    have hw := weighN_take hx
    have hl := weighN_le_take l (k + 1)
    have h1 : weighN [x] = x.natAbs := by simp [weighN]
    rw [merge_parts (l.take k) [x] (by rw [h1]; omega) (by rw [List.length_take, List.length_singleton]; omega)]
    obtain ⟨hk', e⟩ := List.getElem?_eq_some_iff.1 hx
    rw [List.take_succ_eq_append_getElem hk', e]

/-- A right cell. -/
def rightC (c : Cl) : Bool := if c.n = 0 then decide (c = Cl.zero) else decide (0 < c.n) && (decide (c.lo ≤ c.hi) && (decide (1 < c.n) || (decide (c.s = c.lo) && decide (c.s = c.hi))))
theorem foldl_le (l : List Int) (x : Int) : l.foldl min x ≤ x ∧ x ≤ l.foldl max x := by
  induction l generalizing x with
  | nil => exact ⟨Int.le_refl _, Int.le_refl _⟩
  | cons y l ih =>
    have h1 := (ih (min x y)).1
    have h2 := (ih (max x y)).2
    show l.foldl min (min x y) ≤ x ∧ x ≤ l.foldl max (max x y)
    omega
theorem right_cell (l : List Int) : rightC (cellL l) = true := by
  cases l with
  | nil => rfl
  | cons x l =>
    unfold rightC
    rw [if_neg (by rw [cellL_n]; simp; omega)]
    have h := foldl_le l x
    cases l with
    | nil => simp [cellL]
    | cons y l =>
      have e1 : (cellL (x :: y :: l)).n = (l.length + 2 : Nat) := rfl
      have e2 : (cellL (x :: y :: l)).lo = (y :: l).foldl min x := rfl
      have e3 : (cellL (x :: y :: l)).hi = (y :: l).foldl max x := rfl
      rw [e1, e2, e3]
      have a1 : decide ((0 : Int) < (l.length + 2 : Nat)) = true := by rw [decide_eq_true_iff]; omega
      have a2 : decide ((1 : Int) < (l.length + 2 : Nat)) = true := by rw [decide_eq_true_iff]; omega
      have a3 : decide ((y :: l).foldl min x ≤ (y :: l).foldl max x) = true := by rw [decide_eq_true_iff]; omega
      rw [a1, a2, a3]
      rfl

/-- What Weight answers: n, and whether. -/
def weighO (l : List Int) : Nat × Bool := if weighN l ≤ 4611686018427387904 then (weighN l, true) else (0, false)
theorem weighO_yes {l : List Int} (h : weighN l ≤ 4611686018427387904) : weighO l = (weighN l, true) := by unfold weighO; rw [if_pos h]
theorem weighO_no {l : List Int} {k : Nat} (h : ¬ weighN (l.take k) ≤ 4611686018427387904) : weighO l = (0, false) := by
  have := weighN_le_take l k
  unfold weighO
  rw [if_neg (by omega)]
/-- A number without its sign, cut behind what may be. -/
def sizeC (x : Int) : Nat := if x.natAbs ≤ 4611686018427387904 then x.natAbs else 4611686018427387905
theorem sizeC_over {x : Int} {n : Nat} (hn : n ≤ 4611686018427387904) : (sizeC x : Int) > 4611686018427387904 - (n : Int) ↔ ¬ n + x.natAbs ≤ 4611686018427387904 := by
  unfold sizeC
  split <;> omega
theorem sizeC_small {x : Int} {n : Nat} (h : n + x.natAbs ≤ 4611686018427387904) : sizeC x = x.natAbs := by
  unfold sizeC
  rw [if_pos (by omega)]
/-- A mean, rounded down, by a division that goes towards 0. -/
theorem floor_of (s n : Int) (hn : 0 < n) : (if Int.tmod s n < 0 then Int.tdiv s n - 1 else Int.tdiv s n) = s / n := by
  have h := Int.mul_tdiv_add_tmod s n
  have h1 := Int.tmod_lt_of_pos s hn
  have h2 : -n < Int.tmod s n := Int.lt_tmod_of_pos s hn
  split
  · rename_i hm
    have e : s = n * (s.tdiv n - 1) + (s.tmod n + n) := by rw [Int.mul_sub]; omega
    have := Int.ediv_emod_unique (a := s) (b := n) (q := s.tdiv n - 1) (r := s.tmod n + n) hn
    exact (this.2 ⟨by omega, by omega, by omega⟩).1.symm
  · rename_i hm
    have := Int.ediv_emod_unique (a := s) (b := n) (q := s.tdiv n) (r := s.tmod n) hn
    exact (this.2 ⟨by omega, by omega, by omega⟩).1.symm

end Go.Proofs.Ytejilonhdgfkbaa

/-
  Numbers of cells: a number's sign, its size, two numbers together, by the program and by the document.
-/
namespace Go.Proofs.Ytejilonhdgfkbaa
open Go.RowKit

theorem u64_of {x : Int} (h : fit x = true) : IntKind.u64.wrap x = if x < 0 then x + 18446744073709551616 else x := by
  rw [fit_iff] at h
  rw [IntKind.wrap_u64]
  split <;> omega

set_option maxRecDepth 100000 in
set_option maxHeartbeats 400000 in
theorem cell_size (x : Int) (w : World) (h : Hid (fit x = true)) :
    Calls Try.prog 58 #[.int .i64 x] w fun e w' => e = .returned (.int .u64 x.natAbs) ∧ w = w' := by
  have HA : Hid (x < 0 → IntKind.u64.wrap (-IntKind.u64.wrap x) = (x.natAbs : Int)) := by
    show _ → _
    intro hx
    rw [u64_of h.out, if_pos hx, IntKind.wrap_u64]
    have := (fit_iff x).1 h.out
    omega
  have HB : Hid (0 ≤ x → IntKind.u64.wrap x = (x.natAbs : Int)) := by
    show _ → _
    intro hx
    rw [u64_of h.out, if_neg (by omega)]
    omega
  go_enter Try.func58, Try.ntmps58
  go_wp2
  · go_ret
    exact ⟨ret_int (HA.out (by assumption)), rfl⟩
  · go_ret
    exact ⟨ret_int (HB.out (by assumption)), rfl⟩

theorem size_a {x : Int} (h : 4611686018427387904 < x ∨ x < -4611686018427387904) : 4611686018427387905 = (sizeC x : Int) := by
  unfold sizeC
  rw [if_neg (by omega)]
  rfl
theorem size_b {x : Int} (h : x ≤ 4611686018427387904 ∧ -4611686018427387904 ≤ x) (g : x < 0) : -x = (sizeC x : Int) := by
  unfold sizeC
  rw [if_pos (by omega)]
  omega
theorem size_c {x : Int} (h : x ≤ 4611686018427387904 ∧ -4611686018427387904 ≤ x) (g : 0 ≤ x) : x = (sizeC x : Int) := by
  unfold sizeC
  rw [if_pos (by omega)]
  omega

set_option maxRecDepth 100000 in
set_option maxHeartbeats 400000 in
theorem ref_size (x : Int) (w : World) :
    Calls Try.prog 59 #[.int .i64 x] w fun e w' => e = .returned (.int .i64 (sizeC x)) ∧ w = w' := by
  go_enter Try.func59, Try.ntmps59
  go_wp2
  all_goals go_ret
  all_goals refine ⟨ret_int ?_, rfl⟩
  all_goals first
    | exact size_b (by assumption) (by assumption)
    | exact size_c (by assumption) (by assumption)
    | exact size_a (.inl (by assumption))
    | exact size_a (by assumption)

theorem wrap_par (z : Nat) : IntKind.i64.wrap (z : Int) % 2 = ((z % 2 : Nat) : Int) := by
  rw [IntKind.wrap_i64]
  have h := Int.emod_emod_of_dvd ((z : Int) + 9223372036854775808) (show (2 : Int) ∣ 18446744073709551616 from ⟨9223372036854775808, by decide⟩)
  generalize ((z : Int) + 9223372036854775808) % 18446744073709551616 = r at *
  omega

/-- The lowest bit of two numbers' common ones. -/
def low2 (x y : Int) : Int := if x % 2 = 1 ∧ y % 2 = 1 then 1 else 0
theorem low_and (x y : Int) : bits BinOp.and IntKind.i64 (bits BinOp.and IntKind.i64 x y) 1 = low2 x y := by
  have e1 : ∀ u : Int, bits BinOp.and IntKind.i64 u 1 = u % 2 := fun u => by
    show IntKind.i64.wrap ((BitVec.ofInt 64 u &&& BitVec.ofInt 64 1).toNat : Int) = _
    rw [BitVec.toNat_and, show (BitVec.ofInt 64 1).toNat = 1 from rfl, Nat.and_one_is_mod, BitVec.toNat_ofInt]
    have := Int.emod_nonneg u (b := 2 ^ 64) (by decide)
    have e : ((2 ^ 64 : Nat) : Int) = 18446744073709551616 := rfl
    rw [e]
    rw [IntWalk.i64_in _ (by omega)]
    omega
  rw [e1]
  have hx : (BitVec.ofInt 64 x).toNat % 2 = (x % 2).toNat := by rw [BitVec.toNat_ofInt, show ((2 ^ 64 : Nat) : Int) = 18446744073709551616 from rfl]; omega
  have hy : (BitVec.ofInt 64 y).toNat % 2 = (y % 2).toNat := by rw [BitVec.toNat_ofInt, show ((2 ^ 64 : Nat) : Int) = 18446744073709551616 from rfl]; omega
  have h2 : ((BitVec.ofInt 64 x).toNat &&& (BitVec.ofInt 64 y).toNat) % 2 = (x % 2).toNat &&& (y % 2).toNat := by
    have := Nat.and_mod_two_pow (a := (BitVec.ofInt 64 x).toNat) (b := (BitVec.ofInt 64 y).toNat) (n := 1)
    rw [Nat.pow_one, hx, hy] at this
    exact this
  show IntKind.i64.wrap ((BitVec.ofInt 64 x &&& BitVec.ofInt 64 y).toNat : Int) % 2 = low2 x y
  rw [BitVec.toNat_and]
  generalize (BitVec.ofInt 64 x).toNat &&& (BitVec.ofInt 64 y).toNat = z at *
  rw [wrap_par, h2]
  unfold low2
  rcases (show x % 2 = 0 ∨ x % 2 = 1 by omega) with a | a <;> rcases (show y % 2 = 0 ∨ y % 2 = 1 by omega) with b | b <;> rw [a, b] <;> rfl

theorem sign_same {g q : Int} (h : fit g = true) (hq : q = wrap64 (g * 2)) {z : Int} (hg : g = z / 2) : ((if g < 0 then 1 else 0 : Int) = if q < 0 then 1 else 0) ↔ fit z = true := by
  rw [fit_iff] at *
  unfold wrap64 at hq
  subst hq
  split <;> split <;> omega

theorem ret_pair {a b : Int} {k : IntKind} {c : Bool} (h : a = b) : Ending.returned (.tuple #[.int k a, .bool c]) = .returned (.tuple #[.int k b, .bool c]) := by rw [h]

/-- What two numbers come to, and whether. -/
def sumV (x y : Int) : Value := .tuple #[.int .i64 (if fit (x + y) then x + y else 0), .bool (fit (x + y))]
theorem sumV_yes {x y : Int} (h : fit (x + y) = true) : sumV x y = .tuple #[.int .i64 (x + y), .bool true] := by unfold sumV; rw [h]; rfl
theorem sumV_no {x y : Int} (h : fit (x + y) = false) : sumV x y = .tuple #[.int .i64 0, .bool false] := by unfold sumV; rw [h]; rfl

section
variable {x y : Int}
theorem add_a (hx : fit x = true) (hy : fit y = true) (h : 0 ≤ y) (g : x ≤ wrap64 (9223372036854775807 - y)) : Ending.returned (.tuple #[.int .i64 (wrap64 (x + y)), .bool true]) = .returned (sumV x y) := by
  rw [fit_iff] at *
  have e : wrap64 (9223372036854775807 - y) = 9223372036854775807 - y := by unfold wrap64; omega
  rw [e] at g
  rw [sumV_yes ((fit_iff _).2 ⟨by omega, by omega⟩)]
  exact ret_pair (by unfold wrap64; omega)
theorem add_b (hy : fit y = true) (h : 0 ≤ y) (g : wrap64 (9223372036854775807 - y) < x) : Ending.returned (.tuple #[.int .i64 0, .bool false]) = .returned (sumV x y) := by
  rw [fit_iff] at *
  have e : wrap64 (9223372036854775807 - y) = 9223372036854775807 - y := by unfold wrap64; omega
  rw [e] at g
  rw [sumV_no]
  rw [Bool.eq_false_iff, ne_eq, fit_iff]
  omega
theorem add_c (hy : fit y = true) (h : y < 0) (g : x < wrap64 (-9223372036854775808 - y)) : Ending.returned (.tuple #[.int .i64 0, .bool false]) = .returned (sumV x y) := by
  rw [fit_iff] at *
  have e : wrap64 (-9223372036854775808 - y) = -9223372036854775808 - y := by unfold wrap64; omega
  rw [e] at g
  rw [sumV_no]
  rw [Bool.eq_false_iff, ne_eq, fit_iff]
  omega
theorem add_d (hx : fit x = true) (hy : fit y = true) (h : y < 0) (g : wrap64 (-9223372036854775808 - y) ≤ x) : Ending.returned (.tuple #[.int .i64 (wrap64 (x + y)), .bool true]) = .returned (sumV x y) := by
  rw [fit_iff] at *
  have e : wrap64 (-9223372036854775808 - y) = -9223372036854775808 - y := by unfold wrap64; omega
  rw [e] at g
  rw [sumV_yes ((fit_iff _).2 ⟨by omega, by omega⟩)]
  exact ret_pair (by unfold wrap64; omega)
end

end Go.Proofs.Ytejilonhdgfkbaa

/-
  Cells by the program and by the document: one value's cell, a mean, which are right.
-/
namespace Go.Proofs.Ytejilonhdgfkbaa
open Go.RowKit

theorem results_cell {fn : Func} {p : Tmp} {ty : TypeId} (h : fn.results = #[.cell p ty]) (tmps : Array Value) (P : Program) (w : World) :
    (results fn tmps).run P w = ((asAddr (tmps.getD p undef)).run P w).andThen fun a w₁ => (loadVar ty a).run P w₁ := by
  simp only [results, h]
  simp [Sem.run_bind, Result.andThen]

/-- A cell, as a value. -/
def cv (c : Cl) : Value := .agg #[.int .i64 c.n, .int .i64 c.s, .int .i64 c.lo, .int .i64 c.hi]
/-- Numbers that an int64 holds. -/
def okC (c : Cl) : Prop := fit c.n = true ∧ fit c.s = true ∧ fit c.lo = true ∧ fit c.hi = true

/-- What Mean answers. -/
def meanV (n s : Int) : Value := if n < 1 then .tuple #[.int .i64 0, .bool false] else .tuple #[.int .i64 (s / n), .bool true]
theorem meanV_shape (n s : Int) : ∃ x b, meanV n s = .tuple #[.int .i64 x, .bool b] := by
  unfold meanV
  split <;> exact ⟨_, _, rfl⟩
theorem mean_no {n s : Int} (h : n < 1) : Ending.returned (.tuple #[.int .i64 0, .bool false]) = .returned (meanV n s) := by
  unfold meanV
  rw [if_pos h]
theorem mean_div {n s : Int} (hs : fit s = true) (h : 1 ≤ n) : wrap64 (s.tdiv n) = s.tdiv n := by
  rw [fit_iff] at hs
  have h1 : (s.tdiv n).natAbs ≤ s.natAbs := by rw [Int.natAbs_tdiv]; exact Nat.div_le_self _ _
  unfold wrap64
  generalize hq : s.tdiv n = q at *
  by_cases h0 : 0 ≤ s
  · have : 0 ≤ q := by rw [← hq]; exact Int.tdiv_nonneg h0 (by omega)
    omega
  · have h2 : 0 ≤ (-s).tdiv n := Int.tdiv_nonneg (by omega) (by omega)
    rw [Int.neg_tdiv, hq] at h2
    omega
theorem mean_a {n s : Int} (hs : fit s = true) (h : 1 ≤ n) (g : s.tmod n < 0) : Ending.returned (.tuple #[.int .i64 (wrap64 (wrap64 (s.tdiv n) - 1)), .bool true]) = .returned (meanV n s) := by
  have hf := floor_of s n (by omega)
  rw [if_pos g] at hf
  rw [mean_div hs h, hf]
  unfold meanV
  rw [if_neg (by omega)]
  refine ret_pair ?_
  rw [fit_iff] at hs
  have h1 := Int.ediv_mul_le s (b := n) (by omega)
  have h2 := Int.lt_ediv_add_one_mul_self s (b := n) (by omega)
  have h3 : -9223372036854775808 ≤ s / n := by
    rw [Int.le_ediv_iff_mul_le (by omega)]
    have : (-9223372036854775808 : Int) * n ≤ -9223372036854775808 * 1 := by omega
    omega
  have h4 : s / n ≤ 9223372036854775807 := by
    have h5 : s / n < 9223372036854775808 := by
      rw [Int.ediv_lt_iff_lt_mul (by omega)]
      omega
    omega
  unfold wrap64
  omega
theorem mean_b {n s : Int} (hs : fit s = true) (h : 1 ≤ n) (g : 0 ≤ s.tmod n) : Ending.returned (.tuple #[.int .i64 (wrap64 (s.tdiv n)), .bool true]) = .returned (meanV n s) := by
  have hf := floor_of s n (by omega)
  rw [if_neg (by omega)] at hf
  rw [mean_div hs h, hf]
  unfold meanV
  rw [if_neg (by omega)]

theorem rightC_eq (n s lo hi : Int) : rightC ⟨n, s, lo, hi⟩ = true ↔ (n = 0 ∧ s = 0 ∧ lo = 0 ∧ hi = 0) ∨ (0 < n ∧ lo ≤ hi ∧ (1 < n ∨ (s = lo ∧ s = hi))) := by
  unfold rightC
  by_cases h : n = 0
  · subst h
    simp [Cl.zero]
  · simp only [if_neg h, Bool.and_eq_true, Bool.or_eq_true, decide_eq_true_iff]
    constructor
    · exact fun g => .inr g
    · rintro (g | g)
      · exact absurd g.1 h
      · exact g
theorem right_is {n s lo hi : Int} {b : Bool} (h : b = true ↔ (n = 0 ∧ s = 0 ∧ lo = 0 ∧ hi = 0) ∨ (0 < n ∧ lo ≤ hi ∧ (1 < n ∨ (s = lo ∧ s = hi)))) : b = rightC ⟨n, s, lo, hi⟩ := by
  rw [Bool.eq_iff_iff, rightC_eq]
  exact h

theorem right_t {n s lo hi : Int} (h : (n = 0 ∧ s = 0 ∧ lo = 0 ∧ hi = 0) ∨ (0 < n ∧ lo ≤ hi ∧ (1 < n ∨ (s = lo ∧ s = hi)))) : true = rightC ⟨n, s, lo, hi⟩ := right_is ⟨fun _ => h, fun _ => rfl⟩
theorem right_f {n s lo hi : Int} (h : ¬ ((n = 0 ∧ s = 0 ∧ lo = 0 ∧ hi = 0) ∨ (0 < n ∧ lo ≤ hi ∧ (1 < n ∨ (s = lo ∧ s = hi))))) : false = rightC ⟨n, s, lo, hi⟩ := right_is ⟨fun e => (by cases e), fun g => absurd g h⟩
theorem right_d {n s lo hi : Int} {q : Prop} [Decidable q] (h : q ↔ ((n = 0 ∧ s = 0 ∧ lo = 0 ∧ hi = 0) ∨ (0 < n ∧ lo ≤ hi ∧ (1 < n ∨ (s = lo ∧ s = hi))))) : decide q = rightC ⟨n, s, lo, hi⟩ := right_is (by rw [decide_eq_true_iff]; exact h)
theorem right_b {n s lo hi a b : Int} (h : a = b ↔ ((n = 0 ∧ s = 0 ∧ lo = 0 ∧ hi = 0) ∨ (0 < n ∧ lo ≤ hi ∧ (1 < n ∨ (s = lo ∧ s = hi))))) : (a == b) = rightC ⟨n, s, lo, hi⟩ := right_is (by rw [beq_iff_eq]; exact h)

theorem right_o {n s lo hi a b : Int} {q : Prop} [Decidable q] (h : (q ∨ a = b) ↔ ((n = 0 ∧ s = 0 ∧ lo = 0 ∧ hi = 0) ∨ (0 < n ∧ lo ≤ hi ∧ (1 < n ∨ (s = lo ∧ s = hi))))) : (decide q || a == b) = rightC ⟨n, s, lo, hi⟩ := right_is (by rw [Bool.or_eq_true, decide_eq_true_iff, beq_iff_eq]; exact h)

end Go.Proofs.Ytejilonhdgfkbaa
