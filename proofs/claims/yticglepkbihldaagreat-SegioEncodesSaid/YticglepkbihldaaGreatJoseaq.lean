/-
  'SegioEncodes': the bytes of any segment. No condition.
-/
import Derived.Test.YticglepkbihldaaGreatJocap
import Derived.Test.YticglepkbihldaaGreatJocao
import Derived.Test.YticglepkbihldaaGreatJocaa
import Derived.Test.YticglepkbihldaaGreatJocac
import Derived.Test.YticglepkbihldaaGreatJocah
import Derived.Test.YticglepkbihldaaGreatJocag
import Derived.ProofKit
import Derived.OpenShut

/-
  Stage 12: the document's Payload and Encode.
-/
namespace Go.Proofs.YticglepkbihldaaGreat
open Go.RowKit

set_option maxRecDepth 100000

theorem made_behind12 {a b c : World} {v : Value} {l : List UInt8} (h : Turn (fun _ => False) a b) (g : Made b c v l) : Made a c v l :=
  ⟨g.1, h.trans g.2.1 (fun _ _ f => f), fun k hk => Nat.le_trans h.size (g.2.2 k hk)⟩
theorem made_later12 {a b c : World} {v : Value} {l : List UInt8} (g : Made a b v l) (h : Turn (fun _ => False) b c) : Made a c v l :=
  ⟨g.1.turn h (fun _ _ f => f), g.2.1.trans h (fun _ _ f => f), g.2.2⟩
/-- Bytes put behind bytes of one's own; what turns is a row of bytes. -/
theorem made_more12 {w wr w2 w3 : World} {A A3 : Option Addr} {n c n3 c3 : Nat} {acc m : List UInt8} (h : Made w wr (.slice A n c) acc) (ht : Turn (fun _ => False) wr w2) (hb : By w3 (.slice A3 n3 c3) (acc ++ m))
    (hg : w2.grownBy w3 (Value.slice A n c).ownBlock) (ha : (Value.slice A3 n3 c3).ownBlock = (Value.slice A n c).ownBlock ∨ (Value.slice A3 n3 c3).ownBlock = some w2.heap.size) : Made w w3 (.slice A3 n3 c3) (acc ++ m) := made_app h ht hb hg ha rfl
/-- Nothing but rows of bytes has turned. -/
def BT12 (w w' : World) : Prop := Turn (fun k => ∃ cs, Box w k 5 cs) w w'
theorem BT12.refl (w : World) : BT12 w w := Turn.refl _ _
theorem BT12.of {w w' : World} (h : Turn (fun _ => False) w w') : BT12 w w' := h.mono fun _ _ f => f.elim
theorem BT12.trans {a b c : World} (h : BT12 a b) (g : BT12 b c) : BT12 a c := Turn.trans h g fun k hk e => by
  by_cases hs : ∃ cs, Box a k 5 cs
  · exact hs
  · obtain ⟨cs, hc⟩ := e
    exact ⟨cs, (Turn.block h k hk hs).symm.trans hc⟩
theorem BT12.box {a b : World} (h : BT12 a b) {g : Nat} {t : TypeId} {cs : Array Value} (hb : Box a g t cs) (ht : t ≠ 5) : Box b g t cs := hb.turn h fun ⟨_, hc⟩ => ht (box_type12 hb hc).1
theorem BT12.texts {a b : World} (h : BT12 a b) {v : Value} {T : List (List UInt8)} (hv : TxR12 a v T) : TxR12 b v T := hv.kept h fun k cs ⟨_, hc⟩ hb => absurd (box_type12 hb hc).1 (by decide)
theorem BT12.app {w w' : World} {v : Value} {l : List UInt8} (h : By w v l) (hg : w.grownBy w' v.ownBlock) : BT12 w w' := by
  refine (Turn.refl _ w).grown hg fun k _ hk => ?_
  rcases h.form with ⟨e1, _⟩ | ⟨g, cap, cur, e1, hb, _⟩
  · rw [e1] at hk; cases hk
  · rw [e1] at hk
    simp only [Value.ownBlock, Option.some.injEq] at hk
    subst hk
    exact ⟨_, hb⟩
/-- A region that lays two blocks, in whatever order. -/
theorem wp_abs12 {P : Program} {c : Code} {Q : Exit → Act → World → Prop} {a : Act} {w : World} (A : Nat → Nat → Act) (R : Nat → Nat → World → Prop) (h : c.wp P (fun e a' w' => e = .normal ∧ ∃ x y, a' = A x y ∧ R x y w') a w) (hq : ∀ x y w', R x y w' → Q .normal (A x y) w') : c.wp P Q a w :=
  Code.wp_mono (fun e a' w' he => by
    obtain ⟨rfl, x, y, rfl, hr⟩ := he
    exact hq x y w' hr) h
/-- Bytes as a row of elements. -/
def EB12 : El UInt8 where
  sz := 1
  enc b := [bv b]
  len _ := rfl
  one b u hu := by rw [List.mem_singleton.1 hu]; rfl
theorem by_own12 {w : World} {v : Value} {l : List UInt8} : By w v l ↔ OwE EB12 5 w v l := by
  unfold By OwE
  rw [flat_map1 (E := EB12) (f := bv) (fun _ => rfl)]
  exact Iff.rfl
theorem byte_info12 : (Tryz.prog.info? 5).map (fun i => (i.zero, i.size, i.bytes)) = some (some (.int .u8 0), EB12.sz, 1) := by kernel_rfl
theorem byte_zero12 : (Value.cells (.int .u8 0)).size = EB12.sz := rfl

set_option maxHeartbeats 2000000 in
theorem ref_frame12 (v : Value) (p : List UInt8) (w : World) (hv : Rd w v p) (hl : p.length ≤ 900000) : Calls Tryz.prog 35 #[v] w fun e w' => ∃ v', e = .returned v' ∧ Made w w' v' (fr p) := by
  have HV := Lib.hid hv
  obtain ⟨A, c, rfl⟩ := hv.shape
  clear hv
  have hwr : IntKind.u64.wrap (p.length : Int) = (p.length : Int) := by rw [IntKind.wrap_u64]; omega
  have HN : Hid (p.length < 18446744073709551616) := by show _ < _; omega
  have hel := enc_len p.length
  have HTL : Hid ((p ++ tl (more 0 p)).length ≤ 1000000) := by show _ ≤ _; rw [List.length_append, tl_len]; omega
  go_enter Tryz.func35, Tryz.ntmps35
  go_wp2_with fail
  refine (ref_num p.length w HN).mono ?_
  rintro e w1 ⟨v1, rfl, hm1⟩
  obtain ⟨A1, c1, rfl⟩ := hm1.1.shape
  have HM1 := Lib.hid hm1
  clear hm1
  go_wp2_with fail
  refine (ref_put _ p w1 (HV.out.later HM1.out.2.1) (by omega)).mono ?_
  rintro e w2 ⟨v2, rfl, hm2⟩
  obtain ⟨A2, c2, rfl⟩ := hm2.1.shape
  have HM2 := Lib.hid hm2
  have HB2 : Hid (By w2 (.slice A1 (enc p.length).length c1) (enc p.length)) := HM1.out.1.turn hm2.2.1 (fun _ _ f => f)
  clear hm2
  go_wp2_with (at_builtin; go_must (refine wpList_app _ rfl _ _ _ rfl _ (enc p.length) rfl HB2.out _ rfl (p ++ tl (more 0 p)) (by have h := HM2.out.1.yields; rw [List.length_append] at h; exact h) (by have := HTL.out; omega) ?_))
  intro A4 n4 c4 w4 hb hg ha
  have HM4 := Lib.hid (made_more12 HM1.out HM2.out.2.1 hb hg ha)
  clear hb hg ha
  go_wp2
  go_ret
  exact ⟨_, rfl, HM4.out⟩

end Go.Proofs.YticglepkbihldaaGreat

/-
  Stage 12: the document's Payload and Encode, walked.
-/
namespace Go.Proofs.YticglepkbihldaaGreat
open Go.RowKit

set_option maxRecDepth 100000

/-- In a round: the bytes, the key's box, the cell's. -/
structure PB12 (w V : World) (v : Value) (acc : List UInt8) (kb cb : Nat) (k : K9) (c : Cl) : Prop where
  made : Made w V v acc
  key : Box V kb 48 #[.int .i64 k.h, sv9 k.a, sv9 k.b, sv9 k.c, sv9 k.d]
  cel : Box V cb 50 #[.int .i64 c.n, .int .i64 c.s, .int .i64 c.lo, .int .i64 c.hi]
theorem PB12.step {w V w2 w3 : World} {A A3 : Option Addr} {n c' n3 c3 : Nat} {acc m : List UInt8} {v2 : Value} {kb cb : Nat} {k : K9} {c : Cl} (h : PB12 w V (.slice A n c') acc kb cb k c) (hm : Made V w2 v2 m) (hb : By w3 (.slice A3 n3 c3) (acc ++ m))
    (hg : w2.grownBy w3 (Value.slice A n c').ownBlock) (ha : (Value.slice A3 n3 c3).ownBlock = (Value.slice A n c').ownBlock ∨ (Value.slice A3 n3 c3).ownBlock = some w2.heap.size) : PB12 w w3 (.slice A3 n3 c3) (acc ++ m) kb cb k c := by
  have hB : By w2 (.slice A n c') acc := h.made.1.turn hm.2.1 (fun _ _ f => f)
  have hbt := BT12.app hB hg
  exact ⟨made_more12 h.made hm.2.1 hb hg ha, hbt.box (h.key.turn hm.2.1 (fun f => f)) (by decide), hbt.box (h.cel.turn hm.2.1 (fun f => f)) (by decide)⟩
theorem flat_take_all12 (T : List (List UInt8)) : (T.take T.length).flatMap tB = T.flatMap tB := by rw [List.take_length]
theorem split_at12 {A : Type} {l : List A} {i : Nat} {x : A} (h : l[i]? = some x) : l.take (i + 1) = l.take i ++ [x] ∧ l = l.take i ++ x :: l.drop (i + 1) := by
  obtain ⟨h0, e⟩ := List.getElem?_eq_some_iff.1 h
  refine ⟨by rw [List.take_succ_eq_append_getElem h0, e], ?_⟩
  rw [← e, List.getElem_cons_drop, List.take_append_drop]
set_option maxHeartbeats 32000000 in
theorem ref_pay12 (v : Value) (l : List R11) (N : Nat) (hN : N ≤ 4) (w : World) (hv : RdE ER w v l) (hl : l.length ≤ 20000) (hfit : ∀ r ∈ l, Fit12 N r.k ∧ okC r.c ∧ 1 ≤ r.c.n) (hrise : RiseR l) (hp : (payB l N).length ≤ 900000) :
    Calls Tryz.prog 34 #[v, .int .i64 (N : Int)] w fun e w' => ∃ v', e = .returned v' ∧ Made w w' v' (payB l N) := by
  have HV := Lib.hid hv
  have HFIT := Lib.hid hfit; have HRI := Lib.hid hrise
  obtain ⟨A, c, rfl⟩ := hv.shape
  obtain ⟨T, hT⟩ : ∃ T, T = dimT l := ⟨_, rfl⟩
  have HTX : Hid (∀ (W : World) (d : Nat), d < 4 → Turn (fun _ => False) w W → Calls Tryz.prog 13 #[.slice A l.length c, .int .i64 (d : Int)] W fun e w' => TextsT10 W (T d) e w') := fun W d hd ht => by
    have h := ref_texts12 _ l (d : Int) W (HV.out.later ht) hl
    rw [textsL_at hd, ← hT] at h
    exact h
  have HTL : Hid (∀ d : Nat, (T d).length ≤ 20000) := fun d => by rw [hT]; exact Nat.le_trans (dimT_len l d) hl
  have HTS : Hid (∀ (d : Nat) (i : Nat) (x : List UInt8), d < 4 → (T d)[i]? = some x → x.length ≤ 16) := fun d i x hd hx => by
    have hm := List.mem_of_getElem? hx
    rw [hT] at hm
    obtain ⟨r, hr, rfl⟩ := (dimT_mem l d x).1 hm
    exact (HFIT.out r hr).1.t d hd
  have HTI : Hid (∀ r ∈ l, ∀ d : Nat, r.k.dim d ∈ T d) := fun r hr d => by rw [hT]; exact (dimT_mem l d _).2 ⟨r, hr, rfl⟩
  have HPB : Hid (payB l N = enc N ++ dimsB T N ++ enc l.length ++ rowsB T N 0 l) := by show _ = _; rw [hT]; unfold payB; simp only [List.append_assoc]
  have HPL : Hid ((enc N ++ dimsB T N ++ enc l.length ++ rowsB T N 0 l).length ≤ 900000) := by rw [← HPB.out]; exact hp
  have HDL : Hid (∀ d, d ≤ N → (enc N ++ dimsB T d).length ≤ 900000) := fun d hd => by
    have h1 := HPL.out
    have h2 := dimsB_le T hd
    simp only [List.length_append] at h1 ⊢
    omega
  have HRL : Hid (∀ pre, pre <+: l → (enc N ++ dimsB T N ++ enc l.length ++ rowsB T N 0 pre).length ≤ 900000) := fun pre hpre => by
    have h1 := HPL.out
    have h2 := rowsB_pre T N 0 hpre
    simp only [List.length_append] at h1 ⊢
    omega
  have hwN : IntKind.u64.wrap (N : Int) = (N : Int) := by rw [IntKind.wrap_u64]; omega
  have hwl : IntKind.u64.wrap (l.length : Int) = (l.length : Int) := by rw [IntKind.wrap_u64]; omega
  have HNN : Hid (N < 18446744073709551616) := by show _ < _; omega
  have HNL : Hid (l.length < 18446744073709551616) := by show _ < _; omega
  clear hv hT hp hfit hrise
  go_enter Tryz.func34, Tryz.ntmps34
  go_wp2_with fail
  refine (ref_num N w HNN).mono ?_
  rintro e w1 ⟨v1, rfl, hm1⟩
  have HM0 : Hid (Made w w1 v1 (enc N ++ dimsB T 0)) := by show Made _ _ _ (_ ++ []); rw [List.append_nil]; exact hm1
  clear hm1 hwN
  go_wp2_with fail
  go_loopw [5, 6] (fun x5 x6 wr => ∃ d : Nat, x6 = .int .i64 (d : Int) ∧ d ≤ N ∧ Made w wr x5 (enc N ++ dimsB T d)) (fun _ x6 _ => N - (intOf x6).toNat)
  case atStart => exact ⟨0, rfl, Nat.zero_le _, HM0.out⟩
  case round =>
    clear HM0
    obtain ⟨d, rfl, hd, hm⟩ := hrel
    have HM := Lib.hid hm
    obtain ⟨A5, c5, hv5⟩ := hm.1.shape
    subst hv5
    clear hm
    by_cases hlt : d < N
    · have hdl : (d : Int) < N := by omega
      have hwt : IntKind.u64.wrap ((T d).length : Int) = ((T d).length : Int) := by have := HTL.out d; rw [IntKind.wrap_u64]; omega
      have HNT : Hid ((T d).length < 18446744073709551616) := by have := HTL.out d; show _ < _; omega
      have HDS : Hid (enc N ++ dimsB T (d + 1) = enc N ++ dimsB T d ++ enc (T d).length ++ (T d).flatMap tB) := by
        show enc N ++ (dimsB T d ++ (enc (T d).length ++ (T d).flatMap tB)) = _
        simp only [List.append_assoc]
      have HLD : Hid ((enc N ++ dimsB T d ++ enc (T d).length ++ (T d).flatMap tB).length ≤ 900000) := by rw [← HDS.out]; exact HDL.out (d + 1) (by omega)
      have HSH : Hid (∀ (i : Nat) (x : List UInt8), (T d)[i]? = some x → x.length ≤ 16) := fun i x hx => HTS.out d i x (by omega) hx
      have HTC := Lib.hid (HTX.out wr d (by omega) HM.out.2.1)
      have hTd := HTL.out d
      obtain ⟨Td, hTe⟩ : ∃ Td, Td = T d := ⟨_, rfl⟩
      rw [← hTe] at hwt HNT HDS HLD HSH HTC hTd
      obtain ⟨acc, hacc⟩ : ∃ acc, acc = enc N ++ dimsB T d := ⟨_, rfl⟩
      rw [← hacc] at HDS HLD HM
      have hal : acc.length ≤ 900000 := by have h := HLD.out; simp only [List.length_append] at h; omega
      have HLF : Hid (∀ i, (acc ++ enc Td.length ++ (Td.take i).flatMap tB).length ≤ 900000) := fun i => by
        have h := HLD.out
        have h2 := flat_le12 Td i
        simp only [List.length_append] at h ⊢
        omega
      rw [← hacc]
      clear hTe hacc
      go_wp2_with fail
      refine HTC.out.mono ?_
      rintro e w2 ⟨v7, rfl, hr7, t2, hty⟩
      obtain ⟨A7, c7, rfl⟩ := hr7.shape
      have HX2 : Hid (TxR12 w2 (.slice A7 Td.length c7) Td) := ⟨hr7, hty⟩
      have HM2 := Lib.hid (made_later12 HM.out t2)
      clear hr7 t2 hty HTC HM
      go_wp2_with fail
      refine (ref_num Td.length w2 HNT).mono ?_
      rintro e w3 ⟨v3, rfl, hm3⟩
      obtain ⟨A3, c3, rfl⟩ := hm3.1.shape
      have HY := Lib.hid hm3
      have HB3 : Hid (By w3 (.slice A5 acc.length c5) acc) := HM2.out.1.turn hm3.2.1 (fun _ _ f => f)
      have HX3 := Lib.hid (HX2.out.later hm3.2.1)
      have hel := enc_len Td.length
      clear hm3 hwt
      go_wp2_with (at_builtin; go_must (refine wpList_app _ rfl _ _ _ rfl _ acc rfl HB3.out _ rfl (enc Td.length) HY.out.1.yields (by omega) ?_))
      intro A4 n4 c4 w4 hb hg ha
      have HM4 : Hid (Made w w4 (.slice A4 n4 c4) (acc ++ enc Td.length ++ (Td.take 0).flatMap tB)) := by
        rw [List.take_zero, List.flatMap_nil, List.append_nil]
        exact made_more12 HM2.out HY.out.2.1 hb hg ha
      have HX4 := Lib.hid ((BT12.app HB3.out hg).texts HX3.out)
      clear hb hg ha HB3 HY HX3 HM2 HX2 hel
      go_wp2_with fail
      go_loopw [5, 8] (fun x5 x8 wz => ∃ i : Nat, x8 = .int .i64 (i : Int) ∧ i ≤ Td.length ∧ Made w wz x5 (acc ++ enc Td.length ++ (Td.take i).flatMap tB) ∧ TxR12 wz (.slice A7 Td.length c7) Td) (fun _ x8 _ => Td.length - (intOf x8).toNat)
      case atStart => exact ⟨0, rfl, Nat.zero_le _, HM4.out, HX4.out⟩
      case round =>
        clear HM4 HX4
        obtain ⟨i, rfl, hi, hm, hx⟩ := hrel
        have HM := Lib.hid hm; have HX := Lib.hid hx
        obtain ⟨A5', c5', hv5'⟩ := hm.1.shape
        subst hv5'
        clear hm hx
        by_cases hit : i < Td.length
        · obtain ⟨x, hx⟩ : ∃ x, Td[i]? = some x := ⟨_, List.getElem?_eq_getElem hit⟩
          obtain ⟨ad, rfl, hc⟩ := str_at10 HX.out.rd hx
          have e0 := hc _ (Turn.refl _ _)
          unfold sv10 at e0
          have hil : (i : Int) < Td.length := by omega
          have HF := Lib.hid (flat_take12 hx)
          have hx16 := HSH.out i x hx
          have HLI := Lib.hid (HLF.out i)
          obtain ⟨ac, hac⟩ : ∃ ac, ac = acc ++ enc Td.length ++ (Td.take i).flatMap tB := ⟨_, rfl⟩
          have HAC := Lib.hid hac
          rw [← hac] at HM HLI
          have htb := tB_len hx16
          rw [← hac]
          clear hc hx hac
          go_wp2_with fail
          refine (ref_text ⟨x.toArray⟩ wr (by show x.toArray.size ≤ _; simp; omega)).mono ?_
          rintro e w5 ⟨v5, rfl, hm5⟩
          have hm5' : Made wr w5 v5 (tB x) := hm5
          obtain ⟨A6, c6, rfl⟩ := hm5'.1.shape
          have HY := Lib.hid hm5'
          have HB5 : Hid (By w5 (.slice A5' ac.length c5') ac) := HM.out.1.turn hm5.2.1 (fun _ _ f => f)
          have HX5 := Lib.hid (HX.out.later hm5.2.1)
          clear hm5 hm5'
          go_wp2_with (at_builtin; go_must (refine wpList_app _ rfl _ _ _ rfl _ ac rfl HB5.out _ rfl (tB x) HY.out.1.yields (by have := HLI.out; omega) ?_))
          intro A8 n8 c8 w8 hb hg ha
          have HM8 : Hid (Made w w8 (.slice A8 n8 c8) (acc ++ enc Td.length ++ (Td.take (i + 1)).flatMap tB)) := by
            rw [HF.out, ← List.append_assoc, ← HAC.out]
            exact made_more12 HM.out HY.out.2.1 hb hg ha
          have HX8 := Lib.hid ((BT12.app HB5.out hg).texts HX5.out)
          clear hb hg ha
          go_wp2
          go_roundw
          case rel => exact ⟨i + 1, by go_num, hit, HM8.out, HX8.out⟩
          case measure => simp [intOf]; omega
        · obtain rfl : i = Td.length := by omega
          have HM9 : Hid (Made w wr (.slice A5' (acc ++ enc Td.length ++ (Td.take Td.length).flatMap tB).length c5') (enc N ++ dimsB T (d + 1))) := by
            rw [HDS.out]
            have h := HM.out
            rw [flat_take_all12] at h ⊢
            exact h
          go_wp2
          go_roundw
          case rel => exact ⟨d + 1, by go_num, hlt, HM9.out⟩
          case measure => simp [intOf]; omega
    · obtain rfl : d = N := by omega
      obtain ⟨acc, hacc⟩ : ∃ acc, acc = enc d ++ dimsB T d := ⟨_, rfl⟩
      obtain ⟨base, hbase⟩ : ∃ base, base = acc ++ enc l.length := ⟨_, rfl⟩
      rw [← hacc] at HM HRL HPB
      rw [← hbase] at HRL HPB
      have hal : acc.length ≤ 900000 := by have h := HRL.out [] (List.nil_prefix); rw [hbase] at h; simp only [List.length_append] at h; omega
      have HBS := Lib.hid hbase
      have hel := enc_len l.length
      rw [← hacc]
      clear hacc hbase
      go_wp2_with fail
      refine (ref_num l.length wr HNL.out).mono ?_
      rintro e w3 ⟨v3, rfl, hm3⟩
      obtain ⟨A3, c3, rfl⟩ := hm3.1.shape
      have HY := Lib.hid hm3
      have HB3 : Hid (By w3 (.slice A5 acc.length c5) acc) := HM.out.1.turn hm3.2.1 (fun _ _ f => f)
      clear hm3 hwl
      go_wp2_with (at_builtin; go_must (refine wpList_app _ rfl _ _ _ rfl _ acc rfl HB3.out _ rfl (enc l.length) HY.out.1.yields (by omega) ?_))
      intro A4 n4 c4 w4 hb hg ha
      have HM4 : Hid (Made w w4 (.slice A4 n4 c4) (base ++ rowsB T d 0 (l.take 0))) := by
        rw [List.take_zero]
        show Made _ _ _ (base ++ [])
        rw [List.append_nil, HBS.out]
        exact made_more12 HM.out HY.out.2.1 hb hg ha
      clear hb hg ha HB3 HY HM hel
      go_wp2_with fail
      go_loopw [5, 9, 10] (fun x5 x9 x10 wr => ∃ i : Nat, x10 = .int .i64 (i : Int) ∧ i ≤ l.length ∧ x9 = .int .i64 (lastH 0 (l.take i)) ∧ Made w wr x5 (base ++ rowsB T d 0 (l.take i))) (fun _ _ x10 _ => l.length - (intOf x10).toNat)
      case atStart => exact ⟨0, rfl, Nat.zero_le _, rfl, HM4.out⟩
      case round =>
        clear HM4
        obtain ⟨i, rfl, hi, rfl, hm⟩ := hrel
        have HM := Lib.hid hm
        obtain ⟨A5', c5', hv5'⟩ := hm.1.shape
        subst hv5'
        clear hm
        by_cases hil : i < l.length
        · obtain ⟨⟨k, ⟨cn, csu, clo, chi⟩⟩, hx⟩ : ∃ x, l[i]? = some x := ⟨_, List.getElem?_eq_getElem hil⟩
          have hmem := List.mem_of_getElem? hx
          obtain ⟨hF, ⟨o1, o2, o3, o4⟩, hn1⟩ := HFIT.out _ hmem
          simp only at hF o1 o2 o3 o4 hn1
          rw [fit_iff] at o1 o2 o3 o4
          obtain ⟨m, rfl⟩ := Int.eq_ofNat_of_zero_le (show 0 ≤ cn by omega)
          have hk0 := hF.h0
          have hk1 := hF.h1
          obtain ⟨ht1, ht2⟩ := split_at12 hx
          have hpre : l.take i ++ [⟨k, ⟨(m : Int), csu, clo, chi⟩⟩] <+: l := by rw [← ht1]; exact List.take_prefix _ _
          have hlh := last_le HRI.out hpre (fun r hr => (HFIT.out r hr).1.h0)
          simp only at hlh
          have HLA : Hid (lastH 0 (l.take (i + 1)) = k.h) := by show _ = _; rw [ht1, lastH_snoc]
          obtain ⟨dh, hdh⟩ : ∃ dh : Nat, k.h - lastH 0 (l.take i) = (dh : Int) := Int.eq_ofNat_of_zero_le (by omega)
          have hsub : IntKind.i64.wrap (k.h - lastH 0 (l.take i)) = (dh : Int) := by rw [hdh]; exact IntWalk.i64_in _ (by omega)
          have hwd : IntKind.u64.wrap (dh : Int) = (dh : Int) := by rw [IntKind.wrap_u64]; omega
          have hwm : IntKind.u64.wrap (m : Int) = (m : Int) := by rw [IntKind.wrap_u64]; omega
          have HDH : Hid (dh < 18446744073709551616) := by show _ < _; omega
          have HMM : Hid (m < 18446744073709551616) := by show _ < _; omega
          have HO2 := Lib.hid o2; have HO3 := Lib.hid o3; have HO4 := Lib.hid o4
          have HTK : Hid (∀ dd : Nat, k.dim dd ∈ T dd) := fun dd => HTI.out _ hmem dd
          obtain ⟨bs, hbs⟩ : ∃ bs, bs = base ++ rowsB T d 0 (l.take i) := ⟨_, rfl⟩
          have HRB : Hid (base ++ rowsB T d 0 (l.take (i + 1)) = bs ++ enc dh ++ placesB T k d ++ enc m ++ enc (zig csu) ++ enc (zig clo) ++ enc (zig chi)) := by
            show _ = _
            rw [ht1, rowsB_snoc, hbs]
            unfold rowB cellB
            rw [hdh]
            simp only [Int.toNat_natCast, List.append_assoc]
          have HLN : Hid ((bs ++ enc dh ++ placesB T k d ++ enc m ++ enc (zig csu) ++ enc (zig clo) ++ enc (zig chi)).length ≤ 900000) := by
            rw [← HRB.out]
            exact HRL.out _ (List.take_prefix _ _)
          have HLP : Hid (∀ dd, dd ≤ d → (bs ++ enc dh ++ placesB T k dd).length ≤ 900000) := fun dd hdd => by
            have h1 := HLN.out
            have h2 := placesB_le T k hdd
            simp only [List.length_append] at h1 ⊢
            omega
          have HLQ : Hid (bs.length ≤ 900000 ∧ (bs ++ enc dh ++ placesB T k d ++ enc m).length ≤ 900000 ∧ (bs ++ enc dh ++ placesB T k d ++ enc m ++ enc (zig csu)).length ≤ 900000 ∧ (bs ++ enc dh ++ placesB T k d ++ enc m ++ enc (zig csu) ++ enc (zig clo)).length ≤ 900000) := by
            have h1 := HLN.out
            simp only [List.length_append] at h1
            refine ⟨by omega, by simp only [List.length_append]; omega, by simp only [List.length_append]; omega, by simp only [List.length_append]; omega⟩
          rw [← hbs] at HM
          obtain ⟨ad, rfl, hc⟩ := row_at11 (HV.out.later HM.out.2.1) hx
          have HCR : Hid (∀ W, Turn (fun _ => False) wr W → RowAt W (ad.add (i * 9)) ⟨k, ⟨(m : Int), csu, clo, chi⟩⟩) := hc
          unfold RowAt at HCR
          obtain ⟨lh, hlhe⟩ : ∃ lh, lh = lastH 0 (l.take i) := ⟨_, rfl⟩
          rw [← hlhe] at hsub
          have hili : (i : Int) < l.length := by omega
          rw [← hbs, ← hlhe]
          clear hx hmem hF o1 o2 o3 o4 hn1 hk0 hk1 ht1 ht2 hpre hlh hdh hbs hlhe hc
          go_wp2_with fail
          refine' wp_abs12 _ (fun kb cb V => Box V kb 48 #[.int .i64 k.h, sv9 k.a, sv9 k.b, sv9 k.c, sv9 k.d] ∧ Box V cb 50 #[.int .i64 (m : Int), .int .i64 csu, .int .i64 clo, .int .i64 chi] ∧ Turn (fun _ => False) wr V) ?reg ?rest
          case reg =>
            refine drawn_region (fun W => Turn (fun _ => False) wr W) [13] (by kernel_rfl) ?_
            have hS0 : Turn (fun _ => False) wr (World.drew wr) := (Turn.refl _ wr).drew
            generalize World.drew wr = wd at *
            refine drawn_take 0 56 (.slice (some ad) l.length c) rfl rfl (by kernel_rfl) (by kernel_rfl) (by kernel_rfl) (by kernel_rfl) (by rintro _ _ _ ⟨h, _⟩; cases h) (by rfl) (by assumption) (by intro w hSw; go_simp) ?_
            try simp only [List.setIfInBounds_toArray, List.set_cons_zero, List.set_cons_succ]
            refine drawn_take 1 57 (.int .i64 (i : Int)) rfl rfl (by kernel_rfl) (by kernel_rfl) (by kernel_rfl) (by kernel_rfl) (by rintro _ _ _ ⟨h, _⟩; cases h) (by rfl) (by assumption) (by intro w hSw; go_simp) ?_
            try simp only [List.setIfInBounds_toArray, List.set_cons_zero, List.set_cons_succ]
            refine drawn_take 2 58 (.pointer (some (ad.add (i * 9)))) rfl rfl (by kernel_rfl) (by kernel_rfl) (by kernel_rfl) (by kernel_rfl) (by rintro _ _ _ ⟨h, _⟩; cases h) (by rfl) (by assumption) (by intro w hSw; go_simp) ?_
            try simp only [List.setIfInBounds_toArray, List.set_cons_zero, List.set_cons_succ]
            refine drawn_take 3 59 (.pointer (some (ad.add (i * 9)))) rfl rfl (by kernel_rfl) (by kernel_rfl) (by kernel_rfl) (by kernel_rfl) (by rintro _ _ _ ⟨h, _⟩; cases h) (by rfl) (by assumption) (by intro w hSw; go_simp) ?_
            try simp only [List.setIfInBounds_toArray, List.set_cons_zero, List.set_cons_succ]
            refine drawn_take 4 60 (.agg #[.int .i64 k.h, sv9 k.a, sv9 k.b, sv9 k.c, sv9 k.d]) rfl rfl (by kernel_rfl) (by kernel_rfl) (by kernel_rfl) (by kernel_rfl) (by rintro _ _ _ ⟨h, _⟩; cases h) (by rfl) (by assumption) (by intro w hSw; have a0 := HCR.out _ hSw; obtain ⟨a0, a1, a2, a3, a4, a5, a6, a7, a8⟩ := a0; clear hSw; go_simp) ?_
            try simp only [List.setIfInBounds_toArray, List.set_cons_zero, List.set_cons_succ]
            refine drawn_take 5 61 (.slice (some ad) l.length c) rfl rfl (by kernel_rfl) (by kernel_rfl) (by kernel_rfl) (by kernel_rfl) (by rintro _ _ _ ⟨h, _⟩; cases h) (by rfl) (by assumption) (by intro w hSw; go_simp) ?_
            try simp only [List.setIfInBounds_toArray, List.set_cons_zero, List.set_cons_succ]
            refine drawn_take 6 62 (.int .i64 (i : Int)) rfl rfl (by kernel_rfl) (by kernel_rfl) (by kernel_rfl) (by kernel_rfl) (by rintro _ _ _ ⟨h, _⟩; cases h) (by rfl) (by assumption) (by intro w hSw; go_simp) ?_
            try simp only [List.setIfInBounds_toArray, List.set_cons_zero, List.set_cons_succ]
            refine drawn_take 7 63 (.pointer (some (ad.add (i * 9)))) rfl rfl (by kernel_rfl) (by kernel_rfl) (by kernel_rfl) (by kernel_rfl) (by rintro _ _ _ ⟨h, _⟩; cases h) (by rfl) (by assumption) (by intro w hSw; go_simp) ?_
            try simp only [List.setIfInBounds_toArray, List.set_cons_zero, List.set_cons_succ]
            refine drawn_take 8 64 (.pointer (some ⟨(ad.add (i * 9)).block, (ad.add (i * 9)).off + 5, none⟩)) rfl rfl (by kernel_rfl) (by kernel_rfl) (by kernel_rfl) (by kernel_rfl) (by rintro _ _ _ ⟨h, _⟩; cases h) (by rfl) (by assumption) (by intro w hSw; go_simp) ?_
            try simp only [List.setIfInBounds_toArray, List.set_cons_zero, List.set_cons_succ]
            refine drawn_take 9 65 (.agg #[.int .i64 (m : Int), .int .i64 csu, .int .i64 clo, .int .i64 chi]) rfl rfl (by kernel_rfl) (by kernel_rfl) (by kernel_rfl) (by kernel_rfl) (by rintro _ _ _ ⟨h, _⟩; cases h) (by rfl) (by assumption) (by intro w hSw; have a0 := HCR.out _ hSw; obtain ⟨a0, a1, a2, a3, a4, a5, a6, a7, a8⟩ := a0; clear hSw; go_simp) ?_
            try simp only [List.setIfInBounds_toArray, List.set_cons_zero, List.set_cons_succ]
            refine drawn_any [10, 11] (by kernel_rfl) (by simp) ?_
            refine drawn_cons rfl (fun K hK => ?_) (drawn_cons rfl (fun K hK => ?_) drawn_nil)
            · go_simp
              refine hK.out _ _ _ (hS0.alloc _) ?_
              clear hK K
              try simp only [List.setIfInBounds_toArray, List.set_cons_zero, List.set_cons_succ]
              refine drawn_any [11] (by kernel_rfl) (by simp) ?_
              refine drawn_cons rfl (fun K hK => ?_) drawn_nil
              go_simp
              refine hK.out _ _ _ ((hS0.alloc _).alloc _) ?_
              clear hK K
              try simp only [List.setIfInBounds_toArray, List.set_cons_zero, List.set_cons_succ]
              refine drawn_any [12] (by kernel_rfl) (by simp) ?_
              refine drawn_cons rfl (fun K hK => ?_) drawn_nil
              go_simp
              refine hK.out _ _ _ ((hS0.alloc _).alloc _) ?_
              clear hK K
              try simp only [List.setIfInBounds_toArray, List.set_cons_zero, List.set_cons_succ]
              refine drawn_last (z := 13) rfl (by kernel_rfl) (by kernel_rfl) (by kernel_rfl) (fun K hK => ?_)
              go_simp
              have b1 := (Box.new wd 48 #[.int .i64 k.h, sv9 k.a, sv9 k.b, sv9 k.c, sv9 k.d]).turn (w' := (wd.alloc (.cells #[.int .i64 k.h, sv9 k.a, sv9 k.b, sv9 k.c, sv9 k.d] 48)).alloc (.cells #[.int .i64 (m : Int), .int .i64 csu, .int .i64 clo, .int .i64 chi] 50)) ((Turn.refl (fun _ => False) _).alloc _) (fun f => f)
              have b2 := Box.new (wd.alloc (.cells #[.int .i64 k.h, sv9 k.a, sv9 k.b, sv9 k.c, sv9 k.d] 48)) 50 #[.int .i64 (m : Int), .int .i64 csu, .int .i64 clo, .int .i64 chi]
              rw [World.size_alloc] at b2
              have t3 : Turn (fun _ => False) wr ((wd.alloc (.cells #[.int .i64 k.h, sv9 k.a, sv9 k.b, sv9 k.c, sv9 k.d] 48)).alloc (.cells #[.int .i64 (m : Int), .int .i64 csu, .int .i64 clo, .int .i64 chi] 50)) := (hS0.alloc _).alloc _
              refine hK.out _ _ ?_
              try simp only [List.setIfInBounds_toArray, List.set_cons_zero, List.set_cons_succ]
              clear hK K hS0
              revert b1 b2 t3
              generalize (wd.alloc (.cells #[.int .i64 k.h, sv9 k.a, sv9 k.b, sv9 k.c, sv9 k.d] 48)).alloc (.cells #[.int .i64 (m : Int), .int .i64 csu, .int .i64 clo, .int .i64 chi] 50) = W
              obtain ⟨g2, hg2⟩ : ∃ g, g = wd.heap.size + 1 := ⟨_, rfl⟩
              rw [← hg2]
              clear hg2
              generalize wd.heap.size = g1
              intro b1 b2 t3
              refine ⟨trivial, g1, g2, ?_, b1, b2, t3⟩; exact rfl
            · go_simp
              refine hK.out _ _ _ (hS0.alloc _) ?_
              clear hK K
              try simp only [List.setIfInBounds_toArray, List.set_cons_zero, List.set_cons_succ]
              refine drawn_any [10] (by kernel_rfl) (by simp) ?_
              refine drawn_cons rfl (fun K hK => ?_) drawn_nil
              go_simp
              refine hK.out _ _ _ ((hS0.alloc _).alloc _) ?_
              clear hK K
              try simp only [List.setIfInBounds_toArray, List.set_cons_zero, List.set_cons_succ]
              refine drawn_any [12] (by kernel_rfl) (by simp) ?_
              refine drawn_cons rfl (fun K hK => ?_) drawn_nil
              go_simp
              refine hK.out _ _ _ ((hS0.alloc _).alloc _) ?_
              clear hK K
              try simp only [List.setIfInBounds_toArray, List.set_cons_zero, List.set_cons_succ]
              refine drawn_last (z := 13) rfl (by kernel_rfl) (by kernel_rfl) (by kernel_rfl) (fun K hK => ?_)
              go_simp
              have b1 := (Box.new wd 50 #[.int .i64 (m : Int), .int .i64 csu, .int .i64 clo, .int .i64 chi]).turn (w' := (wd.alloc (.cells #[.int .i64 (m : Int), .int .i64 csu, .int .i64 clo, .int .i64 chi] 50)).alloc (.cells #[.int .i64 k.h, sv9 k.a, sv9 k.b, sv9 k.c, sv9 k.d] 48)) ((Turn.refl (fun _ => False) _).alloc _) (fun f => f)
              have b2 := Box.new (wd.alloc (.cells #[.int .i64 (m : Int), .int .i64 csu, .int .i64 clo, .int .i64 chi] 50)) 48 #[.int .i64 k.h, sv9 k.a, sv9 k.b, sv9 k.c, sv9 k.d]
              rw [World.size_alloc] at b2
              have t3 : Turn (fun _ => False) wr ((wd.alloc (.cells #[.int .i64 (m : Int), .int .i64 csu, .int .i64 clo, .int .i64 chi] 50)).alloc (.cells #[.int .i64 k.h, sv9 k.a, sv9 k.b, sv9 k.c, sv9 k.d] 48)) := (hS0.alloc _).alloc _
              refine hK.out _ _ ?_
              try simp only [List.setIfInBounds_toArray, List.set_cons_zero, List.set_cons_succ]
              clear hK K hS0
              revert b1 b2 t3
              generalize (wd.alloc (.cells #[.int .i64 (m : Int), .int .i64 csu, .int .i64 clo, .int .i64 chi] 50)).alloc (.cells #[.int .i64 k.h, sv9 k.a, sv9 k.b, sv9 k.c, sv9 k.d] 48) = W
              obtain ⟨g2, hg2⟩ : ∃ g, g = wd.heap.size + 1 := ⟨_, rfl⟩
              rw [← hg2]
              clear hg2
              generalize wd.heap.size = g1
              intro b1 b2 t3
              refine ⟨trivial, g2, g1, ?_, b2, b1, t3⟩; exact rfl
          case rest =>
            rintro kb cb V ⟨hkb, hcb, tv⟩
            have HP : Hid (PB12 w V (.slice A5' bs.length c5') bs kb cb k ⟨(m : Int), csu, clo, chi⟩) := ⟨made_later12 HM.out tv, hkb, hcb⟩
            have c0 : V.cell? ⟨kb, 0, none⟩ = some (.int .i64 k.h) := hkb.cell 0
            clear hkb hcb tv
            go_wp2_with fail
            refine (ref_num dh V HDH.out).mono ?_
            rintro e w3 ⟨v3, rfl, hm3⟩
            obtain ⟨A3, c3, rfl⟩ := hm3.1.shape
            have HY := Lib.hid hm3
            have HB3 : Hid (By w3 (.slice A5' bs.length c5') bs) := HP.out.made.1.turn hm3.2.1 (fun _ _ f => f)
            have hel := enc_len dh
            clear hm3 c0 hsub hwd
            go_wp2_with (at_builtin; go_must (refine wpList_app _ rfl _ _ _ rfl _ bs rfl HB3.out _ rfl (enc dh) HY.out.1.yields (by have := HLQ.out.1; omega) ?_))
            intro A4 n4 c4 w4 hb hg ha
            have HP4 : Hid (PB12 w w4 (.slice A4 n4 c4) (bs ++ enc dh ++ placesB T k 0) kb cb k ⟨(m : Int), csu, clo, chi⟩) := by
              show PB12 _ _ _ (_ ++ []) _ _ _ _
              rw [List.append_nil]
              exact HP.out.step HY.out hb hg ha
            have c0 : w4.cell? ⟨kb, 0, none⟩ = some (.int .i64 k.h) := HP4.out.key.cell 0
            clear hb hg ha HB3 HY HP HM hel
            go_wp2_with fail
            clear c0
            go_loopw [5, 13] (fun x5 x13 wz => ∃ dd : Nat, x13 = .int .i64 (dd : Int) ∧ dd ≤ d ∧ PB12 w wz x5 (bs ++ enc dh ++ placesB T k dd) kb cb k ⟨(m : Int), csu, clo, chi⟩) (fun _ x13 _ => d - (intOf x13).toNat)
            case atStart => exact ⟨0, rfl, Nat.zero_le _, HP4.out⟩
            case round =>
              clear HP4
              obtain ⟨dd, rfl, hdd, hpb⟩ := hrel
              have HP := Lib.hid hpb
              obtain ⟨A6, c6, hv6⟩ := hpb.made.1.shape
              subst hv6
              clear hpb
              by_cases hdl : dd < d
              · have hddl : (dd : Int) < d := by omega
                have hd4 : (dd : Int) < 4 := by omega
                have HPS : Hid (bs ++ enc dh ++ placesB T k (dd + 1) = bs ++ enc dh ++ placesB T k dd ++ enc (idxG (k.dim dd) (T dd))) := by show _ ++ (_ ++ _) = _; simp only [List.append_assoc]
                have HLD := Lib.hid (HLP.out dd (by omega))
                have hix := idxG_le (k.dim dd) (T dd)
                have hin : idxG (k.dim dd) (T dd) < (T dd).length := idxG_mem.2 (HTK.out dd)
                have hTd := HTL.out dd
                have HCT : Hid (codeT (k.dim dd) (T dd) = (idxG (k.dim dd) (T dd) : Int)) := if_pos hin
                obtain ⟨ix, hixe⟩ : ∃ ix, ix = idxG (k.dim dd) (T dd) := ⟨_, rfl⟩
                rw [← hixe] at HPS HCT hix hin
                have hwx : IntKind.u64.wrap (ix : Int) = (ix : Int) := by rw [IntKind.wrap_u64]; omega
                have HXN : Hid (ix < 18446744073709551616) := by show _ < _; omega
                obtain ⟨ac, hac⟩ : ∃ ac, ac = bs ++ enc dh ++ placesB T k dd := ⟨_, rfl⟩
                rw [← hac] at HP HPS HLD
                rw [← hac]
                have HSK : Hid (∀ W, BT12 wr W → W.cell? ⟨kb, 1 + dd, none⟩ = some (sv10 (k.dim dd)) ∧ BT12 wr W) := fun W ht => ⟨by rw [(ht.box HP.out.key (by decide)).cell]; exact key_cells dd (by omega), ht⟩
                clear hix hin hixe hac
                go_wp2_with fail
                refine drawn_region (fun W => W.cell? ⟨kb, 1 + dd, none⟩ = some (sv10 (k.dim dd)) ∧ BT12 wr W) [] (by kernel_rfl) ?_
                have HTD : Hid (Turn (fun _ => False) wr (World.drew wr)) := (Turn.refl _ wr).drew
                have hS0 := HSK.out _ (BT12.of HTD.out)
                generalize World.drew wr = wd at *
                refine drawn_take 0 81 (.slice A6 ac.length c6) rfl rfl (by kernel_rfl) (by kernel_rfl) (by kernel_rfl) (by kernel_rfl) (fun _ _ _ h => h) (by rfl) (by assumption) (by intro w hSw; obtain ⟨hS1, hS2⟩ := hSw; go_simp) ?_
                try simp only [List.setIfInBounds_toArray, List.set_cons_zero, List.set_cons_succ]
                refine drawn_take 1 82 (.slice (some ad) l.length c) rfl rfl (by kernel_rfl) (by kernel_rfl) (by kernel_rfl) (by kernel_rfl) (fun _ _ _ h => h) (by rfl) (by assumption) (by intro w hSw; obtain ⟨hS1, hS2⟩ := hSw; go_simp) ?_
                try simp only [List.setIfInBounds_toArray, List.set_cons_zero, List.set_cons_succ]
                refine drawn_take 2 83 (.int .i64 (dd : Int)) rfl rfl (by kernel_rfl) (by kernel_rfl) (by kernel_rfl) (by kernel_rfl) (fun _ _ _ h => h) (by rfl) (by assumption) (by intro w hSw; obtain ⟨hS1, hS2⟩ := hSw; go_simp) ?_
                try simp only [List.setIfInBounds_toArray, List.set_cons_zero, List.set_cons_succ]
                refine drawn_take 4 85 (.int .i64 (dd : Int)) rfl rfl (by kernel_rfl) (by kernel_rfl) (by kernel_rfl) (by kernel_rfl) (fun _ _ _ h => h) (by rfl) (by assumption) (by intro w hSw; obtain ⟨hS1, hS2⟩ := hSw; go_simp) ?_
                try simp only [List.setIfInBounds_toArray, List.set_cons_zero, List.set_cons_succ]
                refine drawn_take 5 86 (.pointer (some ⟨kb, 1, none⟩)) rfl rfl (by kernel_rfl) (by kernel_rfl) (by kernel_rfl) (by kernel_rfl) (fun _ _ _ h => h) (by rfl) (by assumption) (by intro w hSw; obtain ⟨hS1, hS2⟩ := hSw; go_simp) ?_
                try simp only [List.setIfInBounds_toArray, List.set_cons_zero, List.set_cons_succ]
                refine drawn_take 6 87 (.pointer (some ⟨kb, 1 + dd, none⟩)) rfl rfl (by kernel_rfl) (by kernel_rfl) (by kernel_rfl) (by kernel_rfl) (fun _ _ _ h => h) (by rfl) (by assumption) (by intro w hSw; obtain ⟨hS1, hS2⟩ := hSw; go_simp) ?_
                try simp only [List.setIfInBounds_toArray, List.set_cons_zero, List.set_cons_succ]
                refine drawn_take 7 88 (sv10 (k.dim dd)) rfl rfl (by kernel_rfl) (by kernel_rfl) (by kernel_rfl) (by kernel_rfl) (fun _ _ _ h => h) (by rfl) (by assumption) (by intro w hSw; obtain ⟨hS1, hS2⟩ := hSw; go_simp) ?_
                try simp only [List.setIfInBounds_toArray, List.set_cons_zero, List.set_cons_succ]
                refine drawn_any [3] (by kernel_rfl) (by simp) ?_
                refine drawn_cons rfl (fun K hK => ?_) drawn_nil
                go_simp
                refine (HTX.out wd dd (by omega) (HP.out.made.2.1.trans HTD.out (fun _ _ f => f))).mono ?_
                rintro e we ⟨v7, rfl, hr7, t7, hty⟩
                obtain ⟨A7, c7, rfl⟩ := hr7.shape
                have HT7 : Hid (Turn (fun _ => False) wr we) := HTD.out.trans t7 (fun _ _ f => f)
                have HR7 := Lib.hid hr7
                have hS3 := HSK.out _ (BT12.of HT7.out)
                refine hK.out _ _ _ hS3 ?_
                clear hK K hS0 hr7 t7 hty
                try simp only [List.setIfInBounds_toArray, List.set_cons_zero, List.set_cons_succ]
                refine drawn_any [8] (by kernel_rfl) (by simp) ?_
                refine drawn_cons rfl (fun K hK => ?_) drawn_nil
                go_simp
                refine (ref_code10 _ (T dd) (k.dim dd) we HR7.out (by omega)).mono ?_
                rintro e we' ⟨rfl, hwe⟩
                replace hwe := hwe.symm
                subst hwe
                rw [HCT.out]
                refine hK.out _ _ _ hS3 ?_
                clear hK K
                try simp only [List.setIfInBounds_toArray, List.set_cons_zero, List.set_cons_succ]
                refine drawn_take 9 90 (.int .u64 (ix : Int)) rfl rfl (by kernel_rfl) (by kernel_rfl) (by kernel_rfl) (by kernel_rfl) (fun _ _ _ h => h) (by rfl) (by assumption) (by intro w hSw; obtain ⟨hS1, hS2⟩ := hSw; go_simp) ?_
                try simp only [List.setIfInBounds_toArray, List.set_cons_zero, List.set_cons_succ]
                refine drawn_any [10] (by kernel_rfl) (by simp) ?_
                refine drawn_cons rfl (fun K hK => ?_) drawn_nil
                go_simp
                refine (ref_num ix we HXN.out).mono ?_
                rintro e wf ⟨v8, rfl, hm8⟩
                obtain ⟨A8, c8, rfl⟩ := hm8.1.shape
                have HY8 := Lib.hid hm8
                have HTF : Hid (Turn (fun _ => False) wr wf) := HT7.out.trans hm8.2.1 (fun _ _ f => f)
                have hS4 := HSK.out _ (BT12.of HTF.out)
                refine hK.out _ _ _ hS4 ?_
                clear hK K hS3 hm8
                try simp only [List.setIfInBounds_toArray, List.set_cons_zero, List.set_cons_succ]
                have HOW : Hid (OwE EB12 5 wf (.slice A6 ac.length c6) ac) := by_own12.1 (HP.out.made.1.turn HTF.out (fun _ _ f => f))
                have HYE : Hid (RdE EB12 wf (.slice A8 (enc ix).length c8) (enc ix)) := (by_own12.1 HY8.out.1).rd
                have hel := enc_len ix
                refine drawn_any [11] (by kernel_rfl) (by simp) ?_
                refine drawn_cons rfl (fun K hK => ?_) drawn_nil
                refine put_app Tryz.underlying35 byte_info12 byte_zero12 (by omega) ac HOW.out (enc ix) HYE.out (by have := HLD.out; omega) ?_
                intro A9 n9 c9 w9 ho ht hn9
                have hbt : BT12 wf w9 := ht.mono fun g _ e => by
                  have e' : (Value.slice A6 ac.length c6).ownBlock = some g := e
                  rcases HOW.out.form with ⟨e1, _⟩ | ⟨g', cap, cur, e1, hb', _⟩
                  · rw [e1] at e'; cases e'
                  · rw [e1] at e'
                    simp only [Value.ownBlock, Option.some.injEq] at e'
                    subst e'
                    exact ⟨_, hb'⟩
                have HP9 : Hid (PB12 w w9 (.slice A9 n9 c9) (ac ++ enc ix) kb cb k ⟨(m : Int), csu, clo, chi⟩) := by
                  have hall := (BT12.of HTF.out).trans hbt
                  have hnew : ∀ g, (Value.slice A6 ac.length c6).ownBlock = some g → w.heap.size ≤ g := HP.out.made.2.2
                  have htw : Turn (fun _ => False) w wf := HP.out.made.2.1.trans HTF.out (fun _ _ f => f)
                  refine ⟨⟨by_own12.2 ho, htw.trans ht (fun g hg e => by have := hnew g e; omega), fun g hg => ?_⟩, hall.box HP.out.key (by decide), hall.box HP.out.cel (by decide)⟩
                  rcases hn9 with e | e
                  · exact hnew g (e.symm.trans hg)
                  · rw [hg] at e
                    injection e with e
                    rw [e]
                    exact htw.size
                have hS5 := HSK.out _ ((BT12.of HTF.out).trans hbt)
                refine hK.out _ _ _ hS5 ?_
                clear hK K hS4 ho ht hn9 hbt
                try simp only [List.setIfInBounds_toArray, List.set_cons_zero, List.set_cons_succ]
                refine drawn_last1 12 5 (.slice A9 n9 c9) rfl rfl (by kernel_rfl) (by kernel_rfl) (by rfl) (by intro w; go_simp) hS5 ?_
                try simp only [List.setIfInBounds_toArray, List.set_cons_zero, List.set_cons_succ]
                clear hS5
                rw [← HPS.out] at HP9
                go_wp2
                go_roundw
                case rel => exact ⟨dd + 1, by go_num, hdl, HP9.out⟩
                case measure => simp [intOf]; omega
              · obtain rfl : dd = d := by omega
                obtain ⟨ac, hac⟩ : ∃ ac, ac = bs ++ enc dh ++ placesB T k dd := ⟨_, rfl⟩
                rw [← hac] at HP HRB HLQ HLN
                rw [← hac]
                have z0 : wr.cell? ⟨cb, 0, none⟩ = some (.int .i64 (m : Int)) := HP.out.cel.cell 0
                have hacl : ac.length ≤ 900000 := by have h := HLQ.out.2.1; simp only [List.length_append] at h; omega
                clear hac
                go_wp2_with fail
                refine (ref_num m wr HMM.out).mono ?_
                rintro e w5 ⟨v5, rfl, hm5⟩
                obtain ⟨A3', c3', rfl⟩ := hm5.1.shape
                have HY := Lib.hid hm5
                have HB5 : Hid (By w5 (.slice A6 ac.length c6) ac) := HP.out.made.1.turn hm5.2.1 (fun _ _ f => f)
                have hel := enc_len m
                clear hm5 z0 hwm
                go_wp2_with (at_builtin; go_must (refine wpList_app _ rfl _ _ _ rfl _ ac rfl HB5.out _ rfl (enc m) HY.out.1.yields (by omega) ?_))
                intro A10 n10 c10 w10 hb hg ha
                obtain rfl : n10 = (ac ++ enc m).length := hb.cap.1
                have HP10 := Lib.hid (HP.out.step HY.out hb hg ha)
                obtain ⟨a1, ha1⟩ : ∃ a1, a1 = ac ++ enc m := ⟨_, rfl⟩
                rw [← ha1] at HP10 HRB HLQ HLN
                rw [← ha1]
                have z1 : w10.cell? ⟨cb, 1, none⟩ = some (.int .i64 csu) := HP10.out.cel.cell 1
                have hel1 := enc_len (zig csu)
                clear hb hg ha HB5 HY ha1
                go_wp2_with fail
                refine (ref_int csu w10 HO2.out.1 HO2.out.2).mono ?_
                rintro e w5 ⟨v5, rfl, hm5⟩
                obtain ⟨A11, c11, rfl⟩ := hm5.1.shape
                have HY := Lib.hid hm5
                have HB5 : Hid (By w5 (.slice A10 a1.length c10) a1) := HP10.out.made.1.turn hm5.2.1 (fun _ _ f => f)
                clear hm5 z1
                go_wp2_with (at_builtin; go_must (refine wpList_app _ rfl _ _ _ rfl _ a1 rfl HB5.out _ rfl (enc (zig csu)) HY.out.1.yields (by have := HLQ.out.2.1; omega) ?_))
                intro A12 n12 c12 w12 hb hg ha
                obtain rfl : n12 = (a1 ++ enc (zig csu)).length := hb.cap.1
                have HP12 := Lib.hid (HP10.out.step HY.out hb hg ha)
                obtain ⟨a2, ha2⟩ : ∃ a2, a2 = a1 ++ enc (zig csu) := ⟨_, rfl⟩
                rw [← ha2] at HP12 HRB HLQ HLN
                rw [← ha2]
                have z2 : w12.cell? ⟨cb, 2, none⟩ = some (.int .i64 clo) := HP12.out.cel.cell 2
                have hel2 := enc_len (zig clo)
                clear hb hg ha HB5 HY ha2
                go_wp2_with fail
                refine (ref_int clo w12 HO3.out.1 HO3.out.2).mono ?_
                rintro e w5 ⟨v5, rfl, hm5⟩
                obtain ⟨A13, c13, rfl⟩ := hm5.1.shape
                have HY := Lib.hid hm5
                have HB5 : Hid (By w5 (.slice A12 a2.length c12) a2) := HP12.out.made.1.turn hm5.2.1 (fun _ _ f => f)
                clear hm5 z2
                go_wp2_with (at_builtin; go_must (refine wpList_app _ rfl _ _ _ rfl _ a2 rfl HB5.out _ rfl (enc (zig clo)) HY.out.1.yields (by have := HLQ.out.2.2.1; omega) ?_))
                intro A14 n14 c14 w14 hb hg ha
                obtain rfl : n14 = (a2 ++ enc (zig clo)).length := hb.cap.1
                have HP14 := Lib.hid (HP12.out.step HY.out hb hg ha)
                obtain ⟨a3, ha3⟩ : ∃ a3, a3 = a2 ++ enc (zig clo) := ⟨_, rfl⟩
                rw [← ha3] at HP14 HRB HLQ HLN
                rw [← ha3]
                have z3 : w14.cell? ⟨cb, 3, none⟩ = some (.int .i64 chi) := HP14.out.cel.cell 3
                have hel3 := enc_len (zig chi)
                clear hb hg ha HB5 HY ha3
                go_wp2_with fail
                refine (ref_int chi w14 HO4.out.1 HO4.out.2).mono ?_
                rintro e w5 ⟨v5, rfl, hm5⟩
                obtain ⟨A15, c15, rfl⟩ := hm5.1.shape
                have HY := Lib.hid hm5
                have HB5 : Hid (By w5 (.slice A14 a3.length c14) a3) := HP14.out.made.1.turn hm5.2.1 (fun _ _ f => f)
                clear hm5 z3
                go_wp2_with (at_builtin; go_must (refine wpList_app _ rfl _ _ _ rfl _ a3 rfl HB5.out _ rfl (enc (zig chi)) HY.out.1.yields (by have := HLQ.out.2.2.2; omega) ?_))
                intro A16 n16 c16 w16 hb hg ha
                have HP16 := Lib.hid (HP14.out.step HY.out hb hg ha)
                rw [← HRB.out] at HP16
                have HLAE := Lib.hid HLA.out.symm
                clear hb hg ha HB5 HY
                go_wp2
                go_roundw
                case rel => exact ⟨i + 1, by go_num, hil, by rw [HLA.out], HP16.out.made⟩
                case measure => simp [intOf]; omega
        · obtain rfl : i = l.length := by omega
          have HME : Hid (Made w wr (.slice A5' (base ++ rowsB T d 0 (l.take l.length)).length c5') (payB l d)) := by
            have h := HM.out
            rw [List.take_length] at h ⊢
            rw [HPB.out]
            exact h
          go_wp2
          go_ret
          exact ⟨_, rfl, HME.out⟩

end Go.Proofs.YticglepkbihldaaGreat

/-
  Stage 12: the document's Encode.
-/
namespace Go.Proofs.YticglepkbihldaaGreat
open Go.RowKit

set_option maxRecDepth 100000

set_option maxHeartbeats 8000000 in
theorem ref_encode12 (v : Value) (l : List R11) (n : Int) (w : World) (hv : RdE ER w v l) (hl : l.length ≤ 60) (hr : rightR l = true) (hok : ∀ r ∈ l, okC r.c) :
    Calls Tryz.prog 15 #[v, .int .i64 n] w fun e w' => Enc12 w l n e w' := by
  have HV := Lib.hid hv
  have HFT := ref_fits12 v l n w hv (by omega)
  obtain ⟨A, c, rfl⟩ := hv.shape
  clear hv
  by_cases hfit : fitL l n = 0
  · have hpl := payB_len hfit hl
    obtain ⟨hd, hall⟩ := fitL_ok.1 hfit
    obtain ⟨hrise, hrow⟩ := rightR_spec hr
    obtain ⟨N, rfl, hN1, hN4⟩ := okDims_nat hd
    have HEN : Hid (encL l (N : Int) = fr (payB l N)) := by show _ = _; rw [encL_ok hfit, Int.toNat_natCast]
    rw [Int.toNat_natCast] at hpl
    have HPY := Lib.hid (fun W (ht : Turn (fun _ => False) w W) => ref_pay12 _ l N hN4 W (HV.out.later ht) (by omega) (fun r hr => ⟨chk_fit (hall r hr), hok r hr, by
      have h7 := hrow r hr
      unfold okRow at h7
      rw [Bool.and_eq_true, decide_eq_true_iff] at h7
      exact h7.1⟩) hrise (by omega))
    rw [hfit] at HFT
    have HF := Lib.hid HFT
    have HFI := Lib.hid hfit
    have hlt : ¬ (4194304 : Int) < ((payB l N).length : Int) := by omega
    have HPL := Lib.hid hpl
    generalize payB l N = P at *
    clear HFT hd hall hrise hrow hfit hr hok hpl
    go_enter Tryz.func15, Tryz.ntmps15
    go_wp2_with fail
    refine HF.out.mono ?_
    rintro e w1 ⟨rfl, t1⟩
    have HT1 := Lib.hid t1
    clear t1 HF
    go_wp2_with fail
    refine (HPY.out w1 HT1.out).mono ?_
    rintro e w2 ⟨v2, rfl, hm2⟩
    obtain ⟨A2, c2, rfl⟩ := hm2.1.shape
    have HM2 := Lib.hid hm2
    clear hm2 HPY
    go_wp2_with fail
    refine (ref_frame12 _ P w2 HM2.out.1.rd (by have := HPL.out; omega)).mono ?_
    rintro e w3 ⟨v3, rfl, hm3⟩
    obtain ⟨A3, c3, rfl⟩ := hm3.1.shape
    have HM3 := Lib.hid hm3
    clear hm3
    go_wp2
    go_ret2
    refine ⟨_, by rw [HFI.out]; rfl, ?_⟩
    rw [HEN.out]
    exact made_behind12 (HT1.out.trans HM2.out.2.1 (fun _ _ f => f)) HM3.out
  · have HZ := Lib.hid (encL_no hfit)
    obtain ⟨f, hf⟩ : ∃ f, f = fitL l n := ⟨_, rfl⟩
    rw [← hf] at HFT hfit
    have HF := Lib.hid HFT
    have HFF := Lib.hid hf
    have hx1 : (f == 0) = false := by rw [beq_eq_false_iff_ne]; exact hfit
    have hx2 : (f != 0) = true := by rw [bne_iff_ne]; exact hfit
    clear hf hfit HFT hr hok
    go_enter Tryz.func15, Tryz.ntmps15
    go_wp2_with fail
    refine HF.out.mono ?_
    rintro e w1 ⟨rfl, t1⟩
    have HT1 := Lib.hid t1
    clear t1 HF
    go_wp2
    go_ret2
    refine ⟨_, by rw [← HFF.out]; rfl, ?_⟩
    rw [HZ.out]
    exact ⟨By.nil _, HT1.out, fun k hk => by cases hk⟩

end Go.Proofs.YticglepkbihldaaGreat

namespace Go.Proofs.YticglepkbihldaaGreat.segioEncodes
open Go.ChangeShapes Go.WideShapes Go.ChangeAt Go.RowKit
set_option linter.unusedVariables false

theorem own : ownKnob Tryz.prog.godebug = none := by kernel_rfl
theorem laidOut : laidOutB Tryz.prog = true := by kernel_rfl

set_option maxRecDepth 100000 in
set_option maxHeartbeats 16000000 in
theorem walk (v : Value) (l : List R11) (n : Int) (_wn : (Lit.int .i64 n).wf = true) (w : World) (h : RdE ER w v l) (hlen : l.length ≤ maxLen) (hok : ∀ r ∈ l, okC r.c) :
    Calls Tryz.prog 4 #[v, .int .i64 n] w fun e w' => e = .returned (.bool true) ∧ Below w.heap.size w w' := by
  have HV := Lib.hid h
  have HOK := Lib.hid hok
  have HLI := Lib.hid (light_any12 v l w h hlen)
  have HAL : Hid (∀ W, Calls Tryz.prog 7 #[] W fun e w' => e = .returned (.bool true) ∧ Turn (fun _ => False) W w') := fun W => alive_any12 W
  obtain ⟨A, c, rfl⟩ := h.shape
  clear h _wn hlen hok
  cases hL : light12 l with
  | false =>
    rw [hL] at HLI
    clear hL
    go_enter Tryz.func4, Tryz.ntmps4
    go_wp2_with fail
    refine HLI.out.mono ?_
    rintro e w1 ⟨rfl, t1⟩
    have HT1 := Lib.hid t1
    clear t1 HLI
    go_wp2_with fail
    refine (HAL.out w1).mono ?_
    rintro e w2 ⟨rfl, t2⟩
    have HT2 := Lib.hid (HT1.out.trans t2 (fun _ _ f => f))
    clear t2
    go_wp2
    go_ret
    exact ⟨rfl, HT2.out.below (Nat.le_refl _) (fun _ f => f.elim)⟩
  | true =>
    rw [hL] at HLI
    obtain ⟨h60, hrr⟩ := light12_spec hL
    clear hL
    have HMD := Lib.hid (fun W (ht : Turn (fun _ => False) w W) => made_any12 _ l W (HV.out.later ht) HOK.out (by omega) hrr)
    have HEA := Lib.hid (fun (s : Value) (W : World) (hs : SV11 W s l) => encode_any12 s l n W hs (fun hf => by have := payB_len hf h60; omega))
    have HEB := Lib.hid (fun (W : World) (ht : Turn (fun _ => False) w W) => ref_encode12 _ l n W (HV.out.later ht) h60 hrr HOK.out)
    unfold Enc12 at HEA HEB
    obtain ⟨X, hX⟩ : ∃ X, X = encL l n := ⟨_, rfl⟩
    obtain ⟨f, hf⟩ : ∃ f, f = fitL l n := ⟨_, rfl⟩
    rw [← hX, ← hf] at HEA HEB
    have hff : (f == f) = true := by simp
    clear hrr hX hf
    go_enter Tryz.func4, Tryz.ntmps4
    go_wp2_with fail
    refine HLI.out.mono ?_
    rintro e w1 ⟨rfl, t1⟩
    have HT1 := Lib.hid t1
    clear t1 HLI
    go_wp2_with fail
    refine (HMD.out w1 HT1.out).mono ?_
    rintro e w2 ⟨s, rfl, hs, t2⟩
    have HE1 := Lib.hid (HEA.out s w2 hs)
    obtain ⟨ps, rfl⟩ := hs.ptr
    have HT2 := Lib.hid (HT1.out.trans t2 (fun _ _ f => f))
    clear hs t2 HMD
    go_wp2_with fail
    refine HE1.out.mono ?_
    rintro e w3 ⟨x, rfl, hm3⟩
    obtain ⟨A3, c3, rfl⟩ := hm3.1.shape
    have HR3 := Lib.hid hm3.1.rd; have HT3 := Lib.hid (HT2.out.trans hm3.2.1 (fun _ _ f => f))
    have HE2 := Lib.hid (HEB.out w3 HT3.out)
    clear hm3 HE1
    go_wp2_with fail
    refine HE2.out.mono ?_
    rintro e w4 ⟨y, rfl, hm4⟩
    obtain ⟨A4, c4, rfl⟩ := hm4.1.shape
    have HR4 := Lib.hid hm4.1.rd; have HR34 := Lib.hid (HR3.out.later hm4.2.1); have HT4 := Lib.hid (HT3.out.trans hm4.2.1 (fun _ _ f => f))
    clear hm4 HE2
    go_wp2_with fail
    refine (same_any _ _ X X w4 HR34.out HR4.out).mono ?_
    rintro e w5 ⟨rfl, hw5⟩
    subst hw5
    rw [beq_self_eq_true]
    go_wp2_with fail
    refine (HAL.out _).mono ?_
    rintro e w8 ⟨rfl, t8⟩
    have HT8 := Lib.hid (HT4.out.trans t8 (fun _ _ f => f))
    clear t8
    go_wp2
    go_ret
    exact ⟨rfl, HT8.out.below (Nat.le_refl _) (fun _ f => f.elim)⟩

set_option maxRecDepth 100000 in
set_option maxRecDepth 100000 in
theorem lifted (os : Os) (started : os.Started) (H : Type) (enc : TypeId × Value → H) :
    ReturnsInHanded {} Tryz.checked os 4 .any (Rows.segioEncodesSpec.pre6 enc Tryz.prog Tryz.f4 Rows.segioEncodesRow.domain false) (Rows.segioEncodesSpec.post enc Tryz.prog Tryz.f4 false true false false) := by
  refine returnsInHanded_of_change (C := Tryz.checked) own started (by kernel_rfl) Tryz.func4
    (ChangeSpec.witness6 (enc := enc) (C := Tryz.checked) false ⟨#[], #[.slice none 0 0, .int .i64 0], []⟩ 8 (by kernel_rfl) (by kernel_rfl) (by kernel_rfl) (by kernel_rfl)) ?_
  intro W base args ds gs before hval0 hW hcnd _
  have hval : ∀ (j : Nat) t v, Tryz.f4.params[j]? = some t → args[j]? = some v → Value.okWide Tryz.prog W .any base t v := hval0
  have hW' := hW
  obtain ⟨p, q, hA0, hV, rfl, hfz, hnd⟩ := hW
  have hA : DataW.TrodAll enc Tryz.prog W 0 (fun _ => true) true Tryz.f4.params.toList args.toList ds p := hA0
  rw [Tryz.params4] at hA hval
  obtain ⟨v0, vs0, d0, ds0, p0, q0, hargs, rfl, rfl, h0, r0⟩ := trodAll_cons hA
  obtain ⟨v1, vs1, d1, ds1, p1, q1, rfl, rfl, rfl, h1, r1⟩ := trodAll_cons r0
  obtain ⟨rfl, rfl, rfl⟩ := trodAll_nil r1
  obtain rfl : args = #[v0, v1] := by cases args; simp_all
  obtain ⟨rfl, rfl⟩ := trodVars_none hV
  have k0 := h0
  have lt0 : ∀ x ∈ p0, x.block < W.heap.size := by obtain ⟨m, hm⟩ := k0; exact DataW.trod_lt m _ _ _ hm
  obtain ⟨a0, len0, cap0, rfl⟩ := okWide_slice Tryz.underlying22 (hval 0 22 v0 rfl rfl)
  obtain ⟨l0, hp0, hl0, hf0⟩ := open_rows11 rfl h0
  obtain ⟨a1, rfl, rfl, rfl, w1⟩ := open_int Tryz.underlying3 (hval 1 3 v1 rfl rfl) h1
  clear hA0 hval0
  refine (walk _ l0 a1 w1 W hp0 hl0 hf0).mono fun e W' ⟨he, bel⟩ => ?_
  subst he
  exact ⟨_, rfl, _, _, _, [], _, [], hW', trodAll_mk1 (shut_bool Tryz.underlying4 _), (trodAll_cons_mk (Below.trod laidOut (by kernel_rfl) (of_decide_eq_true (by kernel_rfl)) k0 bel lt0) (trodAll_cons_mk (shut_int Tryz.underlying3 w1) trodAll_mk0)), rfl, bel.frame _, fun h => by cases h⟩

theorem over : Rows.segioEncodesRow.holds Tryz.pinned (OpenSpec.ofChange Rows.segioEncodesSpec) :=
  OpenClaim.holds_of_wide 4 Tryz.f4 rfl rfl rfl rfl rfl rfl rfl ⟨rfl, rfl, rfl, rfl, rfl⟩ rfl rfl rfl rfl rfl (by kernel_rfl) Tryz.func4 (by kernel_rfl)
    (of_decide_eq_true (by kernel_rfl)) (by unfold Func.isWrapper; first | (rw [if_pos (by decide +kernel)]; kernel_rfl) | (rw [if_neg (by decide +kernel)]; exact ⟨rfl, rfl⟩))
    (fun os started H enc _ => lifted os started H enc)

theorem proved : Rows.SegioEncodesSaid := over
#print axioms proved
end Go.Proofs.YticglepkbihldaaGreat.segioEncodes
