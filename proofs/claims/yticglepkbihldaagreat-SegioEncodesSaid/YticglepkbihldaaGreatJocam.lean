/-
  Texts laid one behind the other: An Md Sg Sh Sf Ig Sv Zt.
-/
import Derived.Test.YticglepkbihldaaGreatJocal
import Derived.Test.YticglepkbihldaaGreatJocag
import Derived.Lib.MinMax
import Derived.Test.YticglepkbihldaaGreatJocaf
import Derived.Deep.RegionHeld3
import Derived.Test.YticglepkbihldaaGreatJocah
import Derived.Test.YticglepkbihldaaGreatJocak
import Derived.Laws.ResultCell
import Derived.Test.YticglepkbihldaaGreatJocaj
import Derived.Test.YticglepkbihldaaGreatJocae

/-
  Stage 12: the program's reader: rows.
-/
namespace Go.Proofs.YticglepkbihldaaGreat
open Go.RowKit

set_option maxRecDepth 100000

abbrev kcells12 (k : K9) : Array Value := #[.int .i64 k.h, sv9 k.a, sv9 k.b, sv9 k.c, sv9 k.d]
theorem kcells_put12 (k : K9) (t : List UInt8) : ∀ d, d < 4 → (kcells12 k).setIfInBounds (1 + d) (sv9 t) = kcells12 (k.put d t) := fun d hd => by
  match d, hd with
  | 0, _ => rfl
  | 1, _ => rfl
  | 2, _ => rfl
  | 3, _ => rfl
theorem rowsR_fault {T : Nat → List (List UInt8)} {N i h : Nat} {s : St12} {out : List R11} {bad : Bool} (hf : (st4 (rowR T N (hourN h s) (gNum' s) bad).2.1).2 ≠ 0) : rowsR T N (i + 1) h s out bad = (st4 (rowR T N (hourN h s) (gNum' s) bad).2.1, [], (rowR T N (hourN h s) (gNum' s) bad).2.2) := if_pos hf
theorem rowsR_more {T : Nat → List (List UInt8)} {N i h : Nat} {s : St12} {out : List R11} {bad : Bool} (hf : (st4 (rowR T N (hourN h s) (gNum' s) bad).2.1).2 = 0) : rowsR T N (i + 1) h s out bad = rowsR T N i (hourN h s) (st4 (rowR T N (hourN h s) (gNum' s) bad).2.1) (out ++ [⟨(rowR T N (hourN h s) (gNum' s) bad).1, cellR (rowR T N (hourN h s) (gNum' s) bad).2.1⟩]) (rowR T N (hourN h s) (gNum' s) bad).2.2 := if_neg (by omega)
theorem plcR_succ (T : Nat → List (List UInt8)) (k0 : K9) (s : St12) (bad : Bool) (d : Nat) : plcR T k0 s bad (d + 1) = ((plcR T k0 s bad d).1.put d ((plcT12 (T d) (plcR T k0 s bad d).2.1).getD []), gCount' 65535 (plcR T k0 s bad d).2.1, (plcR T k0 s bad d).2.2 || (plcT12 (T d) (plcR T k0 s bad d).2.1).isNone) := rfl

/-- Behind rows. -/
def RowsD12 (w0 w : World) (p rb : Nat) (s : St12) (D : Nat → Option Addr) (T : Nat → List (List UInt8)) (bad : Bool) (N : Nat) (e : Ending) (w' : World) : Prop :=
  ∃ v, e = .returned v ∧ RX12 w0 w' p rb (rowsR T N (gCount 1048576 s) 0 (gCount' 1048576 s) [] bad).1 D T (rowsR T N (gCount 1048576 s) 0 (gCount' 1048576 s) [] bad).2.2 ∧ RdE ER w' v (rowsR T N (gCount 1048576 s) 0 (gCount' 1048576 s) [] bad).2.1 ∧ (rowsR T N (gCount 1048576 s) 0 (gCount' 1048576 s) [] bad).2.1.length ≤ 20000 ∧ Turn (fun g => g = p ∨ g = rb) w w'
/-- In the loop. -/
structure RowI12 (w0 w : World) (p rb : Nat) (D : Nat → Option Addr) (x5 : Value) (s : St12) (out : List R11) (bad : Bool) (V : World) : Prop where
  pr : PR w0 p V s
  box : Box V rb 111 (rcells12 p D bad)
  own : OwE ER 52 V x5 out
  new : ∀ k, x5.ownBlock = some k → w.heap.size ≤ k
  turn : Turn (fun g => g = p ∨ g = rb) w V
/-- In the loop within. -/
structure RowJ12 (w0 w : World) (p rb b7 : Nat) (D : Nat → Option Addr) (x5 : Value) (out : List R11) (k : K9) (s : St12) (bad : Bool) (V : World) : Prop where
  pr : PR w0 p V s
  box : Box V rb 111 (rcells12 p D bad)
  key : Box V b7 48 (kcells12 k)
  own : OwE ER 52 V x5 out
  turn : Turn (fun g => g = p ∨ g = rb) w V
/-- Behind a call on the reader. -/
theorem RowJ12.call {w0 w V V' : World} {p rb b7 : Nat} {D : Nat → Option Addr} {x5 : Value} {out : List R11} {k : K9} {s s' : St12} {bad bad' : Bool} {T : Nat → List (List UInt8)} (h : RowJ12 w0 w p rb b7 D x5 out k s bad V) (hx : RX12 w0 V' p rb s' D T bad') (ht : Turn (fun g => g = p ∨ g = rb) V V') : RowJ12 w0 w p rb b7 D x5 out k s' bad' V' := by
  obtain ⟨cs, hc⟩ := h.pr.box
  refine ⟨hx.pr, hx.box, h.key.turn ht (fun e => ?_), h.own.turn ht (fun g hg e => ?_), h.turn.trans ht (fun _ _ e => e)⟩
  · rcases e with e | e
    · rw [← e] at hc; exact absurd (box_type12 h.key hc).1 (by decide)
    · have hb := h.box
      rw [← e] at hb; exact absurd (box_type12 h.key hb).1 (by decide)
  · rcases e with e | e
    · subst e; exact h.own.not_box hc (by decide) hg
    · subst e; exact h.own.not_box h.box (by decide) hg
theorem RowJ12.later {w0 w V V' : World} {p rb b7 : Nat} {D : Nat → Option Addr} {x5 : Value} {out : List R11} {k : K9} {s : St12} {bad : Bool} (h : RowJ12 w0 w p rb b7 D x5 out k s bad V) (ht : Turn (fun _ => False) V V') : RowJ12 w0 w p rb b7 D x5 out k s bad V' :=
  ⟨h.pr.later ht, h.box.turn ht (fun f => f), h.key.turn ht (fun f => f), h.own.later ht, h.turn.trans ht (fun _ _ f => f.elim)⟩
/-- A text laid into the key. -/
theorem RowJ12.put {w0 w V : World} {p rb b7 : Nat} {D : Nat → Option Addr} {x5 : Value} {out : List R11} {k : K9} {s : St12} {bad : Bool} (h : RowJ12 w0 w p rb b7 D x5 out k s bad V) (h7 : w.heap.size ≤ b7) (h0 : w0.heap.size ≤ w.heap.size) {d : Nat} (hd : d < 4) (t : List UInt8) : RowJ12 w0 w p rb b7 D x5 out (k.put d t) s bad (V.setCell ⟨b7, 1 + d, none⟩ (sv9 t)) := by
  have ht : Turn (fun g => g = b7) V (V.setCell ⟨b7, 1 + d, none⟩ (sv9 t)) := Turn.setCell (S := fun g => g = b7) (p := ⟨b7, 1 + d, none⟩) (Turn.refl _ V) (fun _ => rfl) _
  refine ⟨h.pr.keep ht (fun g e => by omega) (fun g e => by subst e; exact ⟨_, _, by decide, by decide, h.key⟩), h.box.turn ht (fun e => ?_), ?_, h.own.turn ht (fun g hg e => ?_), h.turn.trans ht (fun g hg e => by omega)⟩
  · have hb := h.box
    rw [e] at hb
    exact absurd (box_type12 hb h.key).1 (by decide)
  · have := h.key.set (1 + d) (sv9 t)
    rw [kcells_put12 k t d hd] at this
    exact this
  · subst e
    exact h.own.not_box h.key (by decide) hg
set_option maxHeartbeats 16000000 in
theorem rows_read12 (w0 : World) (p rb : Nat) (s : St12) (D : Nat → Option Addr) (T : Nat → List (List UInt8)) (bad : Bool) (N : Nat) (hN : N ≤ 4) (w : World) (h : RX12 w0 w p rb s D T bad) (hl : s.1.length ≤ 20000) :
    Calls Tryz.prog 68 #[.pointer (some ⟨rb, 0, none⟩), .int .i64 (N : Int)] w fun e w' => RowsD12 w0 w p rb s D T bad N e w' := by
  have H := Lib.hid h
  have HC := Lib.hid (pr_count 1048576 (by omega) h.pr)
  have hcl := gcount_le 1048576 s
  have HNP := Lib.hid h.ne
  have hc0 : w.cell? ⟨rb, 0, none⟩ = some (.pointer (some ⟨p, 0, none⟩)) := h.box.cell 0
  unfold RowsD12
  obtain ⟨m, hm⟩ : ∃ m, m = gCount 1048576 s := ⟨_, rfl⟩
  obtain ⟨s1, hs1⟩ : ∃ s1, s1 = gCount' 1048576 s := ⟨_, rfl⟩
  have HK : Hid (s1.1.length ≤ 20000) := by show _ ≤ _; rw [hs1]; exact Nat.le_trans (gcount_short _ _) hl
  rw [← hm, ← hs1] at HC ⊢
  rw [← hm] at hcl
  have HW0 : Hid (w0.heap.size ≤ w.heap.size) := h.turn.size
  obtain ⟨R, hR⟩ : ∃ R, R = rowsR T N m 0 s1 [] bad := ⟨_, rfl⟩
  rw [← hR]
  have HR := Lib.hid hR
  clear h hl hm hs1 hR
  go_enter Tryz.func68, Tryz.ntmps68
  go_wp2_with fail
  refine HC.out.mono ?_
  rintro e w1 ⟨rfl, h1, t1⟩
  have HI0 : Hid (RowI12 w0 w p rb D (.slice none 0 0) s1 [] bad w1) := ⟨h1, H.out.box.turn t1 HNP.out, OwE.nil _, (fun k e => by simp [Value.ownBlock] at e), t1.mono fun _ _ e => .inl e⟩
  clear h1 t1 HC hc0
  go_wp2_with fail
  go_loopw [5, 6, 15] (fun x5 x6 x15 wr => ∃ (i h : Nat) (si : St12) (out : List R11) (bi : Bool), x15 = .int .i64 (i : Int) ∧ x6 = .int .u64 (h : Int) ∧ h ≤ 16777217 ∧ i ≤ m ∧ out.length = i ∧ i + si.1.length ≤ 20000 ∧ rowsR T N (m - i) h si out bi = R ∧ RowI12 w0 w p rb D x5 si out bi wr) (fun x5 x6 x15 _ => m - (intOf x15).toNat)
  case atStart => exact ⟨0, 0, s1, [], bad, rfl, rfl, by omega, Nat.zero_le _, rfl, by have := HK.out; omega, HR.out.symm, HI0.out⟩
  case round =>
    obtain ⟨i, h, si, out, bi, rfl, rfl, hh, hi, ho, hk, hd, hI⟩ := hrel
    have HI := Lib.hid hI; have HD := Lib.hid hd; have HKI := Lib.hid hk
    obtain ⟨A, c, hv⟩ := hI.own.shape
    rw [ho] at hv
    subst hv
    have HOL := Lib.hid ho
    have hc0 : wr.cell? ⟨rb, 0, none⟩ = some (.pointer (some ⟨p, 0, none⟩)) := HI.out.box.cell 0
    clear hI hd hk ho
    by_cases hlt : i < m
    · have hil : (i : Int) < m := by omega
      have HT := Lib.hid (pr_num HI.out.pr)
      obtain ⟨g, hg⟩ : ∃ g, g = gNum si := ⟨_, rfl⟩
      obtain ⟨g1, hg1⟩ : ∃ g1, g1 = min g 16777217 := ⟨_, rfl⟩
      obtain ⟨h', hh'⟩ : ∃ h', h' = min (h + g1) 16777217 := ⟨_, rfl⟩
      have HHN : Hid (hourN h si = h') := by show _ = _; unfold hourN; rw [hh', hg1, hg]
      have hgl : g < 18446744073709551616 := by rw [hg]; exact gnum_lt si
      have hm1 : min (g : Int) 16777217 = (g1 : Int) := by omega
      have hm2 : min ((h : Int) + (g1 : Int)) 16777217 = (h' : Int) := by omega
      have hwa : IntKind.u64.wrap ((h : Int) + (g1 : Int)) = (h : Int) + (g1 : Int) := by rw [IntKind.wrap_u64]; omega
      have hwh : IntKind.i64.wrap (h' : Int) = (h' : Int) := IntWalk.i64_in _ (by omega)
      have hh2 : h' ≤ 16777217 := by omega
      rw [← hg] at HT
      have HHL := Lib.hid hh2
      clear hg hg1 hh' hgl hh2
      go_wp2_with fail
      refine HT.out.mono ?_
      rintro e w2 ⟨rfl, h2, t2⟩
      have HP2 := Lib.hid h2; have HT2 := Lib.hid t2
      have HB2 := Lib.hid (HI.out.box.turn t2 HNP.out)
      clear h2 t2 HT
      go_wp2_with fail
      obtain ⟨b7, hb7⟩ : ∃ b7 : Nat, b7 = w2.heap.size := ⟨_, rfl⟩
      obtain ⟨w3, hw3⟩ : ∃ w3, w3 = w2.alloc (.cells #[.int .i64 (h' : Int), .string ⟨#[]⟩, .string ⟨#[]⟩, .string ⟨#[]⟩, .string ⟨#[]⟩] 48) := ⟨_, rfl⟩
      rw [← hw3, ← hb7]
      have hAl : Turn (fun _ => False) w2 w3 := by rw [hw3]; exact (Turn.refl _ w2).alloc _
      have HTW2 : Hid (Turn (fun g => g = p ∨ g = rb) w w2) := HI.out.turn.trans HT2.out (fun _ _ e => .inl e)
      have H7 : Hid (w.heap.size ≤ b7) := by show _ ≤ _; rw [hb7]; exact HTW2.out.size
      have HJ0 : Hid (RowJ12 w0 w p rb b7 D (.slice A i c) out ⟨(h' : Int), [], [], [], []⟩ (gNum' si) bi w3) := by
        have hK : Box w3 b7 48 (kcells12 ⟨(h' : Int), [], [], [], []⟩) := by rw [hw3, hb7]; exact Box.new w2 _ _
        refine ⟨HP2.out.later hAl, HB2.out.turn hAl (fun f => f), hK, ?_, HTW2.out.trans hAl (fun _ _ f => f.elim)⟩
        refine (HI.out.own.turn HT2.out (fun k hk e => ?_)).later hAl
        subst e
        obtain ⟨cs, hc⟩ := HI.out.pr.box
        exact HI.out.own.not_box hc (by decide) hk
      clear hw3 hb7 hAl
      go_loopw [30] (fun x30 wz => ∃ (d : Nat) (k : K9) (sd : St12) (bd : Bool), x30 = .int .i64 (d : Int) ∧ d ≤ N ∧ plcR T ⟨(h' : Int), [], [], [], []⟩ (gNum' si) bi d = (k, sd, bd) ∧ RowJ12 w0 w p rb b7 D (.slice A i c) out k sd bd wz) (fun x30 _ => N - (intOf x30).toNat)
      case atStart => exact ⟨0, _, _, _, rfl, Nat.zero_le _, rfl, HJ0.out⟩
      case round =>
        clear HJ0
        obtain ⟨d, k, sd, bd, rfl, hdN, hpl, hJ⟩ := hrel
        have HJ := Lib.hid hJ; have HPL := Lib.hid hpl
        clear hJ hpl
        by_cases hdl : d < N
        · have hdl2 : (d : Int) < N := by omega
          have hd4 : (d : Int) < 4 := by omega
          have HTX := Lib.hid (text_any12 w0 p rb sd D T bd d (by omega) wr (H.out.step HJ.out.pr HJ.out.box HJ.out.turn))
          go_wp2_with fail
          refine HTX.out.mono ?_
          rintro e w4 ⟨rfl, hx, tx⟩
          have HJ4 := Lib.hid (HJ.out.call hx tx)
          obtain ⟨tt, htt⟩ : ∃ tt, tt = (plcT12 (T d) sd).getD [] := ⟨_, rfl⟩
          have HNX : Hid (plcR T ⟨(h' : Int), [], [], [], []⟩ (gNum' si) bi (d + 1) = (k.put d tt, gCount' 65535 sd, bd || (plcT12 (T d) sd).isNone)) := by
            show _ = _
            rw [plcR_succ, HPL.out, htt]
          rw [← htt]
          have HPT := Lib.hid (HJ4.out.put H7.out HW0.out (show d < 4 by omega) tt)
          have hc7 : w4.cell? ⟨b7, 1 + d, none⟩ = some (sv9 (k.dim d)) := by rw [HJ4.out.key.cell]; exact key_cells d (by omega)
          have hf7 := HJ4.out.key.free (1 + d)
          unfold sv9 at hc7 HPT
          clear hx tx htt HTX
          unfold sv10
          go_wp2
          go_roundw
          case rel => exact ⟨d + 1, _, _, _, by go_num, hdl, HNX.out, HPT.out⟩
          case measure => simp [intOf]; omega
        · obtain rfl : d = N := by omega
          have HROW : Hid (rowR T d (hourN h si) (gNum' si) bi = (k, sd, bd)) := by show _ = _; unfold rowR; rw [HHN.out]; exact HPL.out
          have HCE := Lib.hid (cell_any12 w0 p rb sd D T bd wr (H.out.step HJ.out.pr HJ.out.box HJ.out.turn))
          go_wp2_with fail
          refine HCE.out.mono ?_
          rintro e w4 ⟨rfl, hx, tx⟩
          have HJ4 := Lib.hid (HJ.out.call hx (tx.mono fun _ _ e => .inl e))
          obtain ⟨cc, hcc⟩ : ∃ cc, cc = cellR sd := ⟨_, rfl⟩
          obtain ⟨s4, hs4⟩ : ∃ s4, s4 = st4 sd := ⟨_, rfl⟩
          have HCC := Lib.hid hcc; have HS4 := Lib.hid hs4
          rw [← hcc]
          rw [← hs4] at HJ4
          clear hx tx HCE hcc hs4
          have hAl : Turn (fun _ => False) w4 (w4.alloc (.cells #[.int .i64 cc.n, .int .i64 cc.s, .int .i64 cc.lo, .int .i64 cc.hi] 50)) := (Turn.refl _ w4).alloc _
          have HAL := Lib.hid hAl
          have HJ5 := Lib.hid (HJ4.out.later hAl)
          have HB9 : Hid (Box (w4.alloc (.cells #[.int .i64 cc.n, .int .i64 cc.s, .int .i64 cc.lo, .int .i64 cc.hi] 50)) w4.heap.size 50 #[.int .i64 cc.n, .int .i64 cc.s, .int .i64 cc.lo, .int .i64 cc.hi]) := Box.new w4 _ _
          have hc0 : (w4.alloc (.cells #[.int .i64 cc.n, .int .i64 cc.s, .int .i64 cc.lo, .int .i64 cc.hi] 50)).cell? ⟨rb, 0, none⟩ = some (.pointer (some ⟨p, 0, none⟩)) := HJ5.out.box.cell 0
          have k0 := HJ5.out.key.cell 0; have k1 := HJ5.out.key.cell 1; have k2 := HJ5.out.key.cell 2; have k3 := HJ5.out.key.cell 3; have k4 := HJ5.out.key.cell 4
          have z0 := HB9.out.cell 0; have z1 := HB9.out.cell 1; have z2 := HB9.out.cell 2; have z3 := HB9.out.cell 3
          simp only [kcells12] at k0 k1 k2 k3 k4
          have HF := Lib.hid (pr_fault HJ5.out.pr)
          clear hAl
          unfold cv
          go_wp2_with fail
          refine HF.out.mono ?_
          rintro e w5' ⟨rfl, hw⟩
          subst hw
          clear HF
          by_cases hz : s4.2 = 0
          · have HMO : Hid (rowsR T d (m - (i + 1)) h' s4 (out ++ [⟨k, cc⟩]) bd = R) := by
              show _ = _
              rw [← HD.out, show m - i = m - (i + 1) + 1 by omega, rowsR_more (by rw [HROW.out]; show (st4 sd).2 = 0; rw [← HS4.out]; exact hz), HROW.out, HHN.out, HCC.out, HS4.out]
            have HKN : Hid (i + 1 + s4.1.length ≤ 20000) := by
              show _ ≤ _
              have h1 := (rowR_less (T := T) (N := d) (h := hourN h si) (s := si) (bad := bi) (by rw [HROW.out]; show (st4 sd).2 = 0; rw [← HS4.out]; exact hz)).2
              rw [HROW.out] at h1
              have h2 : (st4 sd).1.length + 1 ≤ si.1.length := h1
              rw [← HS4.out] at h2
              have := HKI.out
              omega
            rw [hz]
            clear hz
            have HN6 := Lib.hid (HJ5.out.own.later ((Turn.refl _ (w4.alloc (.cells #[.int .i64 cc.n, .int .i64 cc.s, .int .i64 cc.lo, .int .i64 cc.hi] 50))).alloc (.cells (cells11 ⟨k, cc⟩) 52)))
            have HSR : Hid (RdE ER ((w4.alloc (.cells #[.int .i64 cc.n, .int .i64 cc.s, .int .i64 cc.lo, .int .i64 cc.hi] 50)).alloc (.cells (cells11 ⟨k, cc⟩) 52)) (.slice (some ⟨w4.heap.size + 1, 0, none⟩) 1 1) [⟨k, cc⟩]) := by
              have h := one_row ER 52 (w4.alloc (.cells #[.int .i64 cc.n, .int .i64 cc.s, .int .i64 cc.lo, .int .i64 cc.hi] 50)) ⟨k, cc⟩
              rw [World.size_alloc] at h
              exact h
            have HPA := Lib.hid (HJ5.out.later ((Turn.refl _ (w4.alloc (.cells #[.int .i64 cc.n, .int .i64 cc.s, .int .i64 cc.lo, .int .i64 cc.hi] 50))).alloc (.cells (cells11 ⟨k, cc⟩) 52)))
            have HLEN : Hid (out.length + [(⟨k, cc⟩ : R11)].length ≤ 1000000) := by
              show _ ≤ _
              have := HKI.out
              rw [HOL.out]
              simp only [List.length_cons, List.length_nil]
              omega
            have HAPP : Hid (∀ (A3 : Option Addr) (n3 c3 : Nat) (W : World), OwE ER 52 W (.slice A3 n3 c3) (out ++ [⟨k, cc⟩]) → Turn (fun k => (Value.slice A i c).ownBlock = some k) ((w4.alloc (.cells #[.int .i64 cc.n, .int .i64 cc.s, .int .i64 cc.lo, .int .i64 cc.hi] 50)).alloc (.cells (cells11 ⟨k, cc⟩) 52)) W → ((Value.slice A3 n3 c3).ownBlock = (Value.slice A i c).ownBlock ∨ (Value.slice A3 n3 c3).ownBlock = some ((w4.alloc (.cells #[.int .i64 cc.n, .int .i64 cc.s, .int .i64 cc.lo, .int .i64 cc.hi] 50)).alloc (.cells (cells11 ⟨k, cc⟩) 52)).heap.size) → RowI12 w0 w p rb D (.slice A3 n3 c3) s4 (out ++ [⟨k, cc⟩]) bd W) := by
              intro A3 n3 c3 W ho3 ht3 hn3
              have hnew : ∀ k, (Value.slice A i c).ownBlock = some k → w.heap.size ≤ k := HI.out.new
              refine ⟨HPA.out.pr.own HN6.out (by decide) (by decide) (fun k hk => Nat.le_trans HW0.out (hnew k hk)) ht3, HPA.out.box.turn ht3 (fun e => HN6.out.not_box HPA.out.box (by decide) e), ho3, fun g hg => ?_, HPA.out.turn.trans ht3 (fun g hg e => by have := hnew g e; omega)⟩
              rcases hn3 with e | e
              · exact hnew g (e.symm.trans hg)
              · rw [hg] at e
                injection e with e
                rw [e]
                exact HPA.out.turn.size
            go_wp2_with (at_builtin; refine wpList_rows11 _ rfl _ _ rfl _ out rfl HN6.out _ rfl [⟨k, cc⟩] HSR.out HLEN.out ?_; intro A3 n3 c3 w6 ho3 ht3 hn3; have HX := Lib.hid (HAPP.out A3 n3 c3 w6 ho3 ht3 hn3); clear ho3 ht3 hn3)
            go_roundw
            case rel => exact ⟨i + 1, h', s4, out ++ [⟨k, cc⟩], bd, by go_num, rfl, HHL.out, hlt, by rw [List.length_append, HOL.out]; rfl, HKN.out, HMO.out, HX.out⟩
            case measure => simp [intOf]; omega
          · have HFA : Hid (R = (s4, [], bd)) := by
              show _ = _
              rw [← HD.out, show m - i = m - (i + 1) + 1 by omega, rowsR_fault (by rw [HROW.out]; show (st4 sd).2 ≠ 0; rw [← HS4.out]; exact hz), HROW.out, HS4.out]
            have hx2 : (((s4.2 : Int) != 0) = true) := by rw [bne_iff_ne]; omega
            have hx1 : (((s4.2 : Int) == 0) = false) := by rw [beq_eq_false_iff_ne]; omega
            clear hz
            go_wp2
            go_ret
            refine ⟨_, rfl, ?_, ?_, ?_, HJ5.out.turn⟩
            · rw [HFA.out]
              exact H.out.step HJ5.out.pr HJ5.out.box HJ5.out.turn
            · rw [HFA.out]
              exact RdE.nil _
            · rw [HFA.out]
              exact Nat.zero_le _
    · obtain rfl : i = m := by omega
      have HFI : Hid (R = (si, out, bi)) := by
        show _ = _
        rw [← HD.out, Nat.sub_self]
        rfl
      go_wp2
      go_ret
      refine ⟨_, rfl, ?_, ?_, ?_, HI.out.turn⟩
      · rw [HFI.out]
        exact H.out.step HI.out.pr HI.out.box HI.out.turn
      · rw [HFI.out]
        exact HI.out.own.rd
      · rw [HFI.out, HOL.out]
        have := HKI.out
        omega

end Go.Proofs.YticglepkbihldaaGreat

/-
  The cell of values, by the program and by the document.
-/
namespace Go.Proofs.YticglepkbihldaaGreat
open Go.RowKit

/-- A cell's numbers, in memory. -/
def ca (c : Cl) : Array Value := #[.int .i64 c.n, .int .i64 c.s, .int .i64 c.lo, .int .i64 c.hi]
theorem box_cells {w : World} {g : Nat} {t : TypeId} {n s lo hi : Int} (h : Box w g t (ca ⟨n, s, lo, hi⟩)) :
    (w.cell? ⟨g, 0, none⟩ = some (.int .i64 n) ∧ w.cell? ⟨g, 1, none⟩ = some (.int .i64 s) ∧ w.cell? ⟨g, 2, none⟩ = some (.int .i64 lo) ∧ w.cell? ⟨g, 3, none⟩ = some (.int .i64 hi)) ∧
    (w.frozen? ⟨g, 0, none⟩ = false ∧ w.frozen? ⟨g, 1, none⟩ = false ∧ w.frozen? ⟨g, 2, none⟩ = false ∧ w.frozen? ⟨g, 3, none⟩ = false) :=
  ⟨⟨h.cell 0, h.cell 1, h.cell 2, h.cell 3⟩, ⟨h.free 0, h.free 1, h.free 2, h.free 3⟩⟩
theorem box_set4 {w : World} {g : Nat} {t : TypeId} {c : Cl} {n s lo hi : Int} (h : Box w g t (ca c)) :
    Box ((((w.setCell ⟨g, 0, none⟩ (.int .i64 n)).setCell ⟨g, 1, none⟩ (.int .i64 s)).setCell ⟨g, 2, none⟩ (.int .i64 lo)).setCell ⟨g, 3, none⟩ (.int .i64 hi)) g t (ca ⟨n, s, lo, hi⟩) :=
  (((h.set 0 _).set 1 _).set 2 _).set 3 _
theorem turn_set4 {S : Nat → Prop} {w0 w : World} {g : Nat} {a b c d : Value} (h : Turn S w0 w) (hg : g < w0.heap.size → S g) :
    Turn S w0 ((((w.setCell ⟨g, 0, none⟩ a).setCell ⟨g, 1, none⟩ b).setCell ⟨g, 2, none⟩ c).setCell ⟨g, 3, none⟩ d) :=
  (((h.setCell hg _).setCell hg _).setCell hg _).setCell hg _

/-- Behind a value put to a cell in memory. -/
def PAdd (g : Nat) (o : Option Cl) (w : World) (e : Ending) (w' : World) : Prop :=
  e = .returned (.bool o.isSome) ∧ Box w' g 50 (ca (o.getD Cl.zero)) ∧ Turn (fun k => k = g) w w'

theorem outC_shape (o : Option Cl) : ∃ n s lo hi, outC o = .tuple #[.agg #[.int .i64 n, .int .i64 s, .int .i64 lo, .int .i64 hi], .bool o.isSome] ∧ o.getD Cl.zero = ⟨n, s, lo, hi⟩ := by
  cases o with
  | none => exact ⟨0, 0, 0, 0, rfl, rfl⟩
  | some c => exact ⟨c.n, c.s, c.lo, c.hi, rfl, rfl⟩

/-- The cell of the values so far, in memory, and the place of the answer. -/
structure AS (w wr : World) (l : List Int) (k : Nat) (c : Cl) : Prop where
  row : Box wr (w.heap.size + 1) 50 (ca c)
  out : Box wr w.heap.size 50 (ca Cl.zero)
  turn : Turn (fun _ => False) w wr
  is : allC (l.take k) = some c
  ok : okC c
theorem as_start (w : World) (l : List Int) : AS w ((w.alloc (.cells #[.int .i64 0, .int .i64 0, .int .i64 0, .int .i64 0] 50)).alloc (.cells #[.int .i64 0, .int .i64 0, .int .i64 0, .int .i64 0] 50)) l 0 Cl.zero := by
  refine ⟨?_, (Box.new w _ _).alloc _, ((Turn.refl _ w).alloc _).alloc _, rfl, okC_zero⟩
  have h := Box.new (w.alloc (.cells #[.int .i64 0, .int .i64 0, .int .i64 0, .int .i64 0] 50)) 50 (ca Cl.zero)
  rw [show (w.alloc (.cells #[.int .i64 0, .int .i64 0, .int .i64 0, .int .i64 0] 50)).heap.size = w.heap.size + 1 by simp] at h
  exact h
theorem as_step {w wr w' : World} {l : List Int} {k : Nat} {c d : Cl} {x : Int} (h : AS w wr l k c) (hx : l[k]? = some x) (hf : fit x = true) (hm : mergeC c (Cl.of x) = some d)
    (hb : Box w' (w.heap.size + 1) 50 (ca d)) (ht : Turn (fun j => j = w.heap.size + 1) wr w') : AS w w' l (k + 1) d := by
  refine ⟨hb, h.out.turn ht (fun e => by omega), h.turn.trans ht (fun j hj e => by omega), ?_, okC_merge h.ok (okC_of hf) hm⟩
  rw [allC_take hx, h.is]
  exact hm
theorem all_no {l : List Int} {k : Nat} {c : Cl} {x : Int} (h : allC (l.take k) = some c) (hx : l[k]? = some x) (hm : mergeC c (Cl.of x) = none) : Ending.returned (.tuple #[cv Cl.zero, .bool false]) = .returned (outC (allC l)) := by
  have : allC (l.take (k + 1)) = none := by rw [allC_take hx, h]; exact hm
  rw [allC_none this]
  rfl
theorem all_yes {l : List Int} {k : Nat} {c : Cl} (h : allC (l.take k) = some c) (hk : k = l.length) : Ending.returned (.tuple #[cv c, .bool true]) = .returned (outC (allC l)) := by
  rw [hk, List.take_length] at h
  rw [h]
  rfl

theorem new_one {w w3 : World} {o : Obj} (h : Turn (fun _ => False) ((w.alloc (.cells #[.int .i64 0, .int .i64 0, .int .i64 0, .int .i64 0] 50)).alloc o).drew w3) : Box w3 w.heap.size 50 (ca ⟨0, 0, 0, 0⟩) :=
  Box.turn (Box.turn ((Box.new w _ _).alloc o) (Turn.refl (fun _ => False) _).drew (fun f => f)) h (fun f => f)
theorem new_two {w w3 : World} {o : Obj} (h : Turn (fun _ => False) ((w.alloc o).alloc (.cells #[.int .i64 0, .int .i64 0, .int .i64 0, .int .i64 0] 50)).drew w3) : Box w3 (w.heap.size + 1) 50 (ca ⟨0, 0, 0, 0⟩) := by
  have hb := Box.new (w.alloc o) 50 (ca Cl.zero)
  rw [show (w.alloc o).heap.size = w.heap.size + 1 by simp] at hb
  exact Box.turn (Box.turn hb (Turn.refl (fun _ => False) _).drew (fun f => f)) h (fun f => f)

theorem as_keep {w : World} {g k : Nat} {n s lo hi x : Int} {ad : Addr} (hb : Box w g 50 (ca ⟨n, s, lo, hi⟩)) (hc : w.cell? (ad.add k) = some (.int .i64 x)) (w' : World) (ht : Turn (fun _ => False) w w') :
    (w'.cell? ⟨g, 0, none⟩ = some (.int .i64 n) ∧ w'.cell? ⟨g, 1, none⟩ = some (.int .i64 s) ∧ w'.cell? ⟨g, 2, none⟩ = some (.int .i64 lo) ∧ w'.cell? ⟨g, 3, none⟩ = some (.int .i64 hi) ∧ w'.cell? (ad.add k) = some (.int .i64 x)) ∧ Turn (fun _ => False) w w' := by
  have hb' := hb.turn ht (fun f => f)
  refine ⟨⟨hb'.cell 0, hb'.cell 1, hb'.cell 2, hb'.cell 3, ?_⟩, ht⟩
  rw [ht.cell (World.block_lt_of_cell? w _ hc) (fun f => f)]
  exact hc

end Go.Proofs.YticglepkbihldaaGreat

/-
  Stage 11: the document's Put.
-/
namespace Go.Proofs.YticglepkbihldaaGreat
open Go.RowKit

set_option maxRecDepth 100000

/-- Behind Put, Of, Merge of the document: the rows, or none and Overflow. -/
def Put11 (w : World) (o : Option (List R11)) (e : Ending) (w' : World) : Prop :=
  ∃ v, e = .returned (.tuple #[v, .int .i64 (if o.isSome then 0 else 6)]) ∧ RdE ER w' v (o.getD []) ∧ Turn (fun _ => False) w w'
theorem cmpK_lt0 {p q : K9} : (keyLt p q = true ∧ cmpK p q < 0) ∨ (keyLt p q = false ∧ ¬ cmpK p q < 0) := by
  rcases cmpK_cases p q with ⟨h, e, _⟩ | ⟨h, e, _⟩ | ⟨h, e⟩
  · exact .inl ⟨h, by rw [e]; decide⟩
  · exact .inr ⟨rises_key.asym h, by rw [e]; decide⟩
  · exact .inr ⟨by rw [h, key_irr], by rw [e]; decide⟩
theorem cell_all11 (c : Cl) : (ca c).all (·.oneCell') = true := by
  refine Array.all_eq_true.2 fun i hi => ?_
  match i, hi with
  | 0, _ => rfl
  | 1, _ => rfl
  | 2, _ => rfl
  | 3, _ => rfl

theorem row_sets11 {w : World} {b : Nat} {x : R11} (h : Box w b 52 (cells11 x)) (n s lo hi : Int) :
    Box ((((w.setCell ⟨b, 5, none⟩ (.int .i64 n)).setCell ⟨b, 6, none⟩ (.int .i64 s)).setCell ⟨b, 7, none⟩ (.int .i64 lo)).setCell ⟨b, 8, none⟩ (.int .i64 hi)) b 52 (cells11 ⟨x.k, ⟨n, s, lo, hi⟩⟩) := by
  have h4 := (((h.set 5 (.int .i64 n)).set 6 (.int .i64 s)).set 7 (.int .i64 lo)).set 8 (.int .i64 hi)
  simp only [List.setIfInBounds_toArray, List.set_cons_succ, List.set_cons_zero] at h4
  exact h4

theorem row_turn11 (w : World) (b : Nat) (n s lo hi : Int) :
    Turn (fun g => g = b) w ((((w.setCell ⟨b, 5, none⟩ (.int .i64 n)).setCell ⟨b, 6, none⟩ (.int .i64 s)).setCell ⟨b, 7, none⟩ (.int .i64 lo)).setCell ⟨b, 8, none⟩ (.int .i64 hi)) := by
  have h1 := (Turn.refl (fun g => g = b) w).setCell (p := ⟨b, 5, none⟩) (fun _ => rfl) (.int .i64 n)
  have h2 := h1.setCell (p := ⟨b, 6, none⟩) (fun _ => rfl) (.int .i64 s)
  have h3 := h2.setCell (p := ⟨b, 7, none⟩) (fun _ => rfl) (.int .i64 lo)
  exact h3.setCell (p := ⟨b, 8, none⟩) (fun _ => rfl) (.int .i64 hi)

end Go.Proofs.YticglepkbihldaaGreat

/-
  Stage 11: the document's Of and Merge.
-/
namespace Go.Proofs.YticglepkbihldaaGreat
open Go.RowKit

set_option maxRecDepth 100000

theorem putR_len {x : R11} : ∀ {l m : List R11}, putR x l = some m → m.length ≤ l.length + 1
  | [], m, h => by cases h; exact Nat.le_refl _
  | r :: t, m, h => by
    unfold putR at h
    split at h
    · obtain ⟨m', h1, rfl⟩ := Option.map_eq_some_iff.1 h
      have := putR_len h1
      simp only [List.length_cons]
      omega
    · split at h
      · obtain ⟨c, _, rfl⟩ := Option.map_eq_some_iff.1 h
        simp
      · cases h; simp
theorem putR_ok {x : R11} (hx : okC x.c) : ∀ {l m : List R11}, (∀ r ∈ l, okC r.c) → putR x l = some m → ∀ r ∈ m, okC r.c
  | [], m, _, h => by cases h; intro r hr; rw [List.mem_singleton.1 hr]; exact hx
  | r :: t, m, hl, h => by
    unfold putR at h
    have hr := hl r (List.mem_cons_self ..)
    have ht : ∀ y ∈ t, okC y.c := fun y hy => hl y (List.mem_cons_of_mem _ hy)
    split at h
    · obtain ⟨m', h1, rfl⟩ := Option.map_eq_some_iff.1 h
      have ih := putR_ok hx ht h1
      intro y hy
      rcases List.mem_cons.1 hy with rfl | hy
      · exact hr
      · exact ih y hy
    · split at h
      · obtain ⟨c, hc, rfl⟩ := Option.map_eq_some_iff.1 h
        intro y hy
        rcases List.mem_cons.1 hy with rfl | hy
        · exact okC_merge hr hx hc
        · exact ht y hy
      · cases h
        intro y hy
        rcases List.mem_cons.1 hy with rfl | hy
        · exact hx
        · exact hl y hy
theorem puts_snoc {pre acc : List R11} {x : R11} (h : putsR [] pre = some acc) : putsR [] (pre ++ [x]) = putR x acc := by
  rw [putsR_append, h]
  show putsR acc [x] = _
  unfold putsR
  cases putR x acc <;> rfl
theorem puts_stop {pre post acc : List R11} {x : R11} (h : putsR [] pre = some acc) (hx : putR x acc = none) : putsR [] (pre ++ x :: post) = none := by
  rw [putsR_append, h]
  show putsR acc (x :: post) = _
  unfold putsR
  rw [hx]
  rfl
theorem split_at11 {A : Type} {l : List A} {i : Nat} {x : A} (h : l[i]? = some x) : l.take (i + 1) = l.take i ++ [x] ∧ l = l.take i ++ x :: l.drop (i + 1) := by
  obtain ⟨h0, e⟩ := List.getElem?_eq_some_iff.1 h
  refine ⟨by rw [List.take_succ_eq_append_getElem h0, e], ?_⟩
  conv => lhs; rw [← List.take_append_drop i l]
  rw [List.drop_eq_getElem_cons h0, e]

/-- Behind i rows put. -/
structure PutsTo (w : World) (pre acc : List R11) (n : Nat) (v : Value) (wr : World) : Prop where
  is : putsR [] pre = some acc
  ok : ∀ r ∈ acc, okC r.c
  len : acc.length ≤ n
  rd : RdE ER wr v acc
  turn : Turn (fun _ => False) w wr

/-- A slice value's cell. -/
def ESL : El (Option Addr × Nat × Nat) where
  sz := 1
  enc s := [.slice s.1 s.2.1 s.2.2]
  len _ := rfl
  one s u hu := by rw [List.mem_singleton.1 hu]; rfl
/-- A slice of slices of rows. -/
structure RdS (w : World) (v : Value) (ls : List (List R11)) : Prop where
  out : ∃ L : List (Option Addr × Nat × Nat), RdE ESL w v L ∧ L.length = ls.length ∧ ∀ (j : Nat) (s : Option Addr × Nat × Nat) (x : List R11), L[j]? = some s → ls[j]? = some x → RdE ER w (.slice s.1 s.2.1 s.2.2) x
theorem RdS.later {w w' : World} {v : Value} {ls : List (List R11)} (h : RdS w v ls) (ht : Turn (fun _ => False) w w') : RdS w' v ls := by
  obtain ⟨L, h1, h2, h3⟩ := h.out
  exact ⟨L, h1.later ht, h2, fun j s x a b => (h3 j s x a b).later ht⟩
theorem RdS.shape {w : World} {v : Value} {ls : List (List R11)} (h : RdS w v ls) : ∃ A c, v = .slice A ls.length c := by
  obtain ⟨L, h1, h2, _⟩ := h.out
  obtain ⟨A, c, e⟩ := h1.shape
  exact ⟨A, c, by rw [e, h2]⟩
theorem slice_at11 {w : World} {A : Option Addr} {n c : Nat} {ls : List (List R11)} (h : RdS w (.slice A n c) ls) {j : Nat} {x : List R11} (hj : ls[j]? = some x) :
    ∃ ad B d, A = some ad ∧ RdE ER w (.slice B x.length d) x ∧ ∀ W, Turn (fun _ => False) w W → W.cell? (ad.add j) = some (.slice B x.length d) := by
  obtain ⟨L, h1, h2, h3⟩ := h.out
  have hlt : j < L.length := by have := (List.getElem?_eq_some_iff.1 hj).1; omega
  obtain ⟨⟨B, m, d⟩, hs⟩ : ∃ s, L[j]? = some s := ⟨_, List.getElem?_eq_getElem hlt⟩
  have hr := h3 j _ x hs hj
  have hm : m = x.length := hr.fits.1
  subst hm
  obtain ⟨ad, hA, _⟩ := h1.cells hs
  refine ⟨ad, B, d, hA, hr, fun W ht => ?_⟩
  obtain ⟨ad', hA', hc⟩ := (h1.later ht).cells hs
  rw [hA] at hA'
  cases hA'
  have h4 := hc 0 _ rfl
  rwa [show j * ESL.sz + 0 = j from by simp [ESL]] at h4

end Go.Proofs.YticglepkbihldaaGreat

/-
  Stage 11: the document's Total.
-/
namespace Go.Proofs.YticglepkbihldaaGreat
open Go.RowKit

set_option maxRecDepth 100000

theorem totalR_append (c : Cl) (l m : List R11) : totalR c (l ++ m) = (totalR c l).bind fun d => totalR d m := by
  induction l generalizing c with
  | nil => rfl
  | cons x l ih =>
    show (match mergeC c x.c with | some d => totalR d (l ++ m) | none => none) = (match mergeC c x.c with | some d => totalR d l | none => none).bind _
    cases mergeC c x.c with
    | none => rfl
    | some d => exact ih d
theorem totalR_take {c : Cl} {l : List R11} {i : Nat} {r : R11} (h : l[i]? = some r) : totalR c (l.take (i + 1)) = (totalR c (l.take i)).bind fun d => mergeC d r.c := by
  obtain ⟨hk, e⟩ := List.getElem?_eq_some_iff.1 h
  rw [List.take_succ_eq_append_getElem hk, e, totalR_append]
  congr 1
  funext d
  show (match mergeC d r.c with | some e => some e | none => none) = _
  cases mergeC d r.c <;> rfl
theorem totalR_none {c : Cl} {l : List R11} {i : Nat} (h : totalR c (l.take i) = none) : totalR c l = none := by
  rw [← List.take_append_drop i l, totalR_append, h]
  rfl
theorem cell_one11 (c : Cl) : (ca c).all (·.oneCell') = true := by
  refine Array.all_eq_true.2 fun i hi => ?_
  match i, hi with
  | 0, _ => rfl
  | 1, _ => rfl
  | 2, _ => rfl
  | 3, _ => rfl

end Go.Proofs.YticglepkbihldaaGreat

/-
  A range over a function whose rounds may turn what they have laid themselves (a row that grows by append): the iterator's promise asks nothing of new blocks. No type is named.
-/
namespace Go.Proofs.YticglepkbihldaaGreat
open Go.RowKit

/-- The contract of an iterator value, as Feeds, of whatever blocks may turn. -/
def Feeds3 {α : Type} (n : Nat) (g : Nat) (lb : Array Value) (encs : α → Array Value) (S : Nat → Prop) (Gv : List α → α → World → Prop) (All Part : List α → Prop) (w : World) : Prop :=
  ∀ (l : Nat) (J Jx : List α → World → Prop) (W : World), Turn (fun _ => False) w W → l < W.heap.size → Holds W.heap.size J → Holds W.heap.size Jx →
    (∀ pre x W1, J pre W1 → Gv pre x W1 → YieldAt Fence.wide (n - 1) Tryz.prog l (encs x) W1 fun e W' =>
      (e = .returned (.bool true) ∧ J (pre ++ [x]) W' ∧ Turn S W1 W' ∧ Still (l + 1) W1 W') ∨ (e = .returned (.bool false) ∧ Jx (pre ++ [x]) W' ∧ Still (l + 1) W1 W')) →
    J [] W →
    CallsIn Fence.wide n Tryz.prog g (#[.func (.yield l) #[] #[]] ++ lb) W fun e W' => (∃ v, e = .returned v) ∧ ((∃ xs, All xs ∧ J xs W') ∨ (∃ pre, Part pre ∧ Jx pre W'))
theorem Feeds3.feeds {α : Type} {n g : Nat} {lb : Array Value} {encs : α → Array Value} {S : Nat → Prop} {Gv : List α → α → World → Prop} {All Part : List α → Prop} {w : World} (h : Feeds3 n g lb encs S Gv All Part w) : Feeds n g lb encs S Gv All Part w :=
  fun l J Jx W hW hl _ hJ hJx hY h0 => h l J Jx W hW hl hJ hJx hY h0

/-- 'for .. := range g { body }' over an iterator that has such a contract: a round may turn what has been laid since the range began. -/
theorem over4 {α : Type} {n : Nat} {g : Operand} {ps : Array Tmp} {assign body : Code} {Q : Exit → Act → World → Prop} {a : Act} {w w0 : World} (h1 : 1 ≤ n)
    {gf : Nat} {lb : Array Value} (hg : a.eval g = .func (.func gf) #[] lb) (eg : ∀ args w, (callFunc gf args).run Tryz.prog w = .ok (.enter gf args) w)
    {encs : α → Array Value} {S : Nat → Prop} {Gv : List α → α → World → Prop} {All Part : List α → Prop} (hseq : Feeds3 (n - 1) gf lb encs S Gv All Part w0) (hb0 : Turn (fun _ => False) w0 w)
    (hS : S (w.heap.size + 1)) (hps : ∀ x, (encs x).size = ps.size)
    (I : List α → World → Prop) (Ix : Code → List α → World → Prop) (hI : Holds w.heap.size I) (hIx : ∀ c, Holds w.heap.size (Ix c)) (h0 : I [] w) (I2 : List α → α → Act → World → Prop) (hI2 : ∀ pre x a' A B, I2 pre x a' A → Turn (odd w.heap.size A) A B → I2 pre x a' B)
    (hassign : ∀ (l : Nat) (pre : List α) (x : α) (W : World) (K : Act → World → Prop), I pre W → Gv pre x W → (∀ a' W', I2 pre x a' W' → Turn (fun _ => False) W W' → K a' W') →
      assign.wpIn (Fence.wide.inRound l) (n - 1 - 1) Tryz.prog (Exit.then K (fun _ _ _ => False)) { tmps := (ps.zip (encs x)).foldl (fun t (p, v) => t.setIfInBounds p v) a.tmps, defers := [] } W)
    (hbody : ∀ (l : Nat) (pre : List α) (x : α) (a' : Act) (W : World), I2 pre x a' W → body.wpIn (Fence.wide.inRound l) (n - 1 - 1) Tryz.prog (postF w.heap.size S I Ix (pre ++ [x]) W) a' W)
    (hdone : ∀ (D : Nat) (xs : List α) (W : World), w.heap.size ≤ D → All xs → I xs W → W.heap[D]? = some (.deferred (some [])) → Q .normal { a with defers := { target := .collected D, args := #[] } :: a.defers } W)
    (hstop : ∀ (D : Nat) (c : Code) (pre : List α) (W : World), w.heap.size ≤ D → Part pre → Ix c pre W → W.heap[D]? = some (.deferred (some [])) → c.wpIn Fence.wide n Tryz.prog Q { a with defers := { target := .collected D, args := #[] } :: a.defers } W) :
    (Code.rangeFunc g ps assign body).wpIn Fence.wide n Tryz.prog Q a w := by
  refine wpIn_rangeFunc fun fn hfn => ?_
  obtain ⟨R, hR⟩ : ∃ R : LoopState → Option Code → Obj, R = fun st pe => .loop { state := st, pending := pe, fn, tmps := a.tmps, params := ps, assign, body, defers := w.heap.size } := ⟨_, rfl⟩
  -- the two blocks of the statement: the rounds' deferred calls, and its record, in a state
  obtain ⟨Bk, hBk⟩ : ∃ Bk : LoopState → Option Code → World → Prop, Bk = fun st pe W => W.heap[w.heap.size + 1]? = some (R st pe) ∧ W.heap[w.heap.size]? = some (.deferred (some [])) := ⟨_, rfl⟩
  obtain ⟨W1, hW1⟩ : ∃ W1, (w.alloc (.deferred (some []))).alloc (R .ready none) = W1 := ⟨_, rfl⟩
  have hsz : W1.heap.size = w.heap.size + 2 := by rw [← hW1]; simp
  have t1 : Turn (fun _ => False) w W1 := by rw [← hW1]; exact ((Turn.refl _ w).alloc _).alloc _
  have k1 : Bk .ready none W1 := by
    rw [hBk]
    refine ⟨?_, ?_⟩
    · have := World.alloc_heap_new (w.alloc (.deferred (some []))) (R .ready none)
      rw [World.size_alloc] at this
      rw [← hW1]
      exact this
    · rw [← hW1]
      exact (Below.heap_alloc _ _ _ (by simp)).trans (World.alloc_heap_new w _)
  have move : ∀ {D : Nat} {st : LoopState} {pe : Option Code} {A B : World}, w.heap.size + 2 ≤ D → Turn (odd D A) A B → Bk st pe A → Bk st pe B := by
    intro D st pe A B hD ht hk
    rw [hBk] at hk ⊢
    have far : ∀ k, k < w.heap.size + 2 → k < A.heap.size → B.heap[k]? = A.heap[k]? := fun k hk1 hk2 => ht.block k hk2 (fun s => by have := s.1; omega)
    exact ⟨(far _ (by omega) (Array.getElem?_eq_some_iff.1 hk.1).1).trans hk.1, (far _ (by omega) (Array.getElem?_eq_some_iff.1 hk.2).1).trans hk.2⟩
  have put : ∀ {st st' : LoopState} {pe pe' : Option Code} {A : World}, Bk st pe A → Bk st' pe' (A.putObj (w.heap.size + 1) (R st' pe')) ∧ Turn (odd w.heap.size A) A (A.putObj (w.heap.size + 1) (R st' pe')) ∧ Turn S A (A.putObj (w.heap.size + 1) (R st' pe')) := by
    intro st st' pe pe' A hk
    rw [hBk] at hk ⊢
    refine ⟨⟨World.putObj_heap_same (Array.getElem?_eq_some_iff.1 hk.1).1, (World.putObj_heap_other (by omega)).trans hk.2⟩, Turn.putObj _ _ _ ⟨by omega, _, hk.1, ?_⟩, Turn.putObj _ _ _ hS⟩
    rw [hR]
    rfl
  have keep : ∀ {st : LoopState} {pe : Option Code} {A B : World}, Still w.heap.size A B → Bk st pe A → Bk st pe B := by
    intro st pe A B h hk
    rw [hBk] at hk ⊢
    exact ⟨h.same _ _ (Nat.le_succ _) hk.1 (by rw [hR]; rfl), h.same _ _ (Nat.le_refl _) hk.2 rfl⟩
  refine ⟨w.heap.size + 1, [{ target := .collected w.heap.size, args := #[] }], W1, { target := .fn (.func gf) lb, args := #[.func (.yield (w.heap.size + 1)) #[] #[]] }, W1, gf,
    #[.func (.yield (w.heap.size + 1)) #[] #[]] ++ lb, W1, ?_, ?_, ?_, ?_, fun _ => h1, ?_⟩
  · rw [← hW1, hR]
    exact run_enterLoop_outer _ _ _ _ _
  · simp only [resolve, hg]
    simp [go_sem]
  · intro f' _
    trivial
  · simp [invoke, go_sem, eg]
  · refine (hseq (w.heap.size + 1) (fun pre W => I pre W ∧ Bk .ready none W) (fun pre W => ∃ c, Ix c pre W ∧ Bk .done (some c) W) W1 (hb0.trans t1 (fun _ _ f => f)) (by omega)
      (fun s A B hs ht => ⟨(hI.le (by omega)) s A B hs.1 ht, move (by omega) ht hs.2⟩)
      (fun s A B hs ht => by
        obtain ⟨c, hc, hk⟩ := hs
        exact ⟨c, ((hIx c).le (by omega)) s A B hc ht, move (by omega) ht hk⟩)
      ?_ ⟨hI _ _ _ h0 t1.none, k1⟩).mono ?_
    · rintro pre x W ⟨hi, hk⟩ hgv
      have hl : W.heap[w.heap.size + 1]? = some (R .ready none) := by rw [hBk] at hk; exact hk.1
      rw [hR] at hl
      have hy := run_yield (P := Tryz.prog) (args := encs x) hl (hps x)
      refine ⟨fn, _, assign, body, hy, roundIn_of_wpIn hfn (hassign _ pre x W _ hi hgv fun a5 W5 hx5 ht5 => ?_)⟩
      have hk5 : Bk .ready none W5 := by
        rw [hBk] at hk ⊢
        exact ⟨(ht5.block _ (Array.getElem?_eq_some_iff.1 hk.1).1 (fun f => f)).trans hk.1, (ht5.block _ (Array.getElem?_eq_some_iff.1 hk.2).1 (fun f => f)).trans hk.2⟩
      have hl5 : W5.heap[w.heap.size + 1]? = some (R .ready none) := by rw [hBk] at hk5; exact hk5.1
      rw [hR] at hl5
      refine ⟨_, run_beginRound hl5 rfl, ?_⟩
      have hp := put (st' := .busy) (pe' := none) hk5
      rw [hR] at hp
      refine wpIn_mono (hbody _ pre x a5 _ (hI2 _ _ _ _ _ hx5 hp.2.1)) ?_
      have ends : ∀ (jump : Option Code) (W3 : World), Still w.heap.size (W5.putObj (w.heap.size + 1) (.loop { state := .busy, pending := none, fn, tmps := a.tmps, params := ps, assign, body, defers := w.heap.size })) W3 →
          ∃ W4, (Instr.endRound (w.heap.size + 1) jump).run Tryz.prog W3 = .ok (.bool jump.isNone) W4 ∧ Bk (if jump.isNone then .ready else .done) jump W4 ∧ Turn (odd w.heap.size W3) W3 W4 ∧ Turn S W3 W4 ∧ Still (w.heap.size + 1 + 1) W W4 := by
        intro jump W3 hk3
        have h3 := keep hk3 hp.1
        have hl3 : W3.heap[w.heap.size + 1]? = some (R .busy none) := by rw [hBk] at h3; exact h3.1
        have h4 := put (st' := if jump.isNone then .ready else .done) (pe' := jump) h3
        rw [hR] at hl3 h4
        exact ⟨_, run_endRound jump hl3, h4.1, h4.2.1, h4.2.2, (((Still.turned ht5).trans (Still.put W5 _ _ (Nat.lt_succ_self _))).trans (hk3.le (by omega))).trans (Still.put W3 _ _ (Nat.lt_succ_self _))⟩
      rintro e a3 W3 hpost
      cases e with
      | normal =>
        obtain ⟨hk3, ht3, hi3⟩ := hpost
        obtain ⟨W4, hr, hb4, ht4, hu4, hs4⟩ := ends none W3 hk3
        exact ⟨_, _, hr, .inl ⟨rfl, ⟨hI _ _ _ hi3 ht4, hb4⟩, ((ht5.none.trans hp.2.2 (fun _ _ s => s)).trans ht3 (fun _ _ s => s)).trans hu4 (fun _ _ s => s), hs4⟩⟩
      | ret =>
        obtain ⟨hk3, hi3⟩ := hpost
        obtain ⟨W4, hr, hb4, ht4, hu4, hs4⟩ := ends (some .ret) W3 hk3
        exact ⟨_, _, hr, .inr ⟨rfl, ⟨.ret, hIx _ _ _ _ hi3 ht4, hb4⟩, hs4⟩⟩
      | exit id =>
        obtain ⟨hk3, hi3⟩ := hpost
        obtain ⟨W4, hr, hb4, ht4, hu4, hs4⟩ := ends (some (.exit id)) W3 hk3
        exact ⟨_, _, hr, .inr ⟨rfl, ⟨.exit id, hIx _ _ _ _ hi3 ht4, hb4⟩, hs4⟩⟩
      | goto t =>
        obtain ⟨hk3, hi3⟩ := hpost
        obtain ⟨W4, hr, hb4, ht4, hu4, hs4⟩ := ends (some (.goto t)) W3 hk3
        exact ⟨_, _, hr, .inr ⟨rfl, ⟨.goto t, hIx _ _ _ _ hi3 ht4, hb4⟩, hs4⟩⟩
      | panic ch => exact hpost.elim
      | outgrown => exact hpost.elim
    · have shut : ∀ {st : LoopState} {pe : Option Code} {W2 : World}, st ≠ .busy → Bk st pe W2 → ∃ W3, (Instr.endLoop (w.heap.size + 1)).run Tryz.prog W2 = .ok pe W3 ∧ W3.heap[w.heap.size]? = some (.deferred (some [])) ∧ Turn (odd w.heap.size W2) W2 W3 := by
        intro st pe W2 hst hk
        have hl : W2.heap[w.heap.size + 1]? = some (R st pe) := by rw [hBk] at hk; exact hk.1
        have h4 := put (st' := .exhausted) (pe' := pe) hk
        have h5 : (W2.putObj (w.heap.size + 1) (R .exhausted pe)).heap[w.heap.size]? = some (.deferred (some [])) := by have h6 := h4.1; rw [hBk] at h6; exact h6.2
        rw [hR] at hl h4 h5
        exact ⟨_, run_endLoop hl hst, h5, h4.2.1⟩
      rintro e W2 ⟨⟨v, rfl⟩, (⟨xs, hA, hi, hk⟩ | ⟨pre, hP, c, hi, hk⟩)⟩
      · obtain ⟨W3, hr, hd, ht⟩ := shut (by simp) hk
        exact ⟨none, W3, hr, hdone _ xs _ (Nat.le_refl _) hA (hI _ _ _ hi ht) hd⟩
      · obtain ⟨W3, hr, hd, ht⟩ := shut (by simp) hk
        exact ⟨some c, W3, hr, hstop _ c pre _ (Nat.le_refl _) hP (hIx c _ _ _ hi ht) hd⟩

end Go.Proofs.YticglepkbihldaaGreat

/-
  Stage 11: the program's segments in memory; what its functions answer; all, Len, At.
-/
namespace Go.Proofs.YticglepkbihldaaGreat
open Go.RowKit

set_option maxRecDepth 100000

/-- A segment's rows; a nil one has none. -/
def SV11 (w : World) (v : Value) (L : List R11) : Prop := (rightR L = true ∧ (∀ r ∈ L, okC r.c) ∧ L.length ≤ 20000) ∧ ((v = .pointer none ∧ L = []) ∨ ∃ b sl, v = .pointer (some ⟨b, 0, none⟩) ∧ Box w b 83 #[sl] ∧ RdE ER w sl L)
theorem SV11.later {w w' : World} {v : Value} {L : List R11} (h : SV11 w v L) (ht : Turn (fun _ => False) w w') : SV11 w' v L :=
  ⟨h.1, h.2.imp id fun ⟨b, sl, e, hb, hr⟩ => ⟨b, sl, e, hb.turn ht (fun f => f), hr.later ht⟩⟩
theorem SV11.nil (w : World) : SV11 w (.pointer none) [] := ⟨⟨rfl, (fun r h => by cases h), Nat.zero_le _⟩, .inl ⟨rfl, rfl⟩⟩
theorem SV11.ptr {w : World} {v : Value} {L : List R11} (h : SV11 w v L) : ∃ p, v = .pointer p := by
  rcases h.2 with ⟨e, _⟩ | ⟨b, sl, e, _⟩
  · exact ⟨_, e⟩
  · exact ⟨_, e⟩
theorem SV11.right {w : World} {v : Value} {L : List R11} (h : SV11 w v L) : rightR L = true ∧ (∀ r ∈ L, okC r.c) ∧ L.length ≤ 20000 := h.1
/-- A segment that is not nil. -/
theorem SV11.new {w : World} {sl : Value} {L : List R11} (h : RdE ER w sl L) (hr : rightR L = true ∧ (∀ r ∈ L, okC r.c) ∧ L.length ≤ 20000) : SV11 (w.alloc (.cells #[sl] 83)) (.pointer (some ⟨w.heap.size, 0, none⟩)) L :=
  ⟨hr, .inr ⟨_, sl, rfl, Box.new w _ _, h.later ((Turn.refl _ w).alloc _)⟩⟩
/-- A slice of segments. -/
def EP11 : El (Option Addr) where
  sz := 1
  enc p := [.pointer p]
  len _ := rfl
  one p u hu := by rw [List.mem_singleton.1 hu]; rfl
structure SVs11 (w : World) (v : Value) (ls : List (List R11)) : Prop where
  out : ∃ ps : List (Option Addr), RdE EP11 w v ps ∧ ps.length = ls.length ∧ ∀ (j : Nat) (p : Option Addr) (x : List R11), ps[j]? = some p → ls[j]? = some x → SV11 w (.pointer p) x
/-- What is answered. -/
def atR (n : Int) (L : List R11) : Option R11 := if 0 ≤ n then L[n.toNat]? else none
def rowA (o : Option R11) : Value := .tuple #[(match o with | some r => rv11 r | none => zv11), .bool o.isSome]
def zc11 : Value := .agg #[.int .i64 0, .int .i64 0, .int .i64 0, .int .i64 0]
def findA (o : Option Cl) : Value := .tuple #[(match o with | some c => cv c | none => zc11), .bool o.isSome]
def faultO (o : Option (List R11)) (f : Int) : Value := .int .i64 (if o.isSome then 0 else f)
def Seg11 (w : World) (o : Option (List R11)) (f : Int) (e : Ending) (w' : World) : Prop := ∃ s, e = .returned (.tuple #[s, faultO o f]) ∧ SV11 w' s (o.getD []) ∧ Turn (fun _ => False) w w'
def RowsA11 (w : World) (l : List R11) (e : Ending) (w' : World) : Prop := ∃ s, e = .returned (.tuple #[s, .int .i64 (if rightR l then 0 else 4)]) ∧ SV11 w' s (if rightR l then l else []) ∧ (rightR l = false → s = .pointer none) ∧ Turn (fun _ => False) w w'
def Part11 (w : World) (L : List R11) (e : Ending) (w' : World) : Prop := ∃ s, e = .returned s ∧ SV11 w' s L ∧ Turn (fun _ => False) w w'
/-- A range over rows: what it gives, if what turns is a block of one cell that was there, or new. -/
def Range11 (w : World) (L : List R11) (e : Ending) (w' : World) : Prop := ∃ gf lb, e = .returned (.func (.func gf) #[] lb) ∧ (∀ args W, (callFunc gf args).run Tryz.prog W = .ok (.enter gf args) W) ∧ Turn (fun _ => False) w w' ∧
  ∀ (n : Nat) (S : Nat → Prop), (∀ k, S k → (∃ t v, Box w k t #[v]) ∨ w'.heap.size ≤ k) → Feeds3 n gf lb (fun r => #[rv11 r]) S (fun pre y _ => pre ++ [y] <+: L) (fun xs => xs = L) (fun pre => pre <+: L) w'

/-- The rows, not to be changed. -/
def AllS11 (w : World) (L : List R11) (e : Ending) (w' : World) : Prop := ∃ sl, e = .returned sl ∧ RdE ER w sl L ∧ w' = w
set_option maxHeartbeats 1000000 in
theorem all_any11 (s : Value) (L : List R11) (w : World) (h : SV11 w s L) : Calls Tryz.prog 39 #[s] w fun e w' => AllS11 w L e w' := by
  rcases h.2 with ⟨rfl, rfl⟩ | ⟨b, sl, rfl, hb, hr⟩
  · clear h
    go_enter Tryz.func39, Tryz.ntmps39
    go_wp2
    go_ret
    exact ⟨_, rfl, RdE.nil _, rfl⟩
  · have HR := Lib.hid hr
    have c0 := hb.cell 0
    obtain ⟨A, c, rfl⟩ := hr.shape
    clear h hr hb
    go_enter Tryz.func39, Tryz.ntmps39
    go_wp2
    go_ret
    exact ⟨_, rfl, HR.out, rfl⟩
set_option maxHeartbeats 1000000 in
theorem len_same11 (s : Value) (L : List R11) (w : World) (h : SV11 w s L) : Calls Tryz.prog 19 #[s] w fun e w' => e = .returned (.int .i64 (L.length : Int)) ∧ w' = w := by
  have HA := Lib.hid (all_any11 s L w h)
  obtain ⟨p, rfl⟩ := h.ptr
  clear h
  go_enter Tryz.func19, Tryz.ntmps19
  go_wp2_with fail
  refine HA.out.mono ?_
  rintro e w1 ⟨sl, rfl, hr, rfl⟩
  obtain ⟨A, c, rfl⟩ := hr.shape
  clear hr HA
  go_wp2
  go_ret
  exact ⟨rfl, rfl⟩
theorem len_any11 (s : Value) (L : List R11) (w : World) (h : SV11 w s L) : Calls Tryz.prog 19 #[s] w fun e w' => e = .returned (.int .i64 (L.length : Int)) ∧ Turn (fun _ => False) w w' :=
  (len_same11 s L w h).mono fun _ _ ⟨e, hw⟩ => ⟨e, by rw [hw]; exact Turn.refl _ w⟩

theorem atR_low {n : Int} (h : n < 0) (L : List R11) : atR n L = none := if_neg (by omega)
theorem atR_high {n : Int} {L : List R11} (h : (L.length : Int) ≤ n) : atR n L = none := by
  unfold atR
  rw [if_pos (by omega), List.getElem?_eq_none (by omega)]

end Go.Proofs.YticglepkbihldaaGreat

/-
  Stage 9: the program's Compare (by cmp.Or, cmp.Compare, slices.Compare): the world has only grown.
-/
namespace Go.Proofs.YticglepkbihldaaGreat
open Go.RowKit

set_option maxRecDepth 100000

/-- cmp.Compare of two numbers, of two texts. -/
def cmpI (a b : Int) : Int := if a < b then -1 else if b < a then 1 else 0
def cmpT (a b : List UInt8) : Int := if Op.bytesLess a b then -1 else if Op.bytesLess b a then 1 else 0

set_option maxHeartbeats 1000000 in
theorem cmp_num9 (a b : Int) (w : World) : Calls Tryz.prog 74 #[.int .i64 a, .int .i64 b] w fun e w' => e = .returned (.int .i64 (cmpI a b)) ∧ w' = w := by
  unfold cmpI
  have ha : (a == a) = true := beq_self_eq_true a
  have hb : (b == b) = true := beq_self_eq_true b
  by_cases h1 : a < b
  · rw [if_pos h1]
    go_enter Tryz.func74, Tryz.ntmps74
    go_wp2
    go_ret
    exact ⟨rfl, rfl⟩
  · by_cases h2 : b < a
    · rw [if_neg h1, if_pos h2]
      go_enter Tryz.func74, Tryz.ntmps74
      go_wp2
      go_ret
      exact ⟨rfl, rfl⟩
    · rw [if_neg h1, if_neg h2]
      go_enter Tryz.func74, Tryz.ntmps74
      go_wp2
      go_ret
      exact ⟨rfl, rfl⟩

set_option maxHeartbeats 1000000 in
theorem cmp_text9 (a b : List UInt8) (w : World) : Calls Tryz.prog 109 #[sv9 a, sv9 b] w fun e w' => e = .returned (.int .i64 (cmpT a b)) ∧ w' = w := by
  unfold cmpT sv9
  have ha : (a == a) = true := beq_self_eq_true a
  have hb : (b == b) = true := beq_self_eq_true b
  cases h1 : Op.bytesLess a b with
  | true =>
    go_enter Tryz.func109, Tryz.ntmps109
    go_wp2
    go_ret
    exact ⟨rfl, rfl⟩
  | false =>
    cases h2 : Op.bytesLess b a with
    | true =>
      have heq : (a == b) = false := by
        cases e : a == b with
        | false => rfl
        | true =>
          rw [eq_of_beq e, less_irr] at h2
          cases h2
      go_enter Tryz.func109, Tryz.ntmps109
      go_wp2
      go_ret
      exact ⟨rfl, rfl⟩
    | false =>
      have heq : (a == b) = true := by rw [bytes_same h1 h2]; exact beq_self_eq_true _
      go_enter Tryz.func109, Tryz.ntmps109
      go_wp2
      go_ret
      exact ⟨rfl, rfl⟩

theorem cmpI_cases (a b : Int) : (a < b ∧ cmpI a b = -1) ∨ (b < a ∧ cmpI a b = 1) ∨ (a = b ∧ cmpI a b = 0) := by
  unfold cmpI
  by_cases h1 : a < b
  · exact .inl ⟨h1, if_pos h1⟩
  · by_cases h2 : b < a
    · exact .inr (.inl ⟨h2, by rw [if_neg h1, if_pos h2]⟩)
    · exact .inr (.inr ⟨by omega, by rw [if_neg h1, if_neg h2]⟩)
theorem cmpT_cases (a b : List UInt8) : (Op.bytesLess a b = true ∧ cmpT a b = -1) ∨ (Op.bytesLess b a = true ∧ cmpT a b = 1) ∨ (a = b ∧ cmpT a b = 0) := by
  unfold cmpT
  cases h1 : Op.bytesLess a b with
  | true => exact .inl ⟨rfl, rfl⟩
  | false =>
    cases h2 : Op.bytesLess b a with
    | true => exact .inr (.inl ⟨rfl, rfl⟩)
    | false => exact .inr (.inr ⟨bytes_same h1 h2, rfl⟩)

/-- The dimensions' values, the first i of them, by slices.Compare. -/
def dimsC (p q : K9) : Nat → Int
  | 0 => 0
  | i + 1 => if dimsC p q i = 0 then cmpT (p.dim i) (q.dim i) else dimsC p q i
theorem dims_stay {p q : K9} {i : Nat} (h : dimsC p q i ≠ 0) : ∀ j, i ≤ j → dimsC p q j = dimsC p q i
  | 0, hj => by rw [Nat.le_zero.1 hj]
  | j + 1, hj => by
    by_cases e : i = j + 1
    · rw [e]
    · have ih := dims_stay h j (by omega)
      show (if dimsC p q j = 0 then cmpT (p.dim j) (q.dim j) else dimsC p q j) = _
      rw [ih, if_neg h]
theorem dims_is {p q : K9} (hh : p.h = q.h) : ∀ i, i ≤ 4 → (dimsC p q i = 0 ∧ ∀ k, k < i → p.dim k = q.dim k) ∨ (dimsC p q i ≠ 0 ∧ dimsC p q i = cmpK p q)
  | 0, _ => .inl ⟨rfl, fun k hk => absurd hk (Nat.not_lt_zero k)⟩
  | i + 1, hi => by
    rcases dims_is hh i (by omega) with ⟨h0, hd⟩ | ⟨h0, h⟩
    · unfold dimsC
      rw [if_pos h0]
      rcases cmpT_cases (p.dim i) (q.dim i) with ⟨h, e⟩ | ⟨h, e⟩ | ⟨h, e⟩
      · exact .inr ⟨by rw [e]; decide, by rw [e, cmpK_lt (key_dim (by omega) hh hd h)]⟩
      · exact .inr ⟨by rw [e]; decide, by rw [e, cmpK_gt (key_dim (by omega) hh.symm (fun k hk => (hd k hk).symm) h)]⟩
      · exact .inl ⟨e, fun k hk => by
          by_cases ek : k = i
          · rw [ek]; exact h
          · exact hd k (by omega)⟩
    · exact .inr ⟨by unfold dimsC; rwa [if_neg h0], by unfold dimsC; rwa [if_neg h0]⟩
/-- cmp.Or: the first that is not 0. -/
def orL : List Int → Int
  | [] => 0
  | x :: l => if x = 0 then orL l else x
theorem or_two (a b : Int) : orL [a, b] = if a = 0 then b else a := by
  unfold orL orL orL
  by_cases h : b = 0
  · subst h; simp
  · simp [h]
theorem or_key (p q : K9) : orL [cmpI p.h q.h, dimsC p q 4] = cmpK p q := by
  rw [or_two]
  rcases cmpI_cases p.h q.h with ⟨h, e⟩ | ⟨h, e⟩ | ⟨h, e⟩
  · rw [e, if_neg (by decide), cmpK_lt (key_hour h)]
  · rw [e, if_neg (by decide), cmpK_gt (key_hour h)]
  · rw [if_pos e]
    rcases dims_is h 4 (Nat.le_refl 4) with ⟨h0, hd⟩ | ⟨_, h1⟩
    · have e := key_same h hd
      subst e
      rw [h0, cmpK_self]
    · exact h1

set_option maxHeartbeats 4000000 in
theorem cmp_dims9 (p q : K9) (A1 A2 : Addr) (w : World) (h1 : ∀ i, i < 4 → w.cell? (A1.add i) = some (sv9 (p.dim i))) (h2 : ∀ i, i < 4 → w.cell? (A2.add i) = some (sv9 (q.dim i))) :
    Calls Tryz.prog 75 #[.slice (some A1) 4 4, .slice (some A2) 4 4] w fun e w' => e = .returned (.int .i64 (dimsC p q 4)) ∧ w' = w := by
  have H1 := Lib.hid h1
  have H2 := Lib.hid h2
  clear h1 h2
  go_enter Tryz.func75, Tryz.ntmps75
  go_wp2_with fail
  go_loopw [11] (fun x11 wr => ∃ i : Nat, x11 = .int .i64 (i : Int) ∧ i ≤ 4 ∧ dimsC p q i = 0 ∧ wr = w) (fun x11 _ => 4 - (intOf x11).toNat)
  case atStart => exact ⟨0, rfl, Nat.zero_le _, rfl, rfl⟩
  case round =>
    obtain ⟨i, rfl, hi, h0, rfl⟩ := hrel
    by_cases hlt : i < 4
    · have e1 := H1.out i hlt
      have e2 := H2.out i hlt
      have hil : (i : Int) < 4 := by omega
      have hni : ¬ ((4 : Int) ≤ (i : Int)) := by omega
      have hn1 : cmpT (p.dim i) (q.dim i) = dimsC p q (i + 1) := by
        show _ = if dimsC p q i = 0 then cmpT (p.dim i) (q.dim i) else dimsC p q i
        rw [if_pos h0]
      have HC : Hid (∀ W, Calls Tryz.prog 109 #[sv9 (p.dim i), sv9 (q.dim i)] W fun e w' => e = .returned (.int .i64 (dimsC p q (i + 1))) ∧ w' = W) := by
        rw [← hn1]
        exact fun W => cmp_text9 (p.dim i) (q.dim i) W
      have HST : Hid (dimsC p q (i + 1) ≠ 0 → dimsC p q 4 = dimsC p q (i + 1)) := fun h => dims_stay h 4 (by omega)
      clear hn1 h0
      obtain ⟨cn, hcn⟩ : ∃ cn, cn = dimsC p q (i + 1) := ⟨_, rfl⟩
      rw [← hcn] at HC HST
      have HCN := Lib.hid hcn
      clear hcn
      generalize p.dim i = T1 at *
      generalize q.dim i = T2 at *
      by_cases hz : cn = 0
      · subst hz
        go_wp2_with fail
        refine (HC.out _).mono ?_
        rintro e w2 ⟨rfl, rfl⟩
        go_wp2
        go_roundw
        case rel => exact ⟨i + 1, by go_num, hlt, HCN.out.symm, trivial⟩
        case measure => simp [intOf]; omega
      · have hzb : (cn != 0) = true := by simp [bne, hz]
        have HE := Lib.hid (HST.out hz)
        clear HST
        go_wp2_with fail
        refine (HC.out _).mono ?_
        rintro e w2 ⟨rfl, rfl⟩
        go_wp2
        go_ret
        rw [HE.out]
        exact ⟨rfl, rfl⟩
    · obtain rfl : i = 4 := by omega
      have HZ := Lib.hid h0
      clear h0
      go_wp2
      go_ret
      rw [HZ.out]
      exact ⟨rfl, rfl⟩

set_option maxHeartbeats 4000000 in
theorem or_two9 (a b : Int) (A1 : Addr) (w : World) (h0 : w.cell? A1 = some (.int .i64 a)) (h1 : w.cell? (A1.add 1) = some (.int .i64 b)) :
    Calls Tryz.prog 73 #[.slice (some A1) 2 2] w fun e w' => e = .returned (.int .i64 (orL [a, b])) ∧ w' = w := by
  have hc : ∀ i, i < 2 → w.cell? (A1.add i) = some (.int .i64 (if i = 0 then a else b)) := fun i hi => by
    match i, hi with
    | 0, _ => exact h0
    | 1, _ => exact h1
  have H1 := Lib.hid hc
  have HOR := Lib.hid (or_two a b)
  clear h0 h1 hc
  go_enter Tryz.func73, Tryz.ntmps73
  go_wp2_with fail
  go_loopw [8] (fun x8 wr => ∃ i : Nat, x8 = .int .i64 (i : Int) ∧ i ≤ 2 ∧ (0 < i → a = 0) ∧ (1 < i → b = 0) ∧ wr = w) (fun x8 _ => 2 - (intOf x8).toNat)
  case atStart => exact ⟨0, rfl, Nat.zero_le _, (fun h => absurd h (Nat.lt_irrefl 0)), (fun h => absurd h (by omega)), rfl⟩
  case round =>
    obtain ⟨i, rfl, hi, g0, g1, rfl⟩ := hrel
    have G0 := Lib.hid g0
    have G1 := Lib.hid g1
    clear g0 g1
    by_cases hlt : i < 2
    · have e1 := H1.out i hlt
      have hil : (i : Int) < 2 := by omega
      obtain ⟨x, hx⟩ : ∃ x, x = if i = 0 then a else b := ⟨_, rfl⟩
      rw [← hx] at e1
      have HX := Lib.hid hx
      clear hx
      by_cases hz : x = 0
      · subst hz
        go_wp2
        go_roundw
        case rel =>
          refine ⟨i + 1, by go_num, hlt, fun _ => ?_, fun h => ?_, trivial⟩
          · have h := HX.out
            by_cases e : i = 0
            · rw [if_pos e] at h; exact h.symm
            · exact G0.out (by omega)
          · have h2 := HX.out
            rw [if_neg (by omega)] at h2
            exact h2.symm
        case measure => simp [intOf]; omega
      · have hzb : (x != 0) = true := by simp [bne, hz]
        have HE : Hid (orL [a, b] = x) := by
          show _ = _
          rw [HOR.out]
          have h := HX.out
          by_cases e : i = 0
          · rw [if_pos e] at h
            rw [if_neg (by rw [← h]; exact hz)]
            exact h.symm
          · rw [if_neg e] at h
            rw [if_pos (G0.out (by omega))]
            exact h.symm
        go_wp2
        go_ret
        rw [HE.out]
        exact ⟨rfl, rfl⟩
    · obtain rfl : i = 2 := by omega
      have HE : Hid (orL [a, b] = 0) := by
        show _ = _
        rw [HOR.out, if_pos (G0.out (by omega))]
        exact G1.out (by omega)
      go_wp2
      go_ret
      rw [HE.out]
      exact ⟨rfl, rfl⟩

/-- Compare's answer out of the two answers, in whatever world the row is laid. -/
theorem or_row9 (a b : Int) (w : World) : Calls Tryz.prog 73 #[.slice (some ⟨w.heap.size, 0, none⟩) 2 2] (w.alloc (.cells #[.int .i64 a, .int .i64 b] 3)) fun e w' => e = .returned (.int .i64 (orL [a, b])) ∧ w' = w.alloc (.cells #[.int .i64 a, .int .i64 b] 3) := by
  have hb := Box.new w 3 #[.int .i64 a, .int .i64 b]
  exact or_two9 a b ⟨w.heap.size, 0, none⟩ _ (hb.cell 0) (by rw [own_add]; exact hb.cell 1)

set_option maxHeartbeats 8000000 in
theorem compare_gr9 (p q : K9) (w : World) : Calls Tryz.prog 43 #[kv9 p, kv9 q] w fun e w' => e = .returned (.int .i64 (cmpK p q)) ∧ Gr w w' := by
  unfold kv9
  obtain ⟨w0, hw0⟩ : ∃ w0, w0 = (w.alloc (.cells #[.int .i64 p.h, sv9 p.a, sv9 p.b, sv9 p.c, sv9 p.d] 48)).alloc (.cells #[.int .i64 q.h, sv9 q.a, sv9 q.b, sv9 q.c, sv9 q.d] 48) := ⟨_, rfl⟩
  have HT0 : Hid (Gr w w0) := by rw [hw0]; exact ((Gr.refl w).alloc _).alloc _
  have hb1 : Box w0 w.heap.size 48 #[.int .i64 p.h, sv9 p.a, sv9 p.b, sv9 p.c, sv9 p.d] := by rw [hw0]; exact (Box.new w _ _).alloc _
  have hb2 : Box w0 (w.heap.size + 1) 48 #[.int .i64 q.h, sv9 q.a, sv9 q.b, sv9 q.c, sv9 q.d] := by
    rw [hw0]
    have h := Box.new (w.alloc (.cells #[.int .i64 p.h, sv9 p.a, sv9 p.b, sv9 p.c, sv9 p.d] 48)) 48 #[.int .i64 q.h, sv9 q.a, sv9 q.b, sv9 q.c, sv9 q.d]
    rw [World.size_alloc] at h
    exact h
  have H1 : Hid (∀ W, Gr w0 W → W.cell? ⟨w.heap.size, 0, none⟩ = some (.int .i64 p.h)) := fun W ht => (hb1.turn ht.turn (fun f => f)).cell 0
  have H2 : Hid (∀ W, Gr w0 W → W.cell? ⟨w.heap.size + 1, 0, none⟩ = some (.int .i64 q.h)) := fun W ht => (hb2.turn ht.turn (fun f => f)).cell 0
  have HD1 : Hid (∀ W, Gr w0 W → ∀ i, i < 4 → W.cell? ((⟨w.heap.size, 1, none⟩ : Addr).add i) = some (sv9 (p.dim i))) := fun W ht i hi => by
    have h := dim_cell (o := 1) (hb1.turn ht.turn (fun f => f)) key_cells i hi
    unfold Addr.add
    split
    · rename_i e; subst e; exact h
    · exact h
  have HD2 : Hid (∀ W, Gr w0 W → ∀ i, i < 4 → W.cell? ((⟨w.heap.size + 1, 1, none⟩ : Addr).add i) = some (sv9 (q.dim i))) := fun W ht i hi => by
    have h := dim_cell (o := 1) (hb2.turn ht.turn (fun f => f)) key_cells i hi
    unfold Addr.add
    split
    · rename_i e; subst e; exact h
    · exact h
  have HW := Lib.hid hw0
  have HC : Hid (∀ W, Gr w0 W → Calls Tryz.prog 75 #[.slice (some ⟨w.heap.size, 1, none⟩) 4 4, .slice (some ⟨w.heap.size + 1, 1, none⟩) 4 4] W fun e w' => e = .returned (.int .i64 (dimsC p q 4)) ∧ w' = W) := fun W ht => cmp_dims9 p q _ _ W (HD1.out W ht) (HD2.out W ht)
  have HN : Hid (∀ W, Calls Tryz.prog 74 #[.int .i64 p.h, .int .i64 q.h] W fun e w' => e = .returned (.int .i64 (cmpI p.h q.h)) ∧ w' = W) := fun W => cmp_num9 p.h q.h W
  have HO : Hid (∀ W : World, Calls Tryz.prog 73 #[.slice (some ⟨W.heap.size, 0, none⟩) 2 2] (W.alloc (.cells #[.int .i64 (cmpI p.h q.h), .int .i64 (dimsC p q 4)] 3)) fun e w' => e = .returned (.int .i64 (cmpK p q)) ∧ w' = W.alloc (.cells #[.int .i64 (cmpI p.h q.h), .int .i64 (dimsC p q 4)] 3)) := fun W => by
    have h := or_row9 (cmpI p.h q.h) (dimsC p q 4) W
    rwa [or_key] at h
  generalize cmpI p.h q.h = ca at *
  generalize dimsC p q 4 = cb at *
  generalize cmpK p q = cc at *
  clear hb1 hb2 hw0 HD1 HD2
  go_enter Tryz.func43, Tryz.ntmps43
  go_wp2_with fail
  rw [← HW.out]
  refine drawn_region (fun V => Gr w0 V) [] (by kernel_rfl) ?_
  have ht0 : Gr w0 (World.drew w0) := (Gr.refl w0).drew
  generalize World.drew w0 = wd at *
  have HD := Lib.hid ht0
  have hS0 := ht0
  clear ht0
  refine drawn_take 0 5 (.pointer (some ⟨w.heap.size, 0, none⟩)) rfl rfl (by kernel_rfl) (by kernel_rfl) (by kernel_rfl) (by kernel_rfl) (fun _ _ _ h => h) (by rfl) (by assumption) (by intro w hSw; obtain hS1 := hSw; go_simp) ?_
  try simp only [List.setIfInBounds_toArray, List.set_cons_zero, List.set_cons_succ]
  refine drawn_take 1 6 (.int .i64 p.h) rfl rfl (by kernel_rfl) (by kernel_rfl) (by kernel_rfl) (by kernel_rfl) (fun _ _ _ h => h) (by rfl) (by assumption) (by intro w hSw; have a0 := H1.out w hSw; go_simp) ?_
  try simp only [List.setIfInBounds_toArray, List.set_cons_zero, List.set_cons_succ]
  refine drawn_take 2 7 (.pointer (some ⟨w.heap.size + 1, 0, none⟩)) rfl rfl (by kernel_rfl) (by kernel_rfl) (by kernel_rfl) (by kernel_rfl) (fun _ _ _ h => h) (by rfl) (by assumption) (by intro w hSw; obtain hS1 := hSw; go_simp) ?_
  try simp only [List.setIfInBounds_toArray, List.set_cons_zero, List.set_cons_succ]
  refine drawn_take 3 8 (.int .i64 q.h) rfl rfl (by kernel_rfl) (by kernel_rfl) (by kernel_rfl) (by kernel_rfl) (fun _ _ _ h => h) (by rfl) (by assumption) (by intro w hSw; have a0 := H2.out w hSw; go_simp) ?_
  try simp only [List.setIfInBounds_toArray, List.set_cons_zero, List.set_cons_succ]
  refine drawn_take 5 10 (.pointer (some ⟨w.heap.size, 1, none⟩)) rfl rfl (by kernel_rfl) (by kernel_rfl) (by kernel_rfl) (by kernel_rfl) (fun _ _ _ h => h) (by rfl) (by assumption) (by intro w hSw; obtain hS1 := hSw; go_simp) ?_
  try simp only [List.setIfInBounds_toArray, List.set_cons_zero, List.set_cons_succ]
  refine drawn_take 6 11 (.slice (some ⟨w.heap.size, 1, none⟩) 4 4) rfl rfl (by kernel_rfl) (by kernel_rfl) (by kernel_rfl) (by kernel_rfl) (fun _ _ _ h => h) (by rfl) (by assumption) (by intro w hSw; obtain hS1 := hSw; go_simp) ?_
  try simp only [List.setIfInBounds_toArray, List.set_cons_zero, List.set_cons_succ]
  refine drawn_take 7 12 (.pointer (some ⟨w.heap.size + 1, 1, none⟩)) rfl rfl (by kernel_rfl) (by kernel_rfl) (by kernel_rfl) (by kernel_rfl) (fun _ _ _ h => h) (by rfl) (by assumption) (by intro w hSw; obtain hS1 := hSw; go_simp) ?_
  try simp only [List.setIfInBounds_toArray, List.set_cons_zero, List.set_cons_succ]
  refine drawn_take 8 13 (.slice (some ⟨w.heap.size + 1, 1, none⟩) 4 4) rfl rfl (by kernel_rfl) (by kernel_rfl) (by kernel_rfl) (by kernel_rfl) (fun _ _ _ h => h) (by rfl) (by assumption) (by intro w hSw; obtain hS1 := hSw; go_simp) ?_
  try simp only [List.setIfInBounds_toArray, List.set_cons_zero, List.set_cons_succ]
  refine drawn_any [4] (by kernel_rfl) (by simp) ?_
  refine drawn_cons rfl (fun K hK => ?_) drawn_nil
  go_simp
  refine (HN.out wd).mono ?_
  rintro e w2 ⟨rfl, rfl⟩
  refine hK.out _ _ _ hS0 ?_
  clear hK K
  try simp only [List.setIfInBounds_toArray, List.set_cons_zero, List.set_cons_succ]
  refine drawn_any [9] (by kernel_rfl) (by simp) ?_
  refine drawn_cons rfl (fun K hK => ?_) drawn_nil
  go_simp
  refine (HC.out _ hS0).mono ?_
  rintro e w3 ⟨rfl, rfl⟩
  refine hK.out _ _ _ hS0 ?_
  clear hK K
  try simp only [List.setIfInBounds_toArray, List.set_cons_zero, List.set_cons_succ]
  refine drawn_any [10] (by kernel_rfl) (by simp) ?_
  refine drawn_cons rfl (fun K hK => ?_) drawn_nil
  go_simp
  have hS4 := hS0.alloc (.cells #[.int .i64 ca, .int .i64 cb] 3)
  refine hK.out _ _ _ hS4 ?_
  clear hK K
  try simp only [List.setIfInBounds_toArray, List.set_cons_zero, List.set_cons_succ]
  refine drawn_any [11] (by kernel_rfl) (by simp) ?_
  refine drawn_cons rfl (fun K hK => ?_) drawn_nil
  go_simp
  refine (HO.out _).mono ?_
  rintro e w5 ⟨rfl, rfl⟩
  refine hK.out _ _ _ hS4 ?_
  clear hK K
  try simp only [List.setIfInBounds_toArray, List.set_cons_zero, List.set_cons_succ]
  refine drawn_last1 12 4 (.int .i64 cc) rfl rfl (by kernel_rfl) (by kernel_rfl) (by rfl) (by intro w; go_simp) hS4 ?_
  try simp only [List.setIfInBounds_toArray, List.set_cons_zero, List.set_cons_succ]
  have HF := Lib.hid (HT0.out.trans hS4)
  clear hS0 hS4
  go_wp2
  go_ret
  exact ⟨rfl, HF.out⟩

theorem compare_any9 (p q : K9) (w : World) : Calls Tryz.prog 43 #[kv9 p, kv9 q] w fun e w' => e = .returned (.int .i64 (cmpK p q)) ∧ Turn (fun _ => False) w w' :=
  (compare_gr9 p q w).mono fun _ _ h => ⟨h.1, h.2.turn⟩

end Go.Proofs.YticglepkbihldaaGreat
