/-
  Texts laid one behind the other: Q4e Ei Q4f Gf Ep Dca Q4g Hp.
-/
import Derived.Test.YtamcgoamkakpkaaJocab
import Derived.Test.YtamcgoamkakpkaaJocaa
import Derived.ProofKit
import Derived.OpenShut
import Derived.Deep.Slices
import Derived.Deep.Fields
import Derived.Deep.Strs
import Derived.Deep.QuietTactic
import Derived.BigQuiet
import Derived.Lib.SmallJoins

/-
  Stage 16: the document's Bytes, Fail.
-/
namespace Go.Proofs.Ytamcgoamkakpkaa
open Go.RowKit

set_option maxRecDepth 100000

theorem bytes_le16 : ∀ {l : List (List UInt8 × List UInt8)} {m : Nat}, (∀ p ∈ l, p.2.length ≤ m) → 0 ≤ bytes16 l ∧ bytes16 l ≤ (l.length * m : Nat)
  | [], m, _ => ⟨Int.le_refl _, by simp [bytes16]⟩
  | p :: l, m, h => by
    have ih := bytes_le16 (l := l) (m := m) (fun q hq => h q (List.mem_cons_of_mem _ hq))
    have h1 := h p (List.mem_cons_self ..)
    have e : bytes16 (p :: l) = (p.2.length : Int) + bytes16 l := by simp [bytes16]
    rw [e, List.length_cons, Nat.add_mul, Nat.one_mul]
    constructor
    · omega
    · have := ih.2
      omega
theorem bytes_snoc16 (l : List (List UInt8 × List UInt8)) (p : List UInt8 × List UInt8) : bytes16 (l ++ [p]) = bytes16 l + (p.2.length : Int) := by
  simp [bytes16]
set_option maxHeartbeats 4000000 in
theorem ref_bytes16 (g : Nat) (sl tl : Value) (d : C16) (w : World) (hm : RD16 w g sl tl d) (hl : d.l.length ≤ 10000) (hf : ∀ p ∈ d.l, p.2.length ≤ 9000000) :
    Calls Try.prog 14 #[.pointer (some ⟨g, 0, none⟩)] w fun e w' => e = .returned (.int .i64 (bytes16 d.l)) ∧ Turn (fun _ => False) w w' := by
  obtain ⟨A, c, rfl⟩ := hm.row.shape
  have HR := Lib.hid hm.row
  have hobj := hm.box.cell 0
  have HF := Lib.hid hf
  generalize d.l = L at *
  clear hm hf
  go_enter Try.func14, Try.ntmps14
  go_wp2_with fail
  go_loop [3, 4] (fun x3 x4 => ∃ i : Nat, x4 = .int .i64 (i : Int) ∧ i ≤ L.length ∧ x3 = .int .i64 (bytes16 (L.take i))) (fun _ x4 => L.length - (intOf x4).toNat)
  case atStart => exact ⟨0, rfl, Nat.zero_le _, rfl⟩
  case round =>
    obtain ⟨i, rfl, hi, rfl⟩ := hrel
    by_cases hlt : i < L.length
    · obtain ⟨p, hp⟩ : ∃ p, L[i]? = some p := ⟨_, List.getElem?_eq_getElem hlt⟩
      obtain ⟨ad, rfl, hc⟩ := obj_at16 HR.out hp
      obtain ⟨-, h1⟩ := hc w (Turn.refl _ w)
      have HS : Hid (bytes16 (L.take (i + 1)) = bytes16 (L.take i) + (p.2.length : Int)) := by show _ = _; rw [take_snoc16 hp, bytes_snoc16]
      have hle := bytes_le16 (l := L.take i) (m := 9000000) (fun q hq => HF.out q (List.mem_of_mem_take hq))
      have hpl := HF.out p (List.mem_of_getElem? hp)
      rw [List.length_take, Nat.min_eq_left hi] at hle
      have hsz : ByteArray.size ⟨p.2.toArray⟩ = p.2.length := rfl
      generalize bytes16 (L.take i) = s at *
      obtain ⟨hs0, hs1⟩ := hle
      have hs2 : s ≤ 90000000000 := by omega
      have hil : (i : Int) < L.length := by omega
      clear hc hp hs1
      go_wp2
      go_round
      case rel => exact ⟨i + 1, by go_num, hlt, by rw [HS.out]⟩
      case measure => simp [intOf]; omega
    · obtain rfl : i = L.length := by omega
      have HE : Hid (bytes16 (L.take L.length) = bytes16 L) := by show _ = _; rw [List.take_length]
      generalize bytes16 (L.take L.length) = s at *
      go_wp2
      go_ret
      exact ⟨by first | rfl | (rw [HE.out]; rfl) | fail, Turn.refl _ _⟩


end Go.Proofs.Ytamcgoamkakpkaa

/-
  append(append([]T{}, a...), x) in a drawn region. No type is named here.
-/
namespace Go.Proofs.Ytamcgoamkakpkaa
open Go.RowKit

section
variable {P : Program} {ops : Array Oper} {Q : Exit → Act → World → Prop} {S : World → Prop} {zs : List Nat} {T : Type} {E : El T} {tS e : TypeId}
theorem drawn_snoc {z : Value} {by' : Nat} (ht : P.underlying tS = some (.slice e)) (hi0 : (P.info? e).map (fun i => (i.zero, i.size, i.bytes)) = some (some z, E.sz, by')) (hz : z.cells.size = E.sz) (hby : by' ≤ 1000)
    {w0 : World} (HS : ∀ W, Turn (fun _ => False) w0 W → S W) (ie i1 ix i2 de d1 dx d2 kf kx : Nat) {oe o1 ox o2 : Oper}
    (he : nthL ops.toList ie = some oe) (ge : oe.guard = none) (te : oe.dst = some de) (pe : oe.op = .buildSlice tS 0 #[])
    (h1 : nthL ops.toList i1 = some o1) (g1 : o1.guard = none) (t1 : o1.dst = some d1) (p1 : o1.op = .call { callee := .builtin .append, args := #[.tmp de, .tmp kf], argTypes := #[tS, tS] })
    (hx : nthL ops.toList ix = some ox) (gx : ox.guard = none) (tx : ox.dst = some dx) (px : ox.op = .buildSlice tS 1 #[(0, .tmp kx)])
    (h2 : nthL ops.toList i2 = some o2) (g2 : o2.guard = none) (t2 : o2.dst = some d2) (p2 : o2.op = .call { callee := .builtin .append, args := #[.tmp d1, .tmp dx], argTypes := #[tS, tS] })
    {fuel : Nat} {listed : Array Bool} {ts : Array Value} {ds : List Deferred} {w : World}
    (r0 : Region.ready .any ops listed = [ie, ix]) (re : Region.ready .any ops (listed.setIfInBounds ie true) = [i1, ix]) (re1 : Region.ready .any ops ((listed.setIfInBounds ie true).setIfInBounds i1 true) = [ix])
    (rex : Region.ready .any ops ((listed.setIfInBounds ie true).setIfInBounds ix true) = [i1]) (rx : Region.ready .any ops (listed.setIfInBounds ix true) = [ie])
    (r3 : Region.ready .any ops (((listed.setIfInBounds ie true).setIfInBounds i1 true).setIfInBounds ix true) = [i2])
    (hd : (ie ≠ i1 ∧ ie ≠ ix ∧ i1 ≠ ix) ∧ (de ≠ d1 ∧ de ≠ dx ∧ d1 ≠ dx ∧ de ≠ kf ∧ de ≠ kx ∧ dx ≠ kf ∧ d1 ≠ kx) ∧ de < ts.size ∧ d1 < ts.size ∧ dx < ts.size ∧ d2 < ts.size)
    {vf xv : Value} {l1 : List T} {x : T} (kf' : ts.getD kf undef = vf) (kx' : ts.getD kx undef = xv)
    (HF : ∀ W, Turn (fun _ => False) w0 W → RdE E W vf l1) (hl : l1.length ≤ 2000000)
    (hE : ∀ W, (Instr.buildSlice tS 0 #[]).run P W = .ok (.slice (some ⟨W.heap.size, 0, none⟩) 0 0) (W.alloc (.cells #[] e)))
    (hX : ∀ W, (Instr.buildSlice tS 1 #[(0, xv)]).run P W = .ok (.slice (some ⟨W.heap.size, 0, none⟩) 1 1) (W.alloc (.cells (E.enc x).toArray e)))
    (hw : Turn (fun _ => False) w0 w)
    (h : ∀ W v a b c, NewE E e w0 W v (l1 ++ [x]) → Drawn P ops Q S zs fuel ((((listed.setIfInBounds ie true).setIfInBounds i1 true).setIfInBounds ix true).setIfInBounds i2 true) ((((ts.setIfInBounds de a).setIfInBounds d1 b).setIfInBounds dx c).setIfInBounds d2 v) ds W) :
    Drawn P ops Q S zs (fuel + 4) listed ts ds w := by
  obtain ⟨⟨n1, n2, n3⟩, ⟨m1, m2, m3, m4, m5, m6, m7⟩, s1, s2, s3, s4⟩ := hd
  have EE : ∀ (ts : Array Value) W, ∃ v w', (execOp ({ tmps := ts, defers := ds } : Act).eval oe).run P W = .ok (.value v) w' ∧ (v = .slice (some ⟨W.heap.size, 0, none⟩) 0 0 ∧ w' = W.alloc (.cells #[] e)) := fun ts W =>
    ⟨_, _, by unfold execOp; simp [pe, hE], rfl, rfl⟩
  have EX : ∀ (ts : Array Value) W, ts.getD kx undef = xv → ∃ v w', (execOp ({ tmps := ts, defers := ds } : Act).eval ox).run P W = .ok (.value v) w' ∧ (v = .slice (some ⟨W.heap.size, 0, none⟩) 1 1 ∧ w' = W.alloc (.cells (E.enc x).toArray e)) := fun ts W hk =>
    ⟨_, _, by rw [Array.getD_eq_getD_getElem?] at hk; unfold execOp; simp [px, Act.eval, hk, hX], rfl, rfl⟩
  have tail : ∀ (W : World) (a b c : Value), NewE E e w0 W b l1 → RdE E W c [x] →
      Drawn P ops Q S zs (fuel + 1) (((listed.setIfInBounds ie true).setIfInBounds i1 true).setIfInBounds ix true) (((ts.setIfInBounds de a).setIfInBounds d1 b).setIfInBounds dx c) ds W := fun W a b c hn hc => by
    refine drawn_any [i2] r3 (by simp) (drawn_does (fun u w' => NewE E e w0 w' u (l1 ++ [x])) h2 g2 t2 ?_ (fun u w' hu => ⟨HS _ hu.turn, ?_⟩) drawn_nil)
    · obtain ⟨u, w', e1, e2, -⟩ := app_does (P := P) ht hi0 hz hby (a := ({ tmps := ((ts.setIfInBounds de a).setIfInBounds d1 b).setIfInBounds dx c, defers := ds } : Act)) p2 (v := b) (y := c) (by simp only [Act.eval]; rw [slot_ne (Ne.symm m3), slot_eq (by simpa using s2)]) (by simp only [Act.eval]; rw [slot_eq (by simpa using s3)]) hn hc (by simp; omega)
      exact ⟨u, w', e1, e2⟩
    · exact h w' u a b c hu
  refine drawn_any [ie, ix] r0 (by simp) (drawn_does (fun v w' => v = .slice (some ⟨w.heap.size, 0, none⟩) 0 0 ∧ w' = w.alloc (.cells #[] e)) he ge te (EE ts w) ?_ (drawn_does (fun v w' => v = .slice (some ⟨w.heap.size, 0, none⟩) 1 1 ∧ w' = w.alloc (.cells (E.enc x).toArray e)) hx gx tx (EX ts w kx') ?_ drawn_nil))
  · rintro v w' ⟨rfl, rfl⟩
    have hn := NewE.empty (E := E) (e := e) w0 w hw
    refine ⟨HS _ hn.turn, drawn_any [i1, ix] re (by simp) (drawn_does (fun u w' => NewE E e w0 w' u l1) h1 g1 t1 ?_ (fun u w' hu => ⟨HS _ hu.turn, ?_⟩) (drawn_does (fun v w' => v = .slice (some ⟨(w.alloc (.cells #[] e)).heap.size, 0, none⟩) 1 1 ∧ w' = (w.alloc (.cells #[] e)).alloc (.cells (E.enc x).toArray e)) hx gx tx (EX _ _ (by rw [slot_ne m5, kx'])) ?_ drawn_nil))⟩
    · obtain ⟨u, w', e1, e2, -⟩ := app_does (P := P) ht hi0 hz hby (a := ({ tmps := ts.setIfInBounds de (.slice (some ⟨w.heap.size, 0, none⟩) 0 0), defers := ds } : Act)) p1 (y := vf) (by simp only [Act.eval]; rw [slot_eq s1]) (by simp only [Act.eval]; rw [slot_ne m4, kf']) hn (HF _ hn.turn) (by simp; omega)
      exact ⟨u, w', e1, by simpa using e2⟩
    · refine drawn_any [ix] re1 (by simp) (drawn_does (fun v w2 => v = .slice (some ⟨w'.heap.size, 0, none⟩) 1 1 ∧ w2 = w'.alloc (.cells (E.enc x).toArray e)) hx gx tx (EX _ _ (by rw [slot_ne m7, slot_ne m5, kx'])) ?_ drawn_nil)
      rintro v w2 ⟨rfl, rfl⟩
      exact ⟨HS _ (hu.alloc _).turn, tail _ _ _ _ (hu.alloc _) (one_row E e w' x)⟩
    · rintro v w2 ⟨rfl, rfl⟩
      have hn2 := hn.alloc (.cells (E.enc x).toArray e)
      have hr := one_row E e (w.alloc (.cells #[] e)) x
      refine ⟨HS _ hn2.turn, drawn_any [i1] rex (by simp) (drawn_does (fun u w3 => NewE E e w0 w3 u l1 ∧ RdE E w3 (.slice (some ⟨(w.alloc (.cells #[] e)).heap.size, 0, none⟩) 1 1) [x]) h1 g1 t1 ?_ (fun u w3 hu => ⟨HS _ hu.1.turn, ?_⟩) drawn_nil)⟩
      · obtain ⟨u, w3, e1, e2, e3⟩ := app_does (P := P) ht hi0 hz hby (a := ({ tmps := (ts.setIfInBounds de (.slice (some ⟨w.heap.size, 0, none⟩) 0 0)).setIfInBounds dx (.slice (some ⟨(w.alloc (.cells #[] e)).heap.size, 0, none⟩) 1 1), defers := ds } : Act)) p1 (v := .slice (some ⟨w.heap.size, 0, none⟩) 0 0) (y := vf) (by simp only [Act.eval]; rw [slot_ne (Ne.symm m2), slot_eq s1]) (by simp only [Act.eval]; rw [slot_ne m6, slot_ne m4, kf']) hn2 (HF _ hn2.turn) (by simp; omega)
        refine ⟨u, w3, e1, by simpa using e2, hr.turn e3 (fun k h1 h2 => ?_)⟩
        rw [World.size_alloc] at h1
        simp [Value.ownBlock] at h1 h2
        omega
      · rw [Array.setIfInBounds_comm _ _ (Ne.symm n3), Array.setIfInBounds_comm _ _ (Ne.symm m3)]
        exact tail _ _ _ _ hu.1 hu.2
  · rintro v w' ⟨rfl, rfl⟩
    have hr := one_row E e w x
    have hw1 : Turn (fun _ => False) w0 (w.alloc (.cells (E.enc x).toArray e)) := hw.alloc _
    refine ⟨HS _ hw1, drawn_any [ie] rx (by simp) (drawn_does (fun v w' => v = .slice (some ⟨(w.alloc (.cells (E.enc x).toArray e)).heap.size, 0, none⟩) 0 0 ∧ w' = (w.alloc (.cells (E.enc x).toArray e)).alloc (.cells #[] e)) he ge te (EE _ _) ?_ drawn_nil)⟩
    rintro v w2 ⟨rfl, rfl⟩
    have hn := NewE.empty (E := E) (e := e) w0 _ hw1
    have hr2 := hr.later ((Turn.refl _ (w.alloc (.cells (E.enc x).toArray e))).alloc (.cells #[] e))
    rw [Array.setIfInBounds_comm _ _ (Ne.symm n2), Array.setIfInBounds_comm _ _ (Ne.symm m2)]
    refine ⟨HS _ hn.turn, drawn_any [i1] rex (by simp) (drawn_does (fun u w3 => NewE E e w0 w3 u l1 ∧ RdE E w3 (.slice (some ⟨w.heap.size, 0, none⟩) 1 1) [x]) h1 g1 t1 ?_ (fun u w3 hu => ⟨HS _ hu.1.turn, ?_⟩) drawn_nil)⟩
    · obtain ⟨u, w3, e1, e2, e3⟩ := app_does (P := P) ht hi0 hz hby (a := ({ tmps := (ts.setIfInBounds de (.slice (some ⟨(w.alloc (.cells (E.enc x).toArray e)).heap.size, 0, none⟩) 0 0)).setIfInBounds dx (.slice (some ⟨w.heap.size, 0, none⟩) 1 1), defers := ds } : Act)) p1 (v := .slice (some ⟨(w.alloc (.cells (E.enc x).toArray e)).heap.size, 0, none⟩) 0 0) (y := vf) (by simp only [Act.eval]; rw [slot_ne (Ne.symm m2), slot_eq s1]) (by simp only [Act.eval]; rw [slot_ne m6, slot_ne m4, kf']) hn (HF _ hn.turn) (by simp; omega)
      refine ⟨u, w3, e1, by simpa using e2, hr2.turn e3 (fun k h1 h2 => ?_)⟩
      rw [World.size_alloc] at h2
      simp [Value.ownBlock] at h1 h2
      omega
    · rw [Array.setIfInBounds_comm _ _ (Ne.symm n3), Array.setIfInBounds_comm _ _ (Ne.symm m3)]
      exact tail _ _ _ _ hu.1 hu.2
end

end Go.Proofs.Ytamcgoamkakpkaa

/-
  Stage 16: the document's Fail.
-/
namespace Go.Proofs.Ytamcgoamkakpkaa
open Go.RowKit

set_option maxRecDepth 100000

theorem fail_is16 {s : C16} {l : List Bool} {i : Nat} (hi : i ≤ l.length) (hs : s.t.length + i ≤ 1000) (h : i = l.length ∨ s.t.length + i = 1000) : fail16 s l = { s with t := s.t ++ l.take i } := by
  unfold fail16
  have e : l.take (1000 - s.t.length) = l.take i := by
    rcases h with h | h
    · subst h
      rw [List.take_length, List.take_of_length_le (by omega)]
    · rw [show 1000 - s.t.length = i by omega]
  rw [e]

set_option maxHeartbeats 16000000 in
theorem ref_fail16 (g : Nat) (sl tl : Value) (s : C16) (v : Value) (l : List Bool) (w : World) (hm : RD16 w g sl tl s) (hv : RdE EB16 w v l) (hvg : l = [] ∨ v.ownBlock ≠ some g) (hl : l.length ≤ 10000) (ht : s.t.length ≤ 1000) :
    Calls Try.prog 26 #[.pointer (some ⟨g, 0, none⟩), v] w fun e w' => Does16 w g sl tl (fail16 s l) (.tuple #[]) e w' := by
  have HM := Lib.hid hm
  have HV := Lib.hid hv
  obtain ⟨A, c, rfl⟩ := hv.shape
  have HVG := Lib.hid hvg
  have hE : ∀ W, (Instr.buildSlice 29 0 #[]).run Try.prog W = .ok (.slice (some ⟨W.heap.size, 0, none⟩) 0 0) (W.alloc (.cells #[] 4)) := fun W => by go_simp
  have hX : ∀ (y : Bool) W, (Instr.buildSlice 29 1 #[(0, .bool y)]).run Try.prog W = .ok (.slice (some ⟨W.heap.size, 0, none⟩) 1 1) (W.alloc (.cells (EB16.enc y).toArray 4)) := fun y W => by go_simp; rfl
  have HE := Lib.hid hE; have HXX := Lib.hid hX
  have HFI : Hid (∀ i, i ≤ l.length → s.t.length + i ≤ 1000 → (i = l.length ∨ s.t.length + i = 1000) → fail16 s l = { s with t := s.t ++ l.take i }) := fun i h1 h2 h3 => fail_is16 h1 h2 h3
  have H0 : Hid (RD16 w g sl tl { s with t := s.t ++ l.take 0 }) := by show RD16 _ _ _ _ _; rw [List.take_zero, List.append_nil]; exact hm
  clear hm hv hvg hE hX
  go_enter Try.func26, Try.ntmps26
  go_wp2_with fail
  go_loopw [4] (fun x4 wr => ∃ (i : Nat) (tli : Value), x4 = .int .i64 (i : Int) ∧ i ≤ l.length ∧ s.t.length + i ≤ 1000 ∧ RD16 wr g sl tli { s with t := s.t ++ l.take i } ∧ Turn (fun k => k = g) w wr ∧ Own16 w tl tli) (fun x4 _ => l.length - (intOf x4).toNat)
  case atStart => exact ⟨0, tl, rfl, Nat.zero_le _, ht, H0.out, Turn.refl _ _, Own16.refl _ _⟩
  case round =>
    obtain ⟨i, tli, rfl, hi, hsi, hm, htw, ho⟩ := hrel
    have hlen : (s.t ++ l.take i).length = s.t.length + i := by rw [List.length_append, List.length_take, Nat.min_eq_left hi]
    obtain ⟨B, cb, htl⟩ := hm.trow.shape
    dsimp only at htl
    rw [hlen] at htl
    subst htl
    have HMR := Lib.hid hm; have HTW := Lib.hid htw; have HOW := Lib.hid ho
    have c1 := hm.box.cell 1
    have f1 := hm.box.free 1
    have HLN := Lib.hid hlen
    clear hm htw ho hlen H0
    by_cases hlt : i < l.length
    · have hil : (i : Int) < l.length := by omega
      by_cases h1000 : s.t.length + i < 1000
      · have hst : ((s.t.length + i : Nat) : Int) < 1000 := by omega
        obtain ⟨y, hy⟩ : ∃ y, l[i]? = some y := ⟨_, List.getElem?_eq_getElem hlt⟩
        have hvw : RdE EB16 wr (.slice A l.length c) l := HV.out.turn HTW.out (fun b hb e => (HVG.out.resolve_left (fun e0 => by rw [e0] at hlt; exact absurd hlt (Nat.not_lt_zero _))) (by rw [hb, e]))
        obtain ⟨ad, rfl, hc⟩ := turn_at16 hvw hy
        have HC := Lib.hid hc
        have HTK : Hid (s.t ++ l.take (i + 1) = (s.t ++ l.take i) ++ [y] ∧ s.t.length + (i + 1) ≤ 1000) := ⟨by rw [take_snoc16 hy, List.append_assoc], by omega⟩
        clear hvw hc hy
        generalize s.t ++ l.take i = T at *
        generalize s.t.length + i = N at *
        go_wp2_with fail
        refine drawn_region (fun W => Turn (fun _ => False) wr W) [15] (by kernel_rfl) ?_
        have hS0 : Turn (fun _ => False) wr (World.drew wr) := (Turn.refl _ wr).drew
        generalize World.drew wr = wd at *
        refine drawn_take 0 19 (.pointer (some ⟨g, 0, none⟩)) rfl rfl (by kernel_rfl) (by kernel_rfl) (by kernel_rfl) (by kernel_rfl) (fun _ _ _ h => h) (by rfl) (by assumption) (by intro w hSw; obtain hS1 := hSw; go_simp) ?_
        try simp only [List.setIfInBounds_toArray, List.set_cons_zero, List.set_cons_succ]
        refine drawn_take 2 21 (.pointer (some ⟨g, 0, none⟩)) rfl rfl (by kernel_rfl) (by kernel_rfl) (by kernel_rfl) (by kernel_rfl) (fun _ _ _ h => h) (by rfl) (by assumption) (by intro w hSw; obtain hS1 := hSw; go_simp) ?_
        try simp only [List.setIfInBounds_toArray, List.set_cons_zero, List.set_cons_succ]
        refine drawn_take 3 22 (.pointer (some ⟨g, 0, none⟩)) rfl rfl (by kernel_rfl) (by kernel_rfl) (by kernel_rfl) (by kernel_rfl) (fun _ _ _ h => h) (by rfl) (by assumption) (by intro w hSw; obtain hS1 := hSw; go_simp) ?_
        try simp only [List.setIfInBounds_toArray, List.set_cons_zero, List.set_cons_succ]
        refine drawn_take 4 23 (.pointer (some ⟨g, 1, none⟩)) rfl rfl (by kernel_rfl) (by kernel_rfl) (by kernel_rfl) (by kernel_rfl) (fun _ _ _ h => h) (by rfl) (by assumption) (by intro w hSw; obtain hS1 := hSw; go_simp) ?_
        try simp only [List.setIfInBounds_toArray, List.set_cons_zero, List.set_cons_succ]
        refine drawn_take 5 24 (.slice B N cb) rfl rfl (by kernel_rfl) (by kernel_rfl) (by kernel_rfl) (by kernel_rfl) (fun _ _ _ h => h) (by rfl) (by assumption) (by intro w hSw; have a0 := (HMR.out.box.turn hSw (fun f => f)).cell 1; clear hSw; go_simp) ?_
        try simp only [List.setIfInBounds_toArray, List.set_cons_zero, List.set_cons_succ]
        refine drawn_take 7 26 (.slice (some ad) l.length c) rfl rfl (by kernel_rfl) (by kernel_rfl) (by kernel_rfl) (by kernel_rfl) (fun _ _ _ h => h) (by rfl) (by assumption) (by intro w hSw; obtain hS1 := hSw; go_simp) ?_
        try simp only [List.setIfInBounds_toArray, List.set_cons_zero, List.set_cons_succ]
        refine drawn_take 8 27 (.int .i64 (i : Int)) rfl rfl (by kernel_rfl) (by kernel_rfl) (by kernel_rfl) (by kernel_rfl) (fun _ _ _ h => h) (by rfl) (by assumption) (by intro w hSw; obtain hS1 := hSw; go_simp) ?_
        try simp only [List.setIfInBounds_toArray, List.set_cons_zero, List.set_cons_succ]
        refine drawn_take 9 28 (.pointer (some (ad.add i))) rfl rfl (by kernel_rfl) (by kernel_rfl) (by kernel_rfl) (by kernel_rfl) (fun _ _ _ h => h) (by rfl) (by assumption) (by intro w hSw; clear hSw; go_simp) ?_
        try simp only [List.setIfInBounds_toArray, List.set_cons_zero, List.set_cons_succ]
        refine drawn_take 10 29 (.bool y) rfl rfl (by kernel_rfl) (by kernel_rfl) (by kernel_rfl) (by kernel_rfl) (fun _ _ _ h => h) (by rfl) (by assumption) (by intro w hSw; have a0 := HC.out w hSw; clear hSw; go_simp) ?_
        try simp only [List.setIfInBounds_toArray, List.set_cons_zero, List.set_cons_succ]
        refine drawn_snoc (E := EB16) (l1 := T) (x := y) Try.underlying29 bool_info16 bool_zero16 (by omega) (fun W h => h) 1 6 11 12 20 25 30 31 24 29 rfl rfl rfl rfl rfl rfl rfl rfl rfl rfl rfl rfl rfl rfl rfl rfl
          (by kernel_rfl) (by kernel_rfl) (by kernel_rfl) (by kernel_rfl) (by kernel_rfl) (by kernel_rfl) (by simp) rfl rfl (fun W ht => HMR.out.trow.later ht) (by have := HLN.out; omega) HE.out (HXX.out y) hS0 ?_
        intro W u a0 b0 c0 hn
        obtain ⟨A5, c5, rfl⟩ := hn.own.shape
        have HN5 := Lib.hid hn
        generalize hn5 : (T ++ [y]).length = n5 at *
        try simp only [List.setIfInBounds_toArray, List.set_cons_zero, List.set_cons_succ]
        have hS5 : Turn (fun _ => False) wr W := hn.turn
        refine drawn_take 13 32 (.pointer (some ⟨g, 0, none⟩)) rfl rfl (by kernel_rfl) (by kernel_rfl) (by kernel_rfl) (by kernel_rfl) (fun _ _ _ h => h) (by rfl) (by assumption) (by intro w hSw; obtain hS1 := hSw; go_simp) ?_
        try simp only [List.setIfInBounds_toArray, List.set_cons_zero, List.set_cons_succ]
        refine drawn_take 14 33 (.pointer (some ⟨g, 1, none⟩)) rfl rfl (by kernel_rfl) (by kernel_rfl) (by kernel_rfl) (by kernel_rfl) (fun _ _ _ h => h) (by rfl) (by assumption) (by intro w hSw; obtain hS1 := hSw; go_simp) ?_
        try simp only [List.setIfInBounds_toArray, List.set_cons_zero, List.set_cons_succ]
        have hbx := HMR.out.box.turn hn.turn (fun f => f)
        have z1 := hbx.cell 1
        have z2 := hbx.free 1
        have HST := Lib.hid (rd_turns16 HMR.out hn.turn hn.own.rd (fun k hk => .inr (hn.new k hk)) (fun k hk => hn.own.lt hk))
        have HNW := Lib.hid hn.new
        refine drawn_last (z := 15) rfl (by kernel_rfl) (by kernel_rfl) (by kernel_rfl) (fun K hK => ?_)
        clear hn hS0 hS5 hbx
        go_simp
        refine hK.out _ _ ?_
        clear hK K z1 z2
        go_wp2
        go_roundw
        case rel => exact ⟨i + 1, .slice A5 n5 c5, by go_num, hlt, HTK.out.2, by rw [HTK.out.1]; exact HST.out.1, HTW.out.trans HST.out.2 (fun _ _ e => e), fun k hk => .inr (Nat.le_trans HTW.out.size (HNW.out k hk))⟩
        case measure => simp [intOf]; omega
      · have h1000' : s.t.length + i = 1000 := by omega
        have HF := Lib.hid (HFI.out i hi hsi (.inr h1000'))
        have hge : ¬ (((s.t.length + i : Nat) : Int) < 1000) := by omega
        generalize s.t.length + i = N at *
        clear h1000
        go_wp2
        go_end0
        rw [HF.out]
        exact ⟨rfl, sl, _, HMR.out, HTW.out, Own16.refl _ _, HOW.out⟩
    · obtain rfl : i = l.length := by omega
      have HF := Lib.hid (HFI.out l.length hi hsi (.inl rfl))
      generalize s.t.length + l.length = N at *
      go_wp2
      go_end0
      rw [HF.out]
      exact ⟨rfl, sl, _, HMR.out, HTW.out, Own16.refl _ _, HOW.out⟩

end Go.Proofs.Ytamcgoamkakpkaa

/-
  A slice of elements of any size that came in. No type is named here.
-/
namespace Go.Proofs.Ytamcgoamkakpkaa
open Go.RowKit Go.ChangeShapes Go.WideShapes Go.Deep

theorem open_elems {P : Program} {H X : Type} [Inhabited X] {enc : TypeId × Value → H} {W : World} {T e : TypeId} (E : El X) (ok : X → Prop) {v : Value} {d : DataW H} {p : List MemPlace} {a : Option Addr} {len cap : Nat}
    (hT : P.underlying T = some (.slice e)) (hC : P.cellsOf e = E.sz) (hv : v = .slice a len cap) (h : DataW.Trod enc P W 0 (fun _ => true) true T v d p)
    (one : ∀ (n : Nat) (cs : List Value) (y : DataW H × List MemPlace), cs.length = E.sz → DataW.trod enc P W 0 (fun _ => true) true n e cs = some y → ∃ x, cs = E.enc x ∧ ok x) :
    ∃ l : List X, RdE E W v l ∧ l.length ≤ maxLen ∧ ∀ x ∈ l, ok x := by
  subst hv
  obtain ⟨fuel, hf⟩ := h
  rcases open_slice hT hf with ⟨hcs, _⟩ | ⟨a', len', cap', m, n, D, Pl, hcs, _, hl, hm, hmm, _, hx⟩
  · simp [Value.cells] at hcs
    obtain ⟨rfl, rfl, rfl⟩ := hcs
    exact ⟨[], RdE.nil W, Nat.zero_le _, fun x hx => by cases hx⟩
  · simp [Value.cells] at hcs
    obtain ⟨rfl, rfl, rfl⟩ := hcs
    have hmm' : m = cap := by simpa using hmm
    subst hmm'
    have key : ∀ i, i < len → ∃ x : X, (∀ j u, (E.enc x)[j]? = some u → W.cell? (a'.add (i * E.sz + j)) = some u) ∧ ok x := by
      intro i hi
      obtain ⟨cs, h1, h2⟩ := hx i (by omega)
      rw [hC] at h1
      obtain ⟨_, hlen, hcell⟩ := World.cells?_some h1
      obtain ⟨x, rfl, hok⟩ := one _ _ _ hlen h2
      refine ⟨x, fun j u hj => ?_, hok⟩
      have hjl : j < E.sz := by
        have := (List.getElem?_eq_some_iff.1 hj).1
        rwa [E.len] at this
      have hc := hcell j hjl
      rw [eadd_add] at hc
      rw [hc]
      exact hj
    obtain ⟨V, hV⟩ := choose_lt key
    have hll : ((List.range len).map V).length = len := by simp
    refine ⟨(List.range len).map V, ⟨some a', m, by rw [hll], ⟨by rw [hll]; omega, by omega⟩, (fun e => by cases e), fun ad e i u hi => ?_⟩, by rw [hll]; omega, fun x hx => ?_⟩
    · cases e
      have hil : i < len * E.sz := by
        have := (List.getElem?_eq_some_iff.1 hi).1
        rwa [E.flat_len, hll] at this
      have hs : 0 < E.sz := by
        rcases Nat.eq_zero_or_pos E.sz with c | c
        · rw [c] at hil; simp at hil
        · exact c
      have hq : i / E.sz < len := (Nat.div_lt_iff_lt_mul hs).2 hil
      have hr : i % E.sz < E.sz := Nat.mod_lt _ hs
      have hi2 : i = i / E.sz * E.sz + i % E.sz := by rw [Nat.mul_comm]; exact (Nat.div_add_mod i E.sz).symm
      have hVi : ((List.range len).map V)[i / E.sz]? = some (V (i / E.sz)) := by rw [List.getElem?_map, List.getElem?_range hq]; rfl
      rw [hi2, E.flat_at hVi hr] at hi
      have := (hV _ hq).1 _ _ hi
      rw [← hi2] at this
      exact this
    · obtain ⟨i, hi, rfl⟩ := List.mem_map.1 hx
      exact (hV i (List.mem_range.1 hi)).2

end Go.Proofs.Ytamcgoamkakpkaa

/-
  Plain: a thing put where it belongs, once: lists that rise. No type is named.
-/
namespace Go.Proofs.Ytamcgoamkakpkaa

section
variable {A : Type} (lt : A → A → Bool)
/-- How many stand below h at the head. -/
def posG (h : A) : List A → Nat
  | [] => 0
  | x :: t => if lt x h = true then posG h t + 1 else 0
theorem posG_le (h : A) : ∀ l, posG lt h l ≤ l.length
  | [] => Nat.le_refl _
  | x :: t => by
    unfold posG
    split
    · have := posG_le h t
      simp only [List.length_cons]
      omega
    · exact Nat.zero_le _
theorem posG_at (h : A) : ∀ (l : List A) (i : Nat) (y : A), l[i]? = some y → i < posG lt h l → lt y h = true
  | [], i, y, hy, _ => by simp at hy
  | x :: t, i, y, hy, hi => by
    unfold posG at hi
    split at hi
    · rename_i hx
      cases i with
      | zero =>
        have e : x = y := by simpa using hy
        rw [← e]; exact hx
      | succ i => exact posG_at h t i y (by simpa using hy) (by omega)
    · omega
theorem posG_end (h : A) : ∀ (l : List A) (y : A), l[posG lt h l]? = some y → lt y h = false
  | [], y, hy => by simp [posG] at hy
  | x :: t, y, hy => by
    unfold posG at hy
    split at hy
    · exact posG_end h t y (by simpa using hy)
    · rename_i hx
      have e : x = y := by simpa using hy
      rw [← e]; simpa using hx
end
section
variable {A : Type} [DecidableEq A] (lt : A → A → Bool)
/-- A thing put where it belongs, once. -/
def insG (h : A) (l : List A) : List A := if l[posG lt h l]? = some h then l else l.take (posG lt h l) ++ h :: l.drop (posG lt h l)
/-- All things of a list: each once, rising. -/
def setG (l : List A) : List A := l.foldl (fun out x => insG lt x out) []
theorem insG_len (h : A) (l : List A) : (insG lt h l).length ≤ l.length + 1 := by
  unfold insG
  split
  · omega
  · rw [List.length_append, List.length_cons, List.length_take, List.length_drop]
    have := posG_le lt h l
    omega
theorem setG_snoc (l : List A) (x : A) : setG lt (l ++ [x]) = insG lt x (setG lt l) := by
  unfold setG
  rw [List.foldl_append]
  rfl
theorem setG_take {l : List A} {i : Nat} {x : A} (h : l[i]? = some x) : setG lt (l.take (i + 1)) = insG lt x (setG lt (l.take i)) := by
  obtain ⟨h0, e⟩ := List.getElem?_eq_some_iff.1 h
  rw [List.take_succ_eq_append_getElem h0, e, setG_snoc]
theorem setG_len (l : List A) : ∀ i, (setG lt (l.take i)).length ≤ i
  | 0 => by simp [setG]
  | i + 1 => by
    have ih := setG_len l i
    cases h : l[i]? with
    | none => rw [List.take_of_length_le (by have := List.getElem?_eq_none_iff.1 h; omega)]; rw [List.take_of_length_le (by have := List.getElem?_eq_none_iff.1 h; omega)] at ih; omega
    | some x =>
      rw [setG_take lt h]
      have := insG_len lt x (setG lt (l.take i))
      omega
theorem insG_mem (h : A) (l : List A) (x : A) : x ∈ insG lt h l ↔ x = h ∨ x ∈ l := by
  unfold insG
  split
  · rename_i hp
    exact ⟨fun hx => .inr hx, fun hx => hx.elim (fun e => by rw [e]; exact List.mem_of_getElem? hp) id⟩
  · constructor
    · intro hx
      rcases List.mem_append.1 hx with hx | hx
      · exact .inr (List.mem_of_mem_take hx)
      · rcases List.mem_cons.1 hx with hx | hx
        · exact .inl hx
        · exact .inr (List.mem_of_mem_drop hx)
    · intro hx
      rcases hx with rfl | hx
      · exact List.mem_append_right _ (List.mem_cons_self ..)
      · rw [← List.take_append_drop (posG lt h l) l] at hx
        rcases List.mem_append.1 hx with hx | hx
        · exact List.mem_append_left _ hx
        · exact List.mem_append_right _ (List.mem_cons_of_mem _ hx)
theorem insG_rises (hr : Rises lt) (h : A) (l : List A) (hl : l.Pairwise fun x y => lt x y = true) : (insG lt h l).Pairwise fun x y => lt x y = true := by
  unfold insG
  split
  · exact hl
  · rename_i hp
    have ple := posG_le lt h l
    have pat := posG_at lt h l
    have pend := posG_end lt h l
    generalize posG lt h l = p at *
    rw [List.pairwise_append, List.pairwise_cons]
    have ha : ∀ y ∈ l.drop p, lt h y = true := fun y hy => by
      obtain ⟨i, hi, e⟩ := List.getElem_of_mem hy
      have hi2 : p + i < l.length := by rw [List.length_drop] at hi; omega
      rw [List.getElem_drop] at e
      have hpl : p < l.length := by omega
      have h1 := pend l[p] (List.getElem?_eq_getElem hpl)
      have h2 : l[p] ≠ h := fun e => hp (by rw [List.getElem?_eq_getElem hpl, e])
      have h3 : lt h l[p] = true := hr.tot _ _ h2 h1
      by_cases ei : i = 0
      · subst ei
        rw [← e]
        exact h3
      · have h4 := List.pairwise_iff_getElem.1 hl p (p + i) hpl hi2 (by omega)
        rw [e] at h4
        exact hr.tr _ _ _ h3 h4
    have hb : ∀ x ∈ l.take p, lt x h = true := fun x hx => by
      obtain ⟨i, hi, e⟩ := List.getElem_of_mem hx
      have hi2 : i < p := by rw [List.length_take] at hi; omega
      rw [List.getElem_take] at e
      exact pat i x (by rw [List.getElem?_eq_getElem (by omega), e]) hi2
    refine ⟨hl.sublist (List.take_sublist _ _), ⟨ha, hl.sublist (List.drop_sublist _ _)⟩, fun x hx y hy => ?_⟩
    rcases List.mem_cons.1 hy with rfl | hy
    · exact hb x hx
    · exact hr.tr _ _ _ (hb x hx) (ha y hy)
theorem setG_is (hr : Rises lt) (l : List A) : ((setG lt l).Pairwise fun x y => lt x y = true) ∧ ∀ x, x ∈ setG lt l ↔ x ∈ l := by
  have key : ∀ (m acc : List A), (acc.Pairwise fun x y => lt x y = true) → ((m.foldl (fun out x => insG lt x out) acc).Pairwise fun x y => lt x y = true) ∧ ∀ x, x ∈ m.foldl (fun out x => insG lt x out) acc ↔ x ∈ m ∨ x ∈ acc := by
    intro m
    induction m with
    | nil => intro acc h; exact ⟨h, fun x => by simp⟩
    | cons f m ih =>
      intro acc h
      obtain ⟨h1, h2⟩ := ih (insG lt f acc) (insG_rises lt hr _ _ h)
      refine ⟨h1, fun x => ?_⟩
      rw [List.foldl_cons, h2 x, insG_mem, List.mem_cons]
      constructor
      · rintro (h | h | h)
        · exact .inl (.inr h)
        · exact .inl (.inl h)
        · exact .inr h
      · rintro ((h | h) | h)
        · exact .inr (.inl h)
        · exact .inl h
        · exact .inr (.inr h)
  obtain ⟨h1, h2⟩ := key l [] List.Pairwise.nil
  exact ⟨h1, fun x => by unfold setG; rw [h2 x]; simp⟩
end
/-- The place of a thing; as many as there are: it has none. -/
def idxG {A : Type} [DecidableEq A] (x : A) : List A → Nat
  | [] => 0
  | y :: t => if y = x then 0 else idxG x t + 1
theorem idxG_le {A : Type} [DecidableEq A] (x : A) : ∀ l : List A, idxG x l ≤ l.length
  | [] => Nat.le_refl _
  | y :: t => by
    unfold idxG
    split
    · exact Nat.zero_le _
    · have := idxG_le x t; simp only [List.length_cons]; omega
theorem idxG_at {A : Type} [DecidableEq A] {x : A} : ∀ {l : List A} {i : Nat}, idxG x l = i → i < l.length → l[i]? = some x
  | [], i, _, h => absurd h (Nat.not_lt_zero i)
  | y :: t, i, h, hi => by
    unfold idxG at h
    split at h
    · rename_i e
      subst h e
      rfl
    · subst h
      rw [List.getElem?_cons_succ]
      exact idxG_at rfl (by simp only [List.length_cons] at hi; omega)
theorem idxG_below {A : Type} [DecidableEq A] {x : A} : ∀ {l : List A} {i : Nat} {y : A}, i < idxG x l → l[i]? = some y → y ≠ x
  | [], i, y, _, h => by simp at h
  | z :: t, i, y, hi, h => by
    unfold idxG at hi
    split at hi
    · exact absurd hi (Nat.not_lt_zero i)
    · rename_i e
      cases i with
      | zero =>
        have : z = y := by simpa using h
        rw [← this]; exact e
      | succ i => exact idxG_below (l := t) (i := i) (by omega) (by simpa using h)
theorem idxG_mem {A : Type} [DecidableEq A] {x : A} : ∀ {l : List A}, idxG x l < l.length ↔ x ∈ l
  | [] => by simp [idxG]
  | y :: t => by
    unfold idxG
    split
    · rename_i e
      subst e
      simp
    · rename_i e
      rw [List.length_cons, List.mem_cons]
      have := idxG_mem (x := x) (l := t)
      constructor
      · intro h; exact .inr (this.1 (by omega))
      · rintro (h | h)
        · exact absurd h.symm e
        · have := this.2 h; omega

end Go.Proofs.Ytamcgoamkakpkaa

/-
  Stage 10: texts in memory; the document's Code and Same.
-/
namespace Go.Proofs.Ytamcgoamkakpkaa
open Go.RowKit

set_option maxRecDepth 100000

/-- A text's cell. -/
def ET10 : El (List UInt8) where
  sz := 1
  enc s := [.string ⟨s.toArray⟩]
  len _ := rfl
  one s u hu := by rw [List.mem_singleton.1 hu]; rfl
theorem str_info10 : (Try.prog.info? 9).map (fun i => (i.zero, i.size, i.bytes)) = some (some (.string ⟨#[]⟩), ET10.sz, 16) := by kernel_rfl
theorem str_zero10 : (Value.cells (.string ⟨#[]⟩)).size = ET10.sz := rfl
abbrev sv10 (l : List UInt8) : Value := .string ⟨l.toArray⟩
theorem str_at10 {w : World} {A : Option Addr} {n c : Nat} {L : List (List UInt8)} (h : RdE ET10 w (.slice A n c) L) {j : Nat} {x : List UInt8} (hj : L[j]? = some x) :
    ∃ ad, A = some ad ∧ ∀ W, Turn (fun _ => False) w W → W.cell? (ad.add j) = some (sv10 x) := by
  obtain ⟨ad, hA, _⟩ := h.cells hj
  refine ⟨ad, hA, fun W ht => ?_⟩
  obtain ⟨ad', hA', hc⟩ := (h.later ht).cells hj
  rw [hA] at hA'
  cases hA'
  have h1 := hc 0 _ rfl
  rwa [show j * ET10.sz + 0 = j from by simp [ET10]] at h1

/-- The number of a text; -1: it has none. -/
def codeT (x : List UInt8) (l : List (List UInt8)) : Int := if idxG x l < l.length then (idxG x l : Int) else -1

set_option maxHeartbeats 4000000 in
theorem same_refl10 (a b : Value) (L : List (List UInt8)) (w : World) (ha : RdE ET10 w a L) (hb : RdE ET10 w b L) (hl : L.length ≤ 1000000) :
    Calls Try.prog 15 #[a, b] w fun e w' => e = .returned (.bool true) ∧ Turn (fun _ => False) w w' := by
  have HA := Lib.hid ha; have HB := Lib.hid hb
  obtain ⟨A, c, rfl⟩ := ha.shape
  obtain ⟨B, d, rfl⟩ := hb.shape
  clear ha hb
  go_enter Try.func15, Try.ntmps15
  go_wp2_with fail
  go_loopw [5] (fun x5 wr => ∃ i : Nat, x5 = .int .i64 (i : Int) ∧ i ≤ L.length ∧ ∃ n, wr = w.drewN n) (fun x5 _ => L.length - (intOf x5).toNat)
  case atStart => exact ⟨0, rfl, Nat.zero_le _, 0, rfl⟩
  case round =>
    obtain ⟨i, rfl, hi, n, rfl⟩ := hrel
    by_cases hlt : i < L.length
    · obtain ⟨x, hx⟩ : ∃ x, L[i]? = some x := ⟨_, List.getElem?_eq_getElem hlt⟩
      obtain ⟨ad, rfl, hc⟩ := str_at10 HA.out hx
      obtain ⟨bd, rfl, hd⟩ := str_at10 HB.out hx
      have e0 := hc w (Turn.refl _ _)
      have e2 := hd w (Turn.refl _ _)
      unfold sv10 at e0 e2
      have hee : (x == x) = true := beq_self_eq_true x
      clear hc hd hx
      have hil : (i : Int) < L.length := by omega
      go_wp2_with fail
      go_quiet (fail)
      go_wp2
      go_roundw
      case rel => exact ⟨i + 1, by go_num, hlt, n + nq, by simp [World.drewN]⟩
      case measure => simp [intOf]; omega
    · obtain rfl : i = L.length := by omega
      go_wp2
      go_ret
      exact ⟨rfl, (Turn.refl _ w).drewN _⟩

end Go.Proofs.Ytamcgoamkakpkaa

/-
  Stage 16: acts on a store that came in; which are light; the document's names.
-/
namespace Go.Proofs.Ytamcgoamkakpkaa
open Go.RowKit Go.ChangeShapes Go.WideShapes Go.Deep

set_option maxRecDepth 100000

/-- An act: its kind, a name, bytes and turns (slices that came in). -/
structure AC16 where
  kind : Int
  nm : List UInt8
  A : Option Addr
  c : Nat
  b : List UInt8
  B : Option Addr
  d : Nat
  t : List Bool
instance : Inhabited AC16 := ⟨⟨0, [], none, 0, [], none, 0, []⟩⟩
abbrev AC16.sl (a : AC16) : Value := .slice a.A a.b.length a.c
abbrev AC16.ts (a : AC16) : Value := .slice a.B a.t.length a.d
abbrev acells16 (a : AC16) : Array Value := #[.int .i64 a.kind, sv16 a.nm, a.sl, a.ts]
def EA16 : El AC16 where
  sz := 4
  enc a := [.int .i64 a.kind, sv16 a.nm, a.sl, a.ts]
  len _ := rfl
  one a u hu := by
    simp only [List.mem_cons, List.not_mem_nil, or_false] at hu
    rcases hu with rfl | rfl | rfl | rfl <;> rfl
/-- What holds of an act that came in. -/
structure AcOk16 (W : World) (a : AC16) : Prop where
  kind : (Lit.int .i64 a.kind).wf = true
  nm : a.nm.length ≤ maxLen
  b : Rd W a.sl a.b
  bl : a.b.length ≤ maxLen
  t : RdE EB16 W a.ts a.t
  tn : a.t.length ≤ maxLen
theorem open_bytes16 {H : Type} {enc : TypeId × Value → H} {W : World} {fuel : Nat} {cs : List Value} {x : DataW H × List MemPlace}
    (hf : DataW.trod enc Try.prog W 0 (fun _ => true) true fuel 34 cs = some x) : ∃ v l, cs = [v] ∧ Rd W v l ∧ l.length ≤ maxLen := by
  rcases open_slice Try.underlying34 hf with ⟨hcs, _⟩ | ⟨a', len, cap, m, n, D, Pl, hcs, _, hl, hm, hmm, _, hx⟩
  · exact ⟨_, [], hcs, Rd.none W, Nat.zero_le _⟩
  · have hC : Try.prog.cellsOf 5 = 1 := by kernel_rfl
    have hmm' : m = cap := by simpa using hmm
    subst hmm'
    have key : ∀ i, i < len → ∃ b : UInt8, W.cell? (a'.add i) = some (bv b) := by
      intro i hi
      obtain ⟨cs, h1, h2⟩ := hx i (by omega)
      rw [hC] at h1
      obtain ⟨_, hlen, hcell⟩ := World.cells?_some h1
      match cs, hlen with
      | [c0], _ =>
        obtain ⟨K, k0, _, kw⟩ := DataW.trod_int Try.underlying5 h2
        simp only [List.cons.injEq, and_true] at k0
        subst k0
        have hK : 0 ≤ K ∧ K ≤ 255 := by simpa [Lit.wf, IntKind.min, IntKind.max, IntKind.signed, IntKind.bits] using kw
        have hc := hcell 0 (by omega)
        simp only [Go.Deep.add_add] at hc
        refine ⟨UInt8.ofNat K.toNat, ?_⟩
        have e : bv (UInt8.ofNat K.toNat) = .int .u8 K := by
          unfold bv
          rw [UInt8.toNat_ofNat', Nat.mod_eq_of_lt (by omega), Int.toNat_of_nonneg hK.1]
        rw [e]
        have e2 : i * 1 + 0 = i := by omega
        simpa [e2] using hc
    obtain ⟨V, hV⟩ := choose_lt key
    have hll : ((List.range len).map V).length = len := by simp
    refine ⟨_, (List.range len).map V, hcs, ⟨some a', m, by rw [hll], ⟨by rw [hll]; omega, by omega⟩, (fun e => by cases e), fun ad e j b hj => ?_⟩, by rw [hll]; omega⟩
    cases e
    have hjl : j < len := by
      have := (List.getElem?_eq_some_iff.1 hj).1
      simpa using this
    have hb : b = V j := by
      rw [List.getElem?_map, List.getElem?_range hjl] at hj
      exact (Option.some.inj hj).symm
    rw [hb]
    exact hV j hjl
theorem open_turn16 {H : Type} {enc : TypeId × Value → H} {W : World} (n : Nat) (cs : List Value) (y : DataW H × List MemPlace) (hl : cs.length = EB16.sz) (h : DataW.trod enc Try.prog W 0 (fun _ => true) true n 4 cs = some y) :
    ∃ x, cs = EB16.enc x ∧ True := by
  match cs, hl with
  | [c0], _ =>
    obtain ⟨b, k0, _⟩ := DataW.trod_bool Try.underlying4 h
    simp only [List.cons.injEq, and_true] at k0
    subst k0
    exact ⟨b, rfl, trivial⟩
theorem open_turns16 {H : Type} {enc : TypeId × Value → H} {W : World} {v : Value} {d : DataW H} {p : List MemPlace} {a : Option Addr} {len cap : Nat} (hv : v = .slice a len cap)
    (h : DataW.Trod enc Try.prog W 0 (fun _ => true) true 29 v d p) : ∃ l : List Bool, RdE EB16 W v l ∧ l.length ≤ maxLen ∧ ∀ x ∈ l, True :=
  open_elems EB16 (fun _ => True) Try.underlying29 (by kernel_rfl) hv h open_turn16
theorem open_turns_in16 {H : Type} {enc : TypeId × Value → H} {W : World} {fuel : Nat} {cs : List Value} {x : DataW H × List MemPlace}
    (hf : DataW.trod enc Try.prog W 0 (fun _ => true) true fuel 29 cs = some x) : ∃ v l, cs = [v] ∧ RdE EB16 W v l ∧ l.length ≤ maxLen := by
  have key : ∀ (a : Option Addr) (len cap : Nat), cs = [.slice a len cap] → ∃ v l, cs = [v] ∧ RdE EB16 W v l ∧ l.length ≤ maxLen := fun a len cap hcs => by
    obtain ⟨d, p⟩ := x
    obtain ⟨l, h1, h2, _⟩ := open_turns16 (enc := enc) (W := W) (v := .slice a len cap) (d := d) (p := p) rfl ⟨fuel, by
      show DataW.trod enc Try.prog W 0 (fun _ => true) true fuel _ _ = _
      rw [hcs] at hf
      simpa [Value.cells] using hf⟩
    exact ⟨_, l, hcs, h1, h2⟩
  rcases open_slice Try.underlying29 hf with ⟨hcs, _⟩ | ⟨a', len, cap, m, n, D, Pl, hcs, _⟩
  · exact key _ _ _ hcs
  · exact key _ _ _ hcs
theorem open_act16 {H : Type} {enc : TypeId × Value → H} {W : World} (n : Nat) (cs : List Value) (y : DataW H × List MemPlace) (hl : cs.length = EA16.sz) (h : DataW.trod enc Try.prog W 0 (fun _ => true) true n 36 cs = some y) :
    ∃ x, cs = EA16.enc x ∧ AcOk16 W x := by
  obtain ⟨y0, y1, y2, y3, n', _, _, g0, g1, g2, g3⟩ := Go.Joins.trod_struct4 Try.underlying36 h
  have e3 : Try.prog.cellsOf 3 = 1 := by kernel_rfl
  have e2 : Try.prog.cellsOf 34 = 1 := by kernel_rfl
  have e4 : Try.prog.cellsOf 29 = 1 := by kernel_rfl
  have e9 : Try.prog.cellsOf 9 = 1 := by kernel_rfl
  match cs, hl with
  | [c0, c1, c2, c3], _ =>
    simp [e3, e2, e9, e4] at g0 g1 g2 g3
    obtain ⟨K, k0, _, kw⟩ := DataW.trod_int Try.underlying3 g0
    obtain ⟨S, k1, _, sw⟩ := DataW.trod_string Try.underlying9 g1
    obtain ⟨v, l, k2, hr, hl3⟩ := open_bytes16 g2
    obtain ⟨u, t, k3, hrt, hlt⟩ := open_turns_in16 g3
    simp only [List.cons.injEq, and_true] at k0 k1 k2 k3
    subst k0 k1 k2 k3
    obtain ⟨A, c, rfl⟩ := hr.shape
    obtain ⟨B, d, rfl⟩ := hrt.shape
    exact ⟨⟨K, S.data.toList, A, c, l, B, d, t⟩, by simp [EA16], kw, by show S.data.toList.length ≤ _; rw [Array.length_toList]; exact sw, hr, hl3, hrt, hlt⟩
theorem open_acts16 {H : Type} {enc : TypeId × Value → H} {W : World} {v : Value} {d : DataW H} {p : List MemPlace} {a : Option Addr} {len cap : Nat} (hv : v = .slice a len cap)
    (h : DataW.Trod enc Try.prog W 0 (fun _ => true) true 22 v d p) : ∃ l : List AC16, RdE EA16 W v l ∧ l.length ≤ maxLen ∧ ∀ x ∈ l, AcOk16 W x :=
  open_elems EA16 (AcOk16 W) Try.underlying22 (by kernel_rfl) hv h open_act16
theorem act_at16 {w : World} {A : Option Addr} {n c : Nat} {L : List AC16} (h : RdE EA16 w (.slice A n c) L) {j : Nat} {a : AC16} (hj : L[j]? = some a) :
    ∃ ad, A = some ad ∧ ∀ W, Turn (fun _ => False) w W → W.cell? (ad.add (j * 4)) = some (.int .i64 a.kind) ∧ W.cell? ⟨(ad.add (j * 4)).block, (ad.add (j * 4)).off + 1, none⟩ = some (sv16 a.nm) ∧ W.cell? ⟨(ad.add (j * 4)).block, (ad.add (j * 4)).off + 2, none⟩ = some a.sl ∧
      W.cell? ⟨(ad.add (j * 4)).block, (ad.add (j * 4)).off + 3, none⟩ = some a.ts := by
  obtain ⟨ad, hA, _⟩ := h.cells hj
  refine ⟨ad, hA, fun W ht => ?_⟩
  obtain ⟨ad', hA', hc⟩ := (h.later ht).cells hj
  rw [hA] at hA'
  cases hA'
  have key : ∀ (k : Nat) (u : Value), (EA16.enc a)[k + 1]? = some u → W.cell? ⟨(ad.add (j * 4)).block, (ad.add (j * 4)).off + (k + 1), none⟩ = some u := fun k u hu => by
    rw [show (⟨(ad.add (j * 4)).block, (ad.add (j * 4)).off + (k + 1), none⟩ : Addr) = (ad.add (j * 4)).add (k + 1) from rfl, eadd_add]
    exact hc (k + 1) u hu
  exact ⟨hc 0 _ rfl, key 0 _ rfl, key 1 _ rfl, key 2 _ rfl⟩

/-- Is an act short? -/
def short16 (a : AC16) : Bool := decide (a.nm.length ≤ 60) && decide (a.b.length ≤ 100) && decide (a.t.length ≤ 1100)
def light16 (l : List AC16) : Bool := decide (l.length ≤ 100) && l.all short16
theorem light_long16 {l : List AC16} (h : ¬ l.length ≤ 100) : light16 l = false := by unfold light16; rw [decide_eq_false h]; rfl
theorem light_not16 {l : List AC16} {i : Nat} {a : AC16} (hi : l[i]? = some a) (h : short16 a = false) : light16 l = false := by
  unfold light16
  rw [Bool.and_eq_false_iff]
  right
  rw [List.all_eq_false]
  exact ⟨a, List.mem_of_getElem? hi, by rw [h]; decide⟩
theorem light_yes16 {l : List AC16} (h1 : l.length ≤ 100) (h : ∀ k a, k < l.length → l[k]? = some a → short16 a = true) : light16 l = true := by
  unfold light16
  rw [decide_eq_true h1, Bool.true_and, List.all_eq_true]
  intro a ha
  obtain ⟨k, hk, e⟩ := List.getElem_of_mem ha
  exact h k a hk (by rw [List.getElem?_eq_getElem hk, e])

set_option maxHeartbeats 4000000 in
theorem light_any16 (v : Value) (l : List AC16) (w : World) (hv : RdE EA16 w v l) (hl : l.length ≤ maxLen) (ho : ∀ a ∈ l, a.nm.length ≤ maxLen ∧ a.b.length ≤ maxLen ∧ a.t.length ≤ maxLen) :
    Calls Try.prog 6 #[v] w fun e w' => e = .returned (.bool (light16 l)) ∧ w' = w := by
  have HV := Lib.hid hv; have HO := Lib.hid ho
  obtain ⟨A, c, rfl⟩ := hv.shape
  unfold maxLen at hl
  clear hv ho
  by_cases h100 : l.length ≤ 100
  · have h100' : (l.length : Int) ≤ 100 := by omega
    go_enter Try.func6, Try.ntmps6
    go_wp2_with fail
    go_loopw [3] (fun x3 wr => wr = w ∧ ∃ i : Nat, x3 = .int .i64 (i : Int) ∧ i ≤ l.length ∧ ∀ k a, k < i → l[k]? = some a → short16 a = true) (fun x3 _ => l.length - (intOf x3).toNat)
    case atStart => exact ⟨rfl, 0, rfl, Nat.zero_le _, fun k a hk => absurd hk (Nat.not_lt_zero k)⟩
    case round =>
      obtain ⟨rfl, i, rfl, hi, he⟩ := hrel
      have HE := Lib.hid he
      clear he
      by_cases hlt : i < l.length
      · obtain ⟨a, ha⟩ : ∃ a, l[i]? = some a := ⟨_, List.getElem?_eq_getElem hlt⟩
        obtain ⟨ad, rfl, hc⟩ := act_at16 HV.out ha
        have hil : (i : Int) < l.length := by omega
        obtain ⟨-, x1, x2, x3⟩ := hc wr (Turn.refl _ _)
        have HA := Lib.hid ha
        obtain ⟨o1, o2, o3⟩ := HO.out a (List.mem_of_getElem? ha)
        unfold maxLen at o1 o2 o3
        obtain ⟨ak, an, aA, ac, ab, aB, ad2, am⟩ := a
        dsimp only [AC16.sl, AC16.ts] at x1 x2 x3 o1 o2 o3
        have hs1 : ByteArray.size ⟨an.toArray⟩ = an.length := rfl
        clear hc ha
        by_cases h1 : an.length ≤ 60
        · by_cases h2 : ab.length ≤ 100
          · by_cases h3 : am.length ≤ 1100
            · have g1 : ¬ ((60 : Int) < an.length) := by omega
              have g2 : ¬ ((100 : Int) < ab.length) := by omega
              have g3 : ¬ ((1100 : Int) < am.length) := by omega
              have HSH : Hid (short16 ⟨ak, an, aA, ac, ab, aB, ad2, am⟩ = true) := by show _ = _; unfold short16; rw [decide_eq_true h1, decide_eq_true h2, decide_eq_true h3]; rfl
              clear h1 h2 h3 o1 o2 o3
              go_wp2
              go_roundw
              case rel => exact ⟨trivial, i + 1, by go_num, hlt, fun k a hk h => by
                rcases Nat.lt_or_ge k i with c | c
                · exact HE.out k a c h
                · obtain rfl : k = i := by omega
                  rw [HA.out] at h
                  cases h
                  exact HSH.out⟩
              case measure => simp [intOf]; omega
            · have g1 : ¬ ((60 : Int) < an.length) := by omega
              have g2 : ¬ ((100 : Int) < ab.length) := by omega
              have g3 : (1100 : Int) < am.length := by omega
              have HLN : Hid (light16 l = false) := light_not16 HA.out (by unfold short16; rw [decide_eq_false h3, Bool.and_false])
              clear h1 h2 h3 o1 o2 o3
              go_wp2
              go_ret
              exact ⟨by rw [HLN.out]; rfl, rfl⟩
          · have g1 : ¬ ((60 : Int) < an.length) := by omega
            have g2 : (100 : Int) < ab.length := by omega
            have HLN : Hid (light16 l = false) := light_not16 HA.out (by unfold short16; rw [decide_eq_false h2, Bool.and_false, Bool.false_and])
            clear h1 h2 o1 o2 o3
            go_wp2
            go_ret
            exact ⟨by rw [HLN.out]; rfl, rfl⟩
        · have g1 : (60 : Int) < an.length := by omega
          have HLN : Hid (light16 l = false) := light_not16 HA.out (by unfold short16; rw [decide_eq_false h1, Bool.false_and, Bool.false_and])
          clear h1 o1 o2 o3
          go_wp2
          go_ret
          exact ⟨by rw [HLN.out]; rfl, rfl⟩
      · obtain rfl : i = l.length := by omega
        have HLY : Hid (light16 l = true) := light_yes16 h100 HE.out
        go_wp2
        go_ret
        exact ⟨by rw [HLY.out]; rfl, rfl⟩
  · have h100' : ¬ ((l.length : Int) ≤ 100) := by omega
    have HLN : Hid (light16 l = false) := light_long16 h100
    go_enter Try.func6, Try.ntmps6
    go_wp2
    go_ret
    exact ⟨by rw [HLN.out]; rfl, rfl⟩

/-- Names laid in new memory. -/
def Names16 (w : World) (l : List (List UInt8)) (e : Ending) (w' : World) : Prop := ∃ v, e = .returned v ∧ RdE ET10 w' v l ∧ Turn (fun _ => False) w w'
set_option maxHeartbeats 4000000 in
theorem ref_names16 (g : Nat) (sl tl : Value) (d : C16) (w : World) (hm : RD16 w g sl tl d) (hl : d.l.length ≤ 10000) :
    Calls Try.prog 17 #[.pointer (some ⟨g, 0, none⟩)] w fun e w' => Names16 w (d.l.map (·.1)) e w' := by
  obtain ⟨A, c, rfl⟩ := hm.row.shape
  have HM := Lib.hid hm
  have HC0 : Hid (∀ W, Turn (fun _ => False) w W → W.cell? ⟨g, 0, none⟩ = some (.slice A d.l.length c)) := fun W ht => (hm.box.turn ht (fun f => f)).cell 0
  have hc0 := HC0.out w (Turn.refl _ _)
  have H0 : Hid (NewE ET10 9 w w (.slice none 0 0) ((d.l.take 0).map (·.1))) := ⟨OwE.nil _, (fun k e => by simp [Value.ownBlock] at e), Turn.refl _ _⟩
  clear hm
  go_enter Try.func17, Try.ntmps17
  go_wp2_with fail
  go_loopw [3, 4] (fun x3 x4 wr => ∃ i : Nat, x4 = .int .i64 (i : Int) ∧ i ≤ d.l.length ∧ NewE ET10 9 w wr x3 ((d.l.take i).map (·.1))) (fun _ x4 _ => d.l.length - (intOf x4).toNat)
  case atStart => exact ⟨0, rfl, Nat.zero_le _, H0.out⟩
  case round =>
    clear hc0 H0
    obtain ⟨i, rfl, hi, hn⟩ := hrel
    obtain ⟨B4, d4, e4⟩ := hn.own.shape
    have hln : ((d.l.take i).map (·.1)).length = i := by rw [List.length_map, List.length_take]; omega
    rw [hln] at e4
    subst e4
    have HN := Lib.hid hn
    have HLN := Lib.hid hln
    have hc0 := HC0.out wr hn.turn
    clear hn hln
    by_cases hlt : i < d.l.length
    · obtain ⟨p, hp⟩ : ∃ p, d.l[i]? = some p := ⟨_, List.getElem?_eq_getElem hlt⟩
      obtain ⟨ad, rfl, hc⟩ := obj_at16 HM.out.row hp
      obtain ⟨x0, -⟩ := hc wr HN.out.turn
      have HTK : Hid ((d.l.take (i + 1)).map (·.1) = (d.l.take i).map (·.1) ++ [p.1]) := by show _ = _; rw [take_snoc16 hp, List.map_append]; rfl
      have hil : (i : Int) < d.l.length := by omega
      have HX := Lib.hid (one_row ET10 9 wr p.1)
      have HN3 := Lib.hid (HN.out.alloc (.cells (ET10.enc p.1).toArray 9))
      clear hc hp
      go_wp2_with (at_builtin; refine wpList_appE Try.underlying42 str_info10 str_zero10 _ rfl _ _ _ rfl _ _ rfl HN3.out.own _ rfl [p.1] (HX.out.src Try.underlying42) (by rw [HLN.out]; simp only [maxLen, List.length_cons, List.length_nil]; omega) (by rw [HLN.out]; simp only [List.length_cons, List.length_nil]; omega) ?_; intro A5 n5 c5 w5 ho ht hn; have HN5 := Lib.hid (HN3.out.step ho ht hn); clear ho ht hn)
      go_roundw
      case rel => exact ⟨i + 1, by go_num, hlt, by rw [HTK.out]; exact HN5.out⟩
      case measure => simp [intOf]; omega
    · obtain rfl : i = d.l.length := by omega
      have HR : Hid (RdE ET10 wr (.slice B4 d.l.length d4) (d.l.map (·.1))) := by have h := HN.out.own.rd; rw [List.take_length] at h; exact h
      have HTW := Lib.hid HN.out.turn
      go_wp2
      go_ret
      exact ⟨_, rfl, HR.out, HTW.out⟩


end Go.Proofs.Ytamcgoamkakpkaa

/-
  Plain: what is in a list of pairs behind a put; whether a key is there. No type is named here.
-/
namespace Go.Proofs.Ytamcgoamkakpkaa
open Go.RowKit

section
variable {K V : Type} [DecidableEq K] {lt : K → K → Bool}
theorem put_mem (hr : Rises lt) {k : K} {v : V} {p : K × V} : ∀ {L : List (K × V)} (_ : Up lt L), p ∈ putK lt L k v ↔ p = (k, v) ∨ (p ∈ L ∧ p.1 ≠ k)
  | [], _ => by rw [putK_nil]; simp
  | q :: L, hu => by
    have hu2 := up_cons.1 hu
    have ih := put_mem hr (k := k) (v := v) (p := p) hu2.2
    have habove : ∀ a, a ∈ L → lt q.1 a.1 = true := fun a ha => by
      obtain ⟨i, hi, e⟩ := List.mem_iff_getElem.1 ha
      exact hu2.1 i a (by rw [List.getElem?_eq_getElem hi, e])
    rw [putK_cons]
    by_cases h : lt q.1 k = true
    · rw [if_pos h, List.mem_cons, ih, List.mem_cons]
      constructor
      · rintro (e | e | ⟨h1, h2⟩)
        · subst e; exact .inr ⟨.inl rfl, fun e => by rw [e, hr.irr] at h; cases h⟩
        · exact .inl e
        · exact .inr ⟨.inr h1, h2⟩
      · rintro (e | ⟨e | h1, h2⟩)
        · exact .inr (.inl e)
        · exact .inl e
        · exact .inr (.inr ⟨h1, h2⟩)
    · rw [if_neg h]
      by_cases e : q.1 = k
      · rw [if_pos e, List.mem_cons, List.mem_cons]
        constructor
        · rintro (h1 | h1)
          · exact .inl h1
          · refine .inr ⟨.inr h1, fun e2 => ?_⟩
            have := habove p h1
            rw [e2, e, hr.irr] at this
            cases this
        · rintro (h1 | ⟨h1 | h1, h2⟩)
          · exact .inl h1
          · subst h1; exact absurd e h2
          · exact .inr h1
      · rw [if_neg e, List.mem_cons]
        have hk : lt k q.1 = true := hr.tot _ _ e (by simpa using h)
        constructor
        · rintro (h1 | h1)
          · exact .inl h1
          · refine .inr ⟨h1, fun e2 => ?_⟩
            rcases List.mem_cons.1 h1 with h3 | h3
            · subst h3; exact e e2
            · have := hr.tr _ _ _ hk (habove p h3)
              rw [e2, hr.irr] at this
              cases this
        · rintro (h1 | ⟨h1, _⟩)
          · exact .inl h1
          · exact .inr h1
theorem has_iff (hr : Rises lt) {L : List (K × V)} (hu : Up lt L) (k : K) : hasK lt L k = true ↔ ∃ p ∈ L, p.1 = k := by
  rw [hasK_mem hr hu]
  constructor
  · rintro ⟨i, p, h1, h2⟩
    exact ⟨p, List.mem_of_getElem? h1, h2⟩
  · rintro ⟨p, h1, h2⟩
    obtain ⟨i, hi, e⟩ := List.mem_iff_getElem.1 h1
    exact ⟨i, p, by rw [List.getElem?_eq_getElem hi, e], h2⟩
end

end Go.Proofs.Ytamcgoamkakpkaa
