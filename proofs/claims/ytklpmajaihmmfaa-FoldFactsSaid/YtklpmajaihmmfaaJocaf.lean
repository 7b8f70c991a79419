/-
  Texts laid one behind the other: Zck Eh Ey Q1d Q1f.
-/
import Derived.Test.YtklpmajaihmmfaaJocab
import Derived.Laws.IdiomArrays
import Derived.Test.YtklpmajaihmmfaaJocaa
import Derived.Laws.Slices
import Derived.Test.YtklpmajaihmmfaaJocae

/-
  Stage 9: the program's Check and All, with the document's answers.
-/
namespace Go.Proofs.Ytklpmajaihmmfaa
open Go.RowKit

set_option maxRecDepth 100000

theorem okText_in {n : Int} {i : Nat} {t : List UInt8} (h : (i : Int) < n) : okText n i t = decide (t.length ≤ 16) := by simp [okText, h]
theorem okText_out {n : Int} {i : Nat} {t : List UInt8} (h : ¬ (i : Int) < n) : okText n i t = decide (t.length ≤ 0) := by
  cases t with
  | nil => simp [okText]
  | cons x t => simp [okText, h]

end Go.Proofs.Ytklpmajaihmmfaa

/-
  In a region that draws its order: 'append(append(append([]T{}, a...), x), b...)', whatever order its parts come in; slices cut at their front and tail. No type is named here.
-/
namespace Go.Proofs.Ytklpmajaihmmfaa
open Go.RowKit

section
variable {P : Program} {T : Type} {E : El T} {tS e : TypeId}
/-- A slice's tail, as it is cut. -/
def tailV (E : El T) (A : Option Addr) (n c i : Nat) : Value := .slice (if c = i then A else A.map (fun a => a.add (i * E.sz))) (n - i) (c - i)
theorem rd_tailV {w : World} {A : Option Addr} {n c i : Nat} {L : List T} (h : RdE E w (.slice A n c) L) (hi : i ≤ n) : RdE E w (tailV E A n c i) (L.drop i) := by
  have hf := h.fits
  unfold tailV
  by_cases hc : c = i
  · rw [if_pos hc]
    have e : L.drop i = [] := List.eq_nil_of_length_eq_zero (by rw [List.length_drop]; omega)
    rw [e, show n - i = 0 by omega, show c - i = 0 by omega]
    cases A with
    | none => exact RdE.nil w
    | some ad => exact RdE.none_left _ (by simp) w 0 (Nat.zero_le _)
  · rw [if_neg hc]
    cases A with
    | none => have := (hf.2.2.2 rfl); omega
    | some ad => exact h.back i hi
theorem run_tailV (ht : P.underlying tS = some (.slice e)) (hz : (P.info? e).map (·.size) = some E.sz) (A : Option Addr) (n c i : Nat) (hi : i ≤ n) (w : World) :
    (Instr.slice tS (.slice A n c) (some (.int .i64 (i : Int))) none none).run P w = .ok (tailV E A n c i) w := by
  obtain ⟨j, hj, hz⟩ := Option.map_eq_some_iff.1 hz
  unfold tailV
  rw [← hz]
  simp [Instr.slice, Instr.sliceBounds, Instr.sliceBound, asIntOf, run_underlying ht, sizeOf, typeInfo, hj]
  intro h
  omega
theorem run_frontV (ht : P.underlying tS = some (.slice e)) (hz : (P.info? e).map (·.size) = some E.sz) (A : Option Addr) (n c i : Nat) (hi : i ≤ c) (w : World) :
    (Instr.slice tS (.slice A n c) none (some (.int .i64 (i : Int))) none).run P w = .ok (.slice A i c) w := by
  obtain ⟨j, hj, hz⟩ := Option.map_eq_some_iff.1 hz
  cases A
  all_goals
    simp [Instr.slice, Instr.sliceBounds, Instr.sliceBound, asIntOf, run_underlying ht, sizeOf, typeInfo, hj, Addr.add]
    intro h
    omega
theorem exec_tail {o : Oper} {a : Act} {xo ko : Operand} {A : Option Addr} {n c i : Nat} (ho : o.op = .slice tS xo (some ko) none none) (hx : a.eval xo = .slice A n c) (hk : a.eval ko = .int .i64 (i : Int)) (ht : P.underlying tS = some (.slice e)) (hz : (P.info? e).map (·.size) = some E.sz) (hi : i ≤ n) (w : World) :
    (execOp a.eval o).run P w = .ok (.value (tailV E A n c i)) w := by
  unfold execOp
  simp [ho, hx, hk, Instr.sliceAt, run_underlying ht, run_tailV (E := E) ht hz A n c i hi w]
theorem exec_front {o : Oper} {a : Act} {xo ko : Operand} {A : Option Addr} {n c i : Nat} (ho : o.op = .slice tS xo none (some ko) none) (hx : a.eval xo = .slice A n c) (hk : a.eval ko = .int .i64 (i : Int)) (ht : P.underlying tS = some (.slice e)) (hz : (P.info? e).map (·.size) = some E.sz) (hi : i ≤ c) (w : World) :
    (execOp a.eval o).run P w = .ok (.value (.slice A i c)) w := by
  unfold execOp
  simp [ho, hx, hk, Instr.sliceAt, run_underlying ht, run_frontV (E := E) ht hz A n c i hi w]
/-- append onto a row of one's own. -/
theorem run_appE {z : Value} {by' : Nat} (ht : P.underlying tS = some (.slice e)) (hi0 : (P.info? e).map (fun i => (i.zero, i.size, i.bytes)) = some (some z, E.sz, by')) (hz : z.cells.size = E.sz) (hby : by' ≤ 1000) (w : World) (ty : TypeId) (v : Value) (l : List T) (hown : OwE E e w v l)
    (y : Value) (m : List T) (hy : RdE E w y m) (hl : l.length + m.length ≤ 3000000) :
    ∃ A n c w', (Builtin.append_ #[tS, tS] ty #[v, y]).run P w = .ok (.slice A n c) w' ∧ OwE E e w' (.slice A n c) (l ++ m) ∧ Turn (fun k => v.ownBlock = some k) w w' ∧ ((Value.slice A n c).ownBlock = v.ownBlock ∨ (Value.slice A n c).ownBlock = some w.heap.size) := by
  obtain ⟨i, hi, hz0, h1, h2⟩ := info_parts hi0
  have hsrc := hy.src (P := P) ht
  unfold OwE at hown
  rw [← h1] at hown hsrc
  obtain ⟨A, n, c, w', hr, g1, g2, g3⟩ := run_app (P := P) w tS tS ty e i z ht hi hz0 (by rw [h1]; exact hz) v l.length _ hown y m.length _ hsrc (by simp only [maxLen]; omega) (by rw [h2]; exact Nat.le_trans (Nat.mul_le_mul hl hby) (by omega))
  refine ⟨A, n, c, w', hr, ?_, (Turn.refl _ w).grown g2 (fun k _ e => e), g3⟩
  unfold OwE
  rw [List.length_append, E.flat_append, ← h1]
  exact g1
end

section
variable {P : Program} {ops : Array Oper} {Q : Exit → Act → World → Prop} {S : World → Prop} {zs : List Nat}
theorem slot_ne {ts : Array Value} {d k : Nat} {v : Value} (h : d ≠ k) : (ts.setIfInBounds d v).getD k undef = ts.getD k undef := by
  simp [Array.getD_eq_getD_getElem?, Array.getElem?_setIfInBounds_ne h]
theorem slot_eq {ts : Array Value} {d : Nat} {v : Value} (h : d < ts.size) : (ts.setIfInBounds d v).getD d undef = v := by
  simp [Array.getD_eq_getD_getElem?, h]
/-- One that yields a value, in some world. -/
theorem drawn_does {fuel : Nat} {listed : Array Bool} {ts : Array Value} {ds : List Deferred} {w : World} {i d : Nat} {o : Oper} {rs : List Nat} (R : Value → World → Prop) (ho : nthL ops.toList i = some o) (hg : o.guard = none) (hd : o.dst = some d)
    (hr : ∃ v w', (execOp ({ tmps := ts, defers := ds } : Act).eval o).run P w = .ok (.value v) w' ∧ R v w')
    (h : ∀ v w', R v w' → S w' ∧ Drawn P ops Q S zs fuel (listed.setIfInBounds i true) (ts.setIfInBounds d v) ds w')
    (hs : DrawnAll P ops Q S zs fuel listed ts ds w rs) : DrawnAll P ops Q S zs fuel listed ts ds w (i :: rs) :=
  drawn_cons ho (fun K hK => by
    rw [if_pos (by simp [Region.wanted, hg])]
    obtain ⟨v, w', hrun, hR⟩ := hr
    unfold Oper.wp
    rw [hrun]
    show K (({ tmps := ts, defers := ds } : Act).put o.dst v) w'
    rw [hd]
    obtain ⟨h1, h2⟩ := h v w' hR
    exact hK.out _ _ _ h1 h2) hs
variable {T : Type} {E : El T} {tS e : TypeId}
theorem app_does {z : Value} {by' : Nat} (ht : P.underlying tS = some (.slice e)) (hi0 : (P.info? e).map (fun i => (i.zero, i.size, i.bytes)) = some (some z, E.sz, by')) (hz : z.cells.size = E.sz) (hby : by' ≤ 1000)
    {w0 w : World} {a : Act} {o : Oper} {s x : Operand} (ho : o.op = .call { callee := .builtin .append, args := #[s, x], argTypes := #[tS, tS] }) {v y : Value} {l m : List T} (hs : a.eval s = v) (hx : a.eval x = y) (hn : NewE E e w0 w v l) (hy : RdE E w y m) (hl : l.length + m.length ≤ 3000000) :
    ∃ u w', (execOp a.eval o).run P w = .ok (.value u) w' ∧ NewE E e w0 w' u (l ++ m) ∧ Turn (fun k => v.ownBlock = some k) w w' := by
  obtain ⟨A, n, c, w', hr, g1, g2, g3⟩ := run_appE (P := P) ht hi0 hz hby w o.type v l hn.own y m hy hl
  refine ⟨_, w', ?_, hn.step g1 g2 g3, g2⟩
  unfold execOp
  simp only [ho, resolve, invoke, builtin, Sem.run_bind, Sem.run_pure, Result.andThen_ok, List.map_toArray, List.map_cons, List.map_nil, hs, hx, hr]

/-- append(append(append([]T{}, a...), x), b...): all that is read lies in slots; whatever order the rest comes in. -/
theorem drawn_ins {z : Value} {by' : Nat} (ht : P.underlying tS = some (.slice e)) (hi0 : (P.info? e).map (fun i => (i.zero, i.size, i.bytes)) = some (some z, E.sz, by')) (hz : z.cells.size = E.sz) (hby : by' ≤ 1000)
    {w0 : World} (HS : ∀ W, Turn (fun _ => False) w0 W → S W) (ie i1 ix i2 i3 de d1 dx d2 d3 kf kx kt : Nat) {oe o1 ox o2 o3 : Oper}
    (he : nthL ops.toList ie = some oe) (ge : oe.guard = none) (te : oe.dst = some de) (pe : oe.op = .buildSlice tS 0 #[])
    (h1 : nthL ops.toList i1 = some o1) (g1 : o1.guard = none) (t1 : o1.dst = some d1) (p1 : o1.op = .call { callee := .builtin .append, args := #[.tmp de, .tmp kf], argTypes := #[tS, tS] })
    (hx : nthL ops.toList ix = some ox) (gx : ox.guard = none) (tx : ox.dst = some dx) (px : ox.op = .buildSlice tS 1 #[(0, .tmp kx)])
    (h2 : nthL ops.toList i2 = some o2) (g2 : o2.guard = none) (t2 : o2.dst = some d2) (p2 : o2.op = .call { callee := .builtin .append, args := #[.tmp d1, .tmp dx], argTypes := #[tS, tS] })
    (h3 : nthL ops.toList i3 = some o3) (g3 : o3.guard = none) (t3 : o3.dst = some d3) (p3 : o3.op = .call { callee := .builtin .append, args := #[.tmp d2, .tmp kt], argTypes := #[tS, tS] })
    {fuel : Nat} {listed : Array Bool} {ts : Array Value} {ds : List Deferred} {w : World}
    (r0 : Region.ready .any ops listed = [ie, ix]) (re : Region.ready .any ops (listed.setIfInBounds ie true) = [i1, ix]) (re1 : Region.ready .any ops ((listed.setIfInBounds ie true).setIfInBounds i1 true) = [ix])
    (rex : Region.ready .any ops ((listed.setIfInBounds ie true).setIfInBounds ix true) = [i1]) (rx : Region.ready .any ops (listed.setIfInBounds ix true) = [ie])
    (r3 : Region.ready .any ops (((listed.setIfInBounds ie true).setIfInBounds i1 true).setIfInBounds ix true) = [i2]) (r4 : Region.ready .any ops ((((listed.setIfInBounds ie true).setIfInBounds i1 true).setIfInBounds ix true).setIfInBounds i2 true) = [i3])
    (hd : (ie ≠ i1 ∧ ie ≠ ix ∧ i1 ≠ ix) ∧ (de ≠ d1 ∧ de ≠ dx ∧ d1 ≠ dx ∧ de ≠ kf ∧ de ≠ kx ∧ dx ≠ kf ∧ d1 ≠ kx) ∧ (de ≠ kt ∧ d1 ≠ kt ∧ dx ≠ kt ∧ d2 ≠ kt) ∧ de < ts.size ∧ d1 < ts.size ∧ dx < ts.size ∧ d2 < ts.size)
    {vf vt xv : Value} {l1 l3 : List T} {x : T} (kf' : ts.getD kf undef = vf) (kt' : ts.getD kt undef = vt) (kx' : ts.getD kx undef = xv)
    (HF : ∀ W, Turn (fun _ => False) w0 W → RdE E W vf l1) (HT : ∀ W, Turn (fun _ => False) w0 W → RdE E W vt l3) (hl : l1.length + l3.length ≤ 2000000)
    (hE : ∀ W, (Instr.buildSlice tS 0 #[]).run P W = .ok (.slice (some ⟨W.heap.size, 0, none⟩) 0 0) (W.alloc (.cells #[] e)))
    (hX : ∀ W, (Instr.buildSlice tS 1 #[(0, xv)]).run P W = .ok (.slice (some ⟨W.heap.size, 0, none⟩) 1 1) (W.alloc (.cells (E.enc x).toArray e)))
    (hw : Turn (fun _ => False) w0 w)
    (h : ∀ W v a b c d, NewE E e w0 W v (l1 ++ x :: l3) → Drawn P ops Q S zs fuel (((((listed.setIfInBounds ie true).setIfInBounds i1 true).setIfInBounds ix true).setIfInBounds i2 true).setIfInBounds i3 true) (((((ts.setIfInBounds de a).setIfInBounds d1 b).setIfInBounds dx c).setIfInBounds d2 d).setIfInBounds d3 v) ds W) :
    Drawn P ops Q S zs (fuel + 5) listed ts ds w := by
  obtain ⟨⟨n1, n2, n3⟩, ⟨m1, m2, m3, m4, m5, m6, m7⟩, ⟨q1, q2, q3, q4⟩, s1, s2, s3, s4⟩ := hd
  have EE : ∀ (ts : Array Value) W, ∃ v w', (execOp ({ tmps := ts, defers := ds } : Act).eval oe).run P W = .ok (.value v) w' ∧ (v = .slice (some ⟨W.heap.size, 0, none⟩) 0 0 ∧ w' = W.alloc (.cells #[] e)) := fun ts W =>
    ⟨_, _, by unfold execOp; simp [pe, hE], rfl, rfl⟩
  have EX : ∀ (ts : Array Value) W, ts.getD kx undef = xv → ∃ v w', (execOp ({ tmps := ts, defers := ds } : Act).eval ox).run P W = .ok (.value v) w' ∧ (v = .slice (some ⟨W.heap.size, 0, none⟩) 1 1 ∧ w' = W.alloc (.cells (E.enc x).toArray e)) := fun ts W hk =>
    ⟨_, _, by rw [Array.getD_eq_getD_getElem?] at hk; unfold execOp; simp [px, Act.eval, hk, hX], rfl, rfl⟩
  have tail : ∀ (W : World) (a b c : Value), NewE E e w0 W b l1 → RdE E W c [x] →
      Drawn P ops Q S zs (fuel + 2) (((listed.setIfInBounds ie true).setIfInBounds i1 true).setIfInBounds ix true) (((ts.setIfInBounds de a).setIfInBounds d1 b).setIfInBounds dx c) ds W := fun W a b c hn hc => by
    refine drawn_any [i2] r3 (by simp) (drawn_does (fun u w' => NewE E e w0 w' u (l1 ++ [x])) h2 g2 t2 ?_ (fun u w' hu => ⟨HS _ hu.turn, ?_⟩) drawn_nil)
    · obtain ⟨u, w', e1, e2, -⟩ := app_does (P := P) ht hi0 hz hby (a := ({ tmps := ((ts.setIfInBounds de a).setIfInBounds d1 b).setIfInBounds dx c, defers := ds } : Act)) p2 (v := b) (y := c) (by simp only [Act.eval]; rw [slot_ne (Ne.symm m3), slot_eq (by simpa using s2)]) (by simp only [Act.eval]; rw [slot_eq (by simpa using s3)]) hn hc (by simp; omega)
      exact ⟨u, w', e1, e2⟩
    · refine drawn_any [i3] r4 (by simp) (drawn_does (fun v w' => NewE E e w0 w' v (l1 ++ x :: l3)) h3 g3 t3 ?_ (fun v w' hv => ⟨HS _ hv.turn, h w' v a b c u hv⟩) drawn_nil)
      obtain ⟨v, w'', e1, e2, -⟩ := app_does (P := P) ht hi0 hz hby (a := ({ tmps := (((ts.setIfInBounds de a).setIfInBounds d1 b).setIfInBounds dx c).setIfInBounds d2 u, defers := ds } : Act)) p3 (v := u) (y := vt) (by simp only [Act.eval]; rw [slot_eq (by simpa using s4)]) (by simp only [Act.eval]; rw [slot_ne q4, slot_ne q3, slot_ne q2, slot_ne q1, kt']) hu (HT _ hu.turn) (by simp; omega)
      exact ⟨v, w'', e1, by simpa using e2⟩
  refine drawn_any [ie, ix] r0 (by simp) (drawn_does (fun v w' => v = .slice (some ⟨w.heap.size, 0, none⟩) 0 0 ∧ w' = w.alloc (.cells #[] e)) he ge te (EE ts w) ?_ (drawn_does (fun v w' => v = .slice (some ⟨w.heap.size, 0, none⟩) 1 1 ∧ w' = w.alloc (.cells (E.enc x).toArray e)) hx gx tx (EX ts w kx') ?_ drawn_nil))
  · rintro v w' ⟨rfl, rfl⟩
    have hn := NewE.empty (E := E) (e := e) w0 w hw
    refine ⟨HS _ hn.turn, drawn_any [i1, ix] re (by simp) (drawn_does (fun u w' => NewE E e w0 w' u l1) h1 g1 t1 ?_ (fun u w' hu => ⟨HS _ hu.turn, ?_⟩) (drawn_does (fun v w' => v = .slice (some ⟨(w.alloc (.cells #[] e)).heap.size, 0, none⟩) 1 1 ∧ w' = (w.alloc (.cells #[] e)).alloc (.cells (E.enc x).toArray e)) hx gx tx (EX _ _ (by rw [slot_ne m5, kx'])) ?_ drawn_nil))⟩
    · obtain ⟨u, w', e1, e2, -⟩ := app_does (P := P) ht hi0 hz hby (a := ({ tmps := ts.setIfInBounds de (.slice (some ⟨w.heap.size, 0, none⟩) 0 0), defers := ds } : Act)) p1 (y := vf) (by simp only [Act.eval]; rw [slot_eq s1]) (by simp only [Act.eval]; rw [slot_ne m4, kf']) hn (HF _ hn.turn) (by simp; omega)
      exact ⟨u, w', e1, by simpa using e2⟩
    · refine drawn_any [ix] re1 (by simp) (drawn_does (fun v w2 => v = .slice (some ⟨w'.heap.size, 0, none⟩) 1 1 ∧ w2 = w'.alloc (.cells (E.enc x).toArray e)) hx gx tx (EX _ _ (by rw [slot_ne m7, slot_ne m5, kx'])) ?_ drawn_nil)
      rintro v w2 ⟨rfl, rfl⟩
      exact ⟨HS _ (hu.alloc _).turn, tail _ _ _ _ (hu.alloc _) (one_row E e w' x)⟩
    · rintro v w2 ⟨rfl, rfl⟩
      have hn2 := hn.alloc (.cells (E.enc x).toArray e)
      have hr := one_row E e (w.alloc (.cells #[] e)) x
      refine ⟨HS _ hn2.turn, drawn_any [i1] rex (by simp) (drawn_does (fun u w3 => NewE E e w0 w3 u l1 ∧ RdE E w3 (.slice (some ⟨(w.alloc (.cells #[] e)).heap.size, 0, none⟩) 1 1) [x]) h1 g1 t1 ?_ (fun u w3 hu => ⟨HS _ hu.1.turn, ?_⟩) drawn_nil)⟩
      · obtain ⟨u, w3, e1, e2, e3⟩ := app_does (P := P) ht hi0 hz hby (a := ({ tmps := (ts.setIfInBounds de (.slice (some ⟨w.heap.size, 0, none⟩) 0 0)).setIfInBounds dx (.slice (some ⟨(w.alloc (.cells #[] e)).heap.size, 0, none⟩) 1 1), defers := ds } : Act)) p1 (v := .slice (some ⟨w.heap.size, 0, none⟩) 0 0) (y := vf) (by simp only [Act.eval]; rw [slot_ne (Ne.symm m2), slot_eq s1]) (by simp only [Act.eval]; rw [slot_ne m6, slot_ne m4, kf']) hn2 (HF _ hn2.turn) (by simp; omega)
        refine ⟨u, w3, e1, by simpa using e2, hr.turn e3 (fun k h1 h2 => ?_)⟩
        rw [World.size_alloc] at h1
        simp [Value.ownBlock] at h1 h2
        omega
      · rw [Array.setIfInBounds_comm _ _ (Ne.symm n3), Array.setIfInBounds_comm _ _ (Ne.symm m3)]
        exact tail _ _ _ _ hu.1 hu.2
  · rintro v w' ⟨rfl, rfl⟩
    have hr := one_row E e w x
    have hw1 : Turn (fun _ => False) w0 (w.alloc (.cells (E.enc x).toArray e)) := hw.alloc _
    refine ⟨HS _ hw1, drawn_any [ie] rx (by simp) (drawn_does (fun v w' => v = .slice (some ⟨(w.alloc (.cells (E.enc x).toArray e)).heap.size, 0, none⟩) 0 0 ∧ w' = (w.alloc (.cells (E.enc x).toArray e)).alloc (.cells #[] e)) he ge te (EE _ _) ?_ drawn_nil)⟩
    rintro v w2 ⟨rfl, rfl⟩
    have hn := NewE.empty (E := E) (e := e) w0 _ hw1
    have hr2 := hr.later ((Turn.refl _ (w.alloc (.cells (E.enc x).toArray e))).alloc (.cells #[] e))
    rw [Array.setIfInBounds_comm _ _ (Ne.symm n2), Array.setIfInBounds_comm _ _ (Ne.symm m2)]
    refine ⟨HS _ hn.turn, drawn_any [i1] rex (by simp) (drawn_does (fun u w3 => NewE E e w0 w3 u l1 ∧ RdE E w3 (.slice (some ⟨w.heap.size, 0, none⟩) 1 1) [x]) h1 g1 t1 ?_ (fun u w3 hu => ⟨HS _ hu.1.turn, ?_⟩) drawn_nil)⟩
    · obtain ⟨u, w3, e1, e2, e3⟩ := app_does (P := P) ht hi0 hz hby (a := ({ tmps := (ts.setIfInBounds de (.slice (some ⟨(w.alloc (.cells (E.enc x).toArray e)).heap.size, 0, none⟩) 0 0)).setIfInBounds dx (.slice (some ⟨w.heap.size, 0, none⟩) 1 1), defers := ds } : Act)) p1 (v := .slice (some ⟨(w.alloc (.cells (E.enc x).toArray e)).heap.size, 0, none⟩) 0 0) (y := vf) (by simp only [Act.eval]; rw [slot_ne (Ne.symm m2), slot_eq s1]) (by simp only [Act.eval]; rw [slot_ne m6, slot_ne m4, kf']) hn (HF _ hn.turn) (by simp; omega)
      refine ⟨u, w3, e1, by simpa using e2, hr2.turn e3 (fun k h1 h2 => ?_)⟩
      rw [World.size_alloc] at h2
      simp [Value.ownBlock] at h1 h2
      omega
    · rw [Array.setIfInBounds_comm _ _ (Ne.symm n3), Array.setIfInBounds_comm _ _ (Ne.symm m3)]
      exact tail _ _ _ _ hu.1 hu.2
end

end Go.Proofs.Ytklpmajaihmmfaa

/-
  A guarded operation that is not wanted, in a region that draws. No type is named here.
-/
namespace Go.Proofs.Ytklpmajaihmmfaa
open Go.RowKit

/-- The walk stands still here. -/
def Halt11 (p : Prop) : Prop := p
theorem halt11 {p : Prop} (h : Halt11 p) : p := h

section
variable {P : Program} {ops : Array Oper} {Q : Exit → Act → World → Prop} {S : World → Prop} {zs : List Nat}
theorem drawn_skip (i d : Nat) {oi : Oper} {fuel : Nat} {listed : Array Bool} {ts : Array Value} {ds : List Deferred} {w : World} (hi0 : nthL ops.toList i = some oi) (hd : oi.dst = some d)
    (hs : Region.noSelect ops = true) (hf : Region.free .any ops listed i = true) (hr : (Region.ready .any ops listed).contains i = true) (hz : (!zs.contains i) = true)
    (hQ : ∀ c (a : Act) w, Q (.panic c) (a.put oi.dst undef) w → Q (.panic c) a w) (hw : Region.wanted oi (yielded ops ts) = false) (hS : freshB zs listed = true → S w)
    (h : Drawn P ops Q S zs fuel (listed.setIfInBounds i true) (ts.setIfInBounds d undef) ds w) : Drawn P ops Q S zs (fuel + 1) listed ts ds w := fun hc => by
  have hi := nth_at hi0
  have hm : i ∈ Region.ready .any ops listed := by simpa using hr
  refine wpAnyG_first hi (Region.noSelect_spec hs) hQ (by simpa using hz) (fun _ => True) (fun _ _ _ _ _ => trivial) fuel listed _ w hc (Region.free_spec hi hf) hm (.inr ⟨hw, rfl⟩) hS ?_
  have h2 := h (hc.step hm)
  rw [hd]
  exact h2
end

section
variable {P : Program} {T : Type} {E : El T} {tS e : TypeId} {ops : Array Oper} {rest : List Oper} {Q : Exit → Act → World → Prop} {op : Oper} {a : Act} {w : World} {A : Option Addr} {n c i : Nat} {L : List T}
/-- A slice's tail, in a region that draws nothing. -/
theorem wpList_cut (ht : P.underlying tS = some (.slice e)) (hz : (P.info? e).map (·.size) = some E.sz) (hgd : op.guard = none) (xo ko : Operand) (ho : op.op = .slice tS xo (some ko) none none) (hrd : RdE E w (.slice A n c) L) (hx : a.eval xo = .slice A n c) (hk : a.eval ko = .int .i64 (i : Int)) (hi : i ≤ n)
    (h : ∀ B, RdE E w (.slice B (n - i) (c - i)) (L.drop i) → (∀ g, (Value.slice B (n - i) (c - i)).ownBlock = some g → (Value.slice A n c).ownBlock = some g) → wpList P ops Q rest (a.put op.dst (.slice B (n - i) (c - i))) w) : wpList P ops Q (op :: rest) a w :=
  wpList_plain hgd fun K hK => by
    unfold Oper.wp
    rw [exec_tail (E := E) ho hx hk ht hz hi w]
    refine hK _ _ (h _ (rd_tailV hrd hi) (fun g hg => ?_))
    by_cases e : c = i
    · rw [if_pos e] at hg
      cases A with
      | none => simp [Value.ownBlock] at hg
      | some ad => simpa [Value.ownBlock] using hg
    · rw [if_neg e] at hg
      cases A with
      | none => simp [Value.ownBlock] at hg
      | some ad => simpa [Value.ownBlock, eadd_block] using hg
/-- No elements: whatever the world. -/
theorem rd_empty {w' : World} {v : Value} (h : RdE E w v []) : RdE E w' v [] := by
  obtain ⟨A, c, e, h1, h2, _⟩ := h
  exact ⟨A, c, e, h1, h2, fun _ _ i u hi => by simp [El.flat] at hi⟩
/-- A slice's front, in a region that draws nothing. -/
theorem wpList_front (ht : P.underlying tS = some (.slice e)) (hz : (P.info? e).map (·.size) = some E.sz) (hgd : op.guard = none) (xo ko : Operand) (ho : op.op = .slice tS xo none (some ko) none) (hrd : RdE E w (.slice A n c) L) (hx : a.eval xo = .slice A n c) (hk : a.eval ko = .int .i64 (i : Int)) (hi : i ≤ n)
    (h : RdE E w (.slice A i c) (L.take i) → wpList P ops Q rest (a.put op.dst (.slice A i c)) w) : wpList P ops Q (op :: rest) a w :=
  wpList_plain hgd fun K hK => by
    unfold Oper.wp
    rw [exec_front (E := E) ho hx hk ht hz (Nat.le_trans hi (by have := hrd.fits; omega)) w]
    exact hK _ _ (h (hrd.front i hi))
end

end Go.Proofs.Ytklpmajaihmmfaa

/-
  Stage 13: the program's Check.
-/
namespace Go.Proofs.Ytklpmajaihmmfaa
open Go.RowKit

set_option maxRecDepth 100000

/-- A query's cells; four flags' cells. -/
def CQ13 (W : World) (g : Nat) (q : Q13) : Prop := W.cell? ⟨g, 0, none⟩ = some (.int .i64 q.lo) ∧ W.cell? ⟨g, 1, none⟩ = some (.int .i64 q.hi) ∧
    W.cell? ⟨g, 2, none⟩ = some (.bool q.g.a) ∧ W.cell? ⟨g, 3, none⟩ = some (.bool q.g.b) ∧ W.cell? ⟨g, 4, none⟩ = some (.bool q.g.c) ∧ W.cell? ⟨g, 5, none⟩ = some (.bool q.g.d) ∧
    W.cell? ⟨g, 6, none⟩ = some (.bool q.h.a) ∧ W.cell? ⟨g, 7, none⟩ = some (.bool q.h.b) ∧ W.cell? ⟨g, 8, none⟩ = some (.bool q.h.c) ∧ W.cell? ⟨g, 9, none⟩ = some (.bool q.h.d) ∧
    W.cell? ⟨g, 10, none⟩ = some (sv9 q.f.a) ∧ W.cell? ⟨g, 11, none⟩ = some (sv9 q.f.b) ∧ W.cell? ⟨g, 12, none⟩ = some (sv9 q.f.c) ∧ W.cell? ⟨g, 13, none⟩ = some (sv9 q.f.d)
theorem cq_box13 {W : World} {g : Nat} {q : Q13} (h : Box W g 25 (cells13 q)) : CQ13 W g q := box_query13 h
def CB13 (W : World) (g : Nat) (v : V4 Bool) : Prop := W.cell? ⟨g, 0, none⟩ = some (.bool v.a) ∧ W.cell? ⟨g, 1, none⟩ = some (.bool v.b) ∧ W.cell? ⟨g, 2, none⟩ = some (.bool v.c) ∧ W.cell? ⟨g, 3, none⟩ = some (.bool v.d)
theorem cb_box13 {W : World} {g : Nat} {v : V4 Bool} (h : Box W g 22 (bs13 v)) : CB13 W g v := ⟨h.cell 0, h.cell 1, h.cell 2, h.cell 3⟩
def CK13 (W : World) (g : Nat) (k : K9) : Prop := W.cell? ⟨g, 0, none⟩ = some (.int .i64 k.h) ∧ W.cell? ⟨g, 1, none⟩ = some (sv9 k.a) ∧ W.cell? ⟨g, 2, none⟩ = some (sv9 k.b) ∧ W.cell? ⟨g, 3, none⟩ = some (sv9 k.c) ∧ W.cell? ⟨g, 4, none⟩ = some (sv9 k.d)
theorem ck_box13 {W : World} {g : Nat} {k : K9} (h : Box W g 44 #[.int .i64 k.h, sv9 k.a, sv9 k.b, sv9 k.c, sv9 k.d]) : CK13 W g k := box_key13 h

theorem chk_empty13 (n : Int) : chkF ⟨kOf (V4.fill []), 0⟩ n = if okDims n then 0 else 1 := by
  unfold chkF
  cases h : okDims n with
  | false => rfl
  | true =>
    rw [if_pos rfl, if_pos rfl, if_pos (by decide)]
    have e : okTexts n (kOf (V4.fill [])) = true := okTexts_iff.2 fun i hi => by
      rw [kOf_dim, V4.nth_fill]
      simp [okText]
    rw [e]
    rfl

/-- Behind Check's first lines: its query, its flags. -/
structure At13 (w : World) (b m : Nat) (q : Q13) (v : V4 Bool) (W : World) : Prop where
  q : Box W b 25 (cells13 q)
  m : Box W m 22 (bs13 v)
  turn : Turn (fun _ => False) w W
theorem At13.later {w W W2 : World} {b m : Nat} {q : Q13} {v : V4 Bool} (h : At13 w b m q v W) (ht : Turn (fun _ => False) W W2) : At13 w b m q v W2 :=
  ⟨h.q.turn ht (fun f => f), h.m.turn ht (fun f => f), h.turn.trans ht (fun _ _ f => f)⟩
theorem At13.s {w W : World} {b m : Nat} {q : Q13} {v : V4 Bool} (h : At13 w b m q v W) : CQ13 W b q ∧ CB13 W m v := ⟨cq_box13 h.q, cb_box13 h.m⟩

end Go.Proofs.Ytklpmajaihmmfaa

/-
  Stage 13: the program's Matches and Group.
-/
namespace Go.Proofs.Ytklpmajaihmmfaa
open Go.RowKit

set_option maxRecDepth 100000

/-- A query and a key, as a call lays them. -/
structure Qk13 (w : World) (b m : Nat) (q : Q13) (k : K9) (W : World) : Prop where
  q : Box W b 25 (cells13 q)
  k : Box W m 44 #[.int .i64 k.h, sv9 k.a, sv9 k.b, sv9 k.c, sv9 k.d]
  turn : Turn (fun _ => False) w W
theorem Qk13.later {w W W2 : World} {b m : Nat} {q : Q13} {k : K9} (h : Qk13 w b m q k W) (ht : Turn (fun _ => False) W W2) : Qk13 w b m q k W2 :=
  ⟨h.q.turn ht (fun f => f), h.k.turn ht (fun f => f), h.turn.trans ht (fun _ _ f => f)⟩
theorem Qk13.s {w W : World} {b m : Nat} {q : Q13} {k : K9} (h : Qk13 w b m q k W) : CQ13 W b q ∧ CK13 W m k := ⟨cq_box13 h.q, ck_box13 h.k⟩
theorem Qk13.new (w : World) (q : Q13) (k : K9) : Qk13 w w.heap.size (w.heap.size + 1) q k ((w.alloc (.cells (cells13 q) 25)).alloc (.cells #[.int .i64 k.h, sv9 k.a, sv9 k.b, sv9 k.c, sv9 k.d] 44)) := by
  have h := Box.new (w.alloc (.cells (cells13 q) 25)) 44 #[.int .i64 k.h, sv9 k.a, sv9 k.b, sv9 k.c, sv9 k.d]
  rw [World.size_alloc] at h
  exact ⟨(Box.new w _ _).alloc _, h, ((Turn.refl _ w).alloc _).alloc _⟩

set_option maxHeartbeats 16000000 in
theorem matches_any13 (q : Q13) (k : K9) (w : World) : Calls Try.prog 42 #[qv13 q, kv9 k] w fun e w' => e = .returned (.bool (matchB q k)) ∧ Turn (fun _ => False) w w' := by
  unfold qv13 kv9
  obtain ⟨w0, hw0⟩ : ∃ w0, w0 = (w.alloc (.cells (cells13 q) 25)).alloc (.cells #[.int .i64 k.h, sv9 k.a, sv9 k.b, sv9 k.c, sv9 k.d] 44) := ⟨_, rfl⟩
  have h0 := Qk13.new w q k
  rw [← hw0] at h0
  have HW := Lib.hid hw0
  have HAT0 := Lib.hid h0
  clear hw0 h0
  go_enter Try.func42, Try.ntmps42
  go_wp2_with fail
  rw [← HW.out]
  obtain ⟨b, hbb⟩ : ∃ b, b = w.heap.size := ⟨_, rfl⟩
  obtain ⟨m, hmm⟩ : ∃ m, m = w.heap.size + 1 := ⟨_, rfl⟩
  rw [← hmm, ← hbb]
  rw [← hmm, ← hbb] at HAT0
  have HAT := Lib.hid (HAT0.out.later (Turn.refl (fun _ => False) w0).drew)
  clear hbb hmm HW HAT0
  refine drawn_region (fun W => CQ13 W b q ∧ CK13 W m k) [] (by kernel_rfl) ?_
  generalize World.drew w0 = wd at *
  have hS0 : CQ13 wd b q ∧ CK13 wd m k := HAT.out.s
  refine drawn_take 0 5 (.pointer (some ⟨b, 0, none⟩)) rfl rfl (by kernel_rfl) (by kernel_rfl) (by kernel_rfl) (by kernel_rfl) (fun _ _ _ h => h) (by rfl) (by assumption) (by intro w hSw; obtain ⟨⟨b0, b1, b2, b3, b4, b5, b6, b7, b8, b9, b10, b11, b12, b13⟩, ⟨m0, m1, m2, m3, m4⟩⟩ := hSw; go_simp) ?_
  try simp only [List.setIfInBounds_toArray, List.set_cons_zero, List.set_cons_succ]
  refine drawn_take 1 6 (.int .i64 q.lo) rfl rfl (by kernel_rfl) (by kernel_rfl) (by kernel_rfl) (by kernel_rfl) (fun _ _ _ h => h) (by rfl) (by assumption) (by intro w hSw; obtain ⟨⟨b0, b1, b2, b3, b4, b5, b6, b7, b8, b9, b10, b11, b12, b13⟩, ⟨m0, m1, m2, m3, m4⟩⟩ := hSw; go_simp) ?_
  try simp only [List.setIfInBounds_toArray, List.set_cons_zero, List.set_cons_succ]
  refine drawn_take 2 7 (.pointer (some ⟨m, 0, none⟩)) rfl rfl (by kernel_rfl) (by kernel_rfl) (by kernel_rfl) (by kernel_rfl) (fun _ _ _ h => h) (by rfl) (by assumption) (by intro w hSw; obtain ⟨⟨b0, b1, b2, b3, b4, b5, b6, b7, b8, b9, b10, b11, b12, b13⟩, ⟨m0, m1, m2, m3, m4⟩⟩ := hSw; go_simp) ?_
  try simp only [List.setIfInBounds_toArray, List.set_cons_zero, List.set_cons_succ]
  refine drawn_take 3 8 (.int .i64 k.h) rfl rfl (by kernel_rfl) (by kernel_rfl) (by kernel_rfl) (by kernel_rfl) (fun _ _ _ h => h) (by rfl) (by assumption) (by intro w hSw; obtain ⟨⟨b0, b1, b2, b3, b4, b5, b6, b7, b8, b9, b10, b11, b12, b13⟩, ⟨m0, m1, m2, m3, m4⟩⟩ := hSw; go_simp) ?_
  try simp only [List.setIfInBounds_toArray, List.set_cons_zero, List.set_cons_succ]
  by_cases hA : q.lo ≤ k.h
  · have dA : decide (q.lo ≤ k.h) = true := decide_eq_true hA
    refine drawn_take 4 9 (.bool true) rfl rfl (by kernel_rfl) (by kernel_rfl) (by kernel_rfl) (by kernel_rfl) (fun _ _ _ h => h) (by rfl) (by assumption) (by intro w hSw; obtain ⟨⟨b0, b1, b2, b3, b4, b5, b6, b7, b8, b9, b10, b11, b12, b13⟩, ⟨m0, m1, m2, m3, m4⟩⟩ := hSw; go_simp) ?_
    try simp only [List.setIfInBounds_toArray, List.set_cons_zero, List.set_cons_succ]
    refine drawn_take 5 10 (.bool true) rfl rfl (by kernel_rfl) (by kernel_rfl) (by kernel_rfl) (by kernel_rfl) (fun _ _ _ h => h) (by rfl) (by assumption) (by intro w hSw; obtain ⟨⟨b0, b1, b2, b3, b4, b5, b6, b7, b8, b9, b10, b11, b12, b13⟩, ⟨m0, m1, m2, m3, m4⟩⟩ := hSw; go_simp) ?_
    try simp only [List.setIfInBounds_toArray, List.set_cons_zero, List.set_cons_succ]
    refine drawn_take 6 11 (.pointer (some ⟨m, 0, none⟩)) rfl rfl (by kernel_rfl) (by kernel_rfl) (by kernel_rfl) (by kernel_rfl) (fun _ _ _ h => h) (by rfl) (by assumption) (by intro w hSw; obtain ⟨⟨b0, b1, b2, b3, b4, b5, b6, b7, b8, b9, b10, b11, b12, b13⟩, ⟨m0, m1, m2, m3, m4⟩⟩ := hSw; go_simp) ?_
    try simp only [List.setIfInBounds_toArray, List.set_cons_zero, List.set_cons_succ]
    refine drawn_take 7 12 (.int .i64 k.h) rfl rfl (by kernel_rfl) (by kernel_rfl) (by kernel_rfl) (by kernel_rfl) (fun _ _ _ h => h) (by rfl) (by assumption) (by intro w hSw; obtain ⟨⟨b0, b1, b2, b3, b4, b5, b6, b7, b8, b9, b10, b11, b12, b13⟩, ⟨m0, m1, m2, m3, m4⟩⟩ := hSw; go_simp) ?_
    try simp only [List.setIfInBounds_toArray, List.set_cons_zero, List.set_cons_succ]
    refine drawn_take 8 13 (.pointer (some ⟨b, 1, none⟩)) rfl rfl (by kernel_rfl) (by kernel_rfl) (by kernel_rfl) (by kernel_rfl) (fun _ _ _ h => h) (by rfl) (by assumption) (by intro w hSw; obtain ⟨⟨b0, b1, b2, b3, b4, b5, b6, b7, b8, b9, b10, b11, b12, b13⟩, ⟨m0, m1, m2, m3, m4⟩⟩ := hSw; go_simp) ?_
    try simp only [List.setIfInBounds_toArray, List.set_cons_zero, List.set_cons_succ]
    refine drawn_take 9 14 (.int .i64 q.hi) rfl rfl (by kernel_rfl) (by kernel_rfl) (by kernel_rfl) (by kernel_rfl) (fun _ _ _ h => h) (by rfl) (by assumption) (by intro w hSw; obtain ⟨⟨b0, b1, b2, b3, b4, b5, b6, b7, b8, b9, b10, b11, b12, b13⟩, ⟨m0, m1, m2, m3, m4⟩⟩ := hSw; go_simp) ?_
    try simp only [List.setIfInBounds_toArray, List.set_cons_zero, List.set_cons_succ]
    by_cases hB : k.h < q.hi
    · have dB : decide (k.h < q.hi) = true := decide_eq_true hB
      refine drawn_take 10 15 (.bool true) rfl rfl (by kernel_rfl) (by kernel_rfl) (by kernel_rfl) (by kernel_rfl) (fun _ _ _ h => h) (by rfl) (by assumption) (by intro w hSw; obtain ⟨⟨b0, b1, b2, b3, b4, b5, b6, b7, b8, b9, b10, b11, b12, b13⟩, ⟨m0, m1, m2, m3, m4⟩⟩ := hSw; go_simp) ?_
      try simp only [List.setIfInBounds_toArray, List.set_cons_zero, List.set_cons_succ]
      refine drawn_take 11 16 (.bool true) rfl rfl (by kernel_rfl) (by kernel_rfl) (by kernel_rfl) (by kernel_rfl) (fun _ _ _ h => h) (by rfl) (by assumption) (by intro w hSw; obtain ⟨⟨b0, b1, b2, b3, b4, b5, b6, b7, b8, b9, b10, b11, b12, b13⟩, ⟨m0, m1, m2, m3, m4⟩⟩ := hSw; go_simp) ?_
      try simp only [List.setIfInBounds_toArray, List.set_cons_zero, List.set_cons_succ]
      refine drawn_take 12 17 (.bool true) rfl rfl (by kernel_rfl) (by kernel_rfl) (by kernel_rfl) (by kernel_rfl) (fun _ _ _ h => h) (by rfl) (by assumption) (by intro w hSw; obtain ⟨⟨b0, b1, b2, b3, b4, b5, b6, b7, b8, b9, b10, b11, b12, b13⟩, ⟨m0, m1, m2, m3, m4⟩⟩ := hSw; go_simp) ?_
      try simp only [List.setIfInBounds_toArray, List.set_cons_zero, List.set_cons_succ]
      have HFIN : Hid (matchB q k = decide (onlyP [] (txOf k) q.h = onlyP [] q.f q.h)) := by
        show matchB q k = _
        unfold matchB
        rw [dA, dB]
        rfl
      clear dA dB hA hB
      refine drawn_take 13 18 (.pointer (some ⟨m, 1, none⟩)) rfl rfl (by kernel_rfl) (by kernel_rfl) (by kernel_rfl) (by kernel_rfl) (fun _ _ _ h => h) (by rfl) (by assumption) (by intro w hSw; obtain ⟨⟨b0, b1, b2, b3, b4, b5, b6, b7, b8, b9, b10, b11, b12, b13⟩, ⟨m0, m1, m2, m3, m4⟩⟩ := hSw; go_simp) ?_
      try simp only [List.setIfInBounds_toArray, List.set_cons_zero, List.set_cons_succ]
      refine drawn_take 14 19 (.agg #[sv9 k.a, sv9 k.b, sv9 k.c, sv9 k.d]) rfl rfl (by kernel_rfl) (by kernel_rfl) (by kernel_rfl) (by kernel_rfl) (fun _ _ _ h => h) (by rfl) (by assumption) (by intro w hSw; obtain ⟨⟨b0, b1, b2, b3, b4, b5, b6, b7, b8, b9, b10, b11, b12, b13⟩, ⟨m0, m1, m2, m3, m4⟩⟩ := hSw; go_simp) ?_
      try simp only [List.setIfInBounds_toArray, List.set_cons_zero, List.set_cons_succ]
      refine drawn_take 15 20 (.pointer (some ⟨b, 6, none⟩)) rfl rfl (by kernel_rfl) (by kernel_rfl) (by kernel_rfl) (by kernel_rfl) (fun _ _ _ h => h) (by rfl) (by assumption) (by intro w hSw; obtain ⟨⟨b0, b1, b2, b3, b4, b5, b6, b7, b8, b9, b10, b11, b12, b13⟩, ⟨m0, m1, m2, m3, m4⟩⟩ := hSw; go_simp) ?_
      try simp only [List.setIfInBounds_toArray, List.set_cons_zero, List.set_cons_succ]
      refine drawn_take 16 21 (.agg (bs13 q.h)) rfl rfl (by kernel_rfl) (by kernel_rfl) (by kernel_rfl) (by kernel_rfl) (fun _ _ _ h => h) (by rfl) (by assumption) (by intro w hSw; obtain ⟨⟨b0, b1, b2, b3, b4, b5, b6, b7, b8, b9, b10, b11, b12, b13⟩, ⟨m0, m1, m2, m3, m4⟩⟩ := hSw; go_simp) ?_
      try simp only [List.setIfInBounds_toArray, List.set_cons_zero, List.set_cons_succ]
      refine drawn_take 18 23 (.pointer (some ⟨b, 10, none⟩)) rfl rfl (by kernel_rfl) (by kernel_rfl) (by kernel_rfl) (by kernel_rfl) (fun _ _ _ h => h) (by rfl) (by assumption) (by intro w hSw; obtain ⟨⟨b0, b1, b2, b3, b4, b5, b6, b7, b8, b9, b10, b11, b12, b13⟩, ⟨m0, m1, m2, m3, m4⟩⟩ := hSw; go_simp) ?_
      try simp only [List.setIfInBounds_toArray, List.set_cons_zero, List.set_cons_succ]
      refine drawn_take 19 24 (.agg (ts13 q.f)) rfl rfl (by kernel_rfl) (by kernel_rfl) (by kernel_rfl) (by kernel_rfl) (fun _ _ _ h => h) (by rfl) (by assumption) (by intro w hSw; obtain ⟨⟨b0, b1, b2, b3, b4, b5, b6, b7, b8, b9, b10, b11, b12, b13⟩, ⟨m0, m1, m2, m3, m4⟩⟩ := hSw; go_simp) ?_
      try simp only [List.setIfInBounds_toArray, List.set_cons_zero, List.set_cons_succ]
      refine drawn_take 20 25 (.pointer (some ⟨b, 6, none⟩)) rfl rfl (by kernel_rfl) (by kernel_rfl) (by kernel_rfl) (by kernel_rfl) (fun _ _ _ h => h) (by rfl) (by assumption) (by intro w hSw; obtain ⟨⟨b0, b1, b2, b3, b4, b5, b6, b7, b8, b9, b10, b11, b12, b13⟩, ⟨m0, m1, m2, m3, m4⟩⟩ := hSw; go_simp) ?_
      try simp only [List.setIfInBounds_toArray, List.set_cons_zero, List.set_cons_succ]
      refine drawn_take 21 26 (.agg (bs13 q.h)) rfl rfl (by kernel_rfl) (by kernel_rfl) (by kernel_rfl) (by kernel_rfl) (fun _ _ _ h => h) (by rfl) (by assumption) (by intro w hSw; obtain ⟨⟨b0, b1, b2, b3, b4, b5, b6, b7, b8, b9, b10, b11, b12, b13⟩, ⟨m0, m1, m2, m3, m4⟩⟩ := hSw; go_simp) ?_
      try simp only [List.setIfInBounds_toArray, List.set_cons_zero, List.set_cons_succ]
      refine drawn_any [17] (by kernel_rfl) (by simp) ?_
      refine drawn_cons rfl (fun K2 hK => ?_) drawn_nil
      go_simp
      refine (only_text13 (txOf k) q.h wd).mono ?_
      rintro e w4 ⟨rfl, t4⟩
      have HAT4 := Lib.hid (HAT.out.later t4)
      have hS4 : CQ13 w4 b q ∧ CK13 w4 m k := HAT4.out.s
      refine hK.out _ _ _ hS4 ?_
      clear hK K2 HAT hS0 t4
      try simp only [List.setIfInBounds_toArray, List.set_cons_zero, List.set_cons_succ]
      refine drawn_any [22] (by kernel_rfl) (by simp) ?_
      refine drawn_cons rfl (fun K2 hK => ?_) drawn_nil
      go_simp
      refine (only_text13 q.f q.h w4).mono ?_
      rintro e w5 ⟨rfl, t5⟩
      have HAT5 := Lib.hid (HAT4.out.later t5)
      have hS5 : CQ13 w5 b q ∧ CK13 w5 m k := HAT5.out.s
      refine hK.out _ _ _ hS5 ?_
      clear hK K2 HAT4 hS4 t5
      try simp only [List.setIfInBounds_toArray, List.set_cons_zero, List.set_cons_succ]
      have g3 := fun op X Y => guard_four13 op X Y (onlyP [] (txOf k) q.h) (onlyP [] q.f q.h)
      have ne3 := run_eql_four13 (onlyP [] (txOf k) q.h) (onlyP [] q.f q.h)
      rw [← HFIN.out] at ne3
      generalize onlyP [] (txOf k) q.h = o1 at *
      generalize onlyP [] q.f q.h = o2 at *
      obtain ⟨r, hr⟩ : ∃ r, r = matchB q k := ⟨_, rfl⟩
      rw [← hr] at ne3
      have HR := Lib.hid hr
      clear HFIN hr
      refine drawn_take 23 28 (.bool r) rfl rfl (by kernel_rfl) (by kernel_rfl) (by kernel_rfl) (by kernel_rfl) (fun _ _ _ h => h) (by rfl) (by assumption) (by intro w hSw; obtain ⟨⟨b0, b1, b2, b3, b4, b5, b6, b7, b8, b9, b10, b11, b12, b13⟩, ⟨m0, m1, m2, m3, m4⟩⟩ := hSw; go_simp) ?_
      try simp only [List.setIfInBounds_toArray, List.set_cons_zero, List.set_cons_succ]
      refine drawn_take 24 29 (.bool r) rfl rfl (by kernel_rfl) (by kernel_rfl) (by kernel_rfl) (by kernel_rfl) (fun _ _ _ h => h) (by rfl) (by assumption) (by intro w hSw; obtain ⟨⟨b0, b1, b2, b3, b4, b5, b6, b7, b8, b9, b10, b11, b12, b13⟩, ⟨m0, m1, m2, m3, m4⟩⟩ := hSw; go_simp) ?_
      try simp only [List.setIfInBounds_toArray, List.set_cons_zero, List.set_cons_succ]
      refine drawn_last1 25 4 (.bool r) rfl rfl (by kernel_rfl) (by kernel_rfl) (by rfl) (by intro w; go_simp) hS5 ?_
      try simp only [List.setIfInBounds_toArray, List.set_cons_zero, List.set_cons_succ]
      go_wp2
      go_ret
      rw [← HR.out]
      exact ⟨rfl, HAT5.out.turn⟩
    · have dB : decide (k.h < q.hi) = false := decide_eq_false hB
      have HFIN : Hid (matchB q k = false) := by
        show matchB q k = _
        unfold matchB
        rw [dB, Bool.and_false, Bool.false_and]
      refine drawn_take 10 15 (.bool false) rfl rfl (by kernel_rfl) (by kernel_rfl) (by kernel_rfl) (by kernel_rfl) (fun _ _ _ h => h) (by rfl) (by assumption) (by intro w hSw; obtain ⟨⟨b0, b1, b2, b3, b4, b5, b6, b7, b8, b9, b10, b11, b12, b13⟩, ⟨m0, m1, m2, m3, m4⟩⟩ := hSw; go_simp) ?_
      try simp only [List.setIfInBounds_toArray, List.set_cons_zero, List.set_cons_succ]
      refine drawn_take 11 16 (.bool false) rfl rfl (by kernel_rfl) (by kernel_rfl) (by kernel_rfl) (by kernel_rfl) (fun _ _ _ h => h) (by rfl) (by assumption) (by intro w hSw; obtain ⟨⟨b0, b1, b2, b3, b4, b5, b6, b7, b8, b9, b10, b11, b12, b13⟩, ⟨m0, m1, m2, m3, m4⟩⟩ := hSw; go_simp) ?_
      try simp only [List.setIfInBounds_toArray, List.set_cons_zero, List.set_cons_succ]
      refine drawn_take 12 17 (.bool false) rfl rfl (by kernel_rfl) (by kernel_rfl) (by kernel_rfl) (by kernel_rfl) (fun _ _ _ h => h) (by rfl) (by assumption) (by intro w hSw; obtain ⟨⟨b0, b1, b2, b3, b4, b5, b6, b7, b8, b9, b10, b11, b12, b13⟩, ⟨m0, m1, m2, m3, m4⟩⟩ := hSw; go_simp) ?_
      try simp only [List.setIfInBounds_toArray, List.set_cons_zero, List.set_cons_succ]
      refine drawn_skip 13 18 rfl rfl (by kernel_rfl) (by kernel_rfl) (by kernel_rfl) (by kernel_rfl) (fun _ _ _ h => h) (by rfl) (fun _ => by assumption) ?_
      try simp only [List.setIfInBounds_toArray, List.set_cons_zero, List.set_cons_succ]
      refine drawn_skip 14 19 rfl rfl (by kernel_rfl) (by kernel_rfl) (by kernel_rfl) (by kernel_rfl) (fun _ _ _ h => h) (by rfl) (fun _ => by assumption) ?_
      try simp only [List.setIfInBounds_toArray, List.set_cons_zero, List.set_cons_succ]
      refine drawn_skip 15 20 rfl rfl (by kernel_rfl) (by kernel_rfl) (by kernel_rfl) (by kernel_rfl) (fun _ _ _ h => h) (by rfl) (fun _ => by assumption) ?_
      try simp only [List.setIfInBounds_toArray, List.set_cons_zero, List.set_cons_succ]
      refine drawn_skip 16 21 rfl rfl (by kernel_rfl) (by kernel_rfl) (by kernel_rfl) (by kernel_rfl) (fun _ _ _ h => h) (by rfl) (fun _ => by assumption) ?_
      try simp only [List.setIfInBounds_toArray, List.set_cons_zero, List.set_cons_succ]
      refine drawn_skip 17 22 rfl rfl (by kernel_rfl) (by kernel_rfl) (by kernel_rfl) (by kernel_rfl) (fun _ _ _ h => h) (by rfl) (fun _ => by assumption) ?_
      try simp only [List.setIfInBounds_toArray, List.set_cons_zero, List.set_cons_succ]
      refine drawn_skip 18 23 rfl rfl (by kernel_rfl) (by kernel_rfl) (by kernel_rfl) (by kernel_rfl) (fun _ _ _ h => h) (by rfl) (fun _ => by assumption) ?_
      try simp only [List.setIfInBounds_toArray, List.set_cons_zero, List.set_cons_succ]
      refine drawn_skip 19 24 rfl rfl (by kernel_rfl) (by kernel_rfl) (by kernel_rfl) (by kernel_rfl) (fun _ _ _ h => h) (by rfl) (fun _ => by assumption) ?_
      try simp only [List.setIfInBounds_toArray, List.set_cons_zero, List.set_cons_succ]
      refine drawn_skip 20 25 rfl rfl (by kernel_rfl) (by kernel_rfl) (by kernel_rfl) (by kernel_rfl) (fun _ _ _ h => h) (by rfl) (fun _ => by assumption) ?_
      try simp only [List.setIfInBounds_toArray, List.set_cons_zero, List.set_cons_succ]
      refine drawn_skip 21 26 rfl rfl (by kernel_rfl) (by kernel_rfl) (by kernel_rfl) (by kernel_rfl) (fun _ _ _ h => h) (by rfl) (fun _ => by assumption) ?_
      try simp only [List.setIfInBounds_toArray, List.set_cons_zero, List.set_cons_succ]
      refine drawn_skip 22 27 rfl rfl (by kernel_rfl) (by kernel_rfl) (by kernel_rfl) (by kernel_rfl) (fun _ _ _ h => h) (by rfl) (fun _ => by assumption) ?_
      try simp only [List.setIfInBounds_toArray, List.set_cons_zero, List.set_cons_succ]
      refine drawn_skip 23 28 rfl rfl (by kernel_rfl) (by kernel_rfl) (by kernel_rfl) (by kernel_rfl) (fun _ _ _ h => h) (by rfl) (fun _ => by assumption) ?_
      try simp only [List.setIfInBounds_toArray, List.set_cons_zero, List.set_cons_succ]
      refine drawn_take 24 29 (.bool false) rfl rfl (by kernel_rfl) (by kernel_rfl) (by kernel_rfl) (by kernel_rfl) (fun _ _ _ h => h) (by rfl) (by assumption) (by intro w hSw; obtain ⟨⟨b0, b1, b2, b3, b4, b5, b6, b7, b8, b9, b10, b11, b12, b13⟩, ⟨m0, m1, m2, m3, m4⟩⟩ := hSw; go_simp) ?_
      try simp only [List.setIfInBounds_toArray, List.set_cons_zero, List.set_cons_succ]
      refine drawn_last1 25 4 (.bool false) rfl rfl (by kernel_rfl) (by kernel_rfl) (by rfl) (by intro w; go_simp) hS0 ?_
      try simp only [List.setIfInBounds_toArray, List.set_cons_zero, List.set_cons_succ]
      clear dB hB dA hA
      go_wp2
      go_ret
      rw [HFIN.out]
      exact ⟨rfl, HAT.out.turn⟩
  · have dA : decide (q.lo ≤ k.h) = false := decide_eq_false hA
    have HFIN : Hid (matchB q k = false) := by
      show matchB q k = _
      unfold matchB
      rw [dA, Bool.false_and, Bool.false_and]
    refine drawn_take 4 9 (.bool false) rfl rfl (by kernel_rfl) (by kernel_rfl) (by kernel_rfl) (by kernel_rfl) (fun _ _ _ h => h) (by rfl) (by assumption) (by intro w hSw; obtain ⟨⟨b0, b1, b2, b3, b4, b5, b6, b7, b8, b9, b10, b11, b12, b13⟩, ⟨m0, m1, m2, m3, m4⟩⟩ := hSw; go_simp) ?_
    try simp only [List.setIfInBounds_toArray, List.set_cons_zero, List.set_cons_succ]
    refine drawn_take 5 10 (.bool false) rfl rfl (by kernel_rfl) (by kernel_rfl) (by kernel_rfl) (by kernel_rfl) (fun _ _ _ h => h) (by rfl) (by assumption) (by intro w hSw; obtain ⟨⟨b0, b1, b2, b3, b4, b5, b6, b7, b8, b9, b10, b11, b12, b13⟩, ⟨m0, m1, m2, m3, m4⟩⟩ := hSw; go_simp) ?_
    try simp only [List.setIfInBounds_toArray, List.set_cons_zero, List.set_cons_succ]
    refine drawn_skip 6 11 rfl rfl (by kernel_rfl) (by kernel_rfl) (by kernel_rfl) (by kernel_rfl) (fun _ _ _ h => h) (by rfl) (fun _ => by assumption) ?_
    try simp only [List.setIfInBounds_toArray, List.set_cons_zero, List.set_cons_succ]
    refine drawn_skip 7 12 rfl rfl (by kernel_rfl) (by kernel_rfl) (by kernel_rfl) (by kernel_rfl) (fun _ _ _ h => h) (by rfl) (fun _ => by assumption) ?_
    try simp only [List.setIfInBounds_toArray, List.set_cons_zero, List.set_cons_succ]
    refine drawn_skip 8 13 rfl rfl (by kernel_rfl) (by kernel_rfl) (by kernel_rfl) (by kernel_rfl) (fun _ _ _ h => h) (by rfl) (fun _ => by assumption) ?_
    try simp only [List.setIfInBounds_toArray, List.set_cons_zero, List.set_cons_succ]
    refine drawn_skip 9 14 rfl rfl (by kernel_rfl) (by kernel_rfl) (by kernel_rfl) (by kernel_rfl) (fun _ _ _ h => h) (by rfl) (fun _ => by assumption) ?_
    try simp only [List.setIfInBounds_toArray, List.set_cons_zero, List.set_cons_succ]
    refine drawn_skip 10 15 rfl rfl (by kernel_rfl) (by kernel_rfl) (by kernel_rfl) (by kernel_rfl) (fun _ _ _ h => h) (by rfl) (fun _ => by assumption) ?_
    try simp only [List.setIfInBounds_toArray, List.set_cons_zero, List.set_cons_succ]
    refine drawn_take 11 16 (.bool false) rfl rfl (by kernel_rfl) (by kernel_rfl) (by kernel_rfl) (by kernel_rfl) (fun _ _ _ h => h) (by rfl) (by assumption) (by intro w hSw; obtain ⟨⟨b0, b1, b2, b3, b4, b5, b6, b7, b8, b9, b10, b11, b12, b13⟩, ⟨m0, m1, m2, m3, m4⟩⟩ := hSw; go_simp) ?_
    try simp only [List.setIfInBounds_toArray, List.set_cons_zero, List.set_cons_succ]
    refine drawn_take 12 17 (.bool false) rfl rfl (by kernel_rfl) (by kernel_rfl) (by kernel_rfl) (by kernel_rfl) (fun _ _ _ h => h) (by rfl) (by assumption) (by intro w hSw; obtain ⟨⟨b0, b1, b2, b3, b4, b5, b6, b7, b8, b9, b10, b11, b12, b13⟩, ⟨m0, m1, m2, m3, m4⟩⟩ := hSw; go_simp) ?_
    try simp only [List.setIfInBounds_toArray, List.set_cons_zero, List.set_cons_succ]
    refine drawn_skip 13 18 rfl rfl (by kernel_rfl) (by kernel_rfl) (by kernel_rfl) (by kernel_rfl) (fun _ _ _ h => h) (by rfl) (fun _ => by assumption) ?_
    try simp only [List.setIfInBounds_toArray, List.set_cons_zero, List.set_cons_succ]
    refine drawn_skip 14 19 rfl rfl (by kernel_rfl) (by kernel_rfl) (by kernel_rfl) (by kernel_rfl) (fun _ _ _ h => h) (by rfl) (fun _ => by assumption) ?_
    try simp only [List.setIfInBounds_toArray, List.set_cons_zero, List.set_cons_succ]
    refine drawn_skip 15 20 rfl rfl (by kernel_rfl) (by kernel_rfl) (by kernel_rfl) (by kernel_rfl) (fun _ _ _ h => h) (by rfl) (fun _ => by assumption) ?_
    try simp only [List.setIfInBounds_toArray, List.set_cons_zero, List.set_cons_succ]
    refine drawn_skip 16 21 rfl rfl (by kernel_rfl) (by kernel_rfl) (by kernel_rfl) (by kernel_rfl) (fun _ _ _ h => h) (by rfl) (fun _ => by assumption) ?_
    try simp only [List.setIfInBounds_toArray, List.set_cons_zero, List.set_cons_succ]
    refine drawn_skip 17 22 rfl rfl (by kernel_rfl) (by kernel_rfl) (by kernel_rfl) (by kernel_rfl) (fun _ _ _ h => h) (by rfl) (fun _ => by assumption) ?_
    try simp only [List.setIfInBounds_toArray, List.set_cons_zero, List.set_cons_succ]
    refine drawn_skip 18 23 rfl rfl (by kernel_rfl) (by kernel_rfl) (by kernel_rfl) (by kernel_rfl) (fun _ _ _ h => h) (by rfl) (fun _ => by assumption) ?_
    try simp only [List.setIfInBounds_toArray, List.set_cons_zero, List.set_cons_succ]
    refine drawn_skip 19 24 rfl rfl (by kernel_rfl) (by kernel_rfl) (by kernel_rfl) (by kernel_rfl) (fun _ _ _ h => h) (by rfl) (fun _ => by assumption) ?_
    try simp only [List.setIfInBounds_toArray, List.set_cons_zero, List.set_cons_succ]
    refine drawn_skip 20 25 rfl rfl (by kernel_rfl) (by kernel_rfl) (by kernel_rfl) (by kernel_rfl) (fun _ _ _ h => h) (by rfl) (fun _ => by assumption) ?_
    try simp only [List.setIfInBounds_toArray, List.set_cons_zero, List.set_cons_succ]
    refine drawn_skip 21 26 rfl rfl (by kernel_rfl) (by kernel_rfl) (by kernel_rfl) (by kernel_rfl) (fun _ _ _ h => h) (by rfl) (fun _ => by assumption) ?_
    try simp only [List.setIfInBounds_toArray, List.set_cons_zero, List.set_cons_succ]
    refine drawn_skip 22 27 rfl rfl (by kernel_rfl) (by kernel_rfl) (by kernel_rfl) (by kernel_rfl) (fun _ _ _ h => h) (by rfl) (fun _ => by assumption) ?_
    try simp only [List.setIfInBounds_toArray, List.set_cons_zero, List.set_cons_succ]
    refine drawn_skip 23 28 rfl rfl (by kernel_rfl) (by kernel_rfl) (by kernel_rfl) (by kernel_rfl) (fun _ _ _ h => h) (by rfl) (fun _ => by assumption) ?_
    try simp only [List.setIfInBounds_toArray, List.set_cons_zero, List.set_cons_succ]
    refine drawn_take 24 29 (.bool false) rfl rfl (by kernel_rfl) (by kernel_rfl) (by kernel_rfl) (by kernel_rfl) (fun _ _ _ h => h) (by rfl) (by assumption) (by intro w hSw; obtain ⟨⟨b0, b1, b2, b3, b4, b5, b6, b7, b8, b9, b10, b11, b12, b13⟩, ⟨m0, m1, m2, m3, m4⟩⟩ := hSw; go_simp) ?_
    try simp only [List.setIfInBounds_toArray, List.set_cons_zero, List.set_cons_succ]
    refine drawn_last1 25 4 (.bool false) rfl rfl (by kernel_rfl) (by kernel_rfl) (by rfl) (by intro w; go_simp) hS0 ?_
    try simp only [List.setIfInBounds_toArray, List.set_cons_zero, List.set_cons_succ]
    clear dA hA
    go_wp2
    go_ret
    rw [HFIN.out]
    exact ⟨rfl, HAT.out.turn⟩

set_option maxHeartbeats 16000000 in
theorem group_any13 (q : Q13) (k : K9) (w : World) : Calls Try.prog 43 #[qv13 q, kv9 k] w fun e w' => e = .returned (kv9 (groupK q k)) ∧ Turn (fun _ => False) w w' := by
  unfold qv13 kv9
  obtain ⟨w0, hw0⟩ : ∃ w0, w0 = (w.alloc (.cells (cells13 q) 25)).alloc (.cells #[.int .i64 k.h, sv9 k.a, sv9 k.b, sv9 k.c, sv9 k.d] 44) := ⟨_, rfl⟩
  have h0 := Qk13.new w q k
  rw [← hw0] at h0
  have HW := Lib.hid hw0
  have HAT0 := Lib.hid h0
  clear hw0 h0
  obtain ⟨w1, hw1⟩ : ∃ w1, w1 = w0.alloc (.cells #[.int .i64 0, .string ⟨#[]⟩, .string ⟨#[]⟩, .string ⟨#[]⟩, .string ⟨#[]⟩] 44) := ⟨_, rfl⟩
  have hs0 : w0.heap.size = w.heap.size + 1 + 1 := by rw [HW.out, World.size_alloc, World.size_alloc]
  have h1 := HAT0.out.later ((Turn.refl (fun _ => False) w0).alloc (.cells #[.int .i64 0, .string ⟨#[]⟩, .string ⟨#[]⟩, .string ⟨#[]⟩, .string ⟨#[]⟩] 44))
  have hr1 := Box.new w0 44 #[.int .i64 0, .string ⟨#[]⟩, .string ⟨#[]⟩, .string ⟨#[]⟩, .string ⟨#[]⟩]
  rw [hs0] at hr1
  rw [← hw1] at h1 hr1
  rw [HW.out] at hw1
  obtain ⟨⟨b0, b1, b2, b3, b4, b5, b6, b7, b8, b9, b10, b11, b12, b13⟩, ⟨m0, m1, m2, m3, m4⟩⟩ := HAT0.out.s
  rw [HW.out] at b0 b1 b2 b3 b4 b5 b6 b7 b8 b9 b10 b11 b12 b13 m0 m1 m2 m3 m4
  have HH1 := Lib.hid h1
  have HR1 := Lib.hid hr1
  have HW1 := Lib.hid hw1
  have HLT : Hid (w.heap.size ≤ w.heap.size + 1 + 1) := by show _ ≤ _; omega
  clear h1 hr1 hw1 hs0 HAT0
  clear HW w0
  go_enter Try.func43, Try.ntmps43
  go_wp2_with fail
  rw [← HW1.out]
  obtain ⟨r, hr⟩ : ∃ r, r = w.heap.size + 1 + 1 := ⟨_, rfl⟩
  rw [← hr]
  rw [← hr] at HR1 HLT
  clear b0 b1 b2 b3 b4 b5 b6 b7 b8 b9 b10 b11 b12 b13 m0 m1 m2 m3 m4 HW1 hr
  refine (only_text13 (txOf k) q.g w1).mono ?_
  rintro e w2 ⟨rfl, t2⟩
  have hb := HR1.out.turn t2 (fun f => f)
  have HG : Hid (groupK q k = kOf (onlyP [] (txOf k) q.g)) := rfl
  generalize onlyP [] (txOf k) q.g = o at *
  have d0 : w2.cell? ⟨r, 0, none⟩ = some (.int .i64 0) := hb.cell 0
  have d1 : w2.cell? ⟨r, 1, none⟩ = some (.string ⟨#[]⟩) := hb.cell 1
  have d2 : w2.cell? ⟨r, 2, none⟩ = some (.string ⟨#[]⟩) := hb.cell 2
  have d3 : w2.cell? ⟨r, 3, none⟩ = some (.string ⟨#[]⟩) := hb.cell 3
  have d4 : w2.cell? ⟨r, 4, none⟩ = some (.string ⟨#[]⟩) := hb.cell 4
  have z0 : w2.frozen? ⟨r, 0, none⟩ = false := hb.free 0
  have z1 : w2.frozen? ⟨r, 1, none⟩ = false := hb.free 1
  have z2 : w2.frozen? ⟨r, 2, none⟩ = false := hb.free 2
  have z3 : w2.frozen? ⟨r, 3, none⟩ = false := hb.free 3
  have z4 : w2.frozen? ⟨r, 4, none⟩ = false := hb.free 4
  have HT : Hid (Turn (fun _ => False) w (w2.setCells r 0 [.int .i64 0, sv9 o.a, sv9 o.b, sv9 o.c, sv9 o.d])) := (HH1.out.turn.trans t2 (fun _ _ f => f)).trans (turn_setCells (S := fun g => g = r) rfl _ 0 w2) (fun g hg e => by have := HLT.out; omega)
  clear hb t2 HR1 HH1
  go_wp2
  refine bodyPost_ret (v := .agg #[.int .i64 0, sv9 o.a, sv9 o.b, sv9 o.c, sv9 o.d]) ?_ rfl ⟨by rw [HG.out]; rfl, HT.out⟩
  rw [results_one13 rfl]
  go_simp

end Go.Proofs.Ytklpmajaihmmfaa
