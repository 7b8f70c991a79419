/-
  Texts laid one behind the other: Eh Q3b Ey Q3c Q3d Q3e Q3f Q3g.
-/
import Derived.Test.YtclljogbingjiaaJocad
import Derived.Laws.Slices
import Derived.BigQuiet
import Derived.Test.YtclljogbingjiaaJocaa

/-
  In a region that draws its order: 'append(append(append([]T{}, a...), x), b...)', whatever order its parts come in; slices cut at their front and tail. No type is named here.
-/
namespace Go.Proofs.Ytclljogbingjiaa
open Go.RowKit

section
variable {P : Program} {T : Type} {E : El T} {tS e : TypeId}
/-- A slice's tail, as it is cut. -/
def tailV (E : El T) (A : Option Addr) (n c i : Nat) : Value := .slice (if c = i then A else A.map (fun a => a.add (i * E.sz))) (n - i) (c - i)
theorem rd_tailV {w : World} {A : Option Addr} {n c i : Nat} {L : List T} (h : RdE E w (.slice A n c) L) (hi : i ≤ n) : RdE E w (tailV E A n c i) (L.drop i) := by
  have hf := h.fits
  unfold tailV
  by_cases hc : c = i
  · rw [if_pos hc]
    have e : L.drop i = [] := List.eq_nil_of_length_eq_zero (by rw [List.length_drop]; omega)
    rw [e, show n - i = 0 by omega, show c - i = 0 by omega]
    cases A with
    | none => exact RdE.nil w
    | some ad => exact RdE.none_left _ (by simp) w 0 (Nat.zero_le _)
  · rw [if_neg hc]
    cases A with
    | none => have := (hf.2.2.2 rfl); omega
    | some ad => exact h.back i hi
theorem run_tailV (ht : P.underlying tS = some (.slice e)) (hz : (P.info? e).map (·.size) = some E.sz) (A : Option Addr) (n c i : Nat) (hi : i ≤ n) (w : World) :
    (Instr.slice tS (.slice A n c) (some (.int .i64 (i : Int))) none none).run P w = .ok (tailV E A n c i) w := by
  obtain ⟨j, hj, hz⟩ := Option.map_eq_some_iff.1 hz
  unfold tailV
  rw [← hz]
  simp [Instr.slice, Instr.sliceBounds, Instr.sliceBound, asIntOf, run_underlying ht, sizeOf, typeInfo, hj]
  intro h
  omega
theorem run_frontV (ht : P.underlying tS = some (.slice e)) (hz : (P.info? e).map (·.size) = some E.sz) (A : Option Addr) (n c i : Nat) (hi : i ≤ c) (w : World) :
    (Instr.slice tS (.slice A n c) none (some (.int .i64 (i : Int))) none).run P w = .ok (.slice A i c) w := by
  obtain ⟨j, hj, hz⟩ := Option.map_eq_some_iff.1 hz
  cases A
  all_goals
    simp [Instr.slice, Instr.sliceBounds, Instr.sliceBound, asIntOf, run_underlying ht, sizeOf, typeInfo, hj, Addr.add]
    intro h
    omega
theorem exec_tail {o : Oper} {a : Act} {xo ko : Operand} {A : Option Addr} {n c i : Nat} (ho : o.op = .slice tS xo (some ko) none none) (hx : a.eval xo = .slice A n c) (hk : a.eval ko = .int .i64 (i : Int)) (ht : P.underlying tS = some (.slice e)) (hz : (P.info? e).map (·.size) = some E.sz) (hi : i ≤ n) (w : World) :
    (execOp a.eval o).run P w = .ok (.value (tailV E A n c i)) w := by
  unfold execOp
  simp [ho, hx, hk, Instr.sliceAt, run_underlying ht, run_tailV (E := E) ht hz A n c i hi w]
theorem exec_front {o : Oper} {a : Act} {xo ko : Operand} {A : Option Addr} {n c i : Nat} (ho : o.op = .slice tS xo none (some ko) none) (hx : a.eval xo = .slice A n c) (hk : a.eval ko = .int .i64 (i : Int)) (ht : P.underlying tS = some (.slice e)) (hz : (P.info? e).map (·.size) = some E.sz) (hi : i ≤ c) (w : World) :
    (execOp a.eval o).run P w = .ok (.value (.slice A i c)) w := by
  unfold execOp
  simp [ho, hx, hk, Instr.sliceAt, run_underlying ht, run_frontV (E := E) ht hz A n c i hi w]
/-- append onto a row of one's own. -/
theorem run_appE {z : Value} {by' : Nat} (ht : P.underlying tS = some (.slice e)) (hi0 : (P.info? e).map (fun i => (i.zero, i.size, i.bytes)) = some (some z, E.sz, by')) (hz : z.cells.size = E.sz) (hby : by' ≤ 1000) (w : World) (ty : TypeId) (v : Value) (l : List T) (hown : OwE E e w v l)
    (y : Value) (m : List T) (hy : RdE E w y m) (hl : l.length + m.length ≤ 3000000) :
    ∃ A n c w', (Builtin.append_ #[tS, tS] ty #[v, y]).run P w = .ok (.slice A n c) w' ∧ OwE E e w' (.slice A n c) (l ++ m) ∧ Turn (fun k => v.ownBlock = some k) w w' ∧ ((Value.slice A n c).ownBlock = v.ownBlock ∨ (Value.slice A n c).ownBlock = some w.heap.size) := by
  obtain ⟨i, hi, hz0, h1, h2⟩ := info_parts hi0
  have hsrc := hy.src (P := P) ht
  unfold OwE at hown
  rw [← h1] at hown hsrc
  obtain ⟨A, n, c, w', hr, g1, g2, g3⟩ := run_app (P := P) w tS tS ty e i z ht hi hz0 (by rw [h1]; exact hz) v l.length _ hown y m.length _ hsrc (by simp only [maxLen]; omega) (by rw [h2]; exact Nat.le_trans (Nat.mul_le_mul hl hby) (by omega))
  refine ⟨A, n, c, w', hr, ?_, (Turn.refl _ w).grown g2 (fun k _ e => e), g3⟩
  unfold OwE
  rw [List.length_append, E.flat_append, ← h1]
  exact g1
end

section
variable {P : Program} {ops : Array Oper} {Q : Exit → Act → World → Prop} {S : World → Prop} {zs : List Nat}
theorem slot_ne {ts : Array Value} {d k : Nat} {v : Value} (h : d ≠ k) : (ts.setIfInBounds d v).getD k undef = ts.getD k undef := by
  simp [Array.getD_eq_getD_getElem?, Array.getElem?_setIfInBounds_ne h]
theorem slot_eq {ts : Array Value} {d : Nat} {v : Value} (h : d < ts.size) : (ts.setIfInBounds d v).getD d undef = v := by
  simp [Array.getD_eq_getD_getElem?, h]
/-- One that yields a value, in some world. -/
theorem drawn_does {fuel : Nat} {listed : Array Bool} {ts : Array Value} {ds : List Deferred} {w : World} {i d : Nat} {o : Oper} {rs : List Nat} (R : Value → World → Prop) (ho : nthL ops.toList i = some o) (hg : o.guard = none) (hd : o.dst = some d)
    (hr : ∃ v w', (execOp ({ tmps := ts, defers := ds } : Act).eval o).run P w = .ok (.value v) w' ∧ R v w')
    (h : ∀ v w', R v w' → S w' ∧ Drawn P ops Q S zs fuel (listed.setIfInBounds i true) (ts.setIfInBounds d v) ds w')
    (hs : DrawnAll P ops Q S zs fuel listed ts ds w rs) : DrawnAll P ops Q S zs fuel listed ts ds w (i :: rs) :=
  drawn_cons ho (fun K hK => by
    rw [if_pos (by simp [Region.wanted, hg])]
    obtain ⟨v, w', hrun, hR⟩ := hr
    unfold Oper.wp
    rw [hrun]
    show K (({ tmps := ts, defers := ds } : Act).put o.dst v) w'
    rw [hd]
    obtain ⟨h1, h2⟩ := h v w' hR
    exact hK.out _ _ _ h1 h2) hs
variable {T : Type} {E : El T} {tS e : TypeId}
theorem app_does {z : Value} {by' : Nat} (ht : P.underlying tS = some (.slice e)) (hi0 : (P.info? e).map (fun i => (i.zero, i.size, i.bytes)) = some (some z, E.sz, by')) (hz : z.cells.size = E.sz) (hby : by' ≤ 1000)
    {w0 w : World} {a : Act} {o : Oper} {s x : Operand} (ho : o.op = .call { callee := .builtin .append, args := #[s, x], argTypes := #[tS, tS] }) {v y : Value} {l m : List T} (hs : a.eval s = v) (hx : a.eval x = y) (hn : NewE E e w0 w v l) (hy : RdE E w y m) (hl : l.length + m.length ≤ 3000000) :
    ∃ u w', (execOp a.eval o).run P w = .ok (.value u) w' ∧ NewE E e w0 w' u (l ++ m) ∧ Turn (fun k => v.ownBlock = some k) w w' := by
  obtain ⟨A, n, c, w', hr, g1, g2, g3⟩ := run_appE (P := P) ht hi0 hz hby w o.type v l hn.own y m hy hl
  refine ⟨_, w', ?_, hn.step g1 g2 g3, g2⟩
  unfold execOp
  simp only [ho, resolve, invoke, builtin, Sem.run_bind, Sem.run_pure, Result.andThen_ok, List.map_toArray, List.map_cons, List.map_nil, hs, hx, hr]

/-- append(append(append([]T{}, a...), x), b...): all that is read lies in slots; whatever order the rest comes in. -/
theorem drawn_ins {z : Value} {by' : Nat} (ht : P.underlying tS = some (.slice e)) (hi0 : (P.info? e).map (fun i => (i.zero, i.size, i.bytes)) = some (some z, E.sz, by')) (hz : z.cells.size = E.sz) (hby : by' ≤ 1000)
    {w0 : World} (HS : ∀ W, Turn (fun _ => False) w0 W → S W) (ie i1 ix i2 i3 de d1 dx d2 d3 kf kx kt : Nat) {oe o1 ox o2 o3 : Oper}
    (he : nthL ops.toList ie = some oe) (ge : oe.guard = none) (te : oe.dst = some de) (pe : oe.op = .buildSlice tS 0 #[])
    (h1 : nthL ops.toList i1 = some o1) (g1 : o1.guard = none) (t1 : o1.dst = some d1) (p1 : o1.op = .call { callee := .builtin .append, args := #[.tmp de, .tmp kf], argTypes := #[tS, tS] })
    (hx : nthL ops.toList ix = some ox) (gx : ox.guard = none) (tx : ox.dst = some dx) (px : ox.op = .buildSlice tS 1 #[(0, .tmp kx)])
    (h2 : nthL ops.toList i2 = some o2) (g2 : o2.guard = none) (t2 : o2.dst = some d2) (p2 : o2.op = .call { callee := .builtin .append, args := #[.tmp d1, .tmp dx], argTypes := #[tS, tS] })
    (h3 : nthL ops.toList i3 = some o3) (g3 : o3.guard = none) (t3 : o3.dst = some d3) (p3 : o3.op = .call { callee := .builtin .append, args := #[.tmp d2, .tmp kt], argTypes := #[tS, tS] })
    {fuel : Nat} {listed : Array Bool} {ts : Array Value} {ds : List Deferred} {w : World}
    (r0 : Region.ready .any ops listed = [ie, ix]) (re : Region.ready .any ops (listed.setIfInBounds ie true) = [i1, ix]) (re1 : Region.ready .any ops ((listed.setIfInBounds ie true).setIfInBounds i1 true) = [ix])
    (rex : Region.ready .any ops ((listed.setIfInBounds ie true).setIfInBounds ix true) = [i1]) (rx : Region.ready .any ops (listed.setIfInBounds ix true) = [ie])
    (r3 : Region.ready .any ops (((listed.setIfInBounds ie true).setIfInBounds i1 true).setIfInBounds ix true) = [i2]) (r4 : Region.ready .any ops ((((listed.setIfInBounds ie true).setIfInBounds i1 true).setIfInBounds ix true).setIfInBounds i2 true) = [i3])
    (hd : (ie ≠ i1 ∧ ie ≠ ix ∧ i1 ≠ ix) ∧ (de ≠ d1 ∧ de ≠ dx ∧ d1 ≠ dx ∧ de ≠ kf ∧ de ≠ kx ∧ dx ≠ kf ∧ d1 ≠ kx) ∧ (de ≠ kt ∧ d1 ≠ kt ∧ dx ≠ kt ∧ d2 ≠ kt) ∧ de < ts.size ∧ d1 < ts.size ∧ dx < ts.size ∧ d2 < ts.size)
    {vf vt xv : Value} {l1 l3 : List T} {x : T} (kf' : ts.getD kf undef = vf) (kt' : ts.getD kt undef = vt) (kx' : ts.getD kx undef = xv)
    (HF : ∀ W, Turn (fun _ => False) w0 W → RdE E W vf l1) (HT : ∀ W, Turn (fun _ => False) w0 W → RdE E W vt l3) (hl : l1.length + l3.length ≤ 2000000)
    (hE : ∀ W, (Instr.buildSlice tS 0 #[]).run P W = .ok (.slice (some ⟨W.heap.size, 0, none⟩) 0 0) (W.alloc (.cells #[] e)))
    (hX : ∀ W, (Instr.buildSlice tS 1 #[(0, xv)]).run P W = .ok (.slice (some ⟨W.heap.size, 0, none⟩) 1 1) (W.alloc (.cells (E.enc x).toArray e)))
    (hw : Turn (fun _ => False) w0 w)
    (h : ∀ W v a b c d, NewE E e w0 W v (l1 ++ x :: l3) → Drawn P ops Q S zs fuel (((((listed.setIfInBounds ie true).setIfInBounds i1 true).setIfInBounds ix true).setIfInBounds i2 true).setIfInBounds i3 true) (((((ts.setIfInBounds de a).setIfInBounds d1 b).setIfInBounds dx c).setIfInBounds d2 d).setIfInBounds d3 v) ds W) :
    Drawn P ops Q S zs (fuel + 5) listed ts ds w := by
  obtain ⟨⟨n1, n2, n3⟩, ⟨m1, m2, m3, m4, m5, m6, m7⟩, ⟨q1, q2, q3, q4⟩, s1, s2, s3, s4⟩ := hd
  have EE : ∀ (ts : Array Value) W, ∃ v w', (execOp ({ tmps := ts, defers := ds } : Act).eval oe).run P W = .ok (.value v) w' ∧ (v = .slice (some ⟨W.heap.size, 0, none⟩) 0 0 ∧ w' = W.alloc (.cells #[] e)) := fun ts W =>
    ⟨_, _, by unfold execOp; simp [pe, hE], rfl, rfl⟩
  have EX : ∀ (ts : Array Value) W, ts.getD kx undef = xv → ∃ v w', (execOp ({ tmps := ts, defers := ds } : Act).eval ox).run P W = .ok (.value v) w' ∧ (v = .slice (some ⟨W.heap.size, 0, none⟩) 1 1 ∧ w' = W.alloc (.cells (E.enc x).toArray e)) := fun ts W hk =>
    ⟨_, _, by rw [Array.getD_eq_getD_getElem?] at hk; unfold execOp; simp [px, Act.eval, hk, hX], rfl, rfl⟩
  have tail : ∀ (W : World) (a b c : Value), NewE E e w0 W b l1 → RdE E W c [x] →
      Drawn P ops Q S zs (fuel + 2) (((listed.setIfInBounds ie true).setIfInBounds i1 true).setIfInBounds ix true) (((ts.setIfInBounds de a).setIfInBounds d1 b).setIfInBounds dx c) ds W := fun W a b c hn hc => by
    refine drawn_any [i2] r3 (by simp) (drawn_does (fun u w' => NewE E e w0 w' u (l1 ++ [x])) h2 g2 t2 ?_ (fun u w' hu => ⟨HS _ hu.turn, ?_⟩) drawn_nil)
    · obtain ⟨u, w', e1, e2, -⟩ := app_does (P := P) ht hi0 hz hby (a := ({ tmps := ((ts.setIfInBounds de a).setIfInBounds d1 b).setIfInBounds dx c, defers := ds } : Act)) p2 (v := b) (y := c) (by simp only [Act.eval]; rw [slot_ne (Ne.symm m3), slot_eq (by simpa using s2)]) (by simp only [Act.eval]; rw [slot_eq (by simpa using s3)]) hn hc (by simp; omega)
      exact ⟨u, w', e1, e2⟩
    · refine drawn_any [i3] r4 (by simp) (drawn_does (fun v w' => NewE E e w0 w' v (l1 ++ x :: l3)) h3 g3 t3 ?_ (fun v w' hv => ⟨HS _ hv.turn, h w' v a b c u hv⟩) drawn_nil)
      obtain ⟨v, w'', e1, e2, -⟩ := app_does (P := P) ht hi0 hz hby (a := ({ tmps := (((ts.setIfInBounds de a).setIfInBounds d1 b).setIfInBounds dx c).setIfInBounds d2 u, defers := ds } : Act)) p3 (v := u) (y := vt) (by simp only [Act.eval]; rw [slot_eq (by simpa using s4)]) (by simp only [Act.eval]; rw [slot_ne q4, slot_ne q3, slot_ne q2, slot_ne q1, kt']) hu (HT _ hu.turn) (by simp; omega)
      exact ⟨v, w'', e1, by simpa using e2⟩
  refine drawn_any [ie, ix] r0 (by simp) (drawn_does (fun v w' => v = .slice (some ⟨w.heap.size, 0, none⟩) 0 0 ∧ w' = w.alloc (.cells #[] e)) he ge te (EE ts w) ?_ (drawn_does (fun v w' => v = .slice (some ⟨w.heap.size, 0, none⟩) 1 1 ∧ w' = w.alloc (.cells (E.enc x).toArray e)) hx gx tx (EX ts w kx') ?_ drawn_nil))
  · rintro v w' ⟨rfl, rfl⟩
    have hn := NewE.empty (E := E) (e := e) w0 w hw
    refine ⟨HS _ hn.turn, drawn_any [i1, ix] re (by simp) (drawn_does (fun u w' => NewE E e w0 w' u l1) h1 g1 t1 ?_ (fun u w' hu => ⟨HS _ hu.turn, ?_⟩) (drawn_does (fun v w' => v = .slice (some ⟨(w.alloc (.cells #[] e)).heap.size, 0, none⟩) 1 1 ∧ w' = (w.alloc (.cells #[] e)).alloc (.cells (E.enc x).toArray e)) hx gx tx (EX _ _ (by rw [slot_ne m5, kx'])) ?_ drawn_nil))⟩
    · obtain ⟨u, w', e1, e2, -⟩ := app_does (P := P) ht hi0 hz hby (a := ({ tmps := ts.setIfInBounds de (.slice (some ⟨w.heap.size, 0, none⟩) 0 0), defers := ds } : Act)) p1 (y := vf) (by simp only [Act.eval]; rw [slot_eq s1]) (by simp only [Act.eval]; rw [slot_ne m4, kf']) hn (HF _ hn.turn) (by simp; omega)
      exact ⟨u, w', e1, by simpa using e2⟩
    · refine drawn_any [ix] re1 (by simp) (drawn_does (fun v w2 => v = .slice (some ⟨w'.heap.size, 0, none⟩) 1 1 ∧ w2 = w'.alloc (.cells (E.enc x).toArray e)) hx gx tx (EX _ _ (by rw [slot_ne m7, slot_ne m5, kx'])) ?_ drawn_nil)
      rintro v w2 ⟨rfl, rfl⟩
      exact ⟨HS _ (hu.alloc _).turn, tail _ _ _ _ (hu.alloc _) (one_row E e w' x)⟩
    · rintro v w2 ⟨rfl, rfl⟩
      have hn2 := hn.alloc (.cells (E.enc x).toArray e)
      have hr := one_row E e (w.alloc (.cells #[] e)) x
      refine ⟨HS _ hn2.turn, drawn_any [i1] rex (by simp) (drawn_does (fun u w3 => NewE E e w0 w3 u l1 ∧ RdE E w3 (.slice (some ⟨(w.alloc (.cells #[] e)).heap.size, 0, none⟩) 1 1) [x]) h1 g1 t1 ?_ (fun u w3 hu => ⟨HS _ hu.1.turn, ?_⟩) drawn_nil)⟩
      · obtain ⟨u, w3, e1, e2, e3⟩ := app_does (P := P) ht hi0 hz hby (a := ({ tmps := (ts.setIfInBounds de (.slice (some ⟨w.heap.size, 0, none⟩) 0 0)).setIfInBounds dx (.slice (some ⟨(w.alloc (.cells #[] e)).heap.size, 0, none⟩) 1 1), defers := ds } : Act)) p1 (v := .slice (some ⟨w.heap.size, 0, none⟩) 0 0) (y := vf) (by simp only [Act.eval]; rw [slot_ne (Ne.symm m2), slot_eq s1]) (by simp only [Act.eval]; rw [slot_ne m6, slot_ne m4, kf']) hn2 (HF _ hn2.turn) (by simp; omega)
        refine ⟨u, w3, e1, by simpa using e2, hr.turn e3 (fun k h1 h2 => ?_)⟩
        rw [World.size_alloc] at h1
        simp [Value.ownBlock] at h1 h2
        omega
      · rw [Array.setIfInBounds_comm _ _ (Ne.symm n3), Array.setIfInBounds_comm _ _ (Ne.symm m3)]
        exact tail _ _ _ _ hu.1 hu.2
  · rintro v w' ⟨rfl, rfl⟩
    have hr := one_row E e w x
    have hw1 : Turn (fun _ => False) w0 (w.alloc (.cells (E.enc x).toArray e)) := hw.alloc _
    refine ⟨HS _ hw1, drawn_any [ie] rx (by simp) (drawn_does (fun v w' => v = .slice (some ⟨(w.alloc (.cells (E.enc x).toArray e)).heap.size, 0, none⟩) 0 0 ∧ w' = (w.alloc (.cells (E.enc x).toArray e)).alloc (.cells #[] e)) he ge te (EE _ _) ?_ drawn_nil)⟩
    rintro v w2 ⟨rfl, rfl⟩
    have hn := NewE.empty (E := E) (e := e) w0 _ hw1
    have hr2 := hr.later ((Turn.refl _ (w.alloc (.cells (E.enc x).toArray e))).alloc (.cells #[] e))
    rw [Array.setIfInBounds_comm _ _ (Ne.symm n2), Array.setIfInBounds_comm _ _ (Ne.symm m2)]
    refine ⟨HS _ hn.turn, drawn_any [i1] rex (by simp) (drawn_does (fun u w3 => NewE E e w0 w3 u l1 ∧ RdE E w3 (.slice (some ⟨w.heap.size, 0, none⟩) 1 1) [x]) h1 g1 t1 ?_ (fun u w3 hu => ⟨HS _ hu.1.turn, ?_⟩) drawn_nil)⟩
    · obtain ⟨u, w3, e1, e2, e3⟩ := app_does (P := P) ht hi0 hz hby (a := ({ tmps := (ts.setIfInBounds de (.slice (some ⟨(w.alloc (.cells (E.enc x).toArray e)).heap.size, 0, none⟩) 0 0)).setIfInBounds dx (.slice (some ⟨w.heap.size, 0, none⟩) 1 1), defers := ds } : Act)) p1 (v := .slice (some ⟨(w.alloc (.cells (E.enc x).toArray e)).heap.size, 0, none⟩) 0 0) (y := vf) (by simp only [Act.eval]; rw [slot_ne (Ne.symm m2), slot_eq s1]) (by simp only [Act.eval]; rw [slot_ne m6, slot_ne m4, kf']) hn (HF _ hn.turn) (by simp; omega)
      refine ⟨u, w3, e1, by simpa using e2, hr2.turn e3 (fun k h1 h2 => ?_)⟩
      rw [World.size_alloc] at h2
      simp [Value.ownBlock] at h1 h2
      omega
    · rw [Array.setIfInBounds_comm _ _ (Ne.symm n3), Array.setIfInBounds_comm _ _ (Ne.symm m3)]
      exact tail _ _ _ _ hu.1 hu.2
end

end Go.Proofs.Ytclljogbingjiaa

/-
  Stage 15: the document's disk in memory; the place of a name; which names may be; a call that counts.
-/
namespace Go.Proofs.Ytclljogbingjiaa
open Go.RowKit

set_option maxRecDepth 100000

abbrev sv15 (s : List UInt8) : Value := .string ⟨s.toArray⟩
/-- A file's cells. -/
def E15 : El (List UInt8 × FB15) where
  sz := 3
  enc p := [sv15 p.1, sv15 p.2.1, .int .i64 (p.2.2 : Int)]
  len _ := rfl
  one p u hu := by
    simp only [List.mem_cons, List.not_mem_nil, or_false] at hu
    rcases hu with rfl | rfl | rfl <;> rfl
abbrev cells15 (p : List UInt8 × FB15) : Array Value := #[sv15 p.1, sv15 p.2.1, .int .i64 (p.2.2 : Int)]
theorem file_info15 : (Try.prog.info? 69).map (fun i => (i.zero, i.size, i.bytes)) = some (some (.agg #[.string ⟨#[]⟩, .string ⟨#[]⟩, .int .i64 0]), E15.sz, 40) := by kernel_rfl
theorem file_zero15 : (Value.agg #[.string ⟨#[]⟩, .string ⟨#[]⟩, .int .i64 0]).cells.size = E15.sz := rfl
theorem file_at15 {w : World} {A : Option Addr} {n c : Nat} {L : List (List UInt8 × FB15)} (h : RdE E15 w (.slice A n c) L) {j : Nat} {p : List UInt8 × FB15} (hj : L[j]? = some p) :
    ∃ ad, A = some ad ∧ ∀ W, Turn (fun _ => False) w W → W.cell? (ad.add (j * 3)) = some (sv15 p.1) ∧ W.cell? ⟨(ad.add (j * 3)).block, (ad.add (j * 3)).off + 1, none⟩ = some (sv15 p.2.1) ∧ W.cell? ⟨(ad.add (j * 3)).block, (ad.add (j * 3)).off + 2, none⟩ = some (.int .i64 (p.2.2 : Int)) := by
  obtain ⟨ad, hA, _⟩ := h.cells hj
  refine ⟨ad, hA, fun W ht => ?_⟩
  obtain ⟨ad', hA', hc⟩ := (h.later ht).cells hj
  rw [hA] at hA'
  cases hA'
  have key : ∀ (k : Nat) (u : Value), (E15.enc p)[k + 1]? = some u → W.cell? ⟨(ad.add (j * 3)).block, (ad.add (j * 3)).off + (k + 1), none⟩ = some u := fun k u hu => by
    rw [show (⟨(ad.add (j * 3)).block, (ad.add (j * 3)).off + (k + 1), none⟩ : Addr) = (ad.add (j * 3)).add (k + 1) from rfl, eadd_add]
    exact hc (k + 1) u hu
  exact ⟨hc 0 _ rfl, key 0 _ rfl, key 1 _ rfl⟩

/-- The document's disk, at block g. -/
structure RD15 (w : World) (g : Nat) (sl : Value) (d : D15) : Prop where
  box : Box w g 30 #[sl, .int .i64 d.left, .bool d.down]
  row : RdE E15 w sl d.l
  far : sl.ownBlock ≠ some g
  lt : ∀ k, sl.ownBlock = some k → k < w.heap.size
theorem RD15.later {w w' : World} {g : Nat} {sl : Value} {d : D15} (h : RD15 w g sl d) (ht : Turn (fun _ => False) w w') : RD15 w' g sl d :=
  ⟨h.box.turn ht (fun f => f), h.row.later ht, h.far, fun k hk => Nat.lt_of_lt_of_le (h.lt k hk) ht.size⟩

theorem has_at15 {V : Type} {L : List (List UInt8 × V)} {k : List UInt8} {i : Nat} {p : List UInt8 × V} (h : plc ltN L k = i) (hp : L[i]? = some p) : hasK ltN L k = decide (p.1 = k) := by
  unfold hasK
  rw [h, hp]
theorem has_not15 {V : Type} {L : List (List UInt8 × V)} {k : List UInt8} {i : Nat} (h : plc ltN L k = i) (hi : L.length ≤ i) : hasK ltN L k = false := by
  unfold hasK
  rw [h, List.getElem?_eq_none hi]

set_option maxHeartbeats 4000000 in
theorem ref_find15 (g : Nat) (sl : Value) (d : D15) (k : List UInt8) (w : World) (hm : RD15 w g sl d) (hl : d.l.length ≤ 10000) :
    Calls Try.prog 37 #[.pointer (some ⟨g, 0, none⟩), sv15 k] w fun e w' => e = .returned (.tuple #[.int .i64 (plc ltN d.l k : Int), .bool (hasK ltN d.l k)]) ∧ Turn (fun _ => False) w w' := by
  obtain ⟨A, c, rfl⟩ := hm.row.shape
  have HR := Lib.hid hm.row
  have hobj := hm.box.cell 0
  generalize d.l = L at *
  have hplc := plc_le (lt := ltN) L k
  have hplc2 : Hid (∀ i, i < plc ltN L k → ∀ p, L[i]? = some p → Op.bytesLess p.1 k = true) := fun i hi p hp => plc_below hi hp
  have hplc3 : Hid (∀ p, L[plc ltN L k]? = some p → Op.bytesLess p.1 k = false) := fun p hp => plc_at hp
  have HH : Hid (∀ i p, plc ltN L k = i → L[i]? = some p → hasK ltN L k = decide (p.1 = k)) := fun i p h hp => has_at15 h hp
  have HHN : Hid (∀ i, plc ltN L k = i → L.length ≤ i → hasK ltN L k = false) := fun i h hi => has_not15 h hi
  generalize hasK ltN L k = b at *
  generalize hP : plc ltN L k = P at *
  clear hm
  go_enter Try.func37, Try.ntmps37
  go_wp2_with fail
  go_loop [6] (fun x6 => ∃ i : Nat, x6 = .int .i64 i ∧ i ≤ P) (fun x6 => L.length - (intOf x6).toNat)
  case atStart => exact ⟨0, rfl, Nat.zero_le _⟩
  case round =>
    obtain ⟨i, rfl, hi⟩ := hrel
    by_cases hlt : i < L.length
    · obtain ⟨p, hp⟩ : ∃ p, L[i]? = some p := ⟨_, List.getElem?_eq_getElem hlt⟩
      obtain ⟨ad, rfl, hc⟩ := file_at15 HR.out hp
      have HC := Lib.hid hc
      have h1 := (hc w (Turn.refl _ w)).1
      clear hc
      by_cases hb : i < P
      · have hd := hplc2.out i hb p hp
        have HP := Lib.hid hp; clear hp
        go_wp2
        go_round
        case rel => exact ⟨i + 1, by go_num, by omega⟩
        case measure => simp [intOf]; omega
      · have ei : i = P := by omega
        subst ei
        have hd := hplc3.out p hp
        have HK := Lib.hid (HH.out i p rfl hp)
        clear hp
        obtain ⟨pn, pf⟩ := p
        dsimp only at h1 hd HK
        by_cases he : pn = k
        · subst he
          have heq : (pn == pn) = true := beq_self_eq_true _
          have HK2 : Hid (b = true) := by show b = _; rw [HK.out, decide_eq_true rfl]
          clear HK
          go_wp2
          go_quiet (fail)
          go_wp2
          go_ret2
          exact ⟨by rw [HK2.out]; rfl, (Turn.refl _ w).drewN _⟩
        · have heq : (pn == k) = false := by rw [beq_eq_false_iff_ne]; exact he
          have HK2 : Hid (b = false) := by show b = _; rw [HK.out, decide_eq_false he]
          clear HK he
          go_wp2
          go_quiet (fail)
          go_wp2
          go_ret2
          exact ⟨by rw [HK2.out]; rfl, (Turn.refl _ w).drewN _⟩
    · have ei : i = P := by omega
      subst ei
      have HK := Lib.hid (HHN.out i rfl (by omega))
      go_wp2
      go_quiet (fail)
      go_wp2
      go_ret2
      exact ⟨by rw [HK.out]; rfl, (Turn.refl _ w).drewN _⟩

set_option maxHeartbeats 1000000 in
theorem ref_named15 (n : List UInt8) (hn : n.length ≤ 1000000) (w : World) : Calls Try.prog 52 #[sv15 n] w fun e w' => e = .returned (.bool (named15 n)) ∧ Turn (fun _ => False) w w' := by
  have HN : Hid (named15 n = (decide (1 ≤ n.length) && decide (n.length ≤ 40))) := rfl
  generalize named15 n = b at *
  by_cases h1 : 1 ≤ n.length
  · by_cases h2 : n.length ≤ 40
    · have e : Hid (b = true) := by show b = _; rw [HN.out, decide_eq_true h1, decide_eq_true h2]; rfl
      go_enter Try.func52, Try.ntmps52
      go_wp2
      go_ret
      exact ⟨by rw [e.out]; simp; try omega, Turn.refl _ w⟩
    · have e : Hid (b = false) := by show b = _; rw [HN.out, decide_eq_true h1, decide_eq_false h2]; rfl
      go_enter Try.func52, Try.ntmps52
      go_wp2
      go_ret
      exact ⟨by rw [e.out]; simp; try omega, Turn.refl _ w⟩
  · have e : Hid (b = false) := by show b = _; rw [HN.out, decide_eq_false h1]; rfl
    go_enter Try.func52, Try.ntmps52
    go_wp2
    go_ret
    exact ⟨by rw [e.out]; simp; try omega, Turn.refl _ w⟩

end Go.Proofs.Ytclljogbingjiaa

/-
  A guarded operation that is not wanted, in a region that draws. No type is named here.
-/
namespace Go.Proofs.Ytclljogbingjiaa
open Go.RowKit

/-- The walk stands still here. -/
def Halt11 (p : Prop) : Prop := p
theorem halt11 {p : Prop} (h : Halt11 p) : p := h

section
variable {P : Program} {ops : Array Oper} {Q : Exit → Act → World → Prop} {S : World → Prop} {zs : List Nat}
theorem drawn_skip (i d : Nat) {oi : Oper} {fuel : Nat} {listed : Array Bool} {ts : Array Value} {ds : List Deferred} {w : World} (hi0 : nthL ops.toList i = some oi) (hd : oi.dst = some d)
    (hs : Region.noSelect ops = true) (hf : Region.free .any ops listed i = true) (hr : (Region.ready .any ops listed).contains i = true) (hz : (!zs.contains i) = true)
    (hQ : ∀ c (a : Act) w, Q (.panic c) (a.put oi.dst undef) w → Q (.panic c) a w) (hw : Region.wanted oi (yielded ops ts) = false) (hS : freshB zs listed = true → S w)
    (h : Drawn P ops Q S zs fuel (listed.setIfInBounds i true) (ts.setIfInBounds d undef) ds w) : Drawn P ops Q S zs (fuel + 1) listed ts ds w := fun hc => by
  have hi := nth_at hi0
  have hm : i ∈ Region.ready .any ops listed := by simpa using hr
  refine wpAnyG_first hi (Region.noSelect_spec hs) hQ (by simpa using hz) (fun _ => True) (fun _ _ _ _ _ => trivial) fuel listed _ w hc (Region.free_spec hi hf) hm (.inr ⟨hw, rfl⟩) hS ?_
  have h2 := h (hc.step hm)
  rw [hd]
  exact h2
end

section
variable {P : Program} {T : Type} {E : El T} {tS e : TypeId} {ops : Array Oper} {rest : List Oper} {Q : Exit → Act → World → Prop} {op : Oper} {a : Act} {w : World} {A : Option Addr} {n c i : Nat} {L : List T}
/-- A slice's tail, in a region that draws nothing. -/
theorem wpList_cut (ht : P.underlying tS = some (.slice e)) (hz : (P.info? e).map (·.size) = some E.sz) (hgd : op.guard = none) (xo ko : Operand) (ho : op.op = .slice tS xo (some ko) none none) (hrd : RdE E w (.slice A n c) L) (hx : a.eval xo = .slice A n c) (hk : a.eval ko = .int .i64 (i : Int)) (hi : i ≤ n)
    (h : ∀ B, RdE E w (.slice B (n - i) (c - i)) (L.drop i) → (∀ g, (Value.slice B (n - i) (c - i)).ownBlock = some g → (Value.slice A n c).ownBlock = some g) → wpList P ops Q rest (a.put op.dst (.slice B (n - i) (c - i))) w) : wpList P ops Q (op :: rest) a w :=
  wpList_plain hgd fun K hK => by
    unfold Oper.wp
    rw [exec_tail (E := E) ho hx hk ht hz hi w]
    refine hK _ _ (h _ (rd_tailV hrd hi) (fun g hg => ?_))
    by_cases e : c = i
    · rw [if_pos e] at hg
      cases A with
      | none => simp [Value.ownBlock] at hg
      | some ad => simpa [Value.ownBlock] using hg
    · rw [if_neg e] at hg
      cases A with
      | none => simp [Value.ownBlock] at hg
      | some ad => simpa [Value.ownBlock, eadd_block] using hg
/-- No elements: whatever the world. -/
theorem rd_empty {w' : World} {v : Value} (h : RdE E w v []) : RdE E w' v [] := by
  obtain ⟨A, c, e, h1, h2, _⟩ := h
  exact ⟨A, c, e, h1, h2, fun _ _ i u hi => by simp [El.flat] at hi⟩
/-- A slice's front, in a region that draws nothing. -/
theorem wpList_front (ht : P.underlying tS = some (.slice e)) (hz : (P.info? e).map (·.size) = some E.sz) (hgd : op.guard = none) (xo ko : Operand) (ho : op.op = .slice tS xo none (some ko) none) (hrd : RdE E w (.slice A n c) L) (hx : a.eval xo = .slice A n c) (hk : a.eval ko = .int .i64 (i : Int)) (hi : i ≤ n)
    (h : RdE E w (.slice A i c) (L.take i) → wpList P ops Q rest (a.put op.dst (.slice A i c)) w) : wpList P ops Q (op :: rest) a w :=
  wpList_plain hgd fun K hK => by
    unfold Oper.wp
    rw [exec_front (E := E) ho hx hk ht hz (Nat.le_trans hi (by have := hrd.fits; omega)) w]
    exact hK _ _ (h (hrd.front i hi))
end

end Go.Proofs.Ytclljogbingjiaa

/-
  Stage 15: the document's put, drop, counts.
-/
namespace Go.Proofs.Ytclljogbingjiaa
open Go.RowKit

set_option maxRecDepth 100000

/-- The disk with other files. -/
theorem rd_set15 {w w3 : World} {g : Nat} {sl v : Value} {d : D15} {M : List (List UInt8 × FB15)} (h : RD15 w g sl d) (hn : NewE E15 69 w w3 v M) : RD15 (w3.setCell ⟨g, 0, none⟩ v) g v { d with l := M } ∧ Turn (fun k => k = g) w (w3.setCell ⟨g, 0, none⟩ v) := by
  have hlt := h.box.lt
  have hne : v.ownBlock ≠ some g := fun e => by have := hn.new g e; omega
  refine ⟨⟨?_, (hn.own.rd).turn ((Turn.refl (fun k => k = g) w3).setCell (fun _ => rfl) _) (fun b hb e => hne (by rw [hb, e])), hne, fun k hk => Nat.lt_of_lt_of_le (hn.own.lt hk) (Turn.setCell (S := fun j => j = g) (p := ⟨g, 0, none⟩) (Turn.refl _ w3) (fun _ => rfl) v).size⟩, ?_⟩
  · exact (h.box.turn hn.turn (fun f => f)).set 0 v
  · exact Turn.setCell (S := fun j => j = g) (p := ⟨g, 0, none⟩) (hn.turn.mono (fun _ _ f => f.elim)) (fun _ => rfl) _
/-- A row lies where another one lay, or in new memory. -/
def Own15 (w : World) (s0 sl : Value) : Prop := ∀ k, sl.ownBlock = some k → s0.ownBlock = some k ∨ w.heap.size ≤ k
theorem Own15.refl (w : World) (s : Value) : Own15 w s s := fun _ h => .inl h
theorem Own15.back {w w1 : World} {a b : Value} (h : Own15 w1 a b) (hs : w.heap.size ≤ w1.heap.size) : Own15 w a b := fun k hk => (h k hk).imp id (fun x => Nat.le_trans hs x)
theorem Own15.trans {w w1 : World} {a b c : Value} (h : Own15 w a b) (g : Own15 w1 b c) (hs : w.heap.size ≤ w1.heap.size) : Own15 w a c := fun k hk => by
  rcases g k hk with x | x
  · exact h k x
  · exact .inr (Nat.le_trans hs x)
/-- Behind a call that changes the disk alone. -/
def Does15 (w : World) (g : Nat) (s0 : Value) (d : D15) (v : Value) (e : Ending) (w' : World) : Prop := e = .returned v ∧ ∃ sl, RD15 w' g sl d ∧ Turn (fun k => k = g) w w' ∧ Own15 w s0 sl

/-- .. and whose files lie in new memory then. -/
def DoesN15 (w : World) (g : Nat) (d : D15) (v : Value) (e : Ending) (w' : World) : Prop := e = .returned v ∧ ∃ sl, RD15 w' g sl d ∧ Turn (fun k => k = g) w w' ∧ ∀ k, sl.ownBlock = some k → w.heap.size ≤ k
theorem DoesN15.does {w w' : World} {g : Nat} {d : D15} {v : Value} {e : Ending} {s0 : Value} (h : DoesN15 w g d v e w') : Does15 w g s0 d v e w' := by
  obtain ⟨h1, sl, h2, h3, h4⟩ := h
  exact ⟨h1, sl, h2, h3, fun k hk => .inr (h4 k hk)⟩

set_option maxHeartbeats 4000000 in
theorem ref_counts15 (g : Nat) (sl : Value) (d : D15) (w : World) (hm : RD15 w g sl d) (hd : d.down = false) (hr : 0 ≤ d.left ∧ d.left ≤ 9223372036854775807) :
    Calls Try.prog 54 #[.pointer (some ⟨g, 0, none⟩)] w fun e w' => Does15 w g sl (cnt15 d) (.bool (cnt15 d).down) e w' := by
  have HR := Lib.hid hm
  obtain ⟨L, n, dn⟩ := d
  dsimp only at hd hr
  subst hd
  have c1 := hm.box.cell 1
  by_cases h0 : n = 0
  · have HC : Hid (cnt15 ⟨L, n, false⟩ = ⟨L, n, false⟩) := if_pos h0
    have hb0 : (n == 0) = true := by simp [h0]
    clear hm hr
    subst h0
    go_enter Try.func54, Try.ntmps54
    go_wp2
    go_ret
    rw [HC.out]
    exact ⟨rfl, sl, HR.out, Turn.refl _ _, Own15.refl _ _⟩
  · have HC : Hid (cnt15 ⟨L, n, false⟩ = ⟨L, n - 1, decide (n - 1 = 0)⟩) := if_neg h0
    have hb0 : (n == 0) = false := by simp [h0]
    have hw1 : wrap64 (n - 1) = n - 1 := IntWalk.wrap64_in _ (by omega)
    have c2 := hm.box.cell 2
    have f1 := hm.box.free 1
    have f2 := hm.box.free 2
    have HB2 := Lib.hid ((hm.box.set 1 (.int .i64 (n - 1))).set 2 (.bool (n - 1 == 0)))
    have HT : Hid (Turn (fun k => k = g) w ((w.setCell ⟨g, 1, none⟩ (.int .i64 (n - 1))).setCell ⟨g, 2, none⟩ (.bool (n - 1 == 0)))) := ((Turn.refl (fun k => k = g) w).setCell (p := ⟨g, 1, none⟩) (fun _ => rfl) _).setCell (p := ⟨g, 2, none⟩) (fun _ => rfl) _
    clear hm hr h0
    go_enter Try.func54, Try.ntmps54
    go_wp2
    go_ret
    rw [HC.out]
    refine ⟨rfl, sl, ⟨HB2.out, HR.out.row.turn HT.out (fun k hk e => HR.out.far (by rw [hk, e])), HR.out.far, fun k hk => Nat.lt_of_lt_of_le (HR.out.lt k hk) HT.out.size⟩, HT.out, Own15.refl _ _⟩

set_option maxHeartbeats 16000000 in
theorem ref_put15 (g : Nat) (sl : Value) (d : D15) (p : List UInt8 × FB15) (w : World) (hm : RD15 w g sl d) (hl : d.l.length ≤ 10000) :
    Calls Try.prog 53 #[.pointer (some ⟨g, 0, none⟩), .agg (cells15 p)] w fun e w' => DoesN15 w g { d with l := putK ltN d.l p.1 p.2 } (.tuple #[]) e w' := by
  obtain ⟨A, c, rfl⟩ := hm.row.shape
  obtain ⟨w0, hw0⟩ : ∃ w0, w0 = w.alloc (.cells (cells15 p) 69) := ⟨_, rfl⟩
  obtain ⟨b, hb⟩ : ∃ b, b = w.heap.size := ⟨_, rfl⟩
  have HB0 : Hid (Box w0 b 69 (cells15 p)) := by rw [hw0, hb]; exact Box.new w _ _
  have HT0 : Hid (Turn (fun _ => False) w w0) := by rw [hw0]; exact (Turn.refl _ w).alloc _
  have HM0 := Lib.hid (hm.later HT0.out)
  have HFN := Lib.hid (ref_find15 g _ d p.1 w0 HM0.out hl)
  have hple := plc_le (lt := ltN) d.l p.1
  have hule := upK_le (lt := ltN) d.l p.1
  have HU : Hid (upK ltN d.l p.1 = if hasK ltN d.l p.1 then plc ltN d.l p.1 + 1 else plc ltN d.l p.1) := rfl
  have HPUT : Hid (putK ltN d.l p.1 p.2 = d.l.take (plc ltN d.l p.1) ++ p :: d.l.drop (upK ltN d.l p.1)) := rfl
  have HSZ : Hid ((Try.prog.info? 69).map (·.size) = some E15.sz) := by show _ = _; kernel_rfl
  have hfit := hm.row.fits
  have hc0 : (w.alloc (.cells (cells15 p) 69)).cell? ⟨w.heap.size, 0, none⟩ = some (sv15 p.1) := (Box.new w 69 (cells15 p)).cell 0
  have HW0 := Lib.hid hw0; have HBB := Lib.hid hb
  clear hm hw0 hb
  generalize hP : plc ltN d.l p.1 = P at *
  generalize hU : upK ltN d.l p.1 = U at *
  generalize hH : hasK ltN d.l p.1 = is at *
  clear hP hU hH
  have HFIT : Hid (d.l.length ≤ c ∧ c ≤ maxLen) := ⟨by omega, by omega⟩
  clear hfit
  have hE : ∀ W, (Instr.buildSlice 28 0 #[]).run Try.prog W = .ok (.slice (some ⟨W.heap.size, 0, none⟩) 0 0) (W.alloc (.cells #[] 69)) := fun W => by go_simp
  have hX : ∀ W, (Instr.buildSlice 28 1 #[(0, .agg (cells15 p))]).run Try.prog W = .ok (.slice (some ⟨W.heap.size, 0, none⟩) 1 1) (W.alloc (.cells (E15.enc p).toArray 69)) := fun W => by go_simp; rfl
  have HE := Lib.hid hE; have HX := Lib.hid hX
  clear hE hX
  go_enter Try.func53, Try.ntmps53
  go_wp2_with fail
  rw [← HW0.out, ← HBB.out]
  refine HFN.out.mono ?_
  rintro e w1 ⟨rfl, t1⟩
  have HM1 := Lib.hid (HM0.out.later t1)
  have HB1 := Lib.hid (HB0.out.turn t1 (fun f => f))
  have HTW := Lib.hid t1
  have hobj := HM1.out.box.cell 0
  have HPC : Hid (P ≤ c) := by have := HFIT.out.1; show P ≤ c; omega
  clear t1 HFN hc0
  cases is with
  | false =>
    have eU : P = U := by have h := HU.out; simpa using h.symm
    subst eU
    go_wp2_with (with_reducible refine wpList_cut (E := E15) (op := ⟨some 19, _, _, _, _, _⟩) Try.underlying28 HSZ.out rfl _ _ rfl HM1.out.row rfl rfl hple ?_; intro B8 h8 o8; have HR8 := Lib.hid h8; clear h8 o8)
    have HLR : Hid ((d.l.drop P).length ≤ 10000) := by show _ ≤ _; rw [List.length_drop]; omega
    generalize d.l.drop P = R8 at *
    generalize d.l.length - P = n8 at *
    generalize c - P = c8 at *
    clear HU
    refine drawn_region (fun W => Turn (fun _ => False) w1 W) [16] (by kernel_rfl) ?_
    have hS0 : Turn (fun _ => False) w1 (World.drew w1) := (Turn.refl _ w1).drew
    generalize World.drew w1 = wd at *
    refine drawn_take 0 28 (.pointer (some ⟨g, 0, none⟩)) rfl rfl (by kernel_rfl) (by kernel_rfl) (by kernel_rfl) (by kernel_rfl) (fun _ _ _ h => h) (by rfl) (by assumption) (by intro w hSw; obtain hS1 := hSw; go_simp) ?_
    try simp only [List.setIfInBounds_toArray, List.set_cons_zero, List.set_cons_succ]
    refine drawn_take 2 30 (.pointer (some ⟨g, 0, none⟩)) rfl rfl (by kernel_rfl) (by kernel_rfl) (by kernel_rfl) (by kernel_rfl) (fun _ _ _ h => h) (by rfl) (by assumption) (by intro w hSw; obtain hS1 := hSw; go_simp) ?_
    try simp only [List.setIfInBounds_toArray, List.set_cons_zero, List.set_cons_succ]
    refine drawn_take 3 31 (.pointer (some ⟨g, 0, none⟩)) rfl rfl (by kernel_rfl) (by kernel_rfl) (by kernel_rfl) (by kernel_rfl) (fun _ _ _ h => h) (by rfl) (by assumption) (by intro w hSw; obtain hS1 := hSw; go_simp) ?_
    try simp only [List.setIfInBounds_toArray, List.set_cons_zero, List.set_cons_succ]
    refine drawn_take 4 32 (.pointer (some ⟨g, 0, none⟩)) rfl rfl (by kernel_rfl) (by kernel_rfl) (by kernel_rfl) (by kernel_rfl) (fun _ _ _ h => h) (by rfl) (by assumption) (by intro w hSw; obtain hS1 := hSw; go_simp) ?_
    try simp only [List.setIfInBounds_toArray, List.set_cons_zero, List.set_cons_succ]
    refine drawn_take 5 33 (.slice A d.l.length c) rfl rfl (by kernel_rfl) (by kernel_rfl) (by kernel_rfl) (by kernel_rfl) (fun _ _ _ h => h) (by rfl) (by assumption) (by intro w hSw; have a0 := (HM1.out.box.turn hSw (fun f => f)).cell 0; clear hSw; go_simp) ?_
    try simp only [List.setIfInBounds_toArray, List.set_cons_zero, List.set_cons_succ]
    refine drawn_take 6 34 (.int .i64 (P : Int)) rfl rfl (by kernel_rfl) (by kernel_rfl) (by kernel_rfl) (by kernel_rfl) (fun _ _ _ h => h) (by rfl) (by assumption) (by intro w hSw; obtain hS1 := hSw; go_simp) ?_
    try simp only [List.setIfInBounds_toArray, List.set_cons_zero, List.set_cons_succ]
    refine drawn_take 7 35 (.slice A P c) rfl rfl (by kernel_rfl) (by kernel_rfl) (by kernel_rfl) (by kernel_rfl) (fun _ _ _ h => h) (by rfl) (by assumption) (by intro w hSw; exact exec_front (E := E15) rfl rfl rfl Try.underlying28 HSZ.out HPC.out w) ?_
    try simp only [List.setIfInBounds_toArray, List.set_cons_zero, List.set_cons_succ]
    refine drawn_take 9 37 (.agg (cells15 p)) rfl rfl (by kernel_rfl) (by kernel_rfl) (by kernel_rfl) (by kernel_rfl) (fun _ _ _ h => h) (by rfl) (by assumption) (by intro w hSw; have hb := HB1.out.turn hSw (fun f => f); have a0 := hb.cell 0; have a1 := hb.cell 1; have a2 := hb.cell 2; clear hSw hb; go_simp) ?_
    try simp only [List.setIfInBounds_toArray, List.set_cons_zero, List.set_cons_succ]
    refine drawn_take 12 40 (.slice B8 n8 c8) rfl rfl (by kernel_rfl) (by kernel_rfl) (by kernel_rfl) (by kernel_rfl) (fun _ _ _ h => h) (by rfl) (by assumption) (by intro w hSw; obtain hS1 := hSw; go_simp) ?_
    try simp only [List.setIfInBounds_toArray, List.set_cons_zero, List.set_cons_succ]
    refine drawn_ins (E := E15) (l1 := d.l.take P) (l3 := R8) (x := p) Try.underlying28 file_info15 file_zero15 (by omega) (fun W h => h) 1 8 10 11 13 29 36 38 39 41 35 37 40 rfl rfl rfl rfl rfl rfl rfl rfl rfl rfl rfl rfl rfl rfl rfl rfl rfl rfl rfl rfl
      (by kernel_rfl) (by kernel_rfl) (by kernel_rfl) (by kernel_rfl) (by kernel_rfl) (by kernel_rfl) (by kernel_rfl) (by simp) rfl rfl rfl (fun W ht => (HM1.out.row.later ht).front P hple) (fun W ht => HR8.out.later ht) (by have := HLR.out; rw [List.length_take]; omega) HE.out HX.out hS0 ?_
    intro W v a0 b0 c0 d0 hn
    obtain ⟨A5, c5, rfl⟩ := hn.own.shape
    generalize (d.l.take P ++ p :: R8).length = n5 at *
    try simp only [List.setIfInBounds_toArray, List.set_cons_zero, List.set_cons_succ]
    have hS5 : Turn (fun _ => False) w1 W := hn.turn
    refine drawn_take 14 42 (.pointer (some ⟨g, 0, none⟩)) rfl rfl (by kernel_rfl) (by kernel_rfl) (by kernel_rfl) (by kernel_rfl) (fun _ _ _ h => h) (by rfl) (by assumption) (by intro w hSw; obtain hS1 := hSw; go_simp) ?_
    try simp only [List.setIfInBounds_toArray, List.set_cons_zero, List.set_cons_succ]
    refine drawn_take 15 43 (.pointer (some ⟨g, 0, none⟩)) rfl rfl (by kernel_rfl) (by kernel_rfl) (by kernel_rfl) (by kernel_rfl) (fun _ _ _ h => h) (by rfl) (by assumption) (by intro w hSw; obtain hS1 := hSw; go_simp) ?_
    try simp only [List.setIfInBounds_toArray, List.set_cons_zero, List.set_cons_succ]
    refine drawn_last (z := 16) rfl (by kernel_rfl) (by kernel_rfl) (by kernel_rfl) (fun K hK => ?_)
    have hbx := HM1.out.box.turn hn.turn (fun f => f)
    have z1 := hbx.cell 0
    have z2 := hbx.free 0
    have HST := Lib.hid (rd_set15 HM1.out hn)
    have HNW := Lib.hid hn.new
    clear hn hS0 hS5 hbx
    go_simp
    refine hK.out _ _ ?_
    clear hK K z1 z2
    have HT1 := Lib.hid (HT0.out.trans HTW.out (fun _ _ f => f))
    go_wp2
    go_end0
    refine ⟨rfl, .slice A5 n5 c5, ?_, (HT1.out.mono (fun _ _ f => f.elim)).trans HST.out.2 (fun _ _ e => e), fun k hk => Nat.le_trans HT1.out.size (HNW.out k hk)⟩
    rw [HPUT.out]
    exact HST.out.1
  | true =>
    have eU : U = P + 1 := by have h := HU.out; simpa using h
    subst eU
    have hk2 : Hid (Value.int .i64 ((P : Int) + 1) = .int .i64 ((P + 1 : Nat) : Int)) := rfl
    go_wp2_with (first
      | (with_reducible refine wpList_cut (E := E15) (op := ⟨some 19, _, _, _, _, _⟩) Try.underlying28 HSZ.out rfl _ _ rfl HM1.out.row rfl rfl hple ?_; intro B7 h7 o7; clear h7 o7)
      | (refine wpList_cut (E := E15) (i := P + 1) (op := ⟨some 27, _, _, _, _, _⟩) Try.underlying28 HSZ.out rfl _ _ rfl HM1.out.row rfl hk2.out hule ?_; intro B8 h8 o8; have HR8 := Lib.hid h8; clear h8 o8)
      | fail)
    have HLR : Hid ((d.l.drop (P + 1)).length ≤ 10000) := by show _ ≤ _; rw [List.length_drop]; omega
    generalize d.l.drop (P + 1) = R8 at *
    generalize d.l.length - (P + 1) = n8 at *
    generalize c - (P + 1) = c8 at *
    clear HU
    refine drawn_region (fun W => Turn (fun _ => False) w1 W) [16] (by kernel_rfl) ?_
    have hS0 : Turn (fun _ => False) w1 (World.drew w1) := (Turn.refl _ w1).drew
    generalize World.drew w1 = wd at *
    refine drawn_take 0 28 (.pointer (some ⟨g, 0, none⟩)) rfl rfl (by kernel_rfl) (by kernel_rfl) (by kernel_rfl) (by kernel_rfl) (fun _ _ _ h => h) (by rfl) (by assumption) (by intro w hSw; obtain hS1 := hSw; go_simp) ?_
    try simp only [List.setIfInBounds_toArray, List.set_cons_zero, List.set_cons_succ]
    refine drawn_take 2 30 (.pointer (some ⟨g, 0, none⟩)) rfl rfl (by kernel_rfl) (by kernel_rfl) (by kernel_rfl) (by kernel_rfl) (fun _ _ _ h => h) (by rfl) (by assumption) (by intro w hSw; obtain hS1 := hSw; go_simp) ?_
    try simp only [List.setIfInBounds_toArray, List.set_cons_zero, List.set_cons_succ]
    refine drawn_take 3 31 (.pointer (some ⟨g, 0, none⟩)) rfl rfl (by kernel_rfl) (by kernel_rfl) (by kernel_rfl) (by kernel_rfl) (fun _ _ _ h => h) (by rfl) (by assumption) (by intro w hSw; obtain hS1 := hSw; go_simp) ?_
    try simp only [List.setIfInBounds_toArray, List.set_cons_zero, List.set_cons_succ]
    refine drawn_take 4 32 (.pointer (some ⟨g, 0, none⟩)) rfl rfl (by kernel_rfl) (by kernel_rfl) (by kernel_rfl) (by kernel_rfl) (fun _ _ _ h => h) (by rfl) (by assumption) (by intro w hSw; obtain hS1 := hSw; go_simp) ?_
    try simp only [List.setIfInBounds_toArray, List.set_cons_zero, List.set_cons_succ]
    refine drawn_take 5 33 (.slice A d.l.length c) rfl rfl (by kernel_rfl) (by kernel_rfl) (by kernel_rfl) (by kernel_rfl) (fun _ _ _ h => h) (by rfl) (by assumption) (by intro w hSw; have a0 := (HM1.out.box.turn hSw (fun f => f)).cell 0; clear hSw; go_simp) ?_
    try simp only [List.setIfInBounds_toArray, List.set_cons_zero, List.set_cons_succ]
    refine drawn_take 6 34 (.int .i64 (P : Int)) rfl rfl (by kernel_rfl) (by kernel_rfl) (by kernel_rfl) (by kernel_rfl) (fun _ _ _ h => h) (by rfl) (by assumption) (by intro w hSw; obtain hS1 := hSw; go_simp) ?_
    try simp only [List.setIfInBounds_toArray, List.set_cons_zero, List.set_cons_succ]
    refine drawn_take 7 35 (.slice A P c) rfl rfl (by kernel_rfl) (by kernel_rfl) (by kernel_rfl) (by kernel_rfl) (fun _ _ _ h => h) (by rfl) (by assumption) (by intro w hSw; exact exec_front (E := E15) rfl rfl rfl Try.underlying28 HSZ.out HPC.out w) ?_
    try simp only [List.setIfInBounds_toArray, List.set_cons_zero, List.set_cons_succ]
    refine drawn_take 9 37 (.agg (cells15 p)) rfl rfl (by kernel_rfl) (by kernel_rfl) (by kernel_rfl) (by kernel_rfl) (fun _ _ _ h => h) (by rfl) (by assumption) (by intro w hSw; have hb := HB1.out.turn hSw (fun f => f); have a0 := hb.cell 0; have a1 := hb.cell 1; have a2 := hb.cell 2; clear hSw hb; go_simp) ?_
    try simp only [List.setIfInBounds_toArray, List.set_cons_zero, List.set_cons_succ]
    refine drawn_take 12 40 (.slice B8 n8 c8) rfl rfl (by kernel_rfl) (by kernel_rfl) (by kernel_rfl) (by kernel_rfl) (fun _ _ _ h => h) (by rfl) (by assumption) (by intro w hSw; obtain hS1 := hSw; go_simp) ?_
    try simp only [List.setIfInBounds_toArray, List.set_cons_zero, List.set_cons_succ]
    refine drawn_ins (E := E15) (l1 := d.l.take P) (l3 := R8) (x := p) Try.underlying28 file_info15 file_zero15 (by omega) (fun W h => h) 1 8 10 11 13 29 36 38 39 41 35 37 40 rfl rfl rfl rfl rfl rfl rfl rfl rfl rfl rfl rfl rfl rfl rfl rfl rfl rfl rfl rfl
      (by kernel_rfl) (by kernel_rfl) (by kernel_rfl) (by kernel_rfl) (by kernel_rfl) (by kernel_rfl) (by kernel_rfl) (by simp) rfl rfl rfl (fun W ht => (HM1.out.row.later ht).front P hple) (fun W ht => HR8.out.later ht) (by have := HLR.out; rw [List.length_take]; omega) HE.out HX.out hS0 ?_
    intro W v a0 b0 c0 d0 hn
    obtain ⟨A5, c5, rfl⟩ := hn.own.shape
    generalize (d.l.take P ++ p :: R8).length = n5 at *
    try simp only [List.setIfInBounds_toArray, List.set_cons_zero, List.set_cons_succ]
    have hS5 : Turn (fun _ => False) w1 W := hn.turn
    refine drawn_take 14 42 (.pointer (some ⟨g, 0, none⟩)) rfl rfl (by kernel_rfl) (by kernel_rfl) (by kernel_rfl) (by kernel_rfl) (fun _ _ _ h => h) (by rfl) (by assumption) (by intro w hSw; obtain hS1 := hSw; go_simp) ?_
    try simp only [List.setIfInBounds_toArray, List.set_cons_zero, List.set_cons_succ]
    refine drawn_take 15 43 (.pointer (some ⟨g, 0, none⟩)) rfl rfl (by kernel_rfl) (by kernel_rfl) (by kernel_rfl) (by kernel_rfl) (fun _ _ _ h => h) (by rfl) (by assumption) (by intro w hSw; obtain hS1 := hSw; go_simp) ?_
    try simp only [List.setIfInBounds_toArray, List.set_cons_zero, List.set_cons_succ]
    refine drawn_last (z := 16) rfl (by kernel_rfl) (by kernel_rfl) (by kernel_rfl) (fun K hK => ?_)
    have hbx := HM1.out.box.turn hn.turn (fun f => f)
    have z1 := hbx.cell 0
    have z2 := hbx.free 0
    have HST := Lib.hid (rd_set15 HM1.out hn)
    have HNW := Lib.hid hn.new
    clear hn hS0 hS5 hbx
    go_simp
    refine hK.out _ _ ?_
    clear hK K z1 z2
    have HT1 := Lib.hid (HT0.out.trans HTW.out (fun _ _ f => f))
    go_wp2
    go_end0
    refine ⟨rfl, .slice A5 n5 c5, ?_, (HT1.out.mono (fun _ _ f => f.elim)).trans HST.out.2 (fun _ _ e => e), fun k hk => Nat.le_trans HT1.out.size (HNW.out k hk)⟩
    rw [HPUT.out]
    exact HST.out.1

end Go.Proofs.Ytclljogbingjiaa

/-
  Stage 15: the document's drop, Has, Arm, Sync.
-/
namespace Go.Proofs.Ytclljogbingjiaa
open Go.RowKit

set_option maxRecDepth 100000

theorem get_has15 {V : Type} {L : List (List UInt8 × V)} {k : List UInt8} (h : hasK ltN L k = true) : ∃ v, L[plc ltN L k]? = some (k, v) ∧ getK ltN L k = some v := by
  obtain ⟨p, hp, he⟩ := hasK_iff.1 h
  obtain ⟨a, v⟩ := p
  dsimp only at he
  subst he
  refine ⟨v, hp, ?_⟩
  unfold getK
  rw [hp]
  exact if_pos rfl
theorem get_not15 {V : Type} {L : List (List UInt8 × V)} {k : List UInt8} (h : hasK ltN L k = false) : getK ltN L k = none := by
  rw [has_get] at h
  exact Option.not_isSome_iff_eq_none.1 (by rw [h]; simp)
theorem drop_not15 {V : Type} {L : List (List UInt8 × V)} {k : List UInt8} (h : hasK ltN L k = false) : dropK ltN L k = L := by
  unfold dropK upK
  rw [h]
  exact List.take_append_drop _ _
theorem cnt_l15 (d : D15) : (cnt15 d).l = d.l := by
  unfold cnt15
  split <;> rfl

set_option maxHeartbeats 16000000 in
theorem ref_drop15 (g : Nat) (sl : Value) (d : D15) (k : List UInt8) (w : World) (hm : RD15 w g sl d) (hl : d.l.length ≤ 10000) (hh : hasK ltN d.l k = true) :
    Calls Try.prog 55 #[.pointer (some ⟨g, 0, none⟩), sv15 k] w fun e w' => DoesN15 w g { d with l := dropK ltN d.l k } (.tuple #[]) e w' := by
  obtain ⟨A, c, rfl⟩ := hm.row.shape
  have HM := Lib.hid hm
  have HFN := Lib.hid (ref_find15 g _ d k w hm hl)
  have hple := plc_le (lt := ltN) d.l k
  have hfit := hm.row.fits
  have HSZ : Hid ((Try.prog.info? 69).map (·.size) = some E15.sz) := by show _ = _; kernel_rfl
  have hE : ∀ W, (Instr.buildSlice 28 0 #[]).run Try.prog W = .ok (.slice (some ⟨W.heap.size, 0, none⟩) 0 0) (W.alloc (.cells #[] 69)) := fun W => by go_simp
  clear hm
  have HD : Hid (dropK ltN d.l k = d.l.take (plc ltN d.l k) ++ d.l.drop (plc ltN d.l k + 1)) := by show _ = _; unfold dropK upK; rw [hh]; rfl
  obtain ⟨v, hv, -⟩ := get_has15 hh
  have hlt : plc ltN d.l k < d.l.length := (List.getElem?_eq_some_iff.1 hv).1
  rw [hh] at HFN
  clear hh hv
  generalize plc ltN d.l k = P at *
  have HPC : Hid (P ≤ c) := by show P ≤ c; omega
  have HWR : Hid (IntKind.i64.wrap ((P : Int) + 1) = (P : Int) + 1) := IntWalk.i64_in _ (by omega)
  clear hfit
  have HE := Lib.hid hE
  clear hE
  go_enter Try.func55, Try.ntmps55
  go_wp2_with fail
  refine HFN.out.mono ?_
  rintro e w1 ⟨rfl, t1⟩
  have HM1 := Lib.hid (HM.out.later t1)
  have HTW := Lib.hid t1
  clear t1 HFN
  go_wp2_with fail
  refine drawn_region (fun W => Turn (fun _ => False) w1 W) [19] (by kernel_rfl) ?_
  have HTD : Hid (Turn (fun _ => False) w1 (World.drew w1)) := (Turn.refl _ w1).drew
  have hS0 := HTD.out
  generalize World.drew w1 = wd at *
  have HTV : Hid (RdE E15 w1 (tailV E15 A d.l.length c (P + 1)) (d.l.drop (P + 1))) := rd_tailV HM1.out.row hlt
  obtain ⟨tv, htv⟩ : ∃ tv, tv = tailV E15 A d.l.length c (P + 1) := ⟨_, rfl⟩
  have HTE := Lib.hid htv
  rw [← htv] at HTV
  obtain ⟨Bt, dt, etv⟩ := HTV.out.shape
  have HET := Lib.hid etv
  have HR8 : Hid (RdE E15 w1 (.slice Bt (d.l.drop (P + 1)).length dt) (d.l.drop (P + 1))) := by rw [← etv]; exact HTV.out
  have HLR : Hid ((d.l.drop (P + 1)).length ≤ 10000) := by show _ ≤ _; rw [List.length_drop]; omega
  have HR7 : Hid (RdE E15 w1 (.slice A P c) (d.l.take P)) := HM1.out.row.front P hple
  have HLT : Hid ((d.l.take P).length ≤ 10000) := by show _ ≤ _; rw [List.length_take]; omega
  generalize d.l.drop (P + 1) = R8 at *
  generalize d.l.take P = R7 at *
  clear htv etv HTV
  generalize hn8 : R8.length = n8 at *
  refine drawn_take 0 13 (.pointer (some ⟨g, 0, none⟩)) rfl rfl (by kernel_rfl) (by kernel_rfl) (by kernel_rfl) (by kernel_rfl) (fun _ _ _ h => h) (by rfl) (by assumption) (by intro w hSw; obtain hS1 := hSw; go_simp) ?_
  try simp only [List.setIfInBounds_toArray, List.set_cons_zero, List.set_cons_succ]
  refine drawn_take 2 15 (.pointer (some ⟨g, 0, none⟩)) rfl rfl (by kernel_rfl) (by kernel_rfl) (by kernel_rfl) (by kernel_rfl) (fun _ _ _ h => h) (by rfl) (by assumption) (by intro w hSw; obtain hS1 := hSw; go_simp) ?_
  try simp only [List.setIfInBounds_toArray, List.set_cons_zero, List.set_cons_succ]
  refine drawn_take 3 16 (.pointer (some ⟨g, 0, none⟩)) rfl rfl (by kernel_rfl) (by kernel_rfl) (by kernel_rfl) (by kernel_rfl) (fun _ _ _ h => h) (by rfl) (by assumption) (by intro w hSw; obtain hS1 := hSw; go_simp) ?_
  try simp only [List.setIfInBounds_toArray, List.set_cons_zero, List.set_cons_succ]
  refine drawn_take 4 17 (.pointer (some ⟨g, 0, none⟩)) rfl rfl (by kernel_rfl) (by kernel_rfl) (by kernel_rfl) (by kernel_rfl) (fun _ _ _ h => h) (by rfl) (by assumption) (by intro w hSw; obtain hS1 := hSw; go_simp) ?_
  try simp only [List.setIfInBounds_toArray, List.set_cons_zero, List.set_cons_succ]
  refine drawn_take 5 18 (.slice A d.l.length c) rfl rfl (by kernel_rfl) (by kernel_rfl) (by kernel_rfl) (by kernel_rfl) (fun _ _ _ h => h) (by rfl) (by assumption) (by intro w hSw; have a0 := (HM1.out.box.turn hSw (fun f => f)).cell 0; clear hSw; go_simp) ?_
  try simp only [List.setIfInBounds_toArray, List.set_cons_zero, List.set_cons_succ]
  refine drawn_take 6 19 (.int .i64 (P : Int)) rfl rfl (by kernel_rfl) (by kernel_rfl) (by kernel_rfl) (by kernel_rfl) (fun _ _ _ h => h) (by rfl) (by assumption) (by intro w hSw; obtain hS1 := hSw; go_simp) ?_
  try simp only [List.setIfInBounds_toArray, List.set_cons_zero, List.set_cons_succ]
  refine drawn_take 7 20 (.slice A P c) rfl rfl (by kernel_rfl) (by kernel_rfl) (by kernel_rfl) (by kernel_rfl) (fun _ _ _ h => h) (by rfl) (by assumption) (by intro w hSw; exact exec_front (E := E15) rfl rfl rfl Try.underlying28 HSZ.out HPC.out w) ?_
  try simp only [List.setIfInBounds_toArray, List.set_cons_zero, List.set_cons_succ]
  refine drawn_take 9 22 (.pointer (some ⟨g, 0, none⟩)) rfl rfl (by kernel_rfl) (by kernel_rfl) (by kernel_rfl) (by kernel_rfl) (fun _ _ _ h => h) (by rfl) (by assumption) (by intro w hSw; obtain hS1 := hSw; go_simp) ?_
  try simp only [List.setIfInBounds_toArray, List.set_cons_zero, List.set_cons_succ]
  refine drawn_take 10 23 (.pointer (some ⟨g, 0, none⟩)) rfl rfl (by kernel_rfl) (by kernel_rfl) (by kernel_rfl) (by kernel_rfl) (fun _ _ _ h => h) (by rfl) (by assumption) (by intro w hSw; obtain hS1 := hSw; go_simp) ?_
  try simp only [List.setIfInBounds_toArray, List.set_cons_zero, List.set_cons_succ]
  refine drawn_take 11 24 (.pointer (some ⟨g, 0, none⟩)) rfl rfl (by kernel_rfl) (by kernel_rfl) (by kernel_rfl) (by kernel_rfl) (fun _ _ _ h => h) (by rfl) (by assumption) (by intro w hSw; obtain hS1 := hSw; go_simp) ?_
  try simp only [List.setIfInBounds_toArray, List.set_cons_zero, List.set_cons_succ]
  refine drawn_take 12 25 (.slice A d.l.length c) rfl rfl (by kernel_rfl) (by kernel_rfl) (by kernel_rfl) (by kernel_rfl) (fun _ _ _ h => h) (by rfl) (by assumption) (by intro w hSw; have a0 := (HM1.out.box.turn hSw (fun f => f)).cell 0; clear hSw; go_simp) ?_
  try simp only [List.setIfInBounds_toArray, List.set_cons_zero, List.set_cons_succ]
  refine drawn_take 13 26 (.int .i64 (P : Int)) rfl rfl (by kernel_rfl) (by kernel_rfl) (by kernel_rfl) (by kernel_rfl) (fun _ _ _ h => h) (by rfl) (by assumption) (by intro w hSw; obtain hS1 := hSw; go_simp) ?_
  try simp only [List.setIfInBounds_toArray, List.set_cons_zero, List.set_cons_succ]
  refine drawn_take 14 27 (.int .i64 ((P : Int) + 1)) rfl rfl (by kernel_rfl) (by kernel_rfl) (by kernel_rfl) (by kernel_rfl) (fun _ _ _ h => h) (by rfl) (by assumption) (by intro w hSw; clear hSw; go_simp; exact HWR.out) ?_
  try simp only [List.setIfInBounds_toArray, List.set_cons_zero, List.set_cons_succ]
  refine drawn_take 15 28 (.slice Bt n8 dt) rfl rfl (by kernel_rfl) (by kernel_rfl) (by kernel_rfl) (by kernel_rfl) (fun _ _ _ h => h) (by rfl) (by assumption) (by intro w hSw; rw [← HET.out, HTE.out]; exact exec_tail (E := E15) rfl rfl rfl Try.underlying28 HSZ.out hlt w) ?_
  try simp only [List.setIfInBounds_toArray, List.set_cons_zero, List.set_cons_succ]
  refine drawn_any [1] (by kernel_rfl) (by simp) ?_
  refine drawn_cons rfl (fun K hK => ?_) drawn_nil
  go_simp
  have HN0 := Lib.hid (NewE.empty (E := E15) (e := 69) w1 wd HTD.out)
  refine hK.out _ _ _ HN0.out.turn ?_
  clear hK K hS0
  have hS0 := HN0.out.turn
  try simp only [List.setIfInBounds_toArray, List.set_cons_zero, List.set_cons_succ]
  refine drawn_any [8] (by kernel_rfl) (by simp) ?_
  refine drawn_cons rfl (fun K hK => ?_) drawn_nil
  refine put_app Try.underlying28 file_info15 file_zero15 (by omega) [] HN0.out.own R7 (HR7.out.later hS0) (by have := HLT.out; simp only [List.length_nil]; omega) ?_
  intro A2 n2 c2 w2 ho ht hn2
  have HN1 := Lib.hid (HN0.out.step ho ht hn2)
  clear ho ht hn2
  refine hK.out _ _ _ HN1.out.turn ?_
  clear hK K hS0
  have hS0 := HN1.out.turn
  try simp only [List.setIfInBounds_toArray, List.set_cons_zero, List.set_cons_succ]
  refine drawn_any [16] (by kernel_rfl) (by simp) ?_
  refine drawn_cons rfl (fun K hK => ?_) drawn_nil
  refine put_app Try.underlying28 file_info15 file_zero15 (by omega) ([] ++ R7) HN1.out.own R8 (HR8.out.later hS0) (by have h1 := HLT.out; have h2 := HLR.out; simp only [List.nil_append]; omega) ?_
  intro A3 n3 c3 w3 ho ht hn3
  have HN2 := Lib.hid (HN1.out.step ho ht hn3)
  clear ho ht hn3
  refine hK.out _ _ _ HN2.out.turn ?_
  clear hK K hS0
  have hS0 := HN2.out.turn
  try simp only [List.setIfInBounds_toArray, List.set_cons_zero, List.set_cons_succ]
  refine drawn_take 17 30 (.pointer (some ⟨g, 0, none⟩)) rfl rfl (by kernel_rfl) (by kernel_rfl) (by kernel_rfl) (by kernel_rfl) (fun _ _ _ h => h) (by rfl) (by assumption) (by intro w hSw; obtain hS1 := hSw; go_simp) ?_
  try simp only [List.setIfInBounds_toArray, List.set_cons_zero, List.set_cons_succ]
  refine drawn_take 18 31 (.pointer (some ⟨g, 0, none⟩)) rfl rfl (by kernel_rfl) (by kernel_rfl) (by kernel_rfl) (by kernel_rfl) (fun _ _ _ h => h) (by rfl) (by assumption) (by intro w hSw; obtain hS1 := hSw; go_simp) ?_
  try simp only [List.setIfInBounds_toArray, List.set_cons_zero, List.set_cons_succ]
  refine drawn_last (z := 19) rfl (by kernel_rfl) (by kernel_rfl) (by kernel_rfl) (fun K hK => ?_)
  have hbx := HM1.out.box.turn HN2.out.turn (fun f => f)
  have z1 := hbx.cell 0
  have z2 := hbx.free 0
  have HST := Lib.hid (rd_set15 HM1.out HN2.out)
  clear hS0 hbx
  go_simp
  refine hK.out _ _ ?_
  clear hK K z1 z2
  go_wp2
  go_end0
  refine ⟨rfl, .slice A3 n3 c3, ?_, (HTW.out.mono (fun _ _ f => f.elim)).trans HST.out.2 (fun _ _ e => e), fun k hk => Nat.le_trans HTW.out.size (HN2.out.new k hk)⟩
  rw [HD.out]
  exact HST.out.1

set_option maxHeartbeats 2000000 in
theorem ref_has15 (g : Nat) (sl : Value) (d : D15) (k : List UInt8) (w : World) (hm : RD15 w g sl d) (hl : d.l.length ≤ 10000) :
    Calls Try.prog 15 #[.pointer (some ⟨g, 0, none⟩), sv15 k] w fun e w' => e = .returned (.bool (hasK ltN d.l k)) ∧ Turn (fun _ => False) w w' := by
  have HFN := Lib.hid (ref_find15 g _ d k w hm hl)
  clear hm
  generalize hasK ltN d.l k = b at *
  generalize plc ltN d.l k = P at *
  go_enter Try.func15, Try.ntmps15
  go_wp2_with fail
  refine HFN.out.mono ?_
  rintro e w1 ⟨rfl, t1⟩
  have HT := Lib.hid t1
  clear t1
  go_wp2
  go_ret
  exact ⟨rfl, HT.out⟩

set_option maxHeartbeats 2000000 in
theorem ref_arm15 (g : Nat) (sl : Value) (d : D15) (n : Int) (w : World) (hm : RD15 w g sl d) :
    Calls Try.prog 33 #[.pointer (some ⟨g, 0, none⟩), .int .i64 n] w fun e w' => Does15 w g sl (arm15 d n).1 (.int .i64 (arm15 d n).2) e w' := by
  have HM := Lib.hid hm
  obtain ⟨L, left, dn⟩ := d
  have c2 := hm.box.cell 2
  have c1 := hm.box.cell 1
  have f1 := hm.box.free 1
  clear hm
  cases dn with
  | true =>
    have HA : Hid (arm15 ⟨L, left, true⟩ n = (⟨L, left, true⟩, 13)) := rfl
    go_enter Try.func33, Try.ntmps33
    go_wp2
    go_ret
    rw [HA.out]
    exact ⟨rfl, _, HM.out, Turn.refl _ _, Own15.refl _ _⟩
  | false =>
    by_cases h : n < 1
    · have HA : Hid (arm15 ⟨L, left, false⟩ n = (⟨L, left, false⟩, 2)) := by show _ = _; unfold arm15; rw [if_neg Bool.false_ne_true, if_pos h]
      go_enter Try.func33, Try.ntmps33
      go_wp2
      go_ret
      rw [HA.out]
      exact ⟨rfl, _, HM.out, Turn.refl _ _, Own15.refl _ _⟩
    · have HA : Hid (arm15 ⟨L, left, false⟩ n = (⟨L, n, false⟩, 0)) := by show _ = _; unfold arm15; rw [if_neg Bool.false_ne_true, if_neg h]
      go_enter Try.func33, Try.ntmps33
      go_wp2
      go_ret
      rw [HA.out]
      have ht : Turn (fun k => k = g) w (w.setCell ⟨g, 1, none⟩ (.int .i64 n)) := Turn.setCell (S := fun k => k = g) (p := ⟨g, 1, none⟩) (Turn.refl _ w) (fun _ => rfl) _
      exact ⟨rfl, _, ⟨HM.out.box.set 1 (.int .i64 n), HM.out.row.turn ht (fun k hk e => HM.out.far (by rw [hk, e])), HM.out.far, fun k hk => Nat.lt_of_lt_of_le (HM.out.lt k hk) ht.size⟩, ht, Own15.refl _ _⟩

end Go.Proofs.Ytclljogbingjiaa

/-
  Stage 15: the document's Sync, Rename, Remove, Read.
-/
namespace Go.Proofs.Ytclljogbingjiaa
open Go.RowKit

set_option maxRecDepth 100000

/-- The bounds within which calls are made. -/
structure Bd15 (d : D15) : Prop where
  len : d.l.length ≤ 10000
  left : 0 ≤ d.left ∧ d.left ≤ 9223372036854775807
theorem Does15.later {w w1 w2 : World} {g : Nat} {d : D15} {v : Value} {e : Ending} {s0 : Value} (h : Does15 w1 g s0 d v e w2) (ht : Turn (fun _ => False) w w1) : Does15 w g s0 d v e w2 := by
  obtain ⟨h1, sl, h2, h3, h4⟩ := h
  exact ⟨h1, sl, h2, (ht.mono (fun _ _ f => f.elim)).trans h3 (fun _ _ e => e), h4.back ht.size⟩

set_option maxHeartbeats 8000000 in
theorem ref_sync15 (g : Nat) (sl : Value) (d : D15) (n : List UInt8) (w : World) (hm : RD15 w g sl d) (hb : Bd15 d) (hn : ∀ f, getK ltN d.l n = some f → f.1.length ≤ 9000000) :
    Calls Try.prog 29 #[.pointer (some ⟨g, 0, none⟩), sv15 n] w fun e w' => Does15 w g sl (sync15 d n).1 (.int .i64 (sync15 d n).2) e w' := by
  have HFN := Lib.hid (ref_find15 g _ d n w hm hb.len)
  have HM := Lib.hid hm
  have hl := hb.len
  cases hdn : d.down with
  | true =>
    have HS : Hid (sync15 d n = (d, 13)) := by show _ = _; unfold sync15; rw [hdn]; rfl
    have HC2 : Hid (∀ W, Turn (fun _ => False) w W → W.cell? ⟨g, 2, none⟩ = some (.bool true)) := fun W ht => by rw [← hdn]; exact (hm.box.turn ht (fun f => f)).cell 2
    clear hm hdn
    generalize hasK ltN d.l n = is at *
    generalize plc ltN d.l n = P at *
    go_enter Try.func29, Try.ntmps29
    go_wp2_with fail
    refine HFN.out.mono ?_
    rintro e w1 ⟨rfl, t1⟩
    have HT := Lib.hid t1
    have c2 := HC2.out w1 t1
    clear t1 HFN
    go_wp2
    go_ret
    rw [HS.out]
    exact ⟨rfl, _, HM.out.later HT.out, HT.out.mono (fun _ _ f => f.elim), Own15.refl _ _⟩
  | false =>
    have HC2 : Hid (∀ W, Turn (fun _ => False) w W → W.cell? ⟨g, 2, none⟩ = some (.bool false)) := fun W ht => by rw [← hdn]; exact (hm.box.turn ht (fun f => f)).cell 2
    cases hh : hasK ltN d.l n with
    | false =>
      have HS : Hid (sync15 d n = (d, 11)) := by show _ = _; unfold sync15; rw [hdn, get_not15 hh]; rfl
      rw [hh] at HFN
      clear hm hdn hh
      generalize plc ltN d.l n = P at *
      go_enter Try.func29, Try.ntmps29
      go_wp2_with fail
      refine HFN.out.mono ?_
      rintro e w1 ⟨rfl, t1⟩
      have HT := Lib.hid t1
      have c2 := HC2.out w1 t1
      clear t1 HFN
      go_wp2
      go_ret
      rw [HS.out]
      exact ⟨rfl, _, HM.out.later HT.out, HT.out.mono (fun _ _ f => f.elim), Own15.refl _ _⟩
    | true =>
      obtain ⟨⟨fb, fs⟩, hv, hg⟩ := get_has15 hh
      have hlt : plc ltN d.l n < d.l.length := (List.getElem?_eq_some_iff.1 hv).1
      have HFL : Hid (fb.length ≤ 9000000) := hn _ hg
      have HS : Hid (sync15 d n = if (cnt15 d).down then (cnt15 d, 13) else ({ cnt15 d with l := putK ltN d.l n (fb, fb.length) }, 0)) := by show _ = _; unfold sync15; rw [hdn, hg]; rfl
      have HCT : Hid (∀ W, Turn (fun _ => False) w W → Calls Try.prog 54 #[.pointer (some ⟨g, 0, none⟩)] W fun e w' => Does15 W g sl (cnt15 d) (.bool (cnt15 d).down) e w') := fun W ht => ref_counts15 g sl d W (hm.later ht) hdn hb.left
      have hcl := cnt_l15 d
      rw [hh] at HFN
      have HV : Hid ((cnt15 d).l[plc ltN d.l n]? = some (n, (fb, fs))) := by show _ = _; rw [hcl]; exact hv
      have HCL := Lib.hid hcl
      have hlt2 : (plc ltN d.l n : Int) < (cnt15 d).l.length := by rw [hcl]; omega
      clear hm hdn hh hg hv hcl hlt
      generalize plc ltN d.l n = P at *
      generalize cnt15 d = d2 at *
      obtain ⟨dn2, hdn2⟩ : ∃ dn2, dn2 = d2.down := ⟨_, rfl⟩
      rw [← hdn2] at HCT HS
      clear hdn2
      go_enter Try.func29, Try.ntmps29
      go_wp2_with fail
      refine HFN.out.mono ?_
      rintro e w1 ⟨rfl, t1⟩
      have HT := Lib.hid t1
      have c2 := HC2.out w1 t1
      clear t1 HFN
      go_wp2_with fail
      refine (HCT.out w1 HT.out).mono ?_
      rintro e w2 ⟨rfl, sl2, hm2, t2, s2⟩
      have HO2 := Lib.hid (s2.back HT.out.size)
      clear s2
      have HT2 : Hid (Turn (fun k => k = g) w w2) := (HT.out.mono (fun _ _ f => f.elim)).trans t2 (fun _ _ e => e)
      obtain ⟨A, c, rfl⟩ := hm2.row.shape
      obtain ⟨ad, rfl, hc⟩ := file_at15 hm2.row HV.out
      have HM2 := Lib.hid hm2
      have c0 := hm2.box.cell 0
      obtain ⟨x0, x1, x2⟩ := hc w2 (Turn.refl _ _)
      clear t2 hm2 hc c2 HCT
      cases dn2 with
      | true =>
        go_wp2
        go_ret
        rw [HS.out]
        exact ⟨rfl, _, HM2.out, HT2.out, HO2.out⟩
      | false =>
        have HPU : Hid (∀ W, Turn (fun _ => False) w2 W → Calls Try.prog 53 #[.pointer (some ⟨g, 0, none⟩), .agg #[sv15 n, sv15 fb, .int .i64 (fb.length : Int)]] W fun e w' => Does15 W g sl { d2 with l := putK ltN d2.l n (fb, fb.length) } (.tuple #[]) e w') := fun W ht => (ref_put15 g _ d2 (n, (fb, fb.length)) W (HM2.out.later ht) (by rw [HCL.out]; exact hb.len)).mono fun _ _ h => h.does
        have HTA : Hid (Turn (fun _ => False) w2 (w2.alloc (.cells #[sv15 n, sv15 fb, .int .i64 (fb.length : Int)] 69))) := (Turn.refl _ w2).alloc _
        go_wp2_with fail
        refine (HPU.out _ HTA.out).mono ?_
        intro e w4 hp
        obtain ⟨rfl, sl4, hm4, t4, s4⟩ := hp.later HTA.out
        have HO4 := Lib.hid (s4.back HT2.out.size)
        clear s4
        have HM4 := Lib.hid hm4
        have HT4 : Hid (Turn (fun k => k = g) w w4) := HT2.out.trans t4 (fun _ _ e => e)
        clear hm4 t4 hp
        go_wp2
        go_ret
        rw [HS.out, ← HCL.out]
        exact ⟨rfl, _, HM4.out, HT4.out, HO4.out⟩

end Go.Proofs.Ytclljogbingjiaa

/-
  Stage 15: the document's Remove, Read, Rename.
-/
namespace Go.Proofs.Ytclljogbingjiaa
open Go.RowKit

set_option maxRecDepth 100000

set_option maxHeartbeats 8000000 in
theorem ref_remove15 (g : Nat) (sl : Value) (d : D15) (n : List UInt8) (w : World) (hm : RD15 w g sl d) (hb : Bd15 d) :
    Calls Try.prog 31 #[.pointer (some ⟨g, 0, none⟩), sv15 n] w fun e w' => Does15 w g sl (rem15 d n).1 (.int .i64 (rem15 d n).2) e w' := by
  have HM := Lib.hid hm
  have HHS := Lib.hid (ref_has15 g _ d n w hm hb.len)
  have c2 := hm.box.cell 2
  cases hdn : d.down with
  | true =>
    have HS : Hid (rem15 d n = (d, 13)) := by show _ = _; unfold rem15; rw [hdn]; rfl
    rw [hdn] at c2
    clear hm hdn HHS
    go_enter Try.func31, Try.ntmps31
    go_wp2
    go_ret
    rw [HS.out]
    exact ⟨rfl, _, HM.out, Turn.refl _ _, Own15.refl _ _⟩
  | false =>
    have HCT : Hid (∀ W, Turn (fun _ => False) w W → Calls Try.prog 54 #[.pointer (some ⟨g, 0, none⟩)] W fun e w' => Does15 W g sl (cnt15 d) (.bool (cnt15 d).down) e w') := fun W ht => ref_counts15 g sl d W (hm.later ht) hdn hb.left
    rw [hdn] at c2
    have hcl := cnt_l15 d
    cases hh : hasK ltN d.l n with
    | false =>
      have HS : Hid (rem15 d n = (d, 11)) := by show _ = _; unfold rem15; rw [hdn, hh]; rfl
      rw [hh] at HHS
      clear hm hdn hh HCT
      go_enter Try.func31, Try.ntmps31
      go_wp2_with fail
      refine HHS.out.mono ?_
      rintro e w1 ⟨rfl, t1⟩
      have HT := Lib.hid t1
      clear t1 HHS c2
      go_wp2
      go_ret
      rw [HS.out]
      exact ⟨rfl, _, HM.out.later HT.out, HT.out.mono (fun _ _ f => f.elim), Own15.refl _ _⟩
    | true =>
      have HS : Hid (rem15 d n = if (cnt15 d).down then (cnt15 d, 13) else ({ cnt15 d with l := dropK ltN d.l n }, 0)) := by show _ = _; unfold rem15; rw [hdn, hh]; rfl
      have HDR : Hid (∀ sl2 W, RD15 W g sl2 (cnt15 d) → Calls Try.prog 55 #[.pointer (some ⟨g, 0, none⟩), sv15 n] W fun e w' => Does15 W g sl { cnt15 d with l := dropK ltN d.l n } (.tuple #[]) e w') := fun sl2 W h2 => (ref_drop15 g sl2 (cnt15 d) n W h2 (by rw [hcl]; exact hb.len) (by rw [hcl]; exact hh)).mono fun _ _ h => by have h := h.does (s0 := sl); rw [hcl] at h; exact h
      rw [hh] at HHS
      clear hm hdn hh hcl
      generalize cnt15 d = d2 at *
      generalize { d2 with l := dropK ltN d.l n } = d3 at *
      obtain ⟨dn2, hdn2⟩ : ∃ dn2, dn2 = d2.down := ⟨_, rfl⟩
      rw [← hdn2] at HCT HS
      clear hdn2
      go_enter Try.func31, Try.ntmps31
      go_wp2_with fail
      refine HHS.out.mono ?_
      rintro e w1 ⟨rfl, t1⟩
      have HT := Lib.hid t1
      clear t1 HHS c2
      go_wp2_with fail
      refine (HCT.out w1 HT.out).mono ?_
      rintro e w2 ⟨rfl, sl2, hm2, t2, s2⟩
      have HO2 := Lib.hid (s2.back HT.out.size)
      clear s2
      have HT2 : Hid (Turn (fun k => k = g) w w2) := (HT.out.mono (fun _ _ f => f.elim)).trans t2 (fun _ _ e => e)
      have HM2 := Lib.hid hm2
      clear t2 hm2 HCT
      cases dn2 with
      | true =>
        go_wp2
        go_ret
        rw [HS.out]
        exact ⟨rfl, _, HM2.out, HT2.out, HO2.out⟩
      | false =>
        go_wp2_with fail
        refine (HDR.out sl2 w2 HM2.out).mono ?_
        rintro e w4 ⟨rfl, sl4, hm4, t4, s4⟩
        have HO4 := Lib.hid (s4.back HT2.out.size)
        clear s4
        have HM4 := Lib.hid hm4
        have HT4 : Hid (Turn (fun k => k = g) w w4) := HT2.out.trans t4 (fun _ _ e => e)
        clear hm4 t4 HDR
        go_wp2
        go_ret
        rw [HS.out]
        exact ⟨rfl, _, HM4.out, HT4.out, HO4.out⟩

/-- Behind a read: a text and a fault. -/
def Read15 (w : World) (r : List UInt8 × Int) (e : Ending) (w' : World) : Prop := e = .returned (.tuple #[sv15 r.1, .int .i64 r.2]) ∧ Turn (fun _ => False) w w'
set_option maxHeartbeats 8000000 in
theorem ref_read15 (g : Nat) (sl : Value) (d : D15) (n : List UInt8) (w : World) (hm : RD15 w g sl d) (hb : Bd15 d) :
    Calls Try.prog 32 #[.pointer (some ⟨g, 0, none⟩), sv15 n] w fun e w' => Read15 w (read15 d n) e w' := by
  have HFN := Lib.hid (ref_find15 g _ d n w hm hb.len)
  have HM := Lib.hid hm
  cases hdn : d.down with
  | true =>
    have HS : Hid (read15 d n = ([], 13)) := by show _ = _; unfold read15; rw [hdn]; rfl
    have HC2 : Hid (∀ W, Turn (fun _ => False) w W → W.cell? ⟨g, 2, none⟩ = some (.bool true)) := fun W ht => by rw [← hdn]; exact (hm.box.turn ht (fun f => f)).cell 2
    clear hm hdn
    generalize hasK ltN d.l n = is at *
    generalize plc ltN d.l n = P at *
    go_enter Try.func32, Try.ntmps32
    go_wp2_with fail
    refine HFN.out.mono ?_
    rintro e w1 ⟨rfl, t1⟩
    have HT := Lib.hid t1
    have c2 := HC2.out w1 t1
    clear t1 HFN
    go_wp2
    go_ret2
    rw [HS.out]
    exact ⟨rfl, HT.out⟩
  | false =>
    have HC2 : Hid (∀ W, Turn (fun _ => False) w W → W.cell? ⟨g, 2, none⟩ = some (.bool false)) := fun W ht => by rw [← hdn]; exact (hm.box.turn ht (fun f => f)).cell 2
    cases hh : hasK ltN d.l n with
    | false =>
      have HS : Hid (read15 d n = ([], 11)) := by show _ = _; unfold read15; rw [hdn, get_not15 hh]; rfl
      rw [hh] at HFN
      clear hm hdn hh
      generalize plc ltN d.l n = P at *
      go_enter Try.func32, Try.ntmps32
      go_wp2_with fail
      refine HFN.out.mono ?_
      rintro e w1 ⟨rfl, t1⟩
      have HT := Lib.hid t1
      have c2 := HC2.out w1 t1
      clear t1 HFN
      go_wp2
      go_ret2
      rw [HS.out]
      exact ⟨rfl, HT.out⟩
    | true =>
      obtain ⟨⟨fb, fs⟩, hv, hg⟩ := get_has15 hh
      have hlt : plc ltN d.l n < d.l.length := (List.getElem?_eq_some_iff.1 hv).1
      have HS : Hid (read15 d n = (fb, 0)) := by show _ = _; unfold read15; rw [hdn, hg]; rfl
      obtain ⟨A, c, rfl⟩ := hm.row.shape
      obtain ⟨ad, rfl, hc⟩ := file_at15 hm.row hv
      have HC := Lib.hid hc
      have HC0 : Hid (∀ W, Turn (fun _ => False) w W → W.cell? ⟨g, 0, none⟩ = some (.slice (some ad) d.l.length c)) := fun W ht => (hm.box.turn ht (fun f => f)).cell 0
      rw [hh] at HFN
      have hli : (plc ltN d.l n : Int) < d.l.length := by omega
      clear hm hdn hh hg hv hc hlt
      generalize plc ltN d.l n = P at *
      go_enter Try.func32, Try.ntmps32
      go_wp2_with fail
      refine HFN.out.mono ?_
      rintro e w1 ⟨rfl, t1⟩
      have HT := Lib.hid t1
      have c2 := HC2.out w1 t1
      have c0 := HC0.out w1 t1
      obtain ⟨x0, x1, x2⟩ := HC.out w1 t1
      clear t1 HFN
      go_wp2
      go_ret2
      rw [HS.out]
      exact ⟨rfl, HT.out⟩

set_option maxHeartbeats 8000000 in
theorem ref_rename15 (g : Nat) (sl : Value) (d : D15) (n m : List UInt8) (hml : m.length ≤ 1000000) (w : World) (hm : RD15 w g sl d) (hb : Bd15 d) :
    Calls Try.prog 30 #[.pointer (some ⟨g, 0, none⟩), sv15 n, sv15 m] w fun e w' => Does15 w g sl (ren15 d n m).1 (.int .i64 (ren15 d n m).2) e w' := by
  have HFN := Lib.hid (ref_find15 g _ d n w hm hb.len)
  have HM := Lib.hid hm
  have HNM : Hid (∀ W, Calls Try.prog 52 #[sv15 m] W fun e w' => e = .returned (.bool (named15 m)) ∧ Turn (fun _ => False) W w') := fun W => ref_named15 m hml W
  have hl := hb.len
  cases hdn : d.down with
  | true =>
    have HS : Hid (ren15 d n m = (d, 13)) := by show _ = _; unfold ren15; rw [hdn]; rfl
    have HC2 : Hid (∀ W, Turn (fun _ => False) w W → W.cell? ⟨g, 2, none⟩ = some (.bool true)) := fun W ht => by rw [← hdn]; exact (hm.box.turn ht (fun f => f)).cell 2
    clear hm hdn HNM
    generalize hasK ltN d.l n = is at *
    generalize plc ltN d.l n = P at *
    go_enter Try.func30, Try.ntmps30
    go_wp2_with fail
    refine HFN.out.mono ?_
    rintro e w1 ⟨rfl, t1⟩
    have HT := Lib.hid t1
    have c2 := HC2.out w1 t1
    clear t1 HFN
    go_wp2
    go_ret
    rw [HS.out]
    exact ⟨rfl, _, HM.out.later HT.out, HT.out.mono (fun _ _ f => f.elim), Own15.refl _ _⟩
  | false =>
    have HC2 : Hid (∀ W, Turn (fun _ => False) w W → W.cell? ⟨g, 2, none⟩ = some (.bool false)) := fun W ht => by rw [← hdn]; exact (hm.box.turn ht (fun f => f)).cell 2
    cases hnm : named15 m with
    | false =>
      have HS : Hid (ren15 d n m = (d, 2)) := by show _ = _; unfold ren15; rw [hdn, hnm]; rfl
      rw [hnm] at HNM
      clear hm hdn hnm
      generalize hasK ltN d.l n = is at *
      generalize plc ltN d.l n = P at *
      go_enter Try.func30, Try.ntmps30
      go_wp2_with fail
      refine HFN.out.mono ?_
      rintro e w1 ⟨rfl, t1⟩
      have HT := Lib.hid t1
      have c2 := HC2.out w1 t1
      clear t1 HFN
      go_wp2_with fail
      refine (HNM.out _).mono ?_
      rintro e w2 ⟨rfl, t2⟩
      have HTN := Lib.hid (HT.out.trans t2 (fun _ _ f => f))
      clear t2 HNM c2 HT
      have HT := HTN
      clear HTN
      go_wp2
      go_ret
      rw [HS.out]
      exact ⟨rfl, _, HM.out.later HT.out, HT.out.mono (fun _ _ f => f.elim), Own15.refl _ _⟩
    | true =>
      rw [hnm] at HNM
      cases hh : hasK ltN d.l n with
      | false =>
        have HS : Hid (ren15 d n m = (d, 11)) := by show _ = _; unfold ren15; rw [hdn, hnm, get_not15 hh]; rfl
        rw [hh] at HFN
        clear hm hdn hh hnm
        generalize plc ltN d.l n = P at *
        go_enter Try.func30, Try.ntmps30
        go_wp2_with fail
        refine HFN.out.mono ?_
        rintro e w1 ⟨rfl, t1⟩
        have HT := Lib.hid t1
        have c2 := HC2.out w1 t1
        clear t1 HFN
        go_wp2_with fail
        refine (HNM.out _).mono ?_
        rintro e w2 ⟨rfl, t2⟩
        have HTN := Lib.hid (HT.out.trans t2 (fun _ _ f => f))
        clear t2 HNM c2 HT
        have HT := HTN
        clear HTN
        go_wp2
        go_ret
        rw [HS.out]
        exact ⟨rfl, _, HM.out.later HT.out, HT.out.mono (fun _ _ f => f.elim), Own15.refl _ _⟩
      | true =>
        obtain ⟨⟨fb, fs⟩, hv, hg⟩ := get_has15 hh
        have hlt : plc ltN d.l n < d.l.length := (List.getElem?_eq_some_iff.1 hv).1
        have HS : Hid (ren15 d n m = if (cnt15 d).down then (cnt15 d, 13) else ({ cnt15 d with l := putK ltN (dropK ltN d.l n) m (fb, fs) }, 0)) := by show _ = _; unfold ren15; rw [hdn, hnm, hg]; rfl
        have HCT : Hid (∀ W, Turn (fun _ => False) w W → Calls Try.prog 54 #[.pointer (some ⟨g, 0, none⟩)] W fun e w' => Does15 W g sl (cnt15 d) (.bool (cnt15 d).down) e w') := fun W ht => ref_counts15 g sl d W (hm.later ht) hdn hb.left
        have hcl := cnt_l15 d
        rw [hh] at HFN
        have HV : Hid ((cnt15 d).l[plc ltN d.l n]? = some (n, (fb, fs))) := by show _ = _; rw [hcl]; exact hv
        have hlt2 : (plc ltN d.l n : Int) < (cnt15 d).l.length := by rw [hcl]; omega
        have HLD : Hid ((dropK ltN d.l n).length ≤ 10000) := by
          have h1 := drop_size (lt := ltN) d.l n
          show _ ≤ _
          omega
        have HDR : Hid (∀ sl2 W, RD15 W g sl2 (cnt15 d) → Calls Try.prog 55 #[.pointer (some ⟨g, 0, none⟩), sv15 n] W fun e w' => DoesN15 W g { cnt15 d with l := dropK ltN d.l n } (.tuple #[]) e w') := fun sl2 W h2 => (ref_drop15 g sl2 (cnt15 d) n W h2 (by rw [hcl]; exact hb.len) (by rw [hcl]; exact hh)).mono fun _ _ h => by rw [hcl] at h; exact h
        clear hm hdn hh hg hv hcl hlt hnm
        generalize plc ltN d.l n = P at *
        generalize dropK ltN d.l n = L2 at *
        generalize cnt15 d = d2 at *
        obtain ⟨dn2, hdn2⟩ : ∃ dn2, dn2 = d2.down := ⟨_, rfl⟩
        rw [← hdn2] at HCT HS
        clear hdn2
        go_enter Try.func30, Try.ntmps30
        go_wp2_with fail
        refine HFN.out.mono ?_
        rintro e w1 ⟨rfl, t1⟩
        have HT := Lib.hid t1
        have c2 := HC2.out w1 t1
        clear t1 HFN
        go_wp2_with fail
        refine (HNM.out _).mono ?_
        rintro e w2 ⟨rfl, t2⟩
        have HTN := Lib.hid (HT.out.trans t2 (fun _ _ f => f))
        clear t2 HNM c2 HT
        have HT := HTN
        clear HTN
        go_wp2_with fail
        refine (HCT.out _ HT.out).mono ?_
        rintro e w3 ⟨rfl, sl3, hm3, t3, s3⟩
        have HO3 := Lib.hid (s3.back HT.out.size)
        clear s3
        have HT3 : Hid (Turn (fun k => k = g) w w3) := (HT.out.mono (fun _ _ f => f.elim)).trans t3 (fun _ _ e => e)
        obtain ⟨A, c, rfl⟩ := hm3.row.shape
        obtain ⟨ad, rfl, hc⟩ := file_at15 hm3.row HV.out
        have HM3 := Lib.hid hm3
        have c0 := hm3.box.cell 0
        obtain ⟨x0, x1, x2⟩ := hc w3 (Turn.refl _ _)
        clear t3 hm3 hc HCT
        cases dn2 with
        | true =>
          go_wp2
          go_ret
          rw [HS.out]
          exact ⟨rfl, _, HM3.out, HT3.out, HO3.out⟩
        | false =>
          obtain ⟨wa, hwa⟩ : ∃ wa, wa = w3.alloc (.cells #[sv15 n, sv15 fb, .int .i64 (fs : Int)] 69) := ⟨_, rfl⟩
          have HTA : Hid (Turn (fun _ => False) w3 wa) := by rw [hwa]; exact (Turn.refl _ w3).alloc _
          have HBA : Hid (Box wa w3.heap.size 69 #[sv15 n, sv15 fb, .int .i64 (fs : Int)]) := by rw [hwa]; exact Box.new w3 _ _
          have HSA : Hid (wa.heap.size = w3.heap.size + 1) := by show wa.heap.size = _; rw [hwa]; simp
          have HWA := Lib.hid hwa
          have HBG : Hid (g < w3.heap.size) := HM3.out.box.lt
          clear hwa
          go_wp2_with fail
          rw [← HWA.out]
          refine (HDR.out _ _ (HM3.out.later HTA.out)).mono ?_
          rintro e w4 ⟨rfl, sl4, hm4, t4, hn4⟩
          obtain ⟨b, hbb⟩ : ∃ b, b = w3.heap.size := ⟨_, rfl⟩
          rw [← hbb] at HBA HSA HBG ⊢
          have hgb : ¬ b = g := by have := HBG.out; omega
          have hb4 := HBA.out.turn t4 hgb
          have y0 := hb4.cell 0; have y1 := hb4.cell 1; have y2 := hb4.cell 2; have z0 := hb4.free 0
          have HSET : Hid (Turn (fun k => k = b) w4 (w4.setCell ⟨b, 0, none⟩ (sv15 m))) := Turn.setCell (S := fun k => k = b) (p := ⟨b, 0, none⟩) (Turn.refl _ w4) (fun _ => rfl) _
          have HM5 : Hid (RD15 (w4.setCell ⟨b, 0, none⟩ (sv15 m)) g sl4 { d2 with l := L2 }) := ⟨hm4.box.turn HSET.out (fun e => hgb e.symm), hm4.row.turn HSET.out (fun k hk e => by have h1 := hn4 k hk; have h2 := HSA.out; omega), hm4.far, fun k hk => Nat.lt_of_lt_of_le (hm4.lt k hk) HSET.out.size⟩
          have hb5 := hb4.set 0 (sv15 m)
          have u0 : (w4.setCell ⟨b, 0, none⟩ (sv15 m)).cell? ⟨b, 0, none⟩ = some (sv15 m) := hb5.cell 0
          have HT5 : Hid (Turn (fun k => k = g) w (w4.setCell ⟨b, 0, none⟩ (sv15 m))) := by
            have h1 : Turn (fun k => k = g) w w4 := (HT3.out.trans HTA.out (fun _ _ f => f.elim)).trans t4 (fun _ _ e => e)
            have h2 : w.heap.size ≤ b := by have := HT3.out.size; omega
            exact h1.trans HSET.out (fun k hk e => by omega)
          clear hm4 t4 hn4 hb4 hb5 HDR hbb
          have HPU := Lib.hid ((ref_put15 g _ _ (m, (fb, fs)) _ HM5.out HLD.out).mono fun _ _ h => h.does (s0 := sl))
          go_wp2_with fail
          refine HPU.out.mono ?_
          rintro e w6 ⟨rfl, sl6, hm6, t6, s6⟩
          have HO6 := Lib.hid (s6.back HT5.out.size)
          clear s6
          have HM6 := Lib.hid hm6
          have HT6 : Hid (Turn (fun k => k = g) w w6) := HT5.out.trans t6 (fun _ _ e => e)
          clear hm6 t6 HPU u0 y0 y1 y2 z0
          go_wp2
          go_ret
          rw [HS.out]
          exact ⟨rfl, _, HM6.out, HT6.out, HO6.out⟩

end Go.Proofs.Ytclljogbingjiaa

/-
  Stage 15: the document's Append.
-/
namespace Go.Proofs.Ytclljogbingjiaa
open Go.RowKit

set_option maxRecDepth 100000

theorem str_app15 (a b : List UInt8) : (⟨a.toArray⟩ ++ ⟨b.toArray⟩ : ByteArray) = ⟨(a ++ b).toArray⟩ := by
  apply ByteArray.ext
  rw [ByteArray.data_append]
  simp
theorem cnt_down15 (d : D15) (L : List (List UInt8 × FB15)) : (cnt15 { d with l := L }).down = (cnt15 d).down ∧ cnt15 { d with l := L } = { cnt15 d with l := L } := by
  unfold cnt15
  dsimp only
  split <;> exact ⟨rfl, rfl⟩
theorem file_sets15 {w : World} {b : Nat} {p q : List UInt8 × FB15} (h : Box w b 69 (cells15 p)) : Box (((w.setCell ⟨b, 0, none⟩ (sv15 q.1)).setCell ⟨b, 1, none⟩ (sv15 q.2.1)).setCell ⟨b, 2, none⟩ (.int .i64 (q.2.2 : Int))) b 69 (cells15 q) := by
  have h4 := ((h.set 0 (sv15 q.1)).set 1 (sv15 q.2.1)).set 2 (.int .i64 (q.2.2 : Int))
  simp only [List.setIfInBounds_toArray, List.set_cons_succ, List.set_cons_zero] at h4
  exact h4
theorem file_turn15 (w : World) (b : Nat) (q : List UInt8 × FB15) : Turn (fun k => k = b) w (((w.setCell ⟨b, 0, none⟩ (sv15 q.1)).setCell ⟨b, 1, none⟩ (sv15 q.2.1)).setCell ⟨b, 2, none⟩ (.int .i64 (q.2.2 : Int))) :=
  (((Turn.refl (fun k => k = b) w).setCell (p := ⟨b, 0, none⟩) (fun _ => rfl) _).setCell (p := ⟨b, 1, none⟩) (fun _ => rfl) _).setCell (p := ⟨b, 2, none⟩) (fun _ => rfl) _

set_option maxHeartbeats 16000000 in
theorem ref_append15 (g : Nat) (sl : Value) (d : D15) (n bs : List UInt8) (v : Value) (w : World) (hm : RD15 w g sl d) (hb : Bd15 d) (hf : ∀ f, getK ltN d.l n = some f → f.1.length ≤ 4194304) (hnl : n.length ≤ 1000000) (hv : Rd w v bs) (_hbl : bs.length ≤ 1000000000) :
    Calls Try.prog 28 #[.pointer (some ⟨g, 0, none⟩), sv15 n, v] w fun e w' => Does15 w g sl (app15 d n bs).1 (.int .i64 (app15 d n bs).2) e w' := by
  have HM := Lib.hid hm
  have HV := Lib.hid hv
  have hl := hb.len
  have HNM : Hid (∀ W, Calls Try.prog 52 #[sv15 n] W fun e w' => e = .returned (.bool (named15 n)) ∧ Turn (fun _ => False) W w') := fun W => ref_named15 n hnl W
  have c2 := hm.box.cell 2
  obtain ⟨BA, bc, rfl⟩ := hv.shape
  clear hv
  cases hdn : d.down with
  | true =>
    have HS : Hid (app15 d n bs = (d, 13)) := by show _ = _; unfold app15; rw [hdn]; rfl
    rw [hdn] at c2
    clear hm hdn HNM
    go_enter Try.func28, Try.ntmps28
    go_wp2
    go_ret
    rw [HS.out]
    exact ⟨rfl, _, HM.out, Turn.refl _ _, Own15.refl _ _⟩
  | false =>
    rw [hdn] at c2
    cases hnm : named15 n with
    | false =>
      have HS : Hid (app15 d n bs = (d, 2)) := by show _ = _; unfold app15; rw [hdn, hnm]; rfl
      rw [hnm] at HNM
      clear hm hdn hnm
      go_enter Try.func28, Try.ntmps28
      go_wp2_with fail
      refine (HNM.out _).mono ?_
      rintro e w1 ⟨rfl, t1⟩
      have HT := Lib.hid t1
      clear t1 HNM c2
      go_wp2
      go_ret
      rw [HS.out]
      exact ⟨rfl, _, HM.out.later HT.out, HT.out.mono (fun _ _ f => f.elim), Own15.refl _ _⟩
    | true =>
      rw [hnm] at HNM
      have HFN : Hid (∀ W, Turn (fun _ => False) w W → Calls Try.prog 37 #[.pointer (some ⟨g, 0, none⟩), sv15 n] W fun e w' => e = .returned (.tuple #[.int .i64 (plc ltN d.l n : Int), .bool (hasK ltN d.l n)]) ∧ Turn (fun _ => False) W w') := fun W ht => ref_find15 g _ d n W (hm.later ht) hl
      have HCT : Hid (∀ L W sl2, RD15 W g sl2 { d with l := L } → Calls Try.prog 54 #[.pointer (some ⟨g, 0, none⟩)] W fun e w' => Does15 W g sl2 (cnt15 { d with l := L }) (.bool (cnt15 d).down) e w') := fun L W sl2 h2 => by
        have h := ref_counts15 g sl2 { d with l := L } W h2 hdn hb.left
        rw [(cnt_down15 d L).1] at h
        exact h
      have HS0 : Hid (∀ fb fs, file15 d n = (fb, fs) → app15 d n bs = if 4194304 < fb.length + bs.length then (d, 7) else (cnt15 { d with l := putK ltN d.l n (fb ++ bs, fs) }, if (cnt15 d).down then 13 else 0)) := fun fb fs h => by unfold app15; rw [hdn, hnm, h]; rfl
      cases hh : hasK ltN d.l n with
      | true =>
        obtain ⟨⟨fb, fs⟩, hvv, hg⟩ := get_has15 hh
        have hfl : fb.length ≤ 4194304 := hf _ hg
        have HS := Lib.hid (HS0.out fb fs (by unfold file15; rw [hg]; rfl))
        have hlt : plc ltN d.l n < d.l.length := (List.getElem?_eq_some_iff.1 hvv).1
        have hli : (plc ltN d.l n : Int) < d.l.length := by omega
        obtain ⟨A, c, rfl⟩ := hm.row.shape
        obtain ⟨ad, rfl, hc⟩ := file_at15 hm.row hvv
        have HC := Lib.hid hc
        rw [hh] at HFN
        have HPU : Hid (∀ W sl2, RD15 W g sl2 d → Calls Try.prog 53 #[.pointer (some ⟨g, 0, none⟩), .agg #[sv15 n, sv15 (fb ++ bs), .int .i64 (fs : Int)]] W fun e w' => Does15 W g (.slice (some ad) d.l.length c) { d with l := putK ltN d.l n (fb ++ bs, fs) } (.tuple #[]) e w') := fun W sl2 h2 => (ref_put15 g _ d (n, (fb ++ bs, fs)) W h2 hl).mono fun _ _ h => h.does
        have HCT2 := Lib.hid (HCT.out (putK ltN d.l n (fb ++ bs, fs)))
        clear hdn hnm hh hg hvv hc hlt HS0 hf HCT
        have HCT := HCT2
        clear HCT2
        generalize plc ltN d.l n = P at *
        generalize putK ltN d.l n (fb ++ bs, fs) = L3 at *
        generalize (cnt15 d).down = dn2 at *
        generalize cnt15 { d with l := L3 } = d4 at *
        go_enter Try.func28, Try.ntmps28
        go_wp2_with fail
        refine (HNM.out _).mono ?_
        rintro e w1 ⟨rfl, t1⟩
        have HT1 := Lib.hid t1
        obtain ⟨wa, hwa⟩ : ∃ wa, wa = w1.alloc (.cells #[sv15 n, .string ⟨#[]⟩, .int .i64 0] 69) := ⟨_, rfl⟩
        obtain ⟨b, hbb⟩ : ∃ b, b = w1.heap.size := ⟨_, rfl⟩
        have HTA : Hid (Turn (fun _ => False) w1 wa) := by rw [hwa]; exact (Turn.refl _ w1).alloc _
        have HBA : Hid (Box wa b 69 (cells15 (n, ([], 0)))) := by rw [hwa, hbb]; exact Box.new w1 _ _
        have HWA := Lib.hid hwa; have HBB := Lib.hid hbb
        clear t1 HNM c2 hm hwa hbb
        go_wp2_with fail
        rw [← HWA.out, ← HBB.out]
        refine (HFN.out _ (HT1.out.trans HTA.out (fun _ _ f => f))).mono ?_
        rintro e w2 ⟨rfl, t2⟩
        have HT2 : Hid (Turn (fun _ => False) w w2) := (HT1.out.trans HTA.out (fun _ _ f => f)).trans t2 (fun _ _ f => f)
        have hb2 := HBA.out.turn t2 (fun f => f)
        have y0 := hb2.cell 0; have y1 := hb2.cell 1; have y2 := hb2.cell 2
        have z0 := hb2.free 0; have z1 := hb2.free 1; have z2 := hb2.free 2
        have HB2 := Lib.hid hb2
        have HM2 := Lib.hid (HM.out.later HT2.out)
        have c0 := HM2.out.box.cell 0
        obtain ⟨x0, x1, x2⟩ := HC.out w2 HT2.out
        have hsz : ByteArray.size ⟨fb.toArray⟩ = fb.length := rfl
        clear t2 HFN hb2
        obtain ⟨W3, hW3⟩ : ∃ W3, W3 = ((w2.setCell ⟨b, 0, none⟩ (sv15 n)).setCell ⟨b, 1, none⟩ (sv15 fb)).setCell ⟨b, 2, none⟩ (.int .i64 (fs : Int)) := ⟨_, rfl⟩
        have HB3 : Hid (Box W3 b 69 (cells15 (n, (fb, fs)))) := by rw [hW3]; exact file_sets15 (q := (n, (fb, fs))) HB2.out
        have HTW3 : Hid (Turn (fun k => k = b) w2 W3) := by rw [hW3]; exact file_turn15 w2 b (n, (fb, fs))
        subst hW3
        have HT3 := Lib.hid (HT2.out.trans (S := fun _ => False) HTW3.out (fun k hk e => by have h1 := HT1.out.size; have h2 := HBB.out; omega))
        have hcv := (HV.out.later HT3.out).string
        have happ := str_app15 fb bs
        have q0 := HB3.out.cell 0; have q1 := HB3.out.cell 1; have q2 := HB3.out.cell 2; have p1 := HB3.out.free 1
        have HB4 := Lib.hid (HB3.out.set 1 (sv15 (fb ++ bs)))
        have HT4 := Lib.hid (HT3.out.setCell (p := ⟨b, 1, none⟩) (fun hk => by have h1 := HT1.out.size; have h2 := HBB.out; have h3 : b < w.heap.size := hk; omega) (sv15 (fb ++ bs)))
        have HPU2 := Lib.hid (HPU.out _ _ (HM.out.later HT4.out))
        by_cases hfull : 4194304 < fb.length + bs.length
        · have hfu : (4194304 : Int) - fb.length < bs.length := by omega
          have HSF : Hid (app15 d n bs = (d, 7)) := by show _ = _; rw [HS.out, if_pos hfull]
          clear hfull hcv happ HPU2 HB4
          go_wp2_with fail
          go_ret
          rw [HSF.out]
          exact ⟨rfl, _, HM.out.later HT3.out, HT3.out.mono (fun _ _ f => f.elim), Own15.refl _ _⟩
        · have hfu : ¬ ((4194304 : Int) - fb.length < bs.length) := by omega
          have HSF : Hid (app15 d n bs = (d4, if dn2 = true then 13 else 0)) := by show _ = _; rw [HS.out, if_neg hfull]
          clear hfull
          go_wp2_with fail
          refine HPU2.out.mono ?_
          rintro e w5 ⟨rfl, sl5, hm5, t5, s5⟩
          have HO5 := Lib.hid (s5.back HT4.out.size)
          clear s5
          have HM5 := Lib.hid hm5
          have HT5 : Hid (Turn (fun k => k = g) w w5) := (HT4.out.mono (fun _ _ f => f.elim)).trans t5 (fun _ _ e => e)
          clear hm5 t5 HPU2 hcv happ q0 q1 q2 p1 HB4
          go_wp2_with fail
          refine (HCT.out w5 sl5 HM5.out).mono ?_
          rintro e w6 ⟨rfl, sl6, hm6, t6, s6⟩
          have HO6 := Lib.hid (HO5.out.trans s6 HT5.out.size)
          clear s6
          have HM6 := Lib.hid hm6
          have HT6 : Hid (Turn (fun k => k = g) w w6) := HT5.out.trans t6 (fun _ _ e => e)
          clear hm6 t6 HCT
          cases dn2 with
          | true =>
            go_wp2
            go_ret
            rw [HSF.out]
            exact ⟨rfl, _, HM6.out, HT6.out, HO6.out⟩
          | false =>
            go_wp2
            go_ret
            rw [HSF.out]
            exact ⟨rfl, _, HM6.out, HT6.out, HO6.out⟩
      | false =>
        have HS := Lib.hid (HS0.out [] 0 (by unfold file15; rw [get_not15 hh]; rfl))
        obtain ⟨fb, hfb⟩ : ∃ fb : List UInt8, fb = [] := ⟨_, rfl⟩
        obtain ⟨fs, hfs⟩ : ∃ fs : Nat, fs = 0 := ⟨_, rfl⟩
        rw [← hfb, ← hfs] at HS
        have hfl : fb.length ≤ 4194304 := by rw [hfb]; exact Nat.zero_le _
        rw [hh] at HFN
        have HPU : Hid (∀ W sl2, RD15 W g sl2 d → Calls Try.prog 53 #[.pointer (some ⟨g, 0, none⟩), .agg #[sv15 n, sv15 (fb ++ bs), .int .i64 (fs : Int)]] W fun e w' => Does15 W g sl { d with l := putK ltN d.l n (fb ++ bs, fs) } (.tuple #[]) e w') := fun W sl2 h2 => (ref_put15 g _ d (n, (fb ++ bs, fs)) W h2 hl).mono fun _ _ h => h.does
        have HCT2 := Lib.hid (HCT.out (putK ltN d.l n (fb ++ bs, fs)))
        clear hdn hnm hh HS0 hf HCT
        have HCT := HCT2
        clear HCT2
        generalize plc ltN d.l n = P at *
        generalize putK ltN d.l n (fb ++ bs, fs) = L3 at *
        generalize (cnt15 d).down = dn2 at *
        generalize cnt15 { d with l := L3 } = d4 at *
        go_enter Try.func28, Try.ntmps28
        go_wp2_with fail
        refine (HNM.out _).mono ?_
        rintro e w1 ⟨rfl, t1⟩
        have HT1 := Lib.hid t1
        obtain ⟨wa, hwa⟩ : ∃ wa, wa = w1.alloc (.cells #[sv15 n, .string ⟨#[]⟩, .int .i64 0] 69) := ⟨_, rfl⟩
        obtain ⟨b, hbb⟩ : ∃ b, b = w1.heap.size := ⟨_, rfl⟩
        have HTA : Hid (Turn (fun _ => False) w1 wa) := by rw [hwa]; exact (Turn.refl _ w1).alloc _
        have HBA : Hid (Box wa b 69 (cells15 (n, (fb, fs)))) := by rw [hwa, hbb, hfb, hfs]; exact Box.new w1 _ _
        have HWA := Lib.hid hwa; have HBB := Lib.hid hbb
        clear t1 HNM c2 hm hwa hbb hfb hfs
        go_wp2_with fail
        rw [← HWA.out, ← HBB.out]
        refine (HFN.out _ (HT1.out.trans HTA.out (fun _ _ f => f))).mono ?_
        rintro e w2 ⟨rfl, t2⟩
        have HT2 : Hid (Turn (fun _ => False) w w2) := (HT1.out.trans HTA.out (fun _ _ f => f)).trans t2 (fun _ _ f => f)
        have hb2 := HBA.out.turn t2 (fun f => f)
        have hsz : ByteArray.size ⟨fb.toArray⟩ = fb.length := rfl
        obtain ⟨W3, hW3⟩ : ∃ W3, W3 = w2 := ⟨_, rfl⟩
        have HB3 : Hid (Box W3 b 69 (cells15 (n, (fb, fs)))) := by rw [hW3]; exact hb2
        have HTW3 : Hid (Turn (fun k => k = b) w2 W3) := by rw [hW3]; exact Turn.refl _ _
        clear t2 HFN hb2
        subst hW3
        have HT3 := Lib.hid (HT2.out.trans (S := fun _ => False) HTW3.out (fun k hk e => by have h1 := HT1.out.size; have h2 := HBB.out; omega))
        have hcv := (HV.out.later HT3.out).string
        have happ := str_app15 fb bs
        have q0 := HB3.out.cell 0; have q1 := HB3.out.cell 1; have q2 := HB3.out.cell 2; have p1 := HB3.out.free 1
        have HB4 := Lib.hid (HB3.out.set 1 (sv15 (fb ++ bs)))
        have HT4 := Lib.hid (HT3.out.setCell (p := ⟨b, 1, none⟩) (fun hk => by have h1 := HT1.out.size; have h2 := HBB.out; have h3 : b < w.heap.size := hk; omega) (sv15 (fb ++ bs)))
        have HPU2 := Lib.hid (HPU.out _ _ (HM.out.later HT4.out))
        by_cases hfull : 4194304 < fb.length + bs.length
        · have hfu : (4194304 : Int) - fb.length < bs.length := by omega
          have HSF : Hid (app15 d n bs = (d, 7)) := by show _ = _; rw [HS.out, if_pos hfull]
          clear hfull hcv happ HPU2 HB4
          go_wp2_with fail
          go_ret
          rw [HSF.out]
          exact ⟨rfl, _, HM.out.later HT3.out, HT3.out.mono (fun _ _ f => f.elim), Own15.refl _ _⟩
        · have hfu : ¬ ((4194304 : Int) - fb.length < bs.length) := by omega
          have HSF : Hid (app15 d n bs = (d4, if dn2 = true then 13 else 0)) := by show _ = _; rw [HS.out, if_neg hfull]
          clear hfull
          go_wp2_with fail
          refine HPU2.out.mono ?_
          rintro e w5 ⟨rfl, sl5, hm5, t5, s5⟩
          have HO5 := Lib.hid (s5.back HT4.out.size)
          clear s5
          have HM5 := Lib.hid hm5
          have HT5 : Hid (Turn (fun k => k = g) w w5) := (HT4.out.mono (fun _ _ f => f.elim)).trans t5 (fun _ _ e => e)
          clear hm5 t5 HPU2 hcv happ q0 q1 q2 p1 HB4
          go_wp2_with fail
          refine (HCT.out w5 sl5 HM5.out).mono ?_
          rintro e w6 ⟨rfl, sl6, hm6, t6, s6⟩
          have HO6 := Lib.hid (HO5.out.trans s6 HT5.out.size)
          clear s6
          have HM6 := Lib.hid hm6
          have HT6 : Hid (Turn (fun k => k = g) w w6) := HT5.out.trans t6 (fun _ _ e => e)
          clear hm6 t6 HCT
          cases dn2 with
          | true =>
            go_wp2
            go_ret
            rw [HSF.out]
            exact ⟨rfl, _, HM6.out, HT6.out, HO6.out⟩
          | false =>
            go_wp2
            go_ret
            rw [HSF.out]
            exact ⟨rfl, _, HM6.out, HT6.out, HO6.out⟩

end Go.Proofs.Ytclljogbingjiaa
