/-
  Texts laid one behind the other: Zck Eh.
-/
import Derived.Test.YtieffpngknglpaaJoacah
import Derived.Laws.IdiomArrays
import Derived.Test.YtieffpngknglpaaJoacae
import Derived.Test.YtieffpngknglpaaJoacad
import Derived.Laws.Slices

/-
  Stage 9: the program's Check and All, with the document's answers.
-/
namespace Go.Proofs.Ytieffpngknglpaa
open Go.RowKit

set_option maxRecDepth 100000

theorem counted_any9 (n : Int) (w : World) : Calls Try.prog 54 #[.int .i64 n] w fun e w' => e = .returned (.bool (okDims n)) ∧ w' = w := by
  unfold okDims
  by_cases n1 : 1 ≤ n
  · by_cases n4 : n ≤ 4
    · rw [decide_eq_true n1, decide_eq_true n4]
      go_enter Try.func54, Try.ntmps54
      go_wp2
      go_ret
      exact ⟨rfl, rfl⟩
    · rw [decide_eq_true n1, decide_eq_false n4]
      go_enter Try.func54, Try.ntmps54
      go_wp2
      go_ret
      exact ⟨rfl, rfl⟩
  · rw [decide_eq_false n1]
    go_enter Try.func54, Try.ntmps54
    go_wp2
    go_ret
    exact ⟨rfl, rfl⟩

theorem okText_in {n : Int} {i : Nat} {t : List UInt8} (h : (i : Int) < n) : okText n i t = decide (t.length ≤ 16) := by simp [okText, h]
theorem okText_out {n : Int} {i : Nat} {t : List UInt8} (h : ¬ (i : Int) < n) : okText n i t = decide (t.length ≤ 0) := by
  cases t with
  | nil => simp [okText]
  | cons x t => simp [okText, h]

set_option maxHeartbeats 8000000 in
theorem fits_any9 (k : K9) (n : Int) (w : World) : Calls Try.prog 55 #[.agg #[sv9 k.a, sv9 k.b, sv9 k.c, sv9 k.d], .int .i64 n] w fun e w' => e = .returned (.bool (okTexts n k)) ∧ Turn (fun _ => False) w w' := by
  obtain ⟨w0, hw0⟩ : ∃ w0, w0 = w.alloc (.cells #[sv9 k.a, sv9 k.b, sv9 k.c, sv9 k.d] 23) := ⟨_, rfl⟩
  have HT0 : Hid (Turn (fun _ => False) w w0) := by rw [hw0]; exact (Turn.refl _ w).alloc _
  have HW := Lib.hid hw0
  have hix0 : ∀ i : Nat, i < 4 → ∀ W, Sem.run Try.prog (Instr.index 23 (.agg #[sv9 k.a, sv9 k.b, sv9 k.c, sv9 k.d]) (.int .i64 (i : Int))) W = .ok (sv9 (k.dim i)) W := fun i hi W => by
    match i, hi with
    | 0, _ => rfl
    | 1, _ => rfl
    | 2, _ => rfl
    | 3, _ => rfl
  have HIX := Lib.hid hix0
  clear hw0 hix0
  go_enter Try.func55, Try.ntmps55
  go_wp2_with fail
  rw [← HW.out]
  go_loopw [9] (fun x9 wr => wr = w0 ∧ ∃ i : Nat, x9 = .int .i64 (i : Int) ∧ i ≤ 4 ∧ ∀ j, j < i → okText n j (k.dim j) = true) (fun x9 _ => 4 - (intOf x9).toNat)
  case atStart => exact ⟨rfl, 0, rfl, Nat.zero_le _, fun k hk => absurd hk (Nat.not_lt_zero k)⟩
  case round =>
    obtain ⟨rfl, i, rfl, hi, he⟩ := hrel
    have HE := Lib.hid he
    clear he
    by_cases hlt : i < 4
    · have hix := HIX.out i hlt
      have hil : (i : Int) < 4 := by omega
      unfold sv9 at hix ⊢
      have HBAD : Hid (okText n i (k.dim i) = false → okTexts n k = false) := fun h => okTexts_not hlt h
      have HGOOD : Hid (okText n i (k.dim i) = true → ∀ j, j < i + 1 → okText n j (k.dim j) = true) := fun h j hj => by
        by_cases ek : j = i
        · rw [ek]; exact h
        · exact HE.out j (by omega)
      generalize hT : k.dim i = T at *
      by_cases hin : (i : Int) < n
      · by_cases hlen : T.length ≤ 16
        · have HK := Lib.hid (HGOOD.out ((okText_in hin).trans (decide_eq_true hlen)))
          have hl2 : ¬ ((16 : Int) < T.length) := by omega
          have hnn : ¬ (n ≤ (i : Int)) := by omega
          clear HBAD HGOOD
          go_wp2
          go_roundw
          case rel => exact ⟨trivial, i + 1, by go_num, hlt, HK.out⟩
          case measure => simp [intOf]; omega
        · have HK := Lib.hid (HBAD.out ((okText_in hin).trans (decide_eq_false hlen)))
          have hl2 : (16 : Int) < T.length := by omega
          have hnn : ¬ (n ≤ (i : Int)) := by omega
          clear HBAD HGOOD
          go_wp2
          go_ret
          rw [HK.out]
          exact ⟨rfl, HT0.out⟩
      · by_cases hlen : T.length ≤ 0
        · have HK := Lib.hid (HGOOD.out ((okText_out hin).trans (decide_eq_true hlen)))
          have hl2 : ¬ ((0 : Int) < T.length) := by omega
          have hnn : n ≤ (i : Int) := by omega
          clear HBAD HGOOD
          go_wp2
          go_roundw
          case rel => exact ⟨trivial, i + 1, by go_num, hlt, HK.out⟩
          case measure => simp [intOf]; omega
        · have HK := Lib.hid (HBAD.out ((okText_out hin).trans (decide_eq_false hlen)))
          have hl2 : (0 : Int) < T.length := by omega
          have hnn : n ≤ (i : Int) := by omega
          clear HBAD HGOOD
          go_wp2
          go_ret
          rw [HK.out]
          exact ⟨rfl, HT0.out⟩
    · obtain rfl : i = 4 := by omega
      have HK : Hid (okTexts n k = true) := okTexts_all HE.out
      go_wp2
      go_ret
      rw [HK.out]
      exact ⟨rfl, HT0.out⟩

set_option maxHeartbeats 8000000 in
theorem check_any9 (f : F9) (n : Int) (w : World) : Calls Try.prog 47 #[fv9 f, .int .i64 n] w fun e w' => e = .returned (.int .i64 (chkF f n)) ∧ Turn (fun _ => False) w w' := by
  unfold fv9
  obtain ⟨w0, hw0⟩ : ∃ w0, w0 = w.alloc (.cells #[.int .i64 f.k.h, sv9 f.k.a, sv9 f.k.b, sv9 f.k.c, sv9 f.k.d, .int .i64 f.v] 77) := ⟨_, rfl⟩
  have HT0 : Hid (Turn (fun _ => False) w w0) := by rw [hw0]; exact (Turn.refl _ w).alloc _
  have hb1 : Box w0 w.heap.size 77 #[.int .i64 f.k.h, sv9 f.k.a, sv9 f.k.b, sv9 f.k.c, sv9 f.k.d, .int .i64 f.v] := by rw [hw0]; exact Box.new w _ _
  have c0 := hb1.cell 0
  have c1 := hb1.cell 1
  have c2 := hb1.cell 2
  have c3 := hb1.cell 3
  have c4 := hb1.cell 4
  have c5 := hb1.cell 5
  have HW := Lib.hid hw0
  have HCT : Hid (∀ W, Calls Try.prog 54 #[.int .i64 n] W fun e w' => e = .returned (.bool (okDims n)) ∧ w' = W) := fun W => counted_any9 n W
  clear hb1 hw0
  by_cases hn : 1 ≤ n ∧ n ≤ 4
  · rw [show okDims n = true by unfold okDims; simp [hn]] at HCT
    by_cases hr : 0 ≤ f.k.h ∧ f.k.h ≤ 16777216 ∧ f.v ≤ 1152921504606846976 ∧ -1152921504606846976 ≤ f.v
    · have HN := Lib.hid hn
      have HR := Lib.hid hr
      obtain ⟨n1, n2⟩ := hn
      obtain ⟨r1, r2, r3, r4⟩ := hr
      have HK : Hid (chkF f n = if okTexts n f.k then 0 else 4) := by
        show _ = _
        cases ht : okTexts n f.k with
        | true => exact chk_ok HN.out HR.out ht
        | false => exact chk_text HN.out HR.out ht
      have HFT := Lib.hid (fits_any9 f.k n w0)
      cases hb : okTexts n f.k with
      | true =>
        rw [hb] at HK HFT
        clear hb
        go_enter Try.func47, Try.ntmps47
        go_wp2_with fail
        rw [← HW.out]
        refine (HCT.out _).mono ?_
        rintro e w1 ⟨rfl, rfl⟩
        go_wp2_with fail
        refine HFT.out.mono ?_
        rintro e w2 ⟨rfl, t2⟩
        have HT2 := Lib.hid (HT0.out.trans t2 (fun _ _ f => f))
        clear t2 c0 c1 c2 c3 c4 c5
        go_wp2
        go_ret
        rw [HK.out]
        exact ⟨rfl, HT2.out⟩
      | false =>
        rw [hb] at HK HFT
        clear hb
        go_enter Try.func47, Try.ntmps47
        go_wp2_with fail
        rw [← HW.out]
        refine (HCT.out _).mono ?_
        rintro e w1 ⟨rfl, rfl⟩
        go_wp2_with fail
        refine HFT.out.mono ?_
        rintro e w2 ⟨rfl, t2⟩
        have HT2 := Lib.hid (HT0.out.trans t2 (fun _ _ f => f))
        clear t2 c0 c1 c2 c3 c4 c5
        go_wp2
        go_ret
        rw [HK.out]
        exact ⟨rfl, HT2.out⟩
    · rw [chk_range hn hr]
      obtain ⟨n1, n2⟩ := hn
      by_cases r1 : f.k.h < 0
      · clear hr
        go_enter Try.func47, Try.ntmps47
        go_wp2_with fail
        rw [← HW.out]
        refine (HCT.out _).mono ?_
        rintro e w1 ⟨rfl, rfl⟩
        go_wp2
        go_ret
        exact ⟨rfl, HT0.out⟩
      · by_cases r2 : 16777216 < f.k.h
        · clear hr
          go_enter Try.func47, Try.ntmps47
          go_wp2_with fail
          rw [← HW.out]
          refine (HCT.out _).mono ?_
          rintro e w1 ⟨rfl, rfl⟩
          go_wp2
          go_ret
          exact ⟨rfl, HT0.out⟩
        · by_cases r3 : 1152921504606846976 < f.v
          · clear hr
            go_enter Try.func47, Try.ntmps47
            go_wp2_with fail
            rw [← HW.out]
            refine (HCT.out _).mono ?_
            rintro e w1 ⟨rfl, rfl⟩
            go_wp2
            go_ret
            exact ⟨rfl, HT0.out⟩
          · have r4 : f.v < -1152921504606846976 := by omega
            clear hr
            go_enter Try.func47, Try.ntmps47
            go_wp2_with fail
            rw [← HW.out]
            refine (HCT.out _).mono ?_
            rintro e w1 ⟨rfl, rfl⟩
            go_wp2
            go_ret
            exact ⟨rfl, HT0.out⟩
  · rw [show okDims n = false by unfold okDims; simpa using hn] at HCT
    rw [chk_dims hn]
    clear hn
    go_enter Try.func47, Try.ntmps47
    go_wp2_with fail
    rw [← HW.out]
    refine (HCT.out _).mono ?_
    rintro e w1 ⟨rfl, rfl⟩
    go_wp2
    go_ret
    exact ⟨rfl, HT0.out⟩

end Go.Proofs.Ytieffpngknglpaa

/-
  In a region that draws its order: 'append(append(append([]T{}, a...), x), b...)', whatever order its parts come in; slices cut at their front and tail. No type is named here.
-/
namespace Go.Proofs.Ytieffpngknglpaa
open Go.RowKit

section
variable {P : Program} {T : Type} {E : El T} {tS e : TypeId}
/-- A slice's tail, as it is cut. -/
def tailV (E : El T) (A : Option Addr) (n c i : Nat) : Value := .slice (if c = i then A else A.map (fun a => a.add (i * E.sz))) (n - i) (c - i)
theorem rd_tailV {w : World} {A : Option Addr} {n c i : Nat} {L : List T} (h : RdE E w (.slice A n c) L) (hi : i ≤ n) : RdE E w (tailV E A n c i) (L.drop i) := by
  have hf := h.fits
  unfold tailV
  by_cases hc : c = i
  · rw [if_pos hc]
    have e : L.drop i = [] := List.eq_nil_of_length_eq_zero (by rw [List.length_drop]; omega)
    rw [e, show n - i = 0 by omega, show c - i = 0 by omega]
    cases A with
    | none => exact RdE.nil w
    | some ad => exact RdE.none_left _ (by simp) w 0 (Nat.zero_le _)
  · rw [if_neg hc]
    cases A with
    | none => have := (hf.2.2.2 rfl); omega
    | some ad => exact h.back i hi
theorem run_tailV (ht : P.underlying tS = some (.slice e)) (hz : (P.info? e).map (·.size) = some E.sz) (A : Option Addr) (n c i : Nat) (hi : i ≤ n) (w : World) :
    (Instr.slice tS (.slice A n c) (some (.int .i64 (i : Int))) none none).run P w = .ok (tailV E A n c i) w := by
  obtain ⟨j, hj, hz⟩ := Option.map_eq_some_iff.1 hz
  unfold tailV
  rw [← hz]
  simp [Instr.slice, Instr.sliceBounds, Instr.sliceBound, asIntOf, run_underlying ht, sizeOf, typeInfo, hj]
  intro h
  omega
theorem run_frontV (ht : P.underlying tS = some (.slice e)) (hz : (P.info? e).map (·.size) = some E.sz) (A : Option Addr) (n c i : Nat) (hi : i ≤ c) (w : World) :
    (Instr.slice tS (.slice A n c) none (some (.int .i64 (i : Int))) none).run P w = .ok (.slice A i c) w := by
  obtain ⟨j, hj, hz⟩ := Option.map_eq_some_iff.1 hz
  cases A
  all_goals
    simp [Instr.slice, Instr.sliceBounds, Instr.sliceBound, asIntOf, run_underlying ht, sizeOf, typeInfo, hj, Addr.add]
    intro h
    omega
theorem exec_tail {o : Oper} {a : Act} {xo ko : Operand} {A : Option Addr} {n c i : Nat} (ho : o.op = .slice tS xo (some ko) none none) (hx : a.eval xo = .slice A n c) (hk : a.eval ko = .int .i64 (i : Int)) (ht : P.underlying tS = some (.slice e)) (hz : (P.info? e).map (·.size) = some E.sz) (hi : i ≤ n) (w : World) :
    (execOp a.eval o).run P w = .ok (.value (tailV E A n c i)) w := by
  unfold execOp
  simp [ho, hx, hk, Instr.sliceAt, run_underlying ht, run_tailV (E := E) ht hz A n c i hi w]
theorem exec_front {o : Oper} {a : Act} {xo ko : Operand} {A : Option Addr} {n c i : Nat} (ho : o.op = .slice tS xo none (some ko) none) (hx : a.eval xo = .slice A n c) (hk : a.eval ko = .int .i64 (i : Int)) (ht : P.underlying tS = some (.slice e)) (hz : (P.info? e).map (·.size) = some E.sz) (hi : i ≤ c) (w : World) :
    (execOp a.eval o).run P w = .ok (.value (.slice A i c)) w := by
  unfold execOp
  simp [ho, hx, hk, Instr.sliceAt, run_underlying ht, run_frontV (E := E) ht hz A n c i hi w]
/-- append onto a row of one's own. -/
theorem run_appE {z : Value} {by' : Nat} (ht : P.underlying tS = some (.slice e)) (hi0 : (P.info? e).map (fun i => (i.zero, i.size, i.bytes)) = some (some z, E.sz, by')) (hz : z.cells.size = E.sz) (hby : by' ≤ 1000) (w : World) (ty : TypeId) (v : Value) (l : List T) (hown : OwE E e w v l)
    (y : Value) (m : List T) (hy : RdE E w y m) (hl : l.length + m.length ≤ 3000000) :
    ∃ A n c w', (Builtin.append_ #[tS, tS] ty #[v, y]).run P w = .ok (.slice A n c) w' ∧ OwE E e w' (.slice A n c) (l ++ m) ∧ Turn (fun k => v.ownBlock = some k) w w' ∧ ((Value.slice A n c).ownBlock = v.ownBlock ∨ (Value.slice A n c).ownBlock = some w.heap.size) := by
  obtain ⟨i, hi, hz0, h1, h2⟩ := info_parts hi0
  have hsrc := hy.src (P := P) ht
  unfold OwE at hown
  rw [← h1] at hown hsrc
  obtain ⟨A, n, c, w', hr, g1, g2, g3⟩ := run_app (P := P) w tS tS ty e i z ht hi hz0 (by rw [h1]; exact hz) v l.length _ hown y m.length _ hsrc (by simp only [maxLen]; omega) (by rw [h2]; exact Nat.le_trans (Nat.mul_le_mul hl hby) (by omega))
  refine ⟨A, n, c, w', hr, ?_, (Turn.refl _ w).grown g2 (fun k _ e => e), g3⟩
  unfold OwE
  rw [List.length_append, E.flat_append, ← h1]
  exact g1
end

section
variable {P : Program} {ops : Array Oper} {Q : Exit → Act → World → Prop} {S : World → Prop} {zs : List Nat}
theorem slot_ne {ts : Array Value} {d k : Nat} {v : Value} (h : d ≠ k) : (ts.setIfInBounds d v).getD k undef = ts.getD k undef := by
  simp [Array.getD_eq_getD_getElem?, Array.getElem?_setIfInBounds_ne h]
theorem slot_eq {ts : Array Value} {d : Nat} {v : Value} (h : d < ts.size) : (ts.setIfInBounds d v).getD d undef = v := by
  simp [Array.getD_eq_getD_getElem?, h]
/-- One that yields a value, in some world. -/
theorem drawn_does {fuel : Nat} {listed : Array Bool} {ts : Array Value} {ds : List Deferred} {w : World} {i d : Nat} {o : Oper} {rs : List Nat} (R : Value → World → Prop) (ho : nthL ops.toList i = some o) (hg : o.guard = none) (hd : o.dst = some d)
    (hr : ∃ v w', (execOp ({ tmps := ts, defers := ds } : Act).eval o).run P w = .ok (.value v) w' ∧ R v w')
    (h : ∀ v w', R v w' → S w' ∧ Drawn P ops Q S zs fuel (listed.setIfInBounds i true) (ts.setIfInBounds d v) ds w')
    (hs : DrawnAll P ops Q S zs fuel listed ts ds w rs) : DrawnAll P ops Q S zs fuel listed ts ds w (i :: rs) :=
  drawn_cons ho (fun K hK => by
    rw [if_pos (by simp [Region.wanted, hg])]
    obtain ⟨v, w', hrun, hR⟩ := hr
    unfold Oper.wp
    rw [hrun]
    show K (({ tmps := ts, defers := ds } : Act).put o.dst v) w'
    rw [hd]
    obtain ⟨h1, h2⟩ := h v w' hR
    exact hK.out _ _ _ h1 h2) hs
variable {T : Type} {E : El T} {tS e : TypeId}
theorem app_does {z : Value} {by' : Nat} (ht : P.underlying tS = some (.slice e)) (hi0 : (P.info? e).map (fun i => (i.zero, i.size, i.bytes)) = some (some z, E.sz, by')) (hz : z.cells.size = E.sz) (hby : by' ≤ 1000)
    {w0 w : World} {a : Act} {o : Oper} {s x : Operand} (ho : o.op = .call { callee := .builtin .append, args := #[s, x], argTypes := #[tS, tS] }) {v y : Value} {l m : List T} (hs : a.eval s = v) (hx : a.eval x = y) (hn : NewE E e w0 w v l) (hy : RdE E w y m) (hl : l.length + m.length ≤ 3000000) :
    ∃ u w', (execOp a.eval o).run P w = .ok (.value u) w' ∧ NewE E e w0 w' u (l ++ m) ∧ Turn (fun k => v.ownBlock = some k) w w' := by
  obtain ⟨A, n, c, w', hr, g1, g2, g3⟩ := run_appE (P := P) ht hi0 hz hby w o.type v l hn.own y m hy hl
  refine ⟨_, w', ?_, hn.step g1 g2 g3, g2⟩
  unfold execOp
  simp only [ho, resolve, invoke, builtin, Sem.run_bind, Sem.run_pure, Result.andThen_ok, List.map_toArray, List.map_cons, List.map_nil, hs, hx, hr]

/-- append(append(append([]T{}, a...), x), b...): all that is read lies in slots; whatever order the rest comes in. -/
theorem drawn_ins {z : Value} {by' : Nat} (ht : P.underlying tS = some (.slice e)) (hi0 : (P.info? e).map (fun i => (i.zero, i.size, i.bytes)) = some (some z, E.sz, by')) (hz : z.cells.size = E.sz) (hby : by' ≤ 1000)
    {w0 : World} (HS : ∀ W, Turn (fun _ => False) w0 W → S W) (ie i1 ix i2 i3 de d1 dx d2 d3 kf kx kt : Nat) {oe o1 ox o2 o3 : Oper}
    (he : nthL ops.toList ie = some oe) (ge : oe.guard = none) (te : oe.dst = some de) (pe : oe.op = .buildSlice tS 0 #[])
    (h1 : nthL ops.toList i1 = some o1) (g1 : o1.guard = none) (t1 : o1.dst = some d1) (p1 : o1.op = .call { callee := .builtin .append, args := #[.tmp de, .tmp kf], argTypes := #[tS, tS] })
    (hx : nthL ops.toList ix = some ox) (gx : ox.guard = none) (tx : ox.dst = some dx) (px : ox.op = .buildSlice tS 1 #[(0, .tmp kx)])
    (h2 : nthL ops.toList i2 = some o2) (g2 : o2.guard = none) (t2 : o2.dst = some d2) (p2 : o2.op = .call { callee := .builtin .append, args := #[.tmp d1, .tmp dx], argTypes := #[tS, tS] })
    (h3 : nthL ops.toList i3 = some o3) (g3 : o3.guard = none) (t3 : o3.dst = some d3) (p3 : o3.op = .call { callee := .builtin .append, args := #[.tmp d2, .tmp kt], argTypes := #[tS, tS] })
    {fuel : Nat} {listed : Array Bool} {ts : Array Value} {ds : List Deferred} {w : World}
    (r0 : Region.ready .any ops listed = [ie, ix]) (re : Region.ready .any ops (listed.setIfInBounds ie true) = [i1, ix]) (re1 : Region.ready .any ops ((listed.setIfInBounds ie true).setIfInBounds i1 true) = [ix])
    (rex : Region.ready .any ops ((listed.setIfInBounds ie true).setIfInBounds ix true) = [i1]) (rx : Region.ready .any ops (listed.setIfInBounds ix true) = [ie])
    (r3 : Region.ready .any ops (((listed.setIfInBounds ie true).setIfInBounds i1 true).setIfInBounds ix true) = [i2]) (r4 : Region.ready .any ops ((((listed.setIfInBounds ie true).setIfInBounds i1 true).setIfInBounds ix true).setIfInBounds i2 true) = [i3])
    (hd : (ie ≠ i1 ∧ ie ≠ ix ∧ i1 ≠ ix) ∧ (de ≠ d1 ∧ de ≠ dx ∧ d1 ≠ dx ∧ de ≠ kf ∧ de ≠ kx ∧ dx ≠ kf ∧ d1 ≠ kx) ∧ (de ≠ kt ∧ d1 ≠ kt ∧ dx ≠ kt ∧ d2 ≠ kt) ∧ de < ts.size ∧ d1 < ts.size ∧ dx < ts.size ∧ d2 < ts.size)
    {vf vt xv : Value} {l1 l3 : List T} {x : T} (kf' : ts.getD kf undef = vf) (kt' : ts.getD kt undef = vt) (kx' : ts.getD kx undef = xv)
    (HF : ∀ W, Turn (fun _ => False) w0 W → RdE E W vf l1) (HT : ∀ W, Turn (fun _ => False) w0 W → RdE E W vt l3) (hl : l1.length + l3.length ≤ 2000000)
    (hE : ∀ W, (Instr.buildSlice tS 0 #[]).run P W = .ok (.slice (some ⟨W.heap.size, 0, none⟩) 0 0) (W.alloc (.cells #[] e)))
    (hX : ∀ W, (Instr.buildSlice tS 1 #[(0, xv)]).run P W = .ok (.slice (some ⟨W.heap.size, 0, none⟩) 1 1) (W.alloc (.cells (E.enc x).toArray e)))
    (hw : Turn (fun _ => False) w0 w)
    (h : ∀ W v a b c d, NewE E e w0 W v (l1 ++ x :: l3) → Drawn P ops Q S zs fuel (((((listed.setIfInBounds ie true).setIfInBounds i1 true).setIfInBounds ix true).setIfInBounds i2 true).setIfInBounds i3 true) (((((ts.setIfInBounds de a).setIfInBounds d1 b).setIfInBounds dx c).setIfInBounds d2 d).setIfInBounds d3 v) ds W) :
    Drawn P ops Q S zs (fuel + 5) listed ts ds w := by
  obtain ⟨⟨n1, n2, n3⟩, ⟨m1, m2, m3, m4, m5, m6, m7⟩, ⟨q1, q2, q3, q4⟩, s1, s2, s3, s4⟩ := hd
  have EE : ∀ (ts : Array Value) W, ∃ v w', (execOp ({ tmps := ts, defers := ds } : Act).eval oe).run P W = .ok (.value v) w' ∧ (v = .slice (some ⟨W.heap.size, 0, none⟩) 0 0 ∧ w' = W.alloc (.cells #[] e)) := fun ts W =>
    ⟨_, _, by unfold execOp; simp [pe, hE], rfl, rfl⟩
  have EX : ∀ (ts : Array Value) W, ts.getD kx undef = xv → ∃ v w', (execOp ({ tmps := ts, defers := ds } : Act).eval ox).run P W = .ok (.value v) w' ∧ (v = .slice (some ⟨W.heap.size, 0, none⟩) 1 1 ∧ w' = W.alloc (.cells (E.enc x).toArray e)) := fun ts W hk =>
    ⟨_, _, by rw [Array.getD_eq_getD_getElem?] at hk; unfold execOp; simp [px, Act.eval, hk, hX], rfl, rfl⟩
  have tail : ∀ (W : World) (a b c : Value), NewE E e w0 W b l1 → RdE E W c [x] →
      Drawn P ops Q S zs (fuel + 2) (((listed.setIfInBounds ie true).setIfInBounds i1 true).setIfInBounds ix true) (((ts.setIfInBounds de a).setIfInBounds d1 b).setIfInBounds dx c) ds W := fun W a b c hn hc => by
    refine drawn_any [i2] r3 (by simp) (drawn_does (fun u w' => NewE E e w0 w' u (l1 ++ [x])) h2 g2 t2 ?_ (fun u w' hu => ⟨HS _ hu.turn, ?_⟩) drawn_nil)
    · obtain ⟨u, w', e1, e2, -⟩ := app_does (P := P) ht hi0 hz hby (a := ({ tmps := ((ts.setIfInBounds de a).setIfInBounds d1 b).setIfInBounds dx c, defers := ds } : Act)) p2 (v := b) (y := c) (by simp only [Act.eval]; rw [slot_ne (Ne.symm m3), slot_eq (by simpa using s2)]) (by simp only [Act.eval]; rw [slot_eq (by simpa using s3)]) hn hc (by simp; omega)
      exact ⟨u, w', e1, e2⟩
    · refine drawn_any [i3] r4 (by simp) (drawn_does (fun v w' => NewE E e w0 w' v (l1 ++ x :: l3)) h3 g3 t3 ?_ (fun v w' hv => ⟨HS _ hv.turn, h w' v a b c u hv⟩) drawn_nil)
      obtain ⟨v, w'', e1, e2, -⟩ := app_does (P := P) ht hi0 hz hby (a := ({ tmps := (((ts.setIfInBounds de a).setIfInBounds d1 b).setIfInBounds dx c).setIfInBounds d2 u, defers := ds } : Act)) p3 (v := u) (y := vt) (by simp only [Act.eval]; rw [slot_eq (by simpa using s4)]) (by simp only [Act.eval]; rw [slot_ne q4, slot_ne q3, slot_ne q2, slot_ne q1, kt']) hu (HT _ hu.turn) (by simp; omega)
      exact ⟨v, w'', e1, by simpa using e2⟩
  refine drawn_any [ie, ix] r0 (by simp) (drawn_does (fun v w' => v = .slice (some ⟨w.heap.size, 0, none⟩) 0 0 ∧ w' = w.alloc (.cells #[] e)) he ge te (EE ts w) ?_ (drawn_does (fun v w' => v = .slice (some ⟨w.heap.size, 0, none⟩) 1 1 ∧ w' = w.alloc (.cells (E.enc x).toArray e)) hx gx tx (EX ts w kx') ?_ drawn_nil))
  · rintro v w' ⟨rfl, rfl⟩
    have hn := NewE.empty (E := E) (e := e) w0 w hw
    refine ⟨HS _ hn.turn, drawn_any [i1, ix] re (by simp) (drawn_does (fun u w' => NewE E e w0 w' u l1) h1 g1 t1 ?_ (fun u w' hu => ⟨HS _ hu.turn, ?_⟩) (drawn_does (fun v w' => v = .slice (some ⟨(w.alloc (.cells #[] e)).heap.size, 0, none⟩) 1 1 ∧ w' = (w.alloc (.cells #[] e)).alloc (.cells (E.enc x).toArray e)) hx gx tx (EX _ _ (by rw [slot_ne m5, kx'])) ?_ drawn_nil))⟩
    · obtain ⟨u, w', e1, e2, -⟩ := app_does (P := P) ht hi0 hz hby (a := ({ tmps := ts.setIfInBounds de (.slice (some ⟨w.heap.size, 0, none⟩) 0 0), defers := ds } : Act)) p1 (y := vf) (by simp only [Act.eval]; rw [slot_eq s1]) (by simp only [Act.eval]; rw [slot_ne m4, kf']) hn (HF _ hn.turn) (by simp; omega)
      exact ⟨u, w', e1, by simpa using e2⟩
    · refine drawn_any [ix] re1 (by simp) (drawn_does (fun v w2 => v = .slice (some ⟨w'.heap.size, 0, none⟩) 1 1 ∧ w2 = w'.alloc (.cells (E.enc x).toArray e)) hx gx tx (EX _ _ (by rw [slot_ne m7, slot_ne m5, kx'])) ?_ drawn_nil)
      rintro v w2 ⟨rfl, rfl⟩
      exact ⟨HS _ (hu.alloc _).turn, tail _ _ _ _ (hu.alloc _) (one_row E e w' x)⟩
    · rintro v w2 ⟨rfl, rfl⟩
      have hn2 := hn.alloc (.cells (E.enc x).toArray e)
      have hr := one_row E e (w.alloc (.cells #[] e)) x
      refine ⟨HS _ hn2.turn, drawn_any [i1] rex (by simp) (drawn_does (fun u w3 => NewE E e w0 w3 u l1 ∧ RdE E w3 (.slice (some ⟨(w.alloc (.cells #[] e)).heap.size, 0, none⟩) 1 1) [x]) h1 g1 t1 ?_ (fun u w3 hu => ⟨HS _ hu.1.turn, ?_⟩) drawn_nil)⟩
      · obtain ⟨u, w3, e1, e2, e3⟩ := app_does (P := P) ht hi0 hz hby (a := ({ tmps := (ts.setIfInBounds de (.slice (some ⟨w.heap.size, 0, none⟩) 0 0)).setIfInBounds dx (.slice (some ⟨(w.alloc (.cells #[] e)).heap.size, 0, none⟩) 1 1), defers := ds } : Act)) p1 (v := .slice (some ⟨w.heap.size, 0, none⟩) 0 0) (y := vf) (by simp only [Act.eval]; rw [slot_ne (Ne.symm m2), slot_eq s1]) (by simp only [Act.eval]; rw [slot_ne m6, slot_ne m4, kf']) hn2 (HF _ hn2.turn) (by simp; omega)
        refine ⟨u, w3, e1, by simpa using e2, hr.turn e3 (fun k h1 h2 => ?_)⟩
        rw [World.size_alloc] at h1
        simp [Value.ownBlock] at h1 h2
        omega
      · rw [Array.setIfInBounds_comm _ _ (Ne.symm n3), Array.setIfInBounds_comm _ _ (Ne.symm m3)]
        exact tail _ _ _ _ hu.1 hu.2
  · rintro v w' ⟨rfl, rfl⟩
    have hr := one_row E e w x
    have hw1 : Turn (fun _ => False) w0 (w.alloc (.cells (E.enc x).toArray e)) := hw.alloc _
    refine ⟨HS _ hw1, drawn_any [ie] rx (by simp) (drawn_does (fun v w' => v = .slice (some ⟨(w.alloc (.cells (E.enc x).toArray e)).heap.size, 0, none⟩) 0 0 ∧ w' = (w.alloc (.cells (E.enc x).toArray e)).alloc (.cells #[] e)) he ge te (EE _ _) ?_ drawn_nil)⟩
    rintro v w2 ⟨rfl, rfl⟩
    have hn := NewE.empty (E := E) (e := e) w0 _ hw1
    have hr2 := hr.later ((Turn.refl _ (w.alloc (.cells (E.enc x).toArray e))).alloc (.cells #[] e))
    rw [Array.setIfInBounds_comm _ _ (Ne.symm n2), Array.setIfInBounds_comm _ _ (Ne.symm m2)]
    refine ⟨HS _ hn.turn, drawn_any [i1] rex (by simp) (drawn_does (fun u w3 => NewE E e w0 w3 u l1 ∧ RdE E w3 (.slice (some ⟨w.heap.size, 0, none⟩) 1 1) [x]) h1 g1 t1 ?_ (fun u w3 hu => ⟨HS _ hu.1.turn, ?_⟩) drawn_nil)⟩
    · obtain ⟨u, w3, e1, e2, e3⟩ := app_does (P := P) ht hi0 hz hby (a := ({ tmps := (ts.setIfInBounds de (.slice (some ⟨(w.alloc (.cells (E.enc x).toArray e)).heap.size, 0, none⟩) 0 0)).setIfInBounds dx (.slice (some ⟨w.heap.size, 0, none⟩) 1 1), defers := ds } : Act)) p1 (v := .slice (some ⟨(w.alloc (.cells (E.enc x).toArray e)).heap.size, 0, none⟩) 0 0) (y := vf) (by simp only [Act.eval]; rw [slot_ne (Ne.symm m2), slot_eq s1]) (by simp only [Act.eval]; rw [slot_ne m6, slot_ne m4, kf']) hn (HF _ hn.turn) (by simp; omega)
      refine ⟨u, w3, e1, by simpa using e2, hr2.turn e3 (fun k h1 h2 => ?_)⟩
      rw [World.size_alloc] at h2
      simp [Value.ownBlock] at h1 h2
      omega
    · rw [Array.setIfInBounds_comm _ _ (Ne.symm n3), Array.setIfInBounds_comm _ _ (Ne.symm m3)]
      exact tail _ _ _ _ hu.1 hu.2
end

end Go.Proofs.Ytieffpngknglpaa
