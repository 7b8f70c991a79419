/-
  Texts laid one behind the other: Q1b Q1c.
-/
import Derived.Test.YtieffpngknglpaaJoacar
import Derived.Test.YtieffpngknglpaaJoacas
import Derived.Test.YtieffpngknglpaaJoacad
import Derived.Laws.ResultCell
import Derived.Laws.IdiomArrays

/-
  Stage 13: queries and keys in memory, held against each other by ==.
-/
namespace Go.Proofs.Ytieffpngknglpaa
open Go.RowKit

/-- Four flags, four texts, a query, as cells. -/
abbrev bs13 (v : V4 Bool) : Array Value := #[.bool v.a, .bool v.b, .bool v.c, .bool v.d]
abbrev ts13 (v : V4 (List UInt8)) : Array Value := #[sv9 v.a, sv9 v.b, sv9 v.c, sv9 v.d]
abbrev cells13 (q : Q13) : Array Value := #[.int .i64 q.lo, .int .i64 q.hi, .bool q.g.a, .bool q.g.b, .bool q.g.c, .bool q.g.d, .bool q.h.a, .bool q.h.b, .bool q.h.c, .bool q.h.d, sv9 q.f.a, sv9 q.f.b, sv9 q.f.c, sv9 q.f.d]
abbrev qv13 (q : Q13) : Value := .agg (cells13 q)

theorem eq_bools13 (d : Nat) (v u : V4 Bool) (w : World) :
    (Op.equalIn (d + 2) 22 (.agg (bs13 v)) (.agg (bs13 u))).run Try.prog w = .ok (decide (v = u)) w := by
  have u3 := Try.underlying4
  have a3' := Try.isAgg4
  have z3 := Try.sizeOf4
  obtain ⟨a0, a1, a2, a3⟩ := v
  obtain ⟨b0, b1, b2, b3⟩ := u
  rw [Op.equalIn]
  simp only [Sem.run_bind, run_underlying Try.underlying22, Result.andThen_ok]
  simp only [Std.Legacy.Range.forIn_eq_forIn_range', Std.Legacy.Range.size, Nat.sub_zero, Nat.add_sub_cancel, Nat.div_one, List.range'_succ, List.range'_zero, List.forIn_cons, List.forIn_nil]
  go_simp
  by_cases h0 : a0 = b0 <;> by_cases h1 : a1 = b1 <;> by_cases h2 : a2 = b2 <;> by_cases h3 : a3 = b3 <;> simp [h0, h1, h2, h3]
theorem eq_four13 (d : Nat) (v u : V4 (List UInt8)) (w : World) :
    (Op.equalIn (d + 2) 23 (.agg (ts13 v)) (.agg (ts13 u))).run Try.prog w = .ok (decide (v = u)) w := by
  rw [eq_texts9]
  obtain ⟨a0, a1, a2, a3⟩ := v
  obtain ⟨b0, b1, b2, b3⟩ := u
  by_cases h0 : a0 = b0 <;> by_cases h1 : a1 = b1 <;> by_cases h2 : a2 = b2 <;> by_cases h3 : a3 = b3 <;> simp [h0, h1, h2, h3]
theorem eq_query13 (d : Nat) (p q : Q13) (w : World) : (Op.equalIn (d + 3) 25 (qv13 p) (qv13 q)).run Try.prog w = .ok (decide (p = q)) w := by
  have hS : Try.prog.underlying 25 = some (.struct (Try.prog.fieldsOf 25)) := by kernel_rfl
  have hp : Try.prog.stoodInHeld 25 = false := by kernel_rfl
  have u2 := Try.underlying2
  have i2 := Try.isAgg2
  have z2 := Try.sizeOf2
  have i4 := Try.isAgg23
  have z4 := Try.sizeOf23
  have i5 := Try.isAgg22
  have z5 := Try.sizeOf22
  have k1 := eq_bools13 d p.g q.g
  have k2 := eq_bools13 d p.h q.h
  have k3 := eq_four13 d p.f q.f
  rw [run_equalIn_agg w (d + 2) 25 _ _ hS hp]
  simp only [Program.fieldsOf, Try.underlying25]
  go_simp
  obtain ⟨lo, hi, g, h, f⟩ := p
  obtain ⟨lo', hi', g', h', f'⟩ := q
  by_cases h0 : lo = lo' <;> by_cases h1 : hi = hi' <;> by_cases h2 : g = g' <;> by_cases h3 : h = h' <;> by_cases h4 : f = f' <;> simp [h0, h1, h2, h3, h4]
theorem run_neq_query13 (p q : Q13) (w : World) : (binOp .neq 25 (qv13 p) (qv13 q)).run Try.prog w = .ok (.bool (!decide (p = q))) w := by
  rw [run_neq_struct, show (10000 : Nat) = 9997 + 3 from rfl, eq_query13]
  rfl
theorem run_eql_query13 (p q : Q13) (w : World) : (binOp .eql 25 (qv13 p) (qv13 q)).run Try.prog w = .ok (.bool (decide (p = q))) w := by
  rw [run_eql_struct, show (10000 : Nat) = 9997 + 3 from rfl, eq_query13]
  rfl
theorem run_neq_bools13 (p q : V4 Bool) (w : World) : (binOp .neq 22 (.agg (bs13 p)) (.agg (bs13 q))).run Try.prog w = .ok (.bool (!decide (p = q))) w := by
  rw [run_neq_struct, show (10000 : Nat) = 9998 + 2 from rfl, eq_bools13]
  rfl
theorem run_neq_four13 (p q : V4 (List UInt8)) (w : World) : (binOp .neq 23 (.agg (ts13 p)) (.agg (ts13 q))).run Try.prog w = .ok (.bool (!decide (p = q))) w := by
  rw [run_neq_struct, show (10000 : Nat) = 9998 + 2 from rfl, eq_four13]
  rfl
theorem run_eql_four13 (p q : V4 (List UInt8)) (w : World) : (binOp .eql 23 (.agg (ts13 p)) (.agg (ts13 q))).run Try.prog w = .ok (.bool (decide (p = q))) w := by
  rw [run_eql_struct, show (10000 : Nat) = 9998 + 2 from rfl, eq_four13]
  rfl
theorem guard_query13 (op : BinOp) (x y : Operand) (f g : Q13) (w : World) : (eqGuard op 25 x y (qv13 f) (qv13 g)).run Try.prog w = .ok () w := run_eqGuard_agg w op _ x y _ _ (by kernel_rfl)
theorem guard_bools13 (op : BinOp) (x y : Operand) (f g : V4 Bool) (w : World) : (eqGuard op 22 x y (.agg (bs13 f)) (.agg (bs13 g))).run Try.prog w = .ok () w := run_eqGuard_agg w op _ x y _ _ (by kernel_rfl)
theorem guard_four13 (op : BinOp) (x y : Operand) (f g : V4 (List UInt8)) (w : World) : (eqGuard op 23 x y (.agg (ts13 f)) (.agg (ts13 g))).run Try.prog w = .ok () w := run_eqGuard_agg w op _ x y _ _ (by kernel_rfl)

theorem nth_bs13 (v : V4 Bool) {i : Nat} (hi : i < 4) : (bs13 v)[i]? = some (.bool (v.nth i)) := by
  match i, hi with
  | 0, _ => rfl
  | 1, _ => rfl
  | 2, _ => rfl
  | 3, _ => rfl
theorem nth_ts13 (v : V4 (List UInt8)) {i : Nat} (hi : i < 4) : (ts13 v)[i]? = some (sv9 (v.nth i)) := by
  match i, hi with
  | 0, _ => rfl
  | 1, _ => rfl
  | 2, _ => rfl
  | 3, _ => rfl
theorem put_bs13 (v : V4 Bool) (x : Bool) {i : Nat} (hi : i < 4) : (bs13 v).setIfInBounds i (.bool x) = bs13 (v.put i x) := by
  match i, hi with
  | 0, _ => rfl
  | 1, _ => rfl
  | 2, _ => rfl
  | 3, _ => rfl
theorem put_ts13 (v : V4 (List UInt8)) (x : List UInt8) {i : Nat} (hi : i < 4) : (ts13 v).setIfInBounds i (sv9 x) = ts13 (v.put i x) := by
  match i, hi with
  | 0, _ => rfl
  | 1, _ => rfl
  | 2, _ => rfl
  | 3, _ => rfl
theorem index_bs13 (v : V4 Bool) {i : Nat} (hi : i < 4) (W : World) : Sem.run Try.prog (Instr.index 22 (.agg (bs13 v)) (.int .i64 (i : Int))) W = .ok (.bool (v.nth i)) W := by
  match i, hi with
  | 0, _ => rfl
  | 1, _ => rfl
  | 2, _ => rfl
  | 3, _ => rfl
/-- A query's parts, by their places. -/
theorem q_group13 (q : Q13) {i : Nat} (hi : i < 4) : (cells13 q)[2 + i]? = some (.bool (q.g.nth i)) := by
  match i, hi with
  | 0, _ => rfl
  | 1, _ => rfl
  | 2, _ => rfl
  | 3, _ => rfl
theorem q_has13 (q : Q13) {i : Nat} (hi : i < 4) : (cells13 q)[6 + i]? = some (.bool (q.h.nth i)) := by
  match i, hi with
  | 0, _ => rfl
  | 1, _ => rfl
  | 2, _ => rfl
  | 3, _ => rfl
theorem q_text13 (q : Q13) {i : Nat} (hi : i < 4) : (cells13 q)[10 + i]? = some (sv9 (q.f.nth i)) := by
  match i, hi with
  | 0, _ => rfl
  | 1, _ => rfl
  | 2, _ => rfl
  | 3, _ => rfl
theorem put_group13 (q : Q13) (x : Bool) {i : Nat} (hi : i < 4) : (cells13 q).setIfInBounds (2 + i) (.bool x) = cells13 { q with g := q.g.put i x } := by
  match i, hi with
  | 0, _ => rfl
  | 1, _ => rfl
  | 2, _ => rfl
  | 3, _ => rfl
theorem put_has13 (q : Q13) (x : Bool) {i : Nat} (hi : i < 4) : (cells13 q).setIfInBounds (6 + i) (.bool x) = cells13 { q with h := q.h.put i x } := by
  match i, hi with
  | 0, _ => rfl
  | 1, _ => rfl
  | 2, _ => rfl
  | 3, _ => rfl
theorem put_text13 (q : Q13) (x : List UInt8) {i : Nat} (hi : i < 4) : (cells13 q).setIfInBounds (10 + i) (sv9 x) = cells13 { q with f := q.f.put i x } := by
  match i, hi with
  | 0, _ => rfl
  | 1, _ => rfl
  | 2, _ => rfl
  | 3, _ => rfl
/-- A query's box, cell by cell. -/
theorem box_query13 {w : World} {g : Nat} {q : Q13} (h : Box w g 25 (cells13 q)) : w.cell? ⟨g, 0, none⟩ = some (.int .i64 q.lo) ∧ w.cell? ⟨g, 1, none⟩ = some (.int .i64 q.hi) ∧
    w.cell? ⟨g, 2, none⟩ = some (.bool q.g.a) ∧ w.cell? ⟨g, 3, none⟩ = some (.bool q.g.b) ∧ w.cell? ⟨g, 4, none⟩ = some (.bool q.g.c) ∧ w.cell? ⟨g, 5, none⟩ = some (.bool q.g.d) ∧
    w.cell? ⟨g, 6, none⟩ = some (.bool q.h.a) ∧ w.cell? ⟨g, 7, none⟩ = some (.bool q.h.b) ∧ w.cell? ⟨g, 8, none⟩ = some (.bool q.h.c) ∧ w.cell? ⟨g, 9, none⟩ = some (.bool q.h.d) ∧
    w.cell? ⟨g, 10, none⟩ = some (sv9 q.f.a) ∧ w.cell? ⟨g, 11, none⟩ = some (sv9 q.f.b) ∧ w.cell? ⟨g, 12, none⟩ = some (sv9 q.f.c) ∧ w.cell? ⟨g, 13, none⟩ = some (sv9 q.f.d) :=
  ⟨h.cell 0, h.cell 1, h.cell 2, h.cell 3, h.cell 4, h.cell 5, h.cell 6, h.cell 7, h.cell 8, h.cell 9, h.cell 10, h.cell 11, h.cell 12, h.cell 13⟩
theorem box_key13 {w : World} {g : Nat} {k : K9} (h : Box w g 27 #[.int .i64 k.h, sv9 k.a, sv9 k.b, sv9 k.c, sv9 k.d]) : w.cell? ⟨g, 0, none⟩ = some (.int .i64 k.h) ∧ w.cell? ⟨g, 1, none⟩ = some (sv9 k.a) ∧
    w.cell? ⟨g, 2, none⟩ = some (sv9 k.b) ∧ w.cell? ⟨g, 3, none⟩ = some (sv9 k.c) ∧ w.cell? ⟨g, 4, none⟩ = some (sv9 k.d) := ⟨h.cell 0, h.cell 1, h.cell 2, h.cell 3, h.cell 4⟩

end Go.Proofs.Ytieffpngknglpaa

/-
  Stage 13: the program's only, at texts and at flags, and its first.
-/
namespace Go.Proofs.Ytieffpngknglpaa
open Go.RowKit

set_option maxRecDepth 100000

/-- One result, in a cell. -/
theorem results_one13 {fn : Func} {p : Tmp} {ty : TypeId} (h : fn.results = #[.cell p ty]) (tmps : Array Value) (P : Program) (w : World) :
    (results fn tmps).run P w = ((asAddr (tmps.getD p undef)).run P w).andThen fun a w₁ => (loadVar ty a).run P w₁ := by
  simp only [results, h]
  simp [Sem.run_bind, Result.andThen]

/-- A call's own boxes: what it keeps, and its result, beside what it was handed. -/
structure Kp13 (w : World) (s r k : Nat) (t : TypeId) (x z v : Array Value) (W : World) : Prop where
  src : Box W s t x
  res : Box W r t z
  kept : Box W k t v
  turn : Turn (fun _ => False) w W
  nr : w.heap.size ≤ r
  nk : w.heap.size ≤ k
  ne : r ≠ k
  sk : s ≠ k
  sr : s ≠ r
theorem Kp13.set {w W : World} {s r k : Nat} {t : TypeId} {x z v : Array Value} (h : Kp13 w s r k t x z v W) (i : Nat) (u : Value) : Kp13 w s r k t x z (v.setIfInBounds i u) (W.setCell ⟨k, i, none⟩ u) := by
  have ht : Turn (fun g => g = k) W (W.setCell ⟨k, i, none⟩ u) := Turn.setCell (S := fun g => g = k) (p := ⟨k, i, none⟩) (Turn.refl _ W) (fun _ => rfl) u
  exact ⟨h.src.turn ht h.sk, h.res.turn ht h.ne, h.kept.set i u, h.turn.trans ht (fun g hg e => by have := h.nk; omega), h.nr, h.nk, h.ne, h.sk, h.sr⟩

/-- The same where nothing was handed. -/
structure Ks13 (w : World) (r k : Nat) (t : TypeId) (z v : Array Value) (W : World) : Prop where
  res : Box W r t z
  kept : Box W k t v
  turn : Turn (fun _ => False) w W
  nr : w.heap.size ≤ r
  nk : w.heap.size ≤ k
  ne : r ≠ k
theorem Ks13.set {w W : World} {r k : Nat} {t : TypeId} {z v : Array Value} (h : Ks13 w r k t z v W) (i : Nat) (u : Value) : Ks13 w r k t z (v.setIfInBounds i u) (W.setCell ⟨k, i, none⟩ u) := by
  have ht : Turn (fun g => g = k) W (W.setCell ⟨k, i, none⟩ u) := Turn.setCell (S := fun g => g = k) (p := ⟨k, i, none⟩) (Turn.refl _ W) (fun _ => rfl) u
  exact ⟨h.res.turn ht h.ne, h.kept.set i u, h.turn.trans ht (fun g hg e => by have := h.nk; omega), h.nr, h.nk, h.ne⟩


set_option maxHeartbeats 8000000 in
theorem only_text13 (t : V4 (List UInt8)) (b : V4 Bool) (w : World) : Calls Try.prog 19 #[.agg (ts13 t), .agg (bs13 b)] w fun e w' => e = .returned (.agg (ts13 (onlyP [] t b))) ∧ Turn (fun _ => False) w w' := by
  obtain ⟨w4, hw4⟩ : ∃ w4, w4 = (((w.alloc (.cells (ts13 t) 23)).alloc (.cells (bs13 b) 22)).alloc (.cells (ts13 (V4.fill [])) 23)).alloc (.cells (ts13 (V4.fill [])) 23) := ⟨_, rfl⟩
  have hkp : Kp13 w w.heap.size (w.heap.size + 1 + 1) (w.heap.size + 1 + 1 + 1) 23 (ts13 t) (ts13 (V4.fill [])) (ts13 (V4.fill [])) w4 := by
    rw [hw4]
    refine ⟨(((Box.new w _ _).alloc _).alloc _).alloc _, ?_, ?_, (((((Turn.refl _ w).alloc _).alloc _).alloc _).alloc _), by omega, by omega, by omega, by omega, by omega⟩
    · have h := (Box.new ((w.alloc (.cells (ts13 t) 23)).alloc (.cells (bs13 b) 22)) 23 (ts13 (V4.fill []))).alloc (.cells (ts13 (V4.fill [])) 23)
      rw [World.size_alloc, World.size_alloc] at h
      exact h
    · have h := Box.new (((w.alloc (.cells (ts13 t) 23)).alloc (.cells (bs13 b) 22)).alloc (.cells (ts13 (V4.fill [])) 23)) 23 (ts13 (V4.fill []))
      rw [World.size_alloc, World.size_alloc, World.size_alloc] at h
      exact h
  obtain ⟨s, hs⟩ : ∃ s, s = w.heap.size := ⟨_, rfl⟩
  obtain ⟨r, hr⟩ : ∃ r, r = w.heap.size + 1 + 1 := ⟨_, rfl⟩
  obtain ⟨k, hk⟩ : ∃ k, k = w.heap.size + 1 + 1 + 1 := ⟨_, rfl⟩
  rw [← hk, ← hr, ← hs] at hkp
  have HKP := Lib.hid hkp
  have HW := Lib.hid hw4
  have HS := Lib.hid hs
  have HR := Lib.hid hr
  have HK := Lib.hid hk
  clear hw4 hkp hs hr hk
  go_enter Try.func19, Try.ntmps19
  go_wp2_with fail
  rw [← HK.out, ← HR.out, ← HS.out]
  have HW2 := HW.out
  simp only [V4.fill] at HW2
  try unfold sv9 at HW2
  rw [← HW2]
  clear HW HK HR HS HW2
  go_loopw [9] (fun x9 wr => ∃ i : Nat, x9 = .int .i64 (i : Int) ∧ i ≤ 4 ∧ Kp13 w s r k 23 (ts13 t) (ts13 (V4.fill [])) (ts13 (onlyN [] t b i)) wr) (fun x9 _ => 4 - (intOf x9).toNat)
  case atStart => exact ⟨0, rfl, Nat.zero_le _, HKP.out⟩
  case round =>
    clear HKP
    obtain ⟨i, rfl, hi, hm⟩ := hrel
    have HM := Lib.hid hm
    clear hm
    by_cases hlt : i < 4
    · have hil : (i : Int) < 4 := by omega
      have hix := index_bs13 b hlt
      have e1 : wr.cell? ⟨s, i, none⟩ = some (sv9 (t.nth i)) := (HM.out.src.cell i).trans (nth_ts13 t hlt)
      have f1 : wr.frozen? ⟨k, i, none⟩ = false := HM.out.kept.free i
      have e2 : wr.cell? ⟨k, i, none⟩ = some (sv9 ((onlyN [] t b i).nth i)) := (HM.out.kept.cell i).trans (nth_ts13 _ hlt)
      have HST : Hid (onlyN [] t b (i + 1) = if b.nth i then (onlyN [] t b i).put i (t.nth i) else onlyN [] t b i) := rfl
      have HM2 := Lib.hid (HM.out.set i (sv9 (t.nth i)))
      rw [put_ts13 _ _ hlt] at HM2
      unfold bs13 at hix
      generalize hX : t.nth i = X at *
      generalize (onlyN [] t b i).nth i = Y at *
      clear hX
      cases hB : b.nth i with
      | false =>
        rw [hB] at HST hix
        have HM3 : Hid (Kp13 w s r k 23 (ts13 t) (ts13 (V4.fill [])) (ts13 (onlyN [] t b (i + 1))) wr) := by rw [HST.out]; exact HM.out
        clear hB HST HM2 HM
        go_wp2_with fail
        go_roundw
        case rel => exact ⟨i + 1, by go_num, hlt, HM3.out⟩
        case measure => simp [intOf]; omega
      | true =>
        rw [hB] at HST hix
        have HM3 : Hid (Kp13 w s r k 23 (ts13 t) (ts13 (V4.fill [])) (ts13 (onlyN [] t b (i + 1))) (wr.setCell ⟨k, i, none⟩ (sv9 (X)))) := by rw [HST.out]; exact HM2.out
        clear hB HST HM2 HM
        go_wp2_with fail
        go_roundw
        case rel => exact ⟨i + 1, by go_num, hlt, HM3.out⟩
        case measure => simp [intOf]; omega
    · obtain rfl : i = 4 := by omega
      rw [onlyN_four] at HM
      generalize ho : onlyP [] t b = o at *
      have HO := Lib.hid ho
      clear ho
      have b0 : wr.cell? ⟨k, 0, none⟩ = some (sv9 (o.a)) := HM.out.kept.cell 0
      have b1 : wr.cell? ⟨k, 1, none⟩ = some (sv9 (o.b)) := HM.out.kept.cell 1
      have b2 : wr.cell? ⟨k, 2, none⟩ = some (sv9 (o.c)) := HM.out.kept.cell 2
      have b3 : wr.cell? ⟨k, 3, none⟩ = some (sv9 (o.d)) := HM.out.kept.cell 3
      have d0 : wr.cell? ⟨r, 0, none⟩ = some (sv9 ([])) := HM.out.res.cell 0
      have d1 : wr.cell? ⟨r, 1, none⟩ = some (sv9 ([])) := HM.out.res.cell 1
      have d2 : wr.cell? ⟨r, 2, none⟩ = some (sv9 ([])) := HM.out.res.cell 2
      have d3 : wr.cell? ⟨r, 3, none⟩ = some (sv9 ([])) := HM.out.res.cell 3
      have z0 : wr.frozen? ⟨r, 0, none⟩ = false := HM.out.res.free 0
      have z1 : wr.frozen? ⟨r, 1, none⟩ = false := HM.out.res.free 1
      have z2 : wr.frozen? ⟨r, 2, none⟩ = false := HM.out.res.free 2
      have z3 : wr.frozen? ⟨r, 3, none⟩ = false := HM.out.res.free 3
      have HT : Hid (Turn (fun _ => False) w (wr.setCells r 0 (ts13 o).toList)) := HM.out.turn.trans (turn_setCells (S := fun g => g = r) rfl (ts13 o).toList 0 wr) (fun g hg e => by have := HM.out.nr; omega)
      clear HM
      go_wp2
      refine bodyPost_ret (v := .agg (ts13 o)) ?_ rfl ⟨by rw [HO.out], HT.out⟩
      rw [results_one13 rfl]
      go_simp

set_option maxHeartbeats 8000000 in
theorem only_flag13 (t : V4 (Bool)) (b : V4 Bool) (w : World) : Calls Try.prog 38 #[.agg (bs13 t), .agg (bs13 b)] w fun e w' => e = .returned (.agg (bs13 (onlyP false t b))) ∧ Turn (fun _ => False) w w' := by
  obtain ⟨w4, hw4⟩ : ∃ w4, w4 = (((w.alloc (.cells (bs13 t) 22)).alloc (.cells (bs13 b) 22)).alloc (.cells (bs13 (V4.fill false)) 22)).alloc (.cells (bs13 (V4.fill false)) 22) := ⟨_, rfl⟩
  have hkp : Kp13 w w.heap.size (w.heap.size + 1 + 1) (w.heap.size + 1 + 1 + 1) 22 (bs13 t) (bs13 (V4.fill false)) (bs13 (V4.fill false)) w4 := by
    rw [hw4]
    refine ⟨(((Box.new w _ _).alloc _).alloc _).alloc _, ?_, ?_, (((((Turn.refl _ w).alloc _).alloc _).alloc _).alloc _), by omega, by omega, by omega, by omega, by omega⟩
    · have h := (Box.new ((w.alloc (.cells (bs13 t) 22)).alloc (.cells (bs13 b) 22)) 22 (bs13 (V4.fill false))).alloc (.cells (bs13 (V4.fill false)) 22)
      rw [World.size_alloc, World.size_alloc] at h
      exact h
    · have h := Box.new (((w.alloc (.cells (bs13 t) 22)).alloc (.cells (bs13 b) 22)).alloc (.cells (bs13 (V4.fill false)) 22)) 22 (bs13 (V4.fill false))
      rw [World.size_alloc, World.size_alloc, World.size_alloc] at h
      exact h
  obtain ⟨s, hs⟩ : ∃ s, s = w.heap.size := ⟨_, rfl⟩
  obtain ⟨r, hr⟩ : ∃ r, r = w.heap.size + 1 + 1 := ⟨_, rfl⟩
  obtain ⟨k, hk⟩ : ∃ k, k = w.heap.size + 1 + 1 + 1 := ⟨_, rfl⟩
  rw [← hk, ← hr, ← hs] at hkp
  have HKP := Lib.hid hkp
  have HW := Lib.hid hw4
  have HS := Lib.hid hs
  have HR := Lib.hid hr
  have HK := Lib.hid hk
  clear hw4 hkp hs hr hk
  go_enter Try.func38, Try.ntmps38
  go_wp2_with fail
  rw [← HK.out, ← HR.out, ← HS.out]
  have HW2 := HW.out
  simp only [V4.fill] at HW2
  try unfold sv9 at HW2
  rw [← HW2]
  clear HW HK HR HS HW2
  go_loopw [9] (fun x9 wr => ∃ i : Nat, x9 = .int .i64 (i : Int) ∧ i ≤ 4 ∧ Kp13 w s r k 22 (bs13 t) (bs13 (V4.fill false)) (bs13 (onlyN false t b i)) wr) (fun x9 _ => 4 - (intOf x9).toNat)
  case atStart => exact ⟨0, rfl, Nat.zero_le _, HKP.out⟩
  case round =>
    clear HKP
    obtain ⟨i, rfl, hi, hm⟩ := hrel
    have HM := Lib.hid hm
    clear hm
    by_cases hlt : i < 4
    · have hil : (i : Int) < 4 := by omega
      have hix := index_bs13 b hlt
      have e1 : wr.cell? ⟨s, i, none⟩ = some (.bool (t.nth i)) := (HM.out.src.cell i).trans (nth_bs13 t hlt)
      have f1 : wr.frozen? ⟨k, i, none⟩ = false := HM.out.kept.free i
      have e2 : wr.cell? ⟨k, i, none⟩ = some (.bool ((onlyN false t b i).nth i)) := (HM.out.kept.cell i).trans (nth_bs13 _ hlt)
      have HST : Hid (onlyN false t b (i + 1) = if b.nth i then (onlyN false t b i).put i (t.nth i) else onlyN false t b i) := rfl
      have HM2 := Lib.hid (HM.out.set i (.bool (t.nth i)))
      rw [put_bs13 _ _ hlt] at HM2
      unfold bs13 at hix
      generalize hX : t.nth i = X at *
      generalize (onlyN false t b i).nth i = Y at *
      clear hX
      cases hB : b.nth i with
      | false =>
        rw [hB] at HST hix
        have HM3 : Hid (Kp13 w s r k 22 (bs13 t) (bs13 (V4.fill false)) (bs13 (onlyN false t b (i + 1))) wr) := by rw [HST.out]; exact HM.out
        clear hB HST HM2 HM
        go_wp2_with fail
        go_roundw
        case rel => exact ⟨i + 1, by go_num, hlt, HM3.out⟩
        case measure => simp [intOf]; omega
      | true =>
        rw [hB] at HST hix
        have HM3 : Hid (Kp13 w s r k 22 (bs13 t) (bs13 (V4.fill false)) (bs13 (onlyN false t b (i + 1))) (wr.setCell ⟨k, i, none⟩ (.bool (X)))) := by rw [HST.out]; exact HM2.out
        clear hB HST HM2 HM
        go_wp2_with fail
        go_roundw
        case rel => exact ⟨i + 1, by go_num, hlt, HM3.out⟩
        case measure => simp [intOf]; omega
    · obtain rfl : i = 4 := by omega
      rw [onlyN_four] at HM
      generalize ho : onlyP false t b = o at *
      have HO := Lib.hid ho
      clear ho
      have b0 : wr.cell? ⟨k, 0, none⟩ = some (.bool (o.a)) := HM.out.kept.cell 0
      have b1 : wr.cell? ⟨k, 1, none⟩ = some (.bool (o.b)) := HM.out.kept.cell 1
      have b2 : wr.cell? ⟨k, 2, none⟩ = some (.bool (o.c)) := HM.out.kept.cell 2
      have b3 : wr.cell? ⟨k, 3, none⟩ = some (.bool (o.d)) := HM.out.kept.cell 3
      have d0 : wr.cell? ⟨r, 0, none⟩ = some (.bool (false)) := HM.out.res.cell 0
      have d1 : wr.cell? ⟨r, 1, none⟩ = some (.bool (false)) := HM.out.res.cell 1
      have d2 : wr.cell? ⟨r, 2, none⟩ = some (.bool (false)) := HM.out.res.cell 2
      have d3 : wr.cell? ⟨r, 3, none⟩ = some (.bool (false)) := HM.out.res.cell 3
      have z0 : wr.frozen? ⟨r, 0, none⟩ = false := HM.out.res.free 0
      have z1 : wr.frozen? ⟨r, 1, none⟩ = false := HM.out.res.free 1
      have z2 : wr.frozen? ⟨r, 2, none⟩ = false := HM.out.res.free 2
      have z3 : wr.frozen? ⟨r, 3, none⟩ = false := HM.out.res.free 3
      have HT : Hid (Turn (fun _ => False) w (wr.setCells r 0 (bs13 o).toList)) := HM.out.turn.trans (turn_setCells (S := fun g => g = r) rfl (bs13 o).toList 0 wr) (fun g hg e => by have := HM.out.nr; omega)
      clear HM
      go_wp2
      refine bodyPost_ret (v := .agg (bs13 o)) ?_ rfl ⟨by rw [HO.out], HT.out⟩
      rw [results_one13 rfl]
      go_simp

set_option maxHeartbeats 8000000 in
theorem first_any13 (n : Nat) (hn : n ≤ 4) (w : World) : Calls Try.prog 37 #[.int .i64 (n : Int)] w fun e w' => e = .returned (.agg (bs13 (firstN n))) ∧ Turn (fun _ => False) w w' := by
  obtain ⟨w4, hw4⟩ : ∃ w4, w4 = (w.alloc (.cells (bs13 (V4.fill false)) 22)).alloc (.cells (bs13 (V4.fill false)) 22) := ⟨_, rfl⟩
  have hbr : Box w4 w.heap.size 22 (bs13 (V4.fill false)) := by rw [hw4]; exact (Box.new w _ _).alloc _
  have hbk : Box w4 (w.heap.size + 1) 22 (bs13 (V4.fill false)) := by
    have h := Box.new (w.alloc (.cells (bs13 (V4.fill false)) 22)) 22 (bs13 (V4.fill false))
    rw [World.size_alloc] at h
    rw [hw4]
    exact h
  have hkp : Ks13 w w.heap.size (w.heap.size + 1) 22 (bs13 (V4.fill false)) (bs13 (V4.fill false)) w4 := ⟨hbr, hbk, by rw [hw4]; exact ((Turn.refl _ w).alloc _).alloc _, by omega, by omega, by omega⟩
  obtain ⟨r, hr⟩ : ∃ r, r = w.heap.size := ⟨_, rfl⟩
  obtain ⟨k, hk⟩ : ∃ k, k = w.heap.size + 1 := ⟨_, rfl⟩
  rw [← hk, ← hr] at hkp
  have HKP := Lib.hid hkp
  have HW := Lib.hid hw4
  have HR := Lib.hid hr
  have HK := Lib.hid hk
  clear hw4 hkp hr hk hbr hbk
  go_enter Try.func37, Try.ntmps37
  go_wp2_with fail
  rw [← HK.out, ← HR.out]
  have HW2 := HW.out
  simp only [V4.fill] at HW2
  rw [← HW2]
  clear HW HK HR HW2
  go_loopw [6] (fun x6 wr => ∃ i : Nat, x6 = .int .i64 (i : Int) ∧ i ≤ n ∧ Ks13 w r k 22 (bs13 (V4.fill false)) (bs13 (firstN i)) wr) (fun x6 _ => n - (intOf x6).toNat)
  case atStart => exact ⟨0, rfl, Nat.zero_le _, HKP.out⟩
  case round =>
    clear HKP
    obtain ⟨i, rfl, hi, hm⟩ := hrel
    have HM := Lib.hid hm
    clear hm
    by_cases hlt : i < n
    · have hil : (i : Int) < n := by omega
      have h4 : i < 4 := by omega
      have hi4 : (i : Int) < 4 := by omega
      have f1 : wr.frozen? ⟨k, i, none⟩ = false := HM.out.kept.free i
      have e2 : wr.cell? ⟨k, i, none⟩ = some (.bool ((firstN i).nth i)) := (HM.out.kept.cell i).trans (nth_bs13 _ h4)
      have HM2 := Lib.hid (HM.out.set i (.bool true))
      rw [put_bs13 _ _ h4] at HM2
      have HM3 : Hid (Ks13 w r k 22 (bs13 (V4.fill false)) (bs13 (firstN (i + 1))) (wr.setCell ⟨k, i, none⟩ (.bool true))) := HM2.out
      generalize (firstN i).nth i = Y at *
      clear HM2 HM
      go_wp2_with fail
      go_roundw
      case rel => exact ⟨i + 1, by go_num, hlt, HM3.out⟩
      case measure => simp [intOf]; omega
    · obtain rfl : i = n := by omega
      generalize ho : firstN i = o at *
      have HO := Lib.hid ho
      clear ho
      have b0 : wr.cell? ⟨k, 0, none⟩ = some (.bool o.a) := HM.out.kept.cell 0
      have b1 : wr.cell? ⟨k, 1, none⟩ = some (.bool o.b) := HM.out.kept.cell 1
      have b2 : wr.cell? ⟨k, 2, none⟩ = some (.bool o.c) := HM.out.kept.cell 2
      have b3 : wr.cell? ⟨k, 3, none⟩ = some (.bool o.d) := HM.out.kept.cell 3
      have d0 : wr.cell? ⟨r, 0, none⟩ = some (.bool false) := HM.out.res.cell 0
      have d1 : wr.cell? ⟨r, 1, none⟩ = some (.bool false) := HM.out.res.cell 1
      have d2 : wr.cell? ⟨r, 2, none⟩ = some (.bool false) := HM.out.res.cell 2
      have d3 : wr.cell? ⟨r, 3, none⟩ = some (.bool false) := HM.out.res.cell 3
      have z0 : wr.frozen? ⟨r, 0, none⟩ = false := HM.out.res.free 0
      have z1 : wr.frozen? ⟨r, 1, none⟩ = false := HM.out.res.free 1
      have z2 : wr.frozen? ⟨r, 2, none⟩ = false := HM.out.res.free 2
      have z3 : wr.frozen? ⟨r, 3, none⟩ = false := HM.out.res.free 3
      have HT : Hid (Turn (fun _ => False) w (wr.setCells r 0 (bs13 o).toList)) := HM.out.turn.trans (turn_setCells (S := fun g => g = r) rfl (bs13 o).toList 0 wr) (fun g hg e => by have := HM.out.nr; omega)
      clear HM
      go_wp2
      refine bodyPost_ret (v := .agg (bs13 o)) ?_ rfl ⟨by rw [HO.out], HT.out⟩
      rw [results_one13 rfl]
      go_simp

end Go.Proofs.Ytieffpngknglpaa
