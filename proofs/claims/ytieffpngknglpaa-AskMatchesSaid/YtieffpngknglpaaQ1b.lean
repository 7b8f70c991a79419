
/-
  Stage 13: queries and keys in memory, held against each other by ==.
-/
import Derived.Test.YtieffpngknglpaaQ1a
import Derived.Test.YtieffpngknglpaaZk
import Derived.Test.YtieffpngknglpaaEs
import Derived.Test.YtieffpngknglpaaEa
namespace Go.Proofs.Ytieffpngknglpaa
open Go.RowKit

/-- Four flags, four texts, a query, as cells. -/
abbrev bs13 (v : V4 Bool) : Array Value := #[.bool v.a, .bool v.b, .bool v.c, .bool v.d]
abbrev ts13 (v : V4 (List UInt8)) : Array Value := #[sv9 v.a, sv9 v.b, sv9 v.c, sv9 v.d]
abbrev cells13 (q : Q13) : Array Value := #[.int .i64 q.lo, .int .i64 q.hi, .bool q.g.a, .bool q.g.b, .bool q.g.c, .bool q.g.d, .bool q.h.a, .bool q.h.b, .bool q.h.c, .bool q.h.d, sv9 q.f.a, sv9 q.f.b, sv9 q.f.c, sv9 q.f.d]
abbrev qv13 (q : Q13) : Value := .agg (cells13 q)

theorem eq_bools13 (d : Nat) (v u : V4 Bool) (w : World) :
    (Op.equalIn (d + 2) 22 (.agg (bs13 v)) (.agg (bs13 u))).run Try.prog w = .ok (decide (v = u)) w := by
  have u3 := Try.underlying4
  have a3' := Try.isAgg4
  have z3 := Try.sizeOf4
  obtain ⟨a0, a1, a2, a3⟩ := v
  obtain ⟨b0, b1, b2, b3⟩ := u
  rw [Op.equalIn]
  simp only [Sem.run_bind, run_underlying Try.underlying22, Result.andThen_ok]
  simp only [Std.Legacy.Range.forIn_eq_forIn_range', Std.Legacy.Range.size, Nat.sub_zero, Nat.add_sub_cancel, Nat.div_one, List.range'_succ, List.range'_zero, List.forIn_cons, List.forIn_nil]
  go_simp
  by_cases h0 : a0 = b0 <;> by_cases h1 : a1 = b1 <;> by_cases h2 : a2 = b2 <;> by_cases h3 : a3 = b3 <;> simp [h0, h1, h2, h3]
theorem eq_four13 (d : Nat) (v u : V4 (List UInt8)) (w : World) :
    (Op.equalIn (d + 2) 23 (.agg (ts13 v)) (.agg (ts13 u))).run Try.prog w = .ok (decide (v = u)) w := by
  rw [eq_texts9]
  obtain ⟨a0, a1, a2, a3⟩ := v
  obtain ⟨b0, b1, b2, b3⟩ := u
  by_cases h0 : a0 = b0 <;> by_cases h1 : a1 = b1 <;> by_cases h2 : a2 = b2 <;> by_cases h3 : a3 = b3 <;> simp [h0, h1, h2, h3]
theorem eq_query13 (d : Nat) (p q : Q13) (w : World) : (Op.equalIn (d + 3) 25 (qv13 p) (qv13 q)).run Try.prog w = .ok (decide (p = q)) w := by
  have hS : Try.prog.underlying 25 = some (.struct (Try.prog.fieldsOf 25)) := by kernel_rfl
  have hp : Try.prog.stoodInHeld 25 = false := by kernel_rfl
  have u2 := Try.underlying2
  have i2 := Try.isAgg2
  have z2 := Try.sizeOf2
  have i4 := Try.isAgg23
  have z4 := Try.sizeOf23
  have i5 := Try.isAgg22
  have z5 := Try.sizeOf22
  have k1 := eq_bools13 d p.g q.g
  have k2 := eq_bools13 d p.h q.h
  have k3 := eq_four13 d p.f q.f
  rw [run_equalIn_agg w (d + 2) 25 _ _ hS hp]
  simp only [Program.fieldsOf, Try.underlying25]
  go_simp
  obtain ⟨lo, hi, g, h, f⟩ := p
  obtain ⟨lo', hi', g', h', f'⟩ := q
  by_cases h0 : lo = lo' <;> by_cases h1 : hi = hi' <;> by_cases h2 : g = g' <;> by_cases h3 : h = h' <;> by_cases h4 : f = f' <;> simp [h0, h1, h2, h3, h4]
theorem run_neq_query13 (p q : Q13) (w : World) : (binOp .neq 25 (qv13 p) (qv13 q)).run Try.prog w = .ok (.bool (!decide (p = q))) w := by
  rw [run_neq_struct, show (10000 : Nat) = 9997 + 3 from rfl, eq_query13]
  rfl
theorem run_eql_query13 (p q : Q13) (w : World) : (binOp .eql 25 (qv13 p) (qv13 q)).run Try.prog w = .ok (.bool (decide (p = q))) w := by
  rw [run_eql_struct, show (10000 : Nat) = 9997 + 3 from rfl, eq_query13]
  rfl
theorem run_neq_bools13 (p q : V4 Bool) (w : World) : (binOp .neq 22 (.agg (bs13 p)) (.agg (bs13 q))).run Try.prog w = .ok (.bool (!decide (p = q))) w := by
  rw [run_neq_struct, show (10000 : Nat) = 9998 + 2 from rfl, eq_bools13]
  rfl
theorem run_neq_four13 (p q : V4 (List UInt8)) (w : World) : (binOp .neq 23 (.agg (ts13 p)) (.agg (ts13 q))).run Try.prog w = .ok (.bool (!decide (p = q))) w := by
  rw [run_neq_struct, show (10000 : Nat) = 9998 + 2 from rfl, eq_four13]
  rfl
theorem run_eql_four13 (p q : V4 (List UInt8)) (w : World) : (binOp .eql 23 (.agg (ts13 p)) (.agg (ts13 q))).run Try.prog w = .ok (.bool (decide (p = q))) w := by
  rw [run_eql_struct, show (10000 : Nat) = 9998 + 2 from rfl, eq_four13]
  rfl
theorem guard_query13 (op : BinOp) (x y : Operand) (f g : Q13) (w : World) : (eqGuard op 25 x y (qv13 f) (qv13 g)).run Try.prog w = .ok () w := run_eqGuard_agg w op _ x y _ _ (by kernel_rfl)
theorem guard_bools13 (op : BinOp) (x y : Operand) (f g : V4 Bool) (w : World) : (eqGuard op 22 x y (.agg (bs13 f)) (.agg (bs13 g))).run Try.prog w = .ok () w := run_eqGuard_agg w op _ x y _ _ (by kernel_rfl)
theorem guard_four13 (op : BinOp) (x y : Operand) (f g : V4 (List UInt8)) (w : World) : (eqGuard op 23 x y (.agg (ts13 f)) (.agg (ts13 g))).run Try.prog w = .ok () w := run_eqGuard_agg w op _ x y _ _ (by kernel_rfl)

theorem nth_bs13 (v : V4 Bool) {i : Nat} (hi : i < 4) : (bs13 v)[i]? = some (.bool (v.nth i)) := by
  match i, hi with
  | 0, _ => rfl
  | 1, _ => rfl
  | 2, _ => rfl
  | 3, _ => rfl
theorem nth_ts13 (v : V4 (List UInt8)) {i : Nat} (hi : i < 4) : (ts13 v)[i]? = some (sv9 (v.nth i)) := by
  match i, hi with
  | 0, _ => rfl
  | 1, _ => rfl
  | 2, _ => rfl
  | 3, _ => rfl
theorem put_bs13 (v : V4 Bool) (x : Bool) {i : Nat} (hi : i < 4) : (bs13 v).setIfInBounds i (.bool x) = bs13 (v.put i x) := by
  match i, hi with
  | 0, _ => rfl
  | 1, _ => rfl
  | 2, _ => rfl
  | 3, _ => rfl
theorem put_ts13 (v : V4 (List UInt8)) (x : List UInt8) {i : Nat} (hi : i < 4) : (ts13 v).setIfInBounds i (sv9 x) = ts13 (v.put i x) := by
  match i, hi with
  | 0, _ => rfl
  | 1, _ => rfl
  | 2, _ => rfl
  | 3, _ => rfl
theorem index_bs13 (v : V4 Bool) {i : Nat} (hi : i < 4) (W : World) : Sem.run Try.prog (Instr.index 22 (.agg (bs13 v)) (.int .i64 (i : Int))) W = .ok (.bool (v.nth i)) W := by
  match i, hi with
  | 0, _ => rfl
  | 1, _ => rfl
  | 2, _ => rfl
  | 3, _ => rfl
/-- A query's parts, by their places. -/
theorem q_group13 (q : Q13) {i : Nat} (hi : i < 4) : (cells13 q)[2 + i]? = some (.bool (q.g.nth i)) := by
  match i, hi with
  | 0, _ => rfl
  | 1, _ => rfl
  | 2, _ => rfl
  | 3, _ => rfl
theorem q_has13 (q : Q13) {i : Nat} (hi : i < 4) : (cells13 q)[6 + i]? = some (.bool (q.h.nth i)) := by
  match i, hi with
  | 0, _ => rfl
  | 1, _ => rfl
  | 2, _ => rfl
  | 3, _ => rfl
theorem q_text13 (q : Q13) {i : Nat} (hi : i < 4) : (cells13 q)[10 + i]? = some (sv9 (q.f.nth i)) := by
  match i, hi with
  | 0, _ => rfl
  | 1, _ => rfl
  | 2, _ => rfl
  | 3, _ => rfl
theorem put_group13 (q : Q13) (x : Bool) {i : Nat} (hi : i < 4) : (cells13 q).setIfInBounds (2 + i) (.bool x) = cells13 { q with g := q.g.put i x } := by
  match i, hi with
  | 0, _ => rfl
  | 1, _ => rfl
  | 2, _ => rfl
  | 3, _ => rfl
theorem put_has13 (q : Q13) (x : Bool) {i : Nat} (hi : i < 4) : (cells13 q).setIfInBounds (6 + i) (.bool x) = cells13 { q with h := q.h.put i x } := by
  match i, hi with
  | 0, _ => rfl
  | 1, _ => rfl
  | 2, _ => rfl
  | 3, _ => rfl
theorem put_text13 (q : Q13) (x : List UInt8) {i : Nat} (hi : i < 4) : (cells13 q).setIfInBounds (10 + i) (sv9 x) = cells13 { q with f := q.f.put i x } := by
  match i, hi with
  | 0, _ => rfl
  | 1, _ => rfl
  | 2, _ => rfl
  | 3, _ => rfl
/-- A query's box, cell by cell. -/
theorem box_query13 {w : World} {g : Nat} {q : Q13} (h : Box w g 25 (cells13 q)) : w.cell? ⟨g, 0, none⟩ = some (.int .i64 q.lo) ∧ w.cell? ⟨g, 1, none⟩ = some (.int .i64 q.hi) ∧
    w.cell? ⟨g, 2, none⟩ = some (.bool q.g.a) ∧ w.cell? ⟨g, 3, none⟩ = some (.bool q.g.b) ∧ w.cell? ⟨g, 4, none⟩ = some (.bool q.g.c) ∧ w.cell? ⟨g, 5, none⟩ = some (.bool q.g.d) ∧
    w.cell? ⟨g, 6, none⟩ = some (.bool q.h.a) ∧ w.cell? ⟨g, 7, none⟩ = some (.bool q.h.b) ∧ w.cell? ⟨g, 8, none⟩ = some (.bool q.h.c) ∧ w.cell? ⟨g, 9, none⟩ = some (.bool q.h.d) ∧
    w.cell? ⟨g, 10, none⟩ = some (sv9 q.f.a) ∧ w.cell? ⟨g, 11, none⟩ = some (sv9 q.f.b) ∧ w.cell? ⟨g, 12, none⟩ = some (sv9 q.f.c) ∧ w.cell? ⟨g, 13, none⟩ = some (sv9 q.f.d) :=
  ⟨h.cell 0, h.cell 1, h.cell 2, h.cell 3, h.cell 4, h.cell 5, h.cell 6, h.cell 7, h.cell 8, h.cell 9, h.cell 10, h.cell 11, h.cell 12, h.cell 13⟩
theorem box_key13 {w : World} {g : Nat} {k : K9} (h : Box w g 27 #[.int .i64 k.h, sv9 k.a, sv9 k.b, sv9 k.c, sv9 k.d]) : w.cell? ⟨g, 0, none⟩ = some (.int .i64 k.h) ∧ w.cell? ⟨g, 1, none⟩ = some (sv9 k.a) ∧
    w.cell? ⟨g, 2, none⟩ = some (sv9 k.b) ∧ w.cell? ⟨g, 3, none⟩ = some (sv9 k.c) ∧ w.cell? ⟨g, 4, none⟩ = some (sv9 k.d) := ⟨h.cell 0, h.cell 1, h.cell 2, h.cell 3, h.cell 4⟩

end Go.Proofs.Ytieffpngknglpaa
