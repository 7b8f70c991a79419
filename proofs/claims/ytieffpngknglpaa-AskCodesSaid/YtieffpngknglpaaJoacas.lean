/-
  Texts laid one behind the other: Zk Es.
-/
import Derived.Test.YtieffpngknglpaaJoacaf
import Derived.Laws.StructEq
import Derived.Test.YtieffpngknglpaaJoacae
import Derived.Laws.OwnMore

/-
  Stage 9: keys and facts held against each other by ==.
-/
namespace Go.Proofs.Ytieffpngknglpaa
open Go.RowKit

theorem bytes_beq9 (a b : List UInt8) : ((⟨a.toArray⟩ : ByteArray).toList == (⟨b.toArray⟩ : ByteArray).toList) = decide (a = b) := by
  rw [ByteArray.toList_eq, ByteArray.toList_eq]
  by_cases h : a = b
  · subst h; simp
  · simp [h]
theorem eq_texts9 (d : Nat) (a0 a1 a2 a3 b0 b1 b2 b3 : List UInt8) (w : World) :
    (Op.equalIn (d + 2) 23 (.agg #[sv9 a0, sv9 a1, sv9 a2, sv9 a3]) (.agg #[sv9 b0, sv9 b1, sv9 b2, sv9 b3])).run Try.prog w = .ok (decide (a0 = b0) && decide (a1 = b1) && decide (a2 = b2) && decide (a3 = b3)) w := by
  have u3 := Try.underlying9
  have a3' := Try.isAgg9
  have z3 := Try.sizeOf9
  rw [Op.equalIn]
  simp only [Sem.run_bind, run_underlying Try.underlying23, Result.andThen_ok]
  simp only [Std.Legacy.Range.forIn_eq_forIn_range', Std.Legacy.Range.size, Nat.sub_zero, Nat.add_sub_cancel, Nat.div_one, List.range'_succ, List.range'_zero, List.forIn_cons, List.forIn_nil]
  go_simp
  by_cases h0 : a0 = b0 <;> by_cases h1 : a1 = b1 <;> by_cases h2 : a2 = b2 <;> by_cases h3 : a3 = b3 <;> simp [h0, h1, h2, h3]

theorem eq_key9 (d : Nat) (p q : K9) (w : World) : (Op.equalIn (d + 3) 27 (kv9 p) (kv9 q)).run Try.prog w = .ok (decide (p = q)) w := by
  have hS : Try.prog.underlying 27 = some (.struct (Try.prog.fieldsOf 27)) := by kernel_rfl
  have hp : Try.prog.stoodInHeld 27 = false := by kernel_rfl
  have u2 := Try.underlying2
  have i2 := Try.isAgg2
  have z2 := Try.sizeOf2
  have i4 := Try.isAgg23
  have z4 := Try.sizeOf23
  have key := eq_texts9 d p.a p.b p.c p.d q.a q.b q.c q.d
  rw [run_equalIn_agg w (d + 2) 27 _ _ hS hp]
  simp only [Program.fieldsOf, Try.underlying27]
  go_simp
  obtain ⟨h, a, b, c, e⟩ := p
  obtain ⟨h', a', b', c', e'⟩ := q
  by_cases h0 : h = h' <;> by_cases h1 : a = a' <;> by_cases h2 : b = b' <;> by_cases h3 : c = c' <;> by_cases h4 : e = e' <;> simp [h0, h1, h2, h3, h4]
theorem eq_fact9 (d : Nat) (f g : F9) (w : World) : (Op.equalIn (d + 4) 77 (fv9 f) (fv9 g)).run Try.prog w = .ok (decide (f = g)) w := by
  have hS : Try.prog.underlying 77 = some (.struct (Try.prog.fieldsOf 77)) := by kernel_rfl
  have hp : Try.prog.stoodInHeld 77 = false := by kernel_rfl
  have u2 := Try.underlying2
  have i2 := Try.isAgg2
  have z2 := Try.sizeOf2
  have i4 := Try.isAgg27
  have z4 := Try.sizeOf27
  have key := eq_key9 d f.k g.k
  rw [run_equalIn_agg w (d + 3) 77 _ _ hS hp]
  simp only [Program.fieldsOf, Try.underlying77]
  go_simp
  obtain ⟨k, v⟩ := f
  obtain ⟨k', v'⟩ := g
  by_cases h0 : k = k' <;> by_cases h1 : v = v' <;> simp [h0, h1]
theorem run_neq_fact (f g : F9) (w : World) : (binOp .neq 77 (fv9 f) (fv9 g)).run Try.prog w = .ok (.bool (!decide (f = g))) w := by
  rw [run_neq_struct, show (10000 : Nat) = 9996 + 4 from rfl, eq_fact9]
  rfl
theorem run_eql_fact (f g : F9) (w : World) : (binOp .eql 77 (fv9 f) (fv9 g)).run Try.prog w = .ok (.bool (decide (f = g))) w := by
  rw [run_eql_struct, show (10000 : Nat) = 9996 + 4 from rfl, eq_fact9]
  rfl
theorem run_neq_key (p q : K9) (w : World) : (binOp .neq 27 (kv9 p) (kv9 q)).run Try.prog w = .ok (.bool (!decide (p = q))) w := by
  rw [run_neq_struct, show (10000 : Nat) = 9997 + 3 from rfl, eq_key9]
  rfl
theorem run_eql_key (p q : K9) (w : World) : (binOp .eql 27 (kv9 p) (kv9 q)).run Try.prog w = .ok (.bool (decide (p = q))) w := by
  rw [run_eql_struct, show (10000 : Nat) = 9997 + 3 from rfl, eq_key9]
  rfl
theorem guard_fact9 (op : BinOp) (x y : Operand) (f g : F9) (w : World) : (eqGuard op 77 x y (fv9 f) (fv9 g)).run Try.prog w = .ok () w := run_eqGuard_agg w op _ x y _ _ (by kernel_rfl)
theorem guard_key9 (op : BinOp) (x y : Operand) (p q : K9) (w : World) : (eqGuard op 27 x y (kv9 p) (kv9 q)).run Try.prog w = .ok () w := run_eqGuard_agg w op _ x y _ _ (by kernel_rfl)

end Go.Proofs.Ytieffpngknglpaa

/-
  A struct stored whole into a box, in a region that draws. No type is named here.
-/
namespace Go.Proofs.Ytieffpngknglpaa
open Go.RowKit

theorem put_box {P : Program} {ops : Array Oper} {ty rt : TypeId} {pos : String} {af : Array Edge} {px vx : Operand} {a : Act} {w : World} {K : Act → World → Prop} {Q : Exit → Act → World → Prop} {F : Prop}
    (b o : Nat) (cs : Array Value) (ht : w.there b o cs.size) (hp : a.eval px = .pointer (some ⟨b, o, none⟩)) (hv : a.eval vx = .agg cs) (hi : (P.info? ty).map (·.size) = some cs.size) (h1 : cs.all (·.oneCell') = true)
    (h : K a (w.setCells b o cs.toList)) :
    if Region.wanted { dst := none, op := .store ty px vx, type := rt, pos := pos, after := af, guard := none } (yielded ops a.tmps) = true then Oper.wp P { dst := none, op := .store ty px vx, type := rt, pos := pos, after := af, guard := none } a w K Q else F := by
  rw [if_pos (by rfl)]
  exact wp_store_mid ty px vx rfl b o cs hp hv ht hi h1 h
/-- A box, whole: there to be stored into. -/
theorem Box.there {w : World} {g : Nat} {t : TypeId} {cs : Array Value} (h : Box w g t cs) {n : Nat} (hn : n ≤ cs.size) : w.there g 0 n := fun i hi => by
  refine ⟨?_, h.free _⟩
  rw [h.cell, Nat.zero_add, Array.getElem?_eq_getElem (by omega)]
  rfl
/-- A box stored whole. -/
theorem Box.all {w : World} {g : Nat} {t : TypeId} {cs : Array Value} (h : Box w g t cs) (ds : Array Value) (hd : ds.size = cs.size) : Box (w.setCells g 0 ds.toList) g t ds := by
  have h1 := h.setCells ds.toList 0 cs w (by rw [Array.length_toList]; omega)
  have e : (cs.toList.take 0 ++ ds.toList ++ cs.toList.drop (0 + ds.toList.length)).toArray = ds := by
    rw [List.take_zero, List.nil_append, Nat.zero_add, List.drop_of_length_le (by rw [Array.length_toList, Array.length_toList]; omega), List.append_nil, Array.toArray_toList]
  rwa [e] at h1

section
variable {T : Type} {E : El T} {e : TypeId} {w : World} {ad : Addr} {n c : Nat} {L : List T}
/-- One element stored into a row, in a region that draws nothing. -/
theorem wpList_put {P : Program} {ops : Array Oper} {rest : List Oper} {op : Oper} {a : Act} {Q : Exit → Act → World → Prop} (hgd : op.guard = none) (ty : TypeId) (x y : Operand) (ho : op.op = .store ty x y)
    (hown : OwE E e w (.slice (some ad) n c) L) (j : Nat) (t : T) (hj : j < L.length) (hx : a.eval x = .pointer (some (ad.add (j * E.sz)))) (hy : a.eval y = .agg (E.enc t).toArray) (hi : (P.info? ty).map (·.size) = some E.sz)
    (h : ∀ w', OwE E e w' (.slice (some ad) n c) (L.set j t) → Turn (fun k => k = ad.block) w w' → wpList P ops Q rest (a.put op.dst undef) w') : wpList P ops Q (op :: rest) a w := by
  obtain ⟨cur, ha, -⟩ := hown.home
  have hadd : ad.add (j * E.sz) = ⟨ad.block, ad.off + j * E.sz, none⟩ := by
    obtain ⟨b, o, s⟩ := ad
    simp only [Addr.mk.injEq, true_and] at ha
    obtain ⟨rfl, rfl⟩ := ha
    rw [own_add, Nat.zero_add]
  refine wpList_store_mid hgd ty x y ho ad.block (ad.off + j * E.sz) (E.enc t).toArray (by rw [hx, hadd]) hy (by rw [List.size_toArray, E.len]; exact hown.there hj) (by rw [List.size_toArray, E.len]; exact hi) (all_oneCell_toArray (E.one t)) ?_
  exact h _ (hown.put hj t) (turn_setCells (S := fun k => k = ad.block) rfl _ _ _)
/-- The cells that make lays: so many zeros. -/
theorem made_flat (t : T) (h0 : 0 < E.sz) (N : Nat) : (madeCells (E.enc t).toArray (N * E.sz)).toList = E.flat (List.replicate N t) := by
  refine List.ext_getElem? fun j => ?_
  have hfl : (E.flat (List.replicate N t)).length = N * E.sz := by rw [E.flat_len, List.length_replicate]
  by_cases hj : j < N * E.sz
  · have hm : j % E.sz < E.sz := Nat.mod_lt _ h0
    have hd : j / E.sz < N := Nat.div_lt_of_lt_mul (by rw [Nat.mul_comm]; exact hj)
    have e := E.flat_at (l := List.replicate N t) (j := j / E.sz) (t := t) (by rw [List.getElem?_replicate, if_pos hd]) hm
    rw [Nat.mul_comm, Nat.div_add_mod] at e
    rw [e]
    have hmz : j % E.sz < (E.enc t).length := by rw [E.len]; exact hm
    simp [madeCells, hj, E.len]
    rw [List.getElem?_eq_getElem hmz]
    rfl
  · rw [List.getElem?_eq_none (by rw [Array.length_toList, size_madeCells]; omega), List.getElem?_eq_none (by omega)]
end

end Go.Proofs.Ytieffpngknglpaa
