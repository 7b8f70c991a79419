
/-
  A struct stored whole into a box, in a region that draws. No type is named here.
-/
import Derived.Test.YtieffpngknglpaaEr
import Derived.Laws.OwnMore
namespace Go.Proofs.Ytieffpngknglpaa
open Go.RowKit

theorem put_box {P : Program} {ops : Array Oper} {ty rt : TypeId} {pos : String} {af : Array Edge} {px vx : Operand} {a : Act} {w : World} {K : Act → World → Prop} {Q : Exit → Act → World → Prop} {F : Prop}
    (b o : Nat) (cs : Array Value) (ht : w.there b o cs.size) (hp : a.eval px = .pointer (some ⟨b, o, none⟩)) (hv : a.eval vx = .agg cs) (hi : (P.info? ty).map (·.size) = some cs.size) (h1 : cs.all (·.oneCell') = true)
    (h : K a (w.setCells b o cs.toList)) :
    if Region.wanted { dst := none, op := .store ty px vx, type := rt, pos := pos, after := af, guard := none } (yielded ops a.tmps) = true then Oper.wp P { dst := none, op := .store ty px vx, type := rt, pos := pos, after := af, guard := none } a w K Q else F := by
  rw [if_pos (by rfl)]
  exact wp_store_mid ty px vx rfl b o cs hp hv ht hi h1 h
/-- A box, whole: there to be stored into. -/
theorem Box.there {w : World} {g : Nat} {t : TypeId} {cs : Array Value} (h : Box w g t cs) {n : Nat} (hn : n ≤ cs.size) : w.there g 0 n := fun i hi => by
  refine ⟨?_, h.free _⟩
  rw [h.cell, Nat.zero_add, Array.getElem?_eq_getElem (by omega)]
  rfl
/-- A box stored whole. -/
theorem Box.all {w : World} {g : Nat} {t : TypeId} {cs : Array Value} (h : Box w g t cs) (ds : Array Value) (hd : ds.size = cs.size) : Box (w.setCells g 0 ds.toList) g t ds := by
  have h1 := h.setCells ds.toList 0 cs w (by rw [Array.length_toList]; omega)
  have e : (cs.toList.take 0 ++ ds.toList ++ cs.toList.drop (0 + ds.toList.length)).toArray = ds := by
    rw [List.take_zero, List.nil_append, Nat.zero_add, List.drop_of_length_le (by rw [Array.length_toList, Array.length_toList]; omega), List.append_nil, Array.toArray_toList]
  rwa [e] at h1

section
variable {T : Type} {E : El T} {e : TypeId} {w : World} {ad : Addr} {n c : Nat} {L : List T}
/-- One element stored into a row, in a region that draws nothing. -/
theorem wpList_put {P : Program} {ops : Array Oper} {rest : List Oper} {op : Oper} {a : Act} {Q : Exit → Act → World → Prop} (hgd : op.guard = none) (ty : TypeId) (x y : Operand) (ho : op.op = .store ty x y)
    (hown : OwE E e w (.slice (some ad) n c) L) (j : Nat) (t : T) (hj : j < L.length) (hx : a.eval x = .pointer (some (ad.add (j * E.sz)))) (hy : a.eval y = .agg (E.enc t).toArray) (hi : (P.info? ty).map (·.size) = some E.sz)
    (h : ∀ w', OwE E e w' (.slice (some ad) n c) (L.set j t) → Turn (fun k => k = ad.block) w w' → wpList P ops Q rest (a.put op.dst undef) w') : wpList P ops Q (op :: rest) a w := by
  obtain ⟨cur, ha, -⟩ := hown.home
  have hadd : ad.add (j * E.sz) = ⟨ad.block, ad.off + j * E.sz, none⟩ := by
    obtain ⟨b, o, s⟩ := ad
    simp only [Addr.mk.injEq, true_and] at ha
    obtain ⟨rfl, rfl⟩ := ha
    rw [own_add, Nat.zero_add]
  refine wpList_store_mid hgd ty x y ho ad.block (ad.off + j * E.sz) (E.enc t).toArray (by rw [hx, hadd]) hy (by rw [List.size_toArray, E.len]; exact hown.there hj) (by rw [List.size_toArray, E.len]; exact hi) (all_oneCell_toArray (E.one t)) ?_
  exact h _ (hown.put hj t) (turn_setCells (S := fun k => k = ad.block) rfl _ _ _)
/-- The cells that make lays: so many zeros. -/
theorem made_flat (t : T) (h0 : 0 < E.sz) (N : Nat) : (madeCells (E.enc t).toArray (N * E.sz)).toList = E.flat (List.replicate N t) := by
  refine List.ext_getElem? fun j => ?_
  have hfl : (E.flat (List.replicate N t)).length = N * E.sz := by rw [E.flat_len, List.length_replicate]
  by_cases hj : j < N * E.sz
  · have hm : j % E.sz < E.sz := Nat.mod_lt _ h0
    have hd : j / E.sz < N := Nat.div_lt_of_lt_mul (by rw [Nat.mul_comm]; exact hj)
    have e := E.flat_at (l := List.replicate N t) (j := j / E.sz) (t := t) (by rw [List.getElem?_replicate, if_pos hd]) hm
    rw [Nat.mul_comm, Nat.div_add_mod] at e
    rw [e]
    have hmz : j % E.sz < (E.enc t).length := by rw [E.len]; exact hm
    simp [madeCells, hj, E.len]
    rw [List.getElem?_eq_getElem hmz]
    rfl
  · rw [List.getElem?_eq_none (by rw [Array.length_toList, size_madeCells]; omega), List.getElem?_eq_none (by omega)]
end

end Go.Proofs.Ytieffpngknglpaa
