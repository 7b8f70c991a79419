/-
  Texts laid one behind the other: Er Gf.
-/
import Derived.Test.YtieffpngknglpaaJoacad
import Derived.Deep.MidRow
import Derived.Test.YtieffpngknglpaaJoacac
import Derived.ProofKit
import Derived.OpenShut
import Derived.Deep.Slices
import Derived.Deep.Fields
import Derived.Deep.Strs

/-
  Rows of elements of any size: one element stored, the row cut, cleared. No type is named here.
-/
namespace Go.Proofs.Ytieffpngknglpaa
open Go.RowKit

theorem Box.setCells {g : Nat} {t : TypeId} : ∀ (vs : List Value) (o : Nat) (cs : Array Value) (w : World), Box w g t cs → o + vs.length ≤ cs.size → Box (w.setCells g o vs) g t (cs.toList.take o ++ vs ++ cs.toList.drop (o + vs.length)).toArray
  | [], o, cs, w, h, _ => by simpa [World.setCells] using h
  | v :: r, o, cs, w, h, hl => by
    have hl1 : o + (r.length + 1) ≤ cs.size := hl
    have h1 := Box.setCells r (o + 1) (cs.setIfInBounds o v) _ (h.set o v) (by simp; omega)
    unfold World.setCells
    have e : (cs.setIfInBounds o v).toList.take (o + 1) ++ r ++ (cs.setIfInBounds o v).toList.drop (o + 1 + r.length) = cs.toList.take o ++ (v :: r) ++ cs.toList.drop (o + (v :: r).length) := by
      have hlt : o < cs.toList.length := by simp; omega
      rw [Array.toList_setIfInBounds, List.drop_set_of_lt (by omega), List.set_eq_take_append_cons_drop, if_pos hlt, List.length_cons, show o + 1 + r.length = o + (r.length + 1) by omega]
      have e2 : (cs.toList.take o).length = o := by rw [List.length_take]; omega
      rw [List.take_append, e2, List.take_of_length_le (by omega), show o + 1 - o = 1 by omega]
      simp
    rw [e] at h1
    exact h1
theorem turn_setCells {S : Nat → Prop} {g : Nat} (hg : S g) : ∀ (vs : List Value) (o : Nat) (w : World), Turn S w (w.setCells g o vs)
  | [], _, w => Turn.refl _ w
  | v :: r, o, w => (Turn.setCell (S := S) (p := ⟨g, o, none⟩) (Turn.refl S w) (fun _ => hg) v).trans (turn_setCells hg r (o + 1) _) (fun _ _ h => h)

section
variable {T : Type} {E : El T} {e : TypeId} {w : World} {ad : Addr} {n c : Nat} {L : List T}
theorem OwE.home (h : OwE E e w (.slice (some ad) n c) L) : ∃ cur, ad = ⟨ad.block, 0, none⟩ ∧ n = L.length ∧ Box w ad.block e cur ∧ L.length ≤ c ∧ c ≤ maxLen ∧ cur.size = c * E.sz ∧ cur.toList.take (L.length * E.sz) = E.flat L := by
  rcases h.form with ⟨e1, _⟩ | ⟨g, cap, cur, e1, hb, h1, h2, h3, h4⟩
  · cases e1
  · injection e1 with e1 e2 e3
    injection e1 with e1
    subst e1 e2 e3
    exact ⟨cur, rfl, rfl, hb, h1, h2, h3, h4⟩
theorem OwE.of_box {cur : Array Value} {g : Nat} (hb : Box w g e cur) (h1 : L.length ≤ c) (h2 : c ≤ maxLen) (h3 : cur.size = c * E.sz) (h4 : cur.toList.take (L.length * E.sz) = E.flat L) : OwE E e w (.slice (some ⟨g, 0, none⟩) L.length c) L :=
  ⟨E.flat_len L, .inr ⟨g, c, cur, rfl, Nat.zero_le _, hb, h1, h2, h3, h4⟩⟩
theorem El.flat_set (E : El T) {j : Nat} (hj : j < L.length) (x : T) : E.flat (L.set j x) = (E.flat L).take (j * E.sz) ++ E.enc x ++ (E.flat L).drop (j * E.sz + E.sz) := by
  rw [List.set_eq_take_append_cons_drop, if_pos hj, E.flat_append, E.flat_cons, E.flat_take, E.flat_drop, Nat.add_mul, Nat.one_mul, List.append_assoc]
/-- One element stored. -/
theorem OwE.put (h : OwE E e w (.slice (some ad) n c) L) {j : Nat} (hj : j < L.length) (x : T) : OwE E e (w.setCells ad.block (ad.off + j * E.sz) (E.enc x)) (.slice (some ad) n c) (L.set j x) := by
  obtain ⟨cur, ha, hn, hb, h1, h2, h3, h4⟩ := h.home
  have hoff : ad.off = 0 := by rw [ha]
  rw [hoff, Nat.zero_add, ha, hn]
  have hsz : L.length * E.sz ≤ cur.size := by rw [h3]; exact Nat.mul_le_mul_right _ h1
  have hj2 : j * E.sz + E.sz ≤ L.length * E.sz := by rw [← Nat.succ_mul]; exact Nat.mul_le_mul_right _ hj
  have hbox := Box.setCells (E.enc x) (j * E.sz) cur w hb (by rw [E.len]; omega)
  have hl : (L.set j x).length = L.length := List.length_set
  have hF : (E.flat L).length = L.length * E.sz := E.flat_len L
  have hcur : cur.toList = E.flat L ++ cur.toList.drop (L.length * E.sz) := by rw [← h4, List.take_append_drop]
  have e1 : cur.toList.take (j * E.sz) ++ E.enc x ++ cur.toList.drop (j * E.sz + (E.enc x).length) = E.flat (L.set j x) ++ cur.toList.drop (L.length * E.sz) := by
    rw [E.flat_set hj, E.len]
    have t1 : cur.toList.take (j * E.sz) = (E.flat L).take (j * E.sz) := by
      rw [hcur, List.take_append_of_le_length (by omega)]
    have t2 : cur.toList.drop (j * E.sz + E.sz) = (E.flat L).drop (j * E.sz + E.sz) ++ cur.toList.drop (L.length * E.sz) := by
      conv => lhs; rw [hcur]
      rw [List.drop_append_of_le_length (by omega)]
    rw [t1, t2]
    simp only [List.append_assoc]
  rw [e1] at hbox
  have hr := OwE.of_box (E := E) (L := L.set j x) (c := c) hbox (by rw [hl]; exact h1) h2 (by
    have hd : (cur.toList.drop (L.length * E.sz)).length = cur.size - L.length * E.sz := by rw [List.length_drop, Array.length_toList]
    rw [List.size_toArray, List.length_append, E.flat_len, hl, hd]
    omega) (by rw [hl]; dsimp only; rw [← hl, ← E.flat_len, List.take_left])
  rw [hl] at hr
  exact hr
theorem OwE.there (h : OwE E e w (.slice (some ad) n c) L) {j : Nat} (hj : j < L.length) : w.there ad.block (ad.off + j * E.sz) E.sz := by
  obtain ⟨cur, ha, hn, hb, h1, h2, h3, h4⟩ := h.home
  have hoff : ad.off = 0 := by rw [ha]
  intro i hi
  have hj2 : j * E.sz + E.sz ≤ L.length * E.sz := by rw [← Nat.succ_mul]; exact Nat.mul_le_mul_right _ hj
  have hsz : L.length * E.sz ≤ cur.size := by rw [h3]; exact Nat.mul_le_mul_right _ h1
  refine ⟨?_, hb.free _⟩
  rw [hb.cell, Array.getElem?_eq_getElem (by omega)]
  rfl
/-- The row cut. -/
theorem OwE.cut (h : OwE E e w (.slice (some ad) n c) L) {m : Nat} (hm : m ≤ L.length) : OwE E e w (.slice (some ad) m c) (L.take m) := by
  obtain ⟨cur, ha, hn, hb, h1, h2, h3, h4⟩ := h.home
  have hl : (L.take m).length = m := by rw [List.length_take]; omega
  have hr := OwE.of_box (E := E) (L := L.take m) (c := c) hb (by rw [hl]; omega) h2 h3 (by
    rw [hl, E.flat_take, ← h4, List.take_take, Nat.min_eq_left (Nat.mul_le_mul_right _ hm)])
  rw [hl, ← ha] at hr
  exact hr
/-- A store of one element, at the operation, in a region that draws. -/
theorem put_store {P : Program} {ops : Array Oper} {ty rt : TypeId} {pos : String} {af : Array Edge} {px vx : Operand} {a : Act} {K : Act → World → Prop} {Q : Exit → Act → World → Prop} {F : Prop}
    (hown : OwE E e w (.slice (some ad) n c) L) (j : Nat) (x : T) (hj : j < L.length) (hp : a.eval px = .pointer (some (ad.add (j * E.sz)))) (hv : a.eval vx = .agg (E.enc x).toArray) (hi : (P.info? ty).map (·.size) = some E.sz)
    (h : ∀ w', OwE E e w' (.slice (some ad) n c) (L.set j x) → Turn (fun k => k = ad.block) w w' → K a w') :
    if Region.wanted { dst := none, op := .store ty px vx, type := rt, pos := pos, after := af, guard := none } (yielded ops a.tmps) = true then Oper.wp P { dst := none, op := .store ty px vx, type := rt, pos := pos, after := af, guard := none } a w K Q else F := by
  rw [if_pos (by rfl)]
  obtain ⟨cur, ha, -⟩ := hown.home
  have hadd : ad.add (j * E.sz) = ⟨ad.block, ad.off + j * E.sz, none⟩ := by
    obtain ⟨b, o, s⟩ := ad
    simp only [Addr.mk.injEq, true_and] at ha
    obtain ⟨rfl, rfl⟩ := ha
    rw [own_add, Nat.zero_add]
  refine wp_store_mid ty px vx rfl ad.block (ad.off + j * E.sz) (E.enc x).toArray (by rw [hp, hadd]) hv (by rw [List.size_toArray, E.len]; exact hown.there hj) (by rw [List.size_toArray, E.len]; exact hi) (all_oneCell_toArray (E.one x)) ?_
  exact h _ (hown.put hj x) (turn_setCells (S := fun k => k = ad.block) rfl _ _ _)
/-- append, at the operation as it is written, in a region that draws. -/
theorem put_app {P : Program} {tS : TypeId} {z : Value} {by' : Nat} (ht : P.underlying tS = some (.slice e)) (hi0 : (P.info? e).map (fun i => (i.zero, i.size, i.bytes)) = some (some z, E.sz, by')) (hz : z.cells.size = E.sz) (hby : by' ≤ 1000)
    {w : World} {ops : Array Oper} {d : Option Nat} {ty : TypeId} {pos : String} {af : Array Edge} {s x : Operand} {a : Act} {K : Act → World → Prop} {Q : Exit → Act → World → Prop} {F : Prop} (l : List T) (hown : OwE E e w (a.eval s) l)
    (m : List T) (hy : RdE E w (a.eval x) m) (hl : l.length + m.length ≤ 3000000)
    (h : ∀ A n c w', OwE E e w' (.slice A n c) (l ++ m) → Turn (fun k => (a.eval s).ownBlock = some k) w w' → ((Value.slice A n c).ownBlock = (a.eval s).ownBlock ∨ (Value.slice A n c).ownBlock = some w.heap.size) → K (a.put d (.slice A n c)) w') :
    if Region.wanted { dst := d, op := .call { callee := .builtin .append, args := #[s, x], argTypes := #[tS, tS] }, type := ty, pos := pos, after := af, guard := none } (yielded ops a.tmps) = true then Oper.wp P { dst := d, op := .call { callee := .builtin .append, args := #[s, x], argTypes := #[tS, tS] }, type := ty, pos := pos, after := af, guard := none } a w K Q else F :=
  step_appE ht hi0 hz w rfl s x tS rfl (a.eval s) l rfl hown (a.eval x) rfl m (hy.src ht) (by simp only [maxLen]; omega) (Nat.le_trans (Nat.mul_le_mul hl hby) (by omega)) h
/-- One element's row, new. -/
theorem one_row (E : El T) (e : TypeId) (w : World) (x : T) : RdE E (w.alloc (.cells (E.enc x).toArray e)) (.slice (some ⟨w.heap.size, 0, none⟩) 1 1) [x] := by
  have h := (OwE.made (E := E) (e := e) w [x] (by show (1 : Nat) ≤ maxLen; simp [maxLen])).rd
  have e1 : E.flat [x] = E.enc x := by rw [El.flat_cons, El.flat_nil, List.append_nil]
  rw [e1] at h
  exact h
theorem OwE.some_at {A : Option Addr} (h : OwE E e w (.slice A n c) L) (h0 : 0 < L.length) : ∃ ad, A = some ad ∧ n = L.length := by
  rcases h.form with ⟨_, rfl⟩ | ⟨g, cap, cur, e1, _⟩
  · exact absurd h0 (by simp)
  · injection e1 with e1 e2 e3
    exact ⟨_, e1, e2⟩
end

end Go.Proofs.Ytieffpngknglpaa

/-
  A slice of elements of any size that came in. No type is named here.
-/
namespace Go.Proofs.Ytieffpngknglpaa
open Go.RowKit Go.ChangeShapes Go.WideShapes Go.Deep

theorem open_elems {P : Program} {H X : Type} [Inhabited X] {enc : TypeId × Value → H} {W : World} {T e : TypeId} (E : El X) (ok : X → Prop) {v : Value} {d : DataW H} {p : List MemPlace} {a : Option Addr} {len cap : Nat}
    (hT : P.underlying T = some (.slice e)) (hC : P.cellsOf e = E.sz) (hv : v = .slice a len cap) (h : DataW.Trod enc P W 0 (fun _ => true) true T v d p)
    (one : ∀ (n : Nat) (cs : List Value) (y : DataW H × List MemPlace), cs.length = E.sz → DataW.trod enc P W 0 (fun _ => true) true n e cs = some y → ∃ x, cs = E.enc x ∧ ok x) :
    ∃ l : List X, RdE E W v l ∧ l.length ≤ maxLen ∧ ∀ x ∈ l, ok x := by
  subst hv
  obtain ⟨fuel, hf⟩ := h
  rcases open_slice hT hf with ⟨hcs, _⟩ | ⟨a', len', cap', m, n, D, Pl, hcs, _, hl, hm, hmm, _, hx⟩
  · simp [Value.cells] at hcs
    obtain ⟨rfl, rfl, rfl⟩ := hcs
    exact ⟨[], RdE.nil W, Nat.zero_le _, fun x hx => by cases hx⟩
  · simp [Value.cells] at hcs
    obtain ⟨rfl, rfl, rfl⟩ := hcs
    have hmm' : m = cap := by simpa using hmm
    subst hmm'
    have key : ∀ i, i < len → ∃ x : X, (∀ j u, (E.enc x)[j]? = some u → W.cell? (a'.add (i * E.sz + j)) = some u) ∧ ok x := by
      intro i hi
      obtain ⟨cs, h1, h2⟩ := hx i (by omega)
      rw [hC] at h1
      obtain ⟨_, hlen, hcell⟩ := World.cells?_some h1
      obtain ⟨x, rfl, hok⟩ := one _ _ _ hlen h2
      refine ⟨x, fun j u hj => ?_, hok⟩
      have hjl : j < E.sz := by
        have := (List.getElem?_eq_some_iff.1 hj).1
        rwa [E.len] at this
      have hc := hcell j hjl
      rw [eadd_add] at hc
      rw [hc]
      exact hj
    obtain ⟨V, hV⟩ := choose_lt key
    have hll : ((List.range len).map V).length = len := by simp
    refine ⟨(List.range len).map V, ⟨some a', m, by rw [hll], ⟨by rw [hll]; omega, by omega⟩, (fun e => by cases e), fun ad e i u hi => ?_⟩, by rw [hll]; omega, fun x hx => ?_⟩
    · cases e
      have hil : i < len * E.sz := by
        have := (List.getElem?_eq_some_iff.1 hi).1
        rwa [E.flat_len, hll] at this
      have hs : 0 < E.sz := by
        rcases Nat.eq_zero_or_pos E.sz with c | c
        · rw [c] at hil; simp at hil
        · exact c
      have hq : i / E.sz < len := (Nat.div_lt_iff_lt_mul hs).2 hil
      have hr : i % E.sz < E.sz := Nat.mod_lt _ hs
      have hi2 : i = i / E.sz * E.sz + i % E.sz := by rw [Nat.mul_comm]; exact (Nat.div_add_mod i E.sz).symm
      have hVi : ((List.range len).map V)[i / E.sz]? = some (V (i / E.sz)) := by rw [List.getElem?_map, List.getElem?_range hq]; rfl
      rw [hi2, E.flat_at hVi hr] at hi
      have := (hV _ hq).1 _ _ hi
      rw [← hi2] at this
      exact this
    · obtain ⟨i, hi, rfl⟩ := List.mem_map.1 hx
      exact (hV i (List.mem_range.1 hi)).2

end Go.Proofs.Ytieffpngknglpaa
