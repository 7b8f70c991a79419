/-
  Texts laid one behind the other: Er Gf Lb Zb Zc Zd Ze Ob.
-/
import Derived.Test.YtklpmajaihmmfaaJocaa
import Derived.Deep.MidRow
import Derived.ProofKit
import Derived.OpenShut
import Derived.Deep.Slices
import Derived.Deep.Fields
import Derived.Deep.Strs
import Derived.WalkMore
import Derived.BigQuiet
import Derived.Laws.ResultCell

/-
  Rows of elements of any size: one element stored, the row cut, cleared. No type is named here.
-/
namespace Go.Proofs.Ytklpmajaihmmfaa
open Go.RowKit

theorem Box.setCells {g : Nat} {t : TypeId} : ∀ (vs : List Value) (o : Nat) (cs : Array Value) (w : World), Box w g t cs → o + vs.length ≤ cs.size → Box (w.setCells g o vs) g t (cs.toList.take o ++ vs ++ cs.toList.drop (o + vs.length)).toArray
  | [], o, cs, w, h, _ => by simpa [World.setCells] using h
  | v :: r, o, cs, w, h, hl => by
    have hl1 : o + (r.length + 1) ≤ cs.size := hl
    have h1 := Box.setCells r (o + 1) (cs.setIfInBounds o v) _ (h.set o v) (by simp; omega)
    unfold World.setCells
    have e : (cs.setIfInBounds o v).toList.take (o + 1) ++ r ++ (cs.setIfInBounds o v).toList.drop (o + 1 + r.length) = cs.toList.take o ++ (v :: r) ++ cs.toList.drop (o + (v :: r).length) := by
      have hlt : o < cs.toList.length := by simp; omega
      rw [Array.toList_setIfInBounds, List.drop_set_of_lt (by omega), List.set_eq_take_append_cons_drop, if_pos hlt, List.length_cons, show o + 1 + r.length = o + (r.length + 1) by omega]
      have e2 : (cs.toList.take o).length = o := by rw [List.length_take]; omega
      rw [List.take_append, e2, List.take_of_length_le (by omega), show o + 1 - o = 1 by omega]
      simp
    rw [e] at h1
    exact h1
theorem turn_setCells {S : Nat → Prop} {g : Nat} (hg : S g) : ∀ (vs : List Value) (o : Nat) (w : World), Turn S w (w.setCells g o vs)
  | [], _, w => Turn.refl _ w
  | v :: r, o, w => (Turn.setCell (S := S) (p := ⟨g, o, none⟩) (Turn.refl S w) (fun _ => hg) v).trans (turn_setCells hg r (o + 1) _) (fun _ _ h => h)

section
variable {T : Type} {E : El T} {e : TypeId} {w : World} {ad : Addr} {n c : Nat} {L : List T}
theorem OwE.home (h : OwE E e w (.slice (some ad) n c) L) : ∃ cur, ad = ⟨ad.block, 0, none⟩ ∧ n = L.length ∧ Box w ad.block e cur ∧ L.length ≤ c ∧ c ≤ maxLen ∧ cur.size = c * E.sz ∧ cur.toList.take (L.length * E.sz) = E.flat L := by
  rcases h.form with ⟨e1, _⟩ | ⟨g, cap, cur, e1, hb, h1, h2, h3, h4⟩
  · cases e1
  · injection e1 with e1 e2 e3
    injection e1 with e1
    subst e1 e2 e3
    exact ⟨cur, rfl, rfl, hb, h1, h2, h3, h4⟩
theorem OwE.of_box {cur : Array Value} {g : Nat} (hb : Box w g e cur) (h1 : L.length ≤ c) (h2 : c ≤ maxLen) (h3 : cur.size = c * E.sz) (h4 : cur.toList.take (L.length * E.sz) = E.flat L) : OwE E e w (.slice (some ⟨g, 0, none⟩) L.length c) L :=
  ⟨E.flat_len L, .inr ⟨g, c, cur, rfl, Nat.zero_le _, hb, h1, h2, h3, h4⟩⟩
theorem El.flat_set (E : El T) {j : Nat} (hj : j < L.length) (x : T) : E.flat (L.set j x) = (E.flat L).take (j * E.sz) ++ E.enc x ++ (E.flat L).drop (j * E.sz + E.sz) := by
  rw [List.set_eq_take_append_cons_drop, if_pos hj, E.flat_append, E.flat_cons, E.flat_take, E.flat_drop, Nat.add_mul, Nat.one_mul, List.append_assoc]
/-- One element stored. -/
theorem OwE.put (h : OwE E e w (.slice (some ad) n c) L) {j : Nat} (hj : j < L.length) (x : T) : OwE E e (w.setCells ad.block (ad.off + j * E.sz) (E.enc x)) (.slice (some ad) n c) (L.set j x) := by
  obtain ⟨cur, ha, hn, hb, h1, h2, h3, h4⟩ := h.home
  have hoff : ad.off = 0 := by rw [ha]
  rw [hoff, Nat.zero_add, ha, hn]
  have hsz : L.length * E.sz ≤ cur.size := by rw [h3]; exact Nat.mul_le_mul_right _ h1
  have hj2 : j * E.sz + E.sz ≤ L.length * E.sz := by rw [← Nat.succ_mul]; exact Nat.mul_le_mul_right _ hj
  have hbox := Box.setCells (E.enc x) (j * E.sz) cur w hb (by rw [E.len]; omega)
  have hl : (L.set j x).length = L.length := List.length_set
  have hF : (E.flat L).length = L.length * E.sz := E.flat_len L
  have hcur : cur.toList = E.flat L ++ cur.toList.drop (L.length * E.sz) := by rw [← h4, List.take_append_drop]
  have e1 : cur.toList.take (j * E.sz) ++ E.enc x ++ cur.toList.drop (j * E.sz + (E.enc x).length) = E.flat (L.set j x) ++ cur.toList.drop (L.length * E.sz) := by
    rw [E.flat_set hj, E.len]
    have t1 : cur.toList.take (j * E.sz) = (E.flat L).take (j * E.sz) := by
      rw [hcur, List.take_append_of_le_length (by omega)]
    have t2 : cur.toList.drop (j * E.sz + E.sz) = (E.flat L).drop (j * E.sz + E.sz) ++ cur.toList.drop (L.length * E.sz) := by
      conv => lhs; rw [hcur]
      rw [List.drop_append_of_le_length (by omega)]
    rw [t1, t2]
    simp only [List.append_assoc]
  rw [e1] at hbox
  have hr := OwE.of_box (E := E) (L := L.set j x) (c := c) hbox (by rw [hl]; exact h1) h2 (by
    have hd : (cur.toList.drop (L.length * E.sz)).length = cur.size - L.length * E.sz := by rw [List.length_drop, Array.length_toList]
    rw [List.size_toArray, List.length_append, E.flat_len, hl, hd]
    omega) (by rw [hl]; dsimp only; rw [← hl, ← E.flat_len, List.take_left])
  rw [hl] at hr
  exact hr
theorem OwE.there (h : OwE E e w (.slice (some ad) n c) L) {j : Nat} (hj : j < L.length) : w.there ad.block (ad.off + j * E.sz) E.sz := by
  obtain ⟨cur, ha, hn, hb, h1, h2, h3, h4⟩ := h.home
  have hoff : ad.off = 0 := by rw [ha]
  intro i hi
  have hj2 : j * E.sz + E.sz ≤ L.length * E.sz := by rw [← Nat.succ_mul]; exact Nat.mul_le_mul_right _ hj
  have hsz : L.length * E.sz ≤ cur.size := by rw [h3]; exact Nat.mul_le_mul_right _ h1
  refine ⟨?_, hb.free _⟩
  rw [hb.cell, Array.getElem?_eq_getElem (by omega)]
  rfl
/-- The row cut. -/
theorem OwE.cut (h : OwE E e w (.slice (some ad) n c) L) {m : Nat} (hm : m ≤ L.length) : OwE E e w (.slice (some ad) m c) (L.take m) := by
  obtain ⟨cur, ha, hn, hb, h1, h2, h3, h4⟩ := h.home
  have hl : (L.take m).length = m := by rw [List.length_take]; omega
  have hr := OwE.of_box (E := E) (L := L.take m) (c := c) hb (by rw [hl]; omega) h2 h3 (by
    rw [hl, E.flat_take, ← h4, List.take_take, Nat.min_eq_left (Nat.mul_le_mul_right _ hm)])
  rw [hl, ← ha] at hr
  exact hr
/-- A store of one element, at the operation, in a region that draws. -/
theorem put_store {P : Program} {ops : Array Oper} {ty rt : TypeId} {pos : String} {af : Array Edge} {px vx : Operand} {a : Act} {K : Act → World → Prop} {Q : Exit → Act → World → Prop} {F : Prop}
    (hown : OwE E e w (.slice (some ad) n c) L) (j : Nat) (x : T) (hj : j < L.length) (hp : a.eval px = .pointer (some (ad.add (j * E.sz)))) (hv : a.eval vx = .agg (E.enc x).toArray) (hi : (P.info? ty).map (·.size) = some E.sz)
    (h : ∀ w', OwE E e w' (.slice (some ad) n c) (L.set j x) → Turn (fun k => k = ad.block) w w' → K a w') :
    if Region.wanted { dst := none, op := .store ty px vx, type := rt, pos := pos, after := af, guard := none } (yielded ops a.tmps) = true then Oper.wp P { dst := none, op := .store ty px vx, type := rt, pos := pos, after := af, guard := none } a w K Q else F := by
  rw [if_pos (by rfl)]
  obtain ⟨cur, ha, -⟩ := hown.home
  have hadd : ad.add (j * E.sz) = ⟨ad.block, ad.off + j * E.sz, none⟩ := by
    obtain ⟨b, o, s⟩ := ad
    simp only [Addr.mk.injEq, true_and] at ha
    obtain ⟨rfl, rfl⟩ := ha
    rw [own_add, Nat.zero_add]
  refine wp_store_mid ty px vx rfl ad.block (ad.off + j * E.sz) (E.enc x).toArray (by rw [hp, hadd]) hv (by rw [List.size_toArray, E.len]; exact hown.there hj) (by rw [List.size_toArray, E.len]; exact hi) (all_oneCell_toArray (E.one x)) ?_
  exact h _ (hown.put hj x) (turn_setCells (S := fun k => k = ad.block) rfl _ _ _)
/-- append, at the operation as it is written, in a region that draws. -/
theorem put_app {P : Program} {tS : TypeId} {z : Value} {by' : Nat} (ht : P.underlying tS = some (.slice e)) (hi0 : (P.info? e).map (fun i => (i.zero, i.size, i.bytes)) = some (some z, E.sz, by')) (hz : z.cells.size = E.sz) (hby : by' ≤ 1000)
    {w : World} {ops : Array Oper} {d : Option Nat} {ty : TypeId} {pos : String} {af : Array Edge} {s x : Operand} {a : Act} {K : Act → World → Prop} {Q : Exit → Act → World → Prop} {F : Prop} (l : List T) (hown : OwE E e w (a.eval s) l)
    (m : List T) (hy : RdE E w (a.eval x) m) (hl : l.length + m.length ≤ 3000000)
    (h : ∀ A n c w', OwE E e w' (.slice A n c) (l ++ m) → Turn (fun k => (a.eval s).ownBlock = some k) w w' → ((Value.slice A n c).ownBlock = (a.eval s).ownBlock ∨ (Value.slice A n c).ownBlock = some w.heap.size) → K (a.put d (.slice A n c)) w') :
    if Region.wanted { dst := d, op := .call { callee := .builtin .append, args := #[s, x], argTypes := #[tS, tS] }, type := ty, pos := pos, after := af, guard := none } (yielded ops a.tmps) = true then Oper.wp P { dst := d, op := .call { callee := .builtin .append, args := #[s, x], argTypes := #[tS, tS] }, type := ty, pos := pos, after := af, guard := none } a w K Q else F :=
  step_appE ht hi0 hz w rfl s x tS rfl (a.eval s) l rfl hown (a.eval x) rfl m (hy.src ht) (by simp only [maxLen]; omega) (Nat.le_trans (Nat.mul_le_mul hl hby) (by omega)) h
/-- One element's row, new. -/
theorem one_row (E : El T) (e : TypeId) (w : World) (x : T) : RdE E (w.alloc (.cells (E.enc x).toArray e)) (.slice (some ⟨w.heap.size, 0, none⟩) 1 1) [x] := by
  have h := (OwE.made (E := E) (e := e) w [x] (by show (1 : Nat) ≤ maxLen; simp [maxLen])).rd
  have e1 : E.flat [x] = E.enc x := by rw [El.flat_cons, El.flat_nil, List.append_nil]
  rw [e1] at h
  exact h
theorem OwE.some_at {A : Option Addr} (h : OwE E e w (.slice A n c) L) (h0 : 0 < L.length) : ∃ ad, A = some ad ∧ n = L.length := by
  rcases h.form with ⟨_, rfl⟩ | ⟨g, cap, cur, e1, _⟩
  · exact absurd h0 (by simp)
  · injection e1 with e1 e2 e3
    exact ⟨_, e1, e2⟩
end

end Go.Proofs.Ytklpmajaihmmfaa

/-
  A slice of elements of any size that came in. No type is named here.
-/
namespace Go.Proofs.Ytklpmajaihmmfaa
open Go.RowKit Go.ChangeShapes Go.WideShapes Go.Deep

theorem open_elems {P : Program} {H X : Type} [Inhabited X] {enc : TypeId × Value → H} {W : World} {T e : TypeId} (E : El X) (ok : X → Prop) {v : Value} {d : DataW H} {p : List MemPlace} {a : Option Addr} {len cap : Nat}
    (hT : P.underlying T = some (.slice e)) (hC : P.cellsOf e = E.sz) (hv : v = .slice a len cap) (h : DataW.Trod enc P W 0 (fun _ => true) true T v d p)
    (one : ∀ (n : Nat) (cs : List Value) (y : DataW H × List MemPlace), cs.length = E.sz → DataW.trod enc P W 0 (fun _ => true) true n e cs = some y → ∃ x, cs = E.enc x ∧ ok x) :
    ∃ l : List X, RdE E W v l ∧ l.length ≤ maxLen ∧ ∀ x ∈ l, ok x := by
  subst hv
  obtain ⟨fuel, hf⟩ := h
  rcases open_slice hT hf with ⟨hcs, _⟩ | ⟨a', len', cap', m, n, D, Pl, hcs, _, hl, hm, hmm, _, hx⟩
  · simp [Value.cells] at hcs
    obtain ⟨rfl, rfl, rfl⟩ := hcs
    exact ⟨[], RdE.nil W, Nat.zero_le _, fun x hx => by cases hx⟩
  · simp [Value.cells] at hcs
    obtain ⟨rfl, rfl, rfl⟩ := hcs
    have hmm' : m = cap := by simpa using hmm
    subst hmm'
    have key : ∀ i, i < len → ∃ x : X, (∀ j u, (E.enc x)[j]? = some u → W.cell? (a'.add (i * E.sz + j)) = some u) ∧ ok x := by
      intro i hi
      obtain ⟨cs, h1, h2⟩ := hx i (by omega)
      rw [hC] at h1
      obtain ⟨_, hlen, hcell⟩ := World.cells?_some h1
      obtain ⟨x, rfl, hok⟩ := one _ _ _ hlen h2
      refine ⟨x, fun j u hj => ?_, hok⟩
      have hjl : j < E.sz := by
        have := (List.getElem?_eq_some_iff.1 hj).1
        rwa [E.len] at this
      have hc := hcell j hjl
      rw [eadd_add] at hc
      rw [hc]
      exact hj
    obtain ⟨V, hV⟩ := choose_lt key
    have hll : ((List.range len).map V).length = len := by simp
    refine ⟨(List.range len).map V, ⟨some a', m, by rw [hll], ⟨by rw [hll]; omega, by omega⟩, (fun e => by cases e), fun ad e i u hi => ?_⟩, by rw [hll]; omega, fun x hx => ?_⟩
    · cases e
      have hil : i < len * E.sz := by
        have := (List.getElem?_eq_some_iff.1 hi).1
        rwa [E.flat_len, hll] at this
      have hs : 0 < E.sz := by
        rcases Nat.eq_zero_or_pos E.sz with c | c
        · rw [c] at hil; simp at hil
        · exact c
      have hq : i / E.sz < len := (Nat.div_lt_iff_lt_mul hs).2 hil
      have hr : i % E.sz < E.sz := Nat.mod_lt _ hs
      have hi2 : i = i / E.sz * E.sz + i % E.sz := by rw [Nat.mul_comm]; exact (Nat.div_add_mod i E.sz).symm
      have hVi : ((List.range len).map V)[i / E.sz]? = some (V (i / E.sz)) := by rw [List.getElem?_map, List.getElem?_range hq]; rfl
      rw [hi2, E.flat_at hVi hr] at hi
      have := (hV _ hq).1 _ _ hi
      rw [← hi2] at this
      exact this
    · obtain ⟨i, hi, rfl⟩ := List.mem_map.1 hx
      exact (hV i (List.mem_range.1 hi)).2

end Go.Proofs.Ytklpmajaihmmfaa

/-
  A slice of numbers that came in, of any kind: its numbers, wherever it lies; its parts. No type is named here.
-/
namespace Go.Proofs.Ytklpmajaihmmfaa
open Go.RowKit

/-- A slice value, wherever it lies: its numbers are l. -/
def RdN (k : IntKind) (w : World) (v : Value) (l : List Int) : Prop :=
  ∃ A c, v = .slice A l.length c ∧ (l.length ≤ c ∧ c ≤ maxLen) ∧ (A = none → l = [] ∧ c = 0) ∧ ∀ ad, A = some ad → ∀ j x, l[j]? = some x → w.cell? (ad.add j) = some (.int k x)

section
variable {k : IntKind} {w w' : World} {v : Value} {l : List Int}
theorem nadd_block (a : Addr) (n : Nat) : (a.add n).block = a.block := by unfold Addr.add; split <;> rfl
theorem nadd_of_add (a : Addr) (i j : Nat) : (a.add i).add j = a.add (i + j) := by
  unfold Addr.add
  by_cases hi : i = 0 <;> by_cases hj : j = 0 <;> simp [hi, hj, Nat.add_assoc]
theorem RdN.turn {S : Nat → Prop} (h : RdN k w v l) (ht : Turn S w w') (hs : ∀ b, v.ownBlock = some b → ¬ S b) : RdN k w' v l := by
  obtain ⟨A, c, rfl, hk, hn, hc⟩ := h
  refine ⟨A, c, rfl, hk, hn, fun ad e j b hj => ?_⟩
  have h1 := hc ad e j b hj
  have hlt := World.block_lt_of_cell? w _ h1
  rw [ht.cell hlt (by subst e; rw [nadd_block]; exact hs _ rfl)]
  exact h1
theorem RdN.later (h : RdN k w v l) (ht : Turn (fun _ => False) w w') : RdN k w' v l := h.turn ht (fun _ _ f => f)
theorem RdN.shape (h : RdN k w v l) : ∃ A c, v = .slice A l.length c := by
  obtain ⟨A, c, e, _⟩ := h
  exact ⟨A, c, e⟩
theorem RdN.at {A : Option Addr} {n c : Nat} (h : RdN k w (.slice A n c) l) {j : Nat} {x : Int} (hj : l[j]? = some x) : ∃ ad, A = some ad ∧ w.cell? (ad.add j) = some (.int k x) := by
  obtain ⟨A', c', hv, _, hn, hc⟩ := h
  injection hv with h1 h2 h3
  subst h1
  cases A with
  | none =>
    obtain ⟨rfl, _⟩ := hn rfl
    cases hj
  | some ad => exact ⟨ad, rfl, hc ad rfl j x hj⟩
theorem RdN.fits {A : Option Addr} {n c : Nat} (h : RdN k w (.slice A n c) l) : n = l.length ∧ l.length ≤ c ∧ c ≤ maxLen := by
  obtain ⟨A', c', hv, hc, _⟩ := h
  injection hv with h1 h2 h3
  subst h3
  exact ⟨h2, hc⟩
theorem RdN.front {A : Option Addr} {n c : Nat} (h : RdN k w (.slice A n c) l) (m : Nat) (hm : m ≤ n) : RdN k w (.slice A m c) (l.take m) := by
  obtain ⟨A', c', hv, hc, hn, hx⟩ := h
  injection hv with h1 h2 h3
  subst h1 h2 h3
  have e : (l.take m).length = m := by rw [List.length_take]; omega
  refine ⟨A, c, by rw [e], ⟨by omega, hc.2⟩, (fun e => by rw [(hn e).1]; exact ⟨List.take_nil, (hn e).2⟩), fun ad e2 j b hj => ?_⟩
  rw [List.getElem?_take] at hj
  split at hj
  · exact hx ad e2 j b hj
  · cases hj
theorem RdN.back {ad : Addr} {n c : Nat} (h : RdN k w (.slice (some ad) n c) l) (m : Nat) (hm : m ≤ n) : RdN k w (.slice (some (ad.add m)) (n - m) (c - m)) (l.drop m) := by
  obtain ⟨A', c', hv, hc, hn, hx⟩ := h
  injection hv with h1 h2 h3
  subst h1 h2 h3
  refine ⟨some (ad.add m), c - m, by rw [List.length_drop], ⟨by rw [List.length_drop]; omega, by omega⟩, (fun e => by cases e), fun ad' e2 j b hj => ?_⟩
  injection e2 with e2
  subst e2
  rw [List.getElem?_drop] at hj
  rw [nadd_of_add]
  exact hx ad rfl _ b hj
end

section
open Go.ChangeShapes Go.WideShapes Go.Deep
theorem open_nums {P : Program} {H : Type} {enc : TypeId × Value → H} {W : World} {T e : TypeId} {k : IntKind} {v : Value} {d : DataW H} {p : List MemPlace} {a : Option Addr} {len cap : Nat}
    (hT : P.underlying T = some (.slice e)) (he : P.underlying e = some (.int k)) (hC : P.cellsOf e = 1) (hv : v = .slice a len cap) (h : DataW.Trod enc P W 0 (fun _ => true) true T v d p) :
    ∃ l, RdN k W v l ∧ l.length ≤ maxLen ∧ ∀ x ∈ l, (Lit.int k x).wf = true := by
  subst hv
  obtain ⟨fuel, hf⟩ := h
  rcases open_slice hT hf with ⟨hcs, _⟩ | ⟨a', len', cap', m, n, D, Pl, hcs, _, hl, hm, hmm, _, hx⟩
  · simp [Value.cells] at hcs
    obtain ⟨rfl, rfl, rfl⟩ := hcs
    exact ⟨[], ⟨none, 0, rfl, ⟨Nat.le_refl _, Nat.zero_le _⟩, fun _ => ⟨rfl, rfl⟩, fun _ e => by cases e⟩, Nat.zero_le _, fun x hx => by cases hx⟩
  · simp [Value.cells] at hcs
    obtain ⟨rfl, rfl, rfl⟩ := hcs
    have hmm' : m = cap := by simpa using hmm
    subst hmm'
    have key : ∀ i, i < len → ∃ b : Int, W.cell? (a'.add i) = some (.int k b) ∧ (Lit.int k b).wf = true := by
      intro i hi
      obtain ⟨cs, h1, h2⟩ := hx i (by omega)
      rw [hC] at h1
      obtain ⟨_, hlen, hcell⟩ := World.cells?_some h1
      match cs, hlen with
      | [c0], _ =>
        obtain ⟨K, k0, _, kw⟩ := DataW.trod_int he h2
        simp only [List.cons.injEq, and_true] at k0
        subst k0
        have hc := hcell 0 (by omega)
        simp only [Go.Deep.add_add] at hc
        have e2 : i * 1 + 0 = i := by omega
        exact ⟨K, by simpa [e2] using hc, kw⟩
    obtain ⟨V, hV⟩ := choose_lt key
    have hll : ((List.range len).map V).length = len := by simp
    refine ⟨(List.range len).map V, ⟨some a', m, by rw [hll], ⟨by rw [hll]; omega, by omega⟩, (fun e => by cases e), fun ad e j b hj => ?_⟩, by rw [hll]; omega, fun x hx => ?_⟩
    · cases e
      have hjl : j < len := by
        have := (List.getElem?_eq_some_iff.1 hj).1
        simpa using this
      have hb : b = V j := by
        rw [List.getElem?_map, List.getElem?_range hjl] at hj
        exact (Option.some.inj hj).symm
      rw [hb]
      exact (hV j hjl).1
    · obtain ⟨i, hi, rfl⟩ := List.mem_map.1 hx
      exact (hV i (List.mem_range.1 hi)).2
end

end Go.Proofs.Ytklpmajaihmmfaa

/-
  Stage 9: keys, facts and numbers in memory.
-/
namespace Go.Proofs.Ytklpmajaihmmfaa
open Go.RowKit Go.ChangeShapes Go.WideShapes Go.Deep

/-- A number's cell. -/
def EN9 : El Int where
  sz := 1
  enc p := [.int .i64 p]
  len _ := rfl
  one p u hu := by rw [List.mem_singleton.1 hu]; rfl
theorem num_info9 : (Try.prog.info? 2).map (fun i => (i.zero, i.size, i.bytes)) = some (some (.int .i64 0), EN9.sz, 8) := by kernel_rfl
theorem num_zero9 : (Value.cells (.int .i64 0)).size = EN9.sz := rfl
theorem num_at9 {w : World} {A : Option Addr} {n c : Nat} {L : List Int} (h : RdE EN9 w (.slice A n c) L) {j : Nat} {x : Int} (hj : L[j]? = some x) :
    ∃ ad, A = some ad ∧ ∀ W, Turn (fun _ => False) w W → W.cell? (ad.add j) = some (.int .i64 x) := by
  obtain ⟨ad, hA, _⟩ := h.cells hj
  refine ⟨ad, hA, fun W ht => ?_⟩
  obtain ⟨ad', hA', hc⟩ := (h.later ht).cells hj
  rw [hA] at hA'
  cases hA'
  have h1 := hc 0 _ rfl
  rwa [show j * EN9.sz + 0 = j from by simp [EN9]] at h1
theorem flat_num9 (l : List Int) : EN9.flat l = l.map (fun x => Value.int .i64 x) := by
  induction l with
  | nil => rfl
  | cons x l ih => rw [El.flat_cons, ih]; rfl
theorem rd_num9 {w : World} {v : Value} {l : List Int} (h : RdE EN9 w v l) : RdN .i64 w v l := by
  obtain ⟨A, c, e, h1, h2, h3⟩ := h
  refine ⟨A, c, e, h1, h2, fun ad ea j x hj => h3 ad ea j _ ?_⟩
  rw [flat_num9, List.getElem?_map, hj]
  rfl
/-- A slice that came in lies in the memory that came in. -/
theorem came_in9 {P : Program} {W : World} {base : Nat} {t e : TypeId} {v : Value} (ht : P.underlying t = some (.slice e)) (h : Value.okWide P W .any base t v) : ∀ g, v.ownBlock = some g → g < W.heap.size := fun g hg => by
  simp only [Value.okWide, ht, Cell.okWide] at h
  obtain ⟨a, n, c, rfl⟩ := okWide_slice ht (by simp only [Value.okWide, ht, Cell.okWide]; exact h)
  cases a with
  | none => simp [Value.ownBlock] at hg
  | some a =>
    simp only [Cell.ok, ht] at h
    have e : a.block = g := by simpa [Value.ownBlock] using hg
    obtain ⟨_, _, h3⟩ := h
    rw [← e]
    obtain ⟨_, _, row, cells, hs, _⟩ := h3
    unfold World.shape? at hs
    rcases Nat.lt_or_ge a.block W.heap.size with hl | hl
    · exact hl
    · rw [Array.getElem?_eq_none hl] at hs
      cases hs

/-- A text, as a value. -/
abbrev sv9 (l : List UInt8) : Value := .string ⟨l.toArray⟩
/-- A key, a fact, as a value. -/
abbrev kv9 (k : K9) : Value := .agg #[.int .i64 k.h, sv9 k.a, sv9 k.b, sv9 k.c, sv9 k.d]
abbrev fv9 (f : F9) : Value := .agg #[.int .i64 f.k.h, sv9 f.k.a, sv9 f.k.b, sv9 f.k.c, sv9 f.k.d, .int .i64 f.v]
/-- A fact's cells. -/
def EF : El F9 where
  sz := 6
  enc f := [.int .i64 f.k.h, sv9 f.k.a, sv9 f.k.b, sv9 f.k.c, sv9 f.k.d, .int .i64 f.v]
  len _ := rfl
  one f u hu := by
    simp only [List.mem_cons, List.not_mem_nil, or_false] at hu
    rcases hu with rfl | rfl | rfl | rfl | rfl | rfl <;> rfl
theorem fact_info : (Try.prog.info? 46).map (fun i => (i.zero, i.size, i.bytes)) = some (some (.agg #[.int .i64 0, .string ⟨#[]⟩, .string ⟨#[]⟩, .string ⟨#[]⟩, .string ⟨#[]⟩, .int .i64 0]), EF.sz, 80) := by kernel_rfl
theorem fact_zero : (Value.cells (.agg #[.int .i64 0, .string ⟨#[]⟩, .string ⟨#[]⟩, .string ⟨#[]⟩, .string ⟨#[]⟩, .int .i64 0])).size = EF.sz := rfl
/-- A fact in memory. -/
theorem fact_at {w : World} {A : Option Addr} {n c : Nat} {L : List F9} (h : RdE EF w (.slice A n c) L) {j : Nat} {f : F9} (hj : L[j]? = some f) :
    ∃ ad, A = some ad ∧ ∀ W, Turn (fun _ => False) w W → W.cell? (ad.add (j * 6)) = some (.int .i64 f.k.h) ∧ (∀ i, i < 4 → W.cell? ⟨(ad.add (j * 6)).block, (ad.add (j * 6)).off + (1 + i), none⟩ = some (sv9 (f.k.dim i))) ∧ W.cell? ⟨(ad.add (j * 6)).block, (ad.add (j * 6)).off + 5, none⟩ = some (.int .i64 f.v) := by
  obtain ⟨ad, hA, _⟩ := h.cells hj
  refine ⟨ad, hA, fun W ht => ?_⟩
  obtain ⟨ad', hA', hc⟩ := (h.later ht).cells hj
  rw [hA] at hA'
  cases hA'
  have key : ∀ (k : Nat) (u : Value), (EF.enc f)[k + 1]? = some u → W.cell? ⟨(ad.add (j * 6)).block, (ad.add (j * 6)).off + (k + 1), none⟩ = some u := fun k u hu => by
    rw [show (⟨(ad.add (j * 6)).block, (ad.add (j * 6)).off + (k + 1), none⟩ : Addr) = (ad.add (j * 6)).add (k + 1) from rfl, eadd_add]
    exact hc (k + 1) u hu
  refine ⟨hc 0 _ rfl, fun i hi => ?_, key 4 _ rfl⟩
  match i, hi with
  | 0, _ => exact key 0 _ rfl
  | 1, _ => exact key 1 _ rfl
  | 2, _ => exact key 2 _ rfl
  | 3, _ => exact key 3 _ rfl
/-- The same, cell by cell. -/
theorem fact_at6 {w : World} {A : Option Addr} {n c : Nat} {L : List F9} (h : RdE EF w (.slice A n c) L) {j : Nat} {f : F9} (hj : L[j]? = some f) :
    ∃ ad, A = some ad ∧ ∀ W, Turn (fun _ => False) w W → W.cell? (ad.add (j * 6)) = some (.int .i64 f.k.h) ∧ W.cell? ⟨(ad.add (j * 6)).block, (ad.add (j * 6)).off + 1, none⟩ = some (sv9 f.k.a) ∧ W.cell? ⟨(ad.add (j * 6)).block, (ad.add (j * 6)).off + 2, none⟩ = some (sv9 f.k.b) ∧
      W.cell? ⟨(ad.add (j * 6)).block, (ad.add (j * 6)).off + 3, none⟩ = some (sv9 f.k.c) ∧ W.cell? ⟨(ad.add (j * 6)).block, (ad.add (j * 6)).off + 4, none⟩ = some (sv9 f.k.d) ∧ W.cell? ⟨(ad.add (j * 6)).block, (ad.add (j * 6)).off + 5, none⟩ = some (.int .i64 f.v) := by
  obtain ⟨ad, hA, hc⟩ := fact_at h hj
  refine ⟨ad, hA, fun W ht => ?_⟩
  obtain ⟨h0, h1, h2⟩ := hc W ht
  exact ⟨h0, h1 0 (by omega), h1 1 (by omega), h1 2 (by omega), h1 3 (by omega), h2⟩
/-- A box's key: its cells. -/
theorem dim_cell {W : World} {g o : Nat} {t : TypeId} {vs : Array Value} {k : K9} (hb : Box W g t vs) (h : ∀ i, i < 4 → vs[o + i]? = some (sv9 (k.dim i))) : ∀ i, i < 4 → W.cell? ⟨g, o + i, none⟩ = some (sv9 (k.dim i)) := fun i hi => by
  rw [hb.cell]
  exact h i hi
theorem key_cells {k : K9} : ∀ i, i < 4 → (#[.int .i64 k.h, sv9 k.a, sv9 k.b, sv9 k.c, sv9 k.d] : Array Value)[1 + i]? = some (sv9 (k.dim i)) := fun i hi => by
  match i, hi with
  | 0, _ => rfl
  | 1, _ => rfl
  | 2, _ => rfl
  | 3, _ => rfl
theorem fact_cells {f : F9} : ∀ i, i < 4 → (#[.int .i64 f.k.h, sv9 f.k.a, sv9 f.k.b, sv9 f.k.c, sv9 f.k.d, .int .i64 f.v] : Array Value)[1 + i]? = some (sv9 (f.k.dim i)) := fun i hi => by
  match i, hi with
  | 0, _ => rfl
  | 1, _ => rfl
  | 2, _ => rfl
  | 3, _ => rfl

end Go.Proofs.Ytklpmajaihmmfaa

/-
  Stage 9: the document's Compare, Check, All.
-/
namespace Go.Proofs.Ytklpmajaihmmfaa
open Go.RowKit

set_option maxRecDepth 100000

set_option maxHeartbeats 4000000 in
theorem ref_compare9 (p q : K9) (w : World) : Calls Try.prog 19 #[kv9 p, kv9 q] w fun e w' => e = .returned (.int .i64 (cmpK p q)) ∧ Turn (fun _ => False) w w' := by
  unfold kv9
  obtain ⟨w0, hw0⟩ : ∃ w0, w0 = (w.alloc (.cells #[.int .i64 p.h, sv9 p.a, sv9 p.b, sv9 p.c, sv9 p.d] 44)).alloc (.cells #[.int .i64 q.h, sv9 q.a, sv9 q.b, sv9 q.c, sv9 q.d] 44) := ⟨_, rfl⟩
  have HT0 : Hid (Turn (fun _ => False) w w0) := by rw [hw0]; exact ((Turn.refl _ w).alloc _).alloc _
  have hb1 : Box w0 w.heap.size 44 #[.int .i64 p.h, sv9 p.a, sv9 p.b, sv9 p.c, sv9 p.d] := by rw [hw0]; exact (Box.new w _ _).alloc _
  have hb2 : Box w0 (w.heap.size + 1) 44 #[.int .i64 q.h, sv9 q.a, sv9 q.b, sv9 q.c, sv9 q.d] := by
    rw [hw0]
    have h := Box.new (w.alloc (.cells #[.int .i64 p.h, sv9 p.a, sv9 p.b, sv9 p.c, sv9 p.d] 44)) 44 #[.int .i64 q.h, sv9 q.a, sv9 q.b, sv9 q.c, sv9 q.d]
    rw [World.size_alloc] at h
    exact h
  have HD1 := Lib.hid (dim_cell (o := 1) hb1 key_cells)
  have HD2 := Lib.hid (dim_cell (o := 1) hb2 key_cells)
  have c1 := hb1.cell 0
  have c2 := hb2.cell 0
  have HW := Lib.hid hw0
  clear hb1 hb2 hw0
  by_cases h1 : p.h < q.h
  · rw [cmpK_lt (key_hour h1)]
    have hne : (p.h == q.h) = false := by simp; omega
    go_enter Try.func19, Try.ntmps19
    go_wp2_with fail
    rw [← HW.out]
    go_ret
    exact ⟨rfl, HT0.out⟩
  · by_cases h2 : q.h < p.h
    · rw [cmpK_gt (key_hour h2)]
      have hne : (p.h == q.h) = false := by simp; omega
      go_enter Try.func19, Try.ntmps19
      go_wp2_with fail
      rw [← HW.out]
      go_ret
      exact ⟨rfl, HT0.out⟩
    · have h0 : p.h = q.h := by omega
      have HW2 : Hid (w0 = (w.alloc (.cells #[.int .i64 q.h, sv9 p.a, sv9 p.b, sv9 p.c, sv9 p.d] 44)).alloc (.cells #[.int .i64 q.h, sv9 q.a, sv9 q.b, sv9 q.c, sv9 q.d] 44)) := by rw [← h0]; rw [← h0] at HW; exact HW.out
      have hne : (p.h == q.h) = true := by simp; omega
      go_enter Try.func19, Try.ntmps19
      go_wp2_with fail
      rw [← HW2.out]
      clear c1 c2
      go_loopw [5] (fun x5 wr => ∃ i : Nat, x5 = .int .i64 (i : Int) ∧ i ≤ 4 ∧ (∀ k, k < i → p.dim k = q.dim k) ∧ ∃ n, wr = w0.drewN n) (fun x5 _ => 4 - (intOf x5).toNat)
      case atStart => exact ⟨0, rfl, Nat.zero_le _, fun k hk => absurd hk (Nat.not_lt_zero k), 0, rfl⟩
      case round =>
        obtain ⟨i, rfl, hi, he, n, rfl⟩ := hrel
        have HE := Lib.hid he
        clear he
        by_cases hlt : i < 4
        · have e1 := HD1.out i hlt
          have e2 := HD2.out i hlt
          have hil : (i : Int) < 4 := by omega
          unfold sv9 at e1 e2
          by_cases hl : Op.bytesLess (p.dim i) (q.dim i) = true
          · have HK := Lib.hid (cmpK_lt (key_dim hlt h0 HE.out hl))
            go_wp2_with fail
            go_quiet (fail)
            go_wp2
            go_ret
            rw [HK.out]
            exact ⟨rfl, (HT0.out.drewN _).drewN _⟩
          · have hl' : Op.bytesLess (p.dim i) (q.dim i) = false := by simpa using hl
            by_cases hg : Op.bytesLess (q.dim i) (p.dim i) = true
            · have HK := Lib.hid (cmpK_gt (key_dim hlt h0.symm (fun k hk => (HE.out k hk).symm) hg))
              have heq : (p.dim i == q.dim i) = false := by
                cases e : p.dim i == q.dim i with
                | false => rfl
                | true =>
                  rw [eq_of_beq e, less_irr] at hg
                  cases hg
              go_wp2_with fail
              go_quiet (fail)
              go_wp2_with fail
              go_quiet (fail)
              go_wp2
              go_ret
              rw [HK.out]
              exact ⟨rfl, ((HT0.out.drewN _).drewN _).drewN _⟩
            · have hg' : Op.bytesLess (q.dim i) (p.dim i) = false := by simpa using hg
              have HS := Lib.hid (bytes_same hl' hg')
              have heq : (p.dim i == q.dim i) = true := by rw [HS.out]; exact beq_self_eq_true _
              go_wp2_with fail
              go_quiet (fail)
              rename_i nq1
              go_wp2_with fail
              go_quiet (fail)
              go_wp2
              go_roundw
              case rel => exact ⟨i + 1, by go_num, hlt, fun k hk => by
                by_cases ek : k = i
                · rw [ek]; exact HS.out
                · exact HE.out k (by omega), _, rfl⟩
              case measure => simp [intOf]; omega
        · obtain rfl : i = 4 := by omega
          have HK := Lib.hid (key_same h0 HE.out)
          go_wp2
          go_ret
          rw [HK.out, cmpK_self]
          exact ⟨rfl, HT0.out.drewN _⟩

end Go.Proofs.Ytklpmajaihmmfaa

/-
  Stage 9: the document's Check and All.
-/
namespace Go.Proofs.Ytklpmajaihmmfaa
open Go.RowKit

set_option maxRecDepth 100000

theorem chk_dims {f : F9} {n : Int} (h : ¬ (1 ≤ n ∧ n ≤ 4)) : chkF f n = 1 := by
  unfold chkF okDims
  rw [if_neg (by simpa using h)]
theorem chk_range {f : F9} {n : Int} (hn : 1 ≤ n ∧ n ≤ 4) (h : ¬ (0 ≤ f.k.h ∧ f.k.h ≤ 16777216 ∧ f.v ≤ 1152921504606846976 ∧ -1152921504606846976 ≤ f.v)) : chkF f n = 2 := by
  unfold chkF okDims
  rw [if_pos (by simpa using hn), if_neg h]
theorem chk_text {f : F9} {n : Int} (hn : 1 ≤ n ∧ n ≤ 4) (h : 0 ≤ f.k.h ∧ f.k.h ≤ 16777216 ∧ f.v ≤ 1152921504606846976 ∧ -1152921504606846976 ≤ f.v) (ht : okTexts n f.k = false) : chkF f n = 4 := by
  unfold chkF okDims
  rw [if_pos (by simpa using hn), if_pos h, ht]
  rfl
theorem chk_ok {f : F9} {n : Int} (hn : 1 ≤ n ∧ n ≤ 4) (h : 0 ≤ f.k.h ∧ f.k.h ≤ 16777216 ∧ f.v ≤ 1152921504606846976 ∧ -1152921504606846976 ≤ f.v) (ht : okTexts n f.k = true) : chkF f n = 0 := by
  unfold chkF okDims
  rw [if_pos (by simpa using hn), if_pos h, ht]
  rfl

end Go.Proofs.Ytklpmajaihmmfaa

/-
  Stage 9: the document's All; facts held against each other.
-/
namespace Go.Proofs.Ytklpmajaihmmfaa
open Go.RowKit

set_option maxRecDepth 100000

/-- What All answers, as a value. -/
def allV (l : List F9) (n : Int) : Value := .tuple #[.int .i64 (allB l n).1, .int .i64 (allB l n).2]
theorem allV_bad {l : List F9} {n : Int} (h : ¬ (1 ≤ n ∧ n ≤ 4 ∧ 1 ≤ l.length ∧ l.length ≤ 50)) : allV l n = .tuple #[.int .i64 1, .int .i64 0] := by
  unfold allV allB
  rw [if_neg]
  intro ⟨h1, h2, h3⟩
  unfold okDims at h1
  simp only [Bool.and_eq_true, decide_eq_true_iff] at h1
  exact h ⟨h1.1, h1.2, h2, h3⟩
theorem allV_at {l : List F9} {n : Int} (h : 1 ≤ n ∧ n ≤ 4 ∧ 1 ≤ l.length ∧ l.length ≤ 50) {a b : Int} (e : badAt n l 0 = (a, b)) : allV l n = .tuple #[.int .i64 a, .int .i64 b] := by
  unfold allV allB
  rw [if_pos ⟨by unfold okDims; simp [h.1, h.2.1], h.2.2⟩, e]

end Go.Proofs.Ytklpmajaihmmfaa

/-
  The writer: its bytes, and what its calls put behind.
-/
namespace Go.Proofs.Ytklpmajaihmmfaa
open Go.RowKit

/-- A byte that is not a number's last one. -/
def mid (n : Nat) : UInt8 := UInt8.ofNat (n % 128 + 128)
theorem mid_toNat (n : Nat) : (mid n).toNat = n % 128 + 128 := by
  unfold mid
  rw [UInt8.toNat_ofNat']
  omega
def low (n : Nat) : UInt8 := UInt8.ofNat n
theorem low_toNat (n : Nat) (h : n < 256) : (low n).toNat = n := by
  unfold low
  rw [UInt8.toNat_ofNat']
  omega

def encF : Nat → Nat → List UInt8
  | 0, n => [low n]
  | k + 1, n => if n < 128 then [low n] else mid n :: encF k (n / 128)
/-- The bytes of a number. -/
def enc (n : Nat) : List UInt8 := encF 9 n

theorem num_bound (n : Nat) (hn : Hid (n < 18446744073709551616)) : n < 128 ^ (9 + 1) := by
  have h : n < 18446744073709551616 := hn
  omega

theorem or_128 (r : Nat) : bits BinOp.or IntKind.u8 ((r : Int) % 256) 128 = ((mid r).toNat : Int) := by
  have h1 : ((r : Int) % 256) = ((r % 256 : Nat) : Int) := by omega
  have h := u8_or_nat (r % 256) 128 (by omega) (by omega)
  rw [h1]
  refine h.trans ?_
  have e : r % 256 ||| 128 = r % 128 + 128 := by
    have : ∀ x : Fin 256, x.val ||| 128 = x.val % 128 + 128 := by decide +kernel
    have := this ⟨r % 256, by omega⟩
    simp only at this
    rw [this]
    omega
  rw [e, mid_toNat]

end Go.Proofs.Ytklpmajaihmmfaa
