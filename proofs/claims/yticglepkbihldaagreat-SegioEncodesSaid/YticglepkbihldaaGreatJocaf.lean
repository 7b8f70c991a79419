/-
  Texts laid one behind the other: Er Gf Lb Zb Zk Ma Mb Mc.
-/
import Derived.Test.YticglepkbihldaaGreatJocae
import Derived.Deep.MidRow
import Derived.ProofKit
import Derived.OpenShut
import Derived.Deep.Slices
import Derived.Deep.Fields
import Derived.Deep.Strs
import Derived.Test.YticglepkbihldaaGreatJocaa
import Derived.WalkMore
import Derived.BigQuiet
import Derived.Laws.ResultCell
import Derived.Laws.StructEq
import Derived.Deep.RegionWith

/-
  Rows of elements of any size: one element stored, the row cut, cleared. No type is named here.
-/
namespace Go.Proofs.YticglepkbihldaaGreat
open Go.RowKit

theorem Box.setCells {g : Nat} {t : TypeId} : ∀ (vs : List Value) (o : Nat) (cs : Array Value) (w : World), Box w g t cs → o + vs.length ≤ cs.size → Box (w.setCells g o vs) g t (cs.toList.take o ++ vs ++ cs.toList.drop (o + vs.length)).toArray
  | [], o, cs, w, h, _ => by simpa [World.setCells] using h
  | v :: r, o, cs, w, h, hl => by
    have hl1 : o + (r.length + 1) ≤ cs.size := hl
    have h1 := Box.setCells r (o + 1) (cs.setIfInBounds o v) _ (h.set o v) (by simp; omega)
    unfold World.setCells
    have e : (cs.setIfInBounds o v).toList.take (o + 1) ++ r ++ (cs.setIfInBounds o v).toList.drop (o + 1 + r.length) = cs.toList.take o ++ (v :: r) ++ cs.toList.drop (o + (v :: r).length) := by
      have hlt : o < cs.toList.length := by simp; omega
      rw [Array.toList_setIfInBounds, List.drop_set_of_lt (by omega), List.set_eq_take_append_cons_drop, if_pos hlt, List.length_cons, show o + 1 + r.length = o + (r.length + 1) by omega]
      have e2 : (cs.toList.take o).length = o := by rw [List.length_take]; omega
      rw [List.take_append, e2, List.take_of_length_le (by omega), show o + 1 - o = 1 by omega]
      simp
    rw [e] at h1
    exact h1
theorem turn_setCells {S : Nat → Prop} {g : Nat} (hg : S g) : ∀ (vs : List Value) (o : Nat) (w : World), Turn S w (w.setCells g o vs)
  | [], _, w => Turn.refl _ w
  | v :: r, o, w => (Turn.setCell (S := S) (p := ⟨g, o, none⟩) (Turn.refl S w) (fun _ => hg) v).trans (turn_setCells hg r (o + 1) _) (fun _ _ h => h)

section
variable {T : Type} {E : El T} {e : TypeId} {w : World} {ad : Addr} {n c : Nat} {L : List T}
theorem OwE.home (h : OwE E e w (.slice (some ad) n c) L) : ∃ cur, ad = ⟨ad.block, 0, none⟩ ∧ n = L.length ∧ Box w ad.block e cur ∧ L.length ≤ c ∧ c ≤ maxLen ∧ cur.size = c * E.sz ∧ cur.toList.take (L.length * E.sz) = E.flat L := by
  rcases h.form with ⟨e1, _⟩ | ⟨g, cap, cur, e1, hb, h1, h2, h3, h4⟩
  · cases e1
  · injection e1 with e1 e2 e3
    injection e1 with e1
    subst e1 e2 e3
    exact ⟨cur, rfl, rfl, hb, h1, h2, h3, h4⟩
theorem OwE.of_box {cur : Array Value} {g : Nat} (hb : Box w g e cur) (h1 : L.length ≤ c) (h2 : c ≤ maxLen) (h3 : cur.size = c * E.sz) (h4 : cur.toList.take (L.length * E.sz) = E.flat L) : OwE E e w (.slice (some ⟨g, 0, none⟩) L.length c) L :=
  ⟨E.flat_len L, .inr ⟨g, c, cur, rfl, Nat.zero_le _, hb, h1, h2, h3, h4⟩⟩
theorem El.flat_set (E : El T) {j : Nat} (hj : j < L.length) (x : T) : E.flat (L.set j x) = (E.flat L).take (j * E.sz) ++ E.enc x ++ (E.flat L).drop (j * E.sz + E.sz) := by
  rw [List.set_eq_take_append_cons_drop, if_pos hj, E.flat_append, E.flat_cons, E.flat_take, E.flat_drop, Nat.add_mul, Nat.one_mul, List.append_assoc]
/-- One element stored. -/
theorem OwE.put (h : OwE E e w (.slice (some ad) n c) L) {j : Nat} (hj : j < L.length) (x : T) : OwE E e (w.setCells ad.block (ad.off + j * E.sz) (E.enc x)) (.slice (some ad) n c) (L.set j x) := by
  obtain ⟨cur, ha, hn, hb, h1, h2, h3, h4⟩ := h.home
  have hoff : ad.off = 0 := by rw [ha]
  rw [hoff, Nat.zero_add, ha, hn]
  have hsz : L.length * E.sz ≤ cur.size := by rw [h3]; exact Nat.mul_le_mul_right _ h1
  have hj2 : j * E.sz + E.sz ≤ L.length * E.sz := by rw [← Nat.succ_mul]; exact Nat.mul_le_mul_right _ hj
  have hbox := Box.setCells (E.enc x) (j * E.sz) cur w hb (by rw [E.len]; omega)
  have hl : (L.set j x).length = L.length := List.length_set
  have hF : (E.flat L).length = L.length * E.sz := E.flat_len L
  have hcur : cur.toList = E.flat L ++ cur.toList.drop (L.length * E.sz) := by rw [← h4, List.take_append_drop]
  have e1 : cur.toList.take (j * E.sz) ++ E.enc x ++ cur.toList.drop (j * E.sz + (E.enc x).length) = E.flat (L.set j x) ++ cur.toList.drop (L.length * E.sz) := by
    rw [E.flat_set hj, E.len]
    have t1 : cur.toList.take (j * E.sz) = (E.flat L).take (j * E.sz) := by
      rw [hcur, List.take_append_of_le_length (by omega)]
    have t2 : cur.toList.drop (j * E.sz + E.sz) = (E.flat L).drop (j * E.sz + E.sz) ++ cur.toList.drop (L.length * E.sz) := by
      conv => lhs; rw [hcur]
      rw [List.drop_append_of_le_length (by omega)]
    rw [t1, t2]
    simp only [List.append_assoc]
  rw [e1] at hbox
  have hr := OwE.of_box (E := E) (L := L.set j x) (c := c) hbox (by rw [hl]; exact h1) h2 (by
    have hd : (cur.toList.drop (L.length * E.sz)).length = cur.size - L.length * E.sz := by rw [List.length_drop, Array.length_toList]
    rw [List.size_toArray, List.length_append, E.flat_len, hl, hd]
    omega) (by rw [hl]; dsimp only; rw [← hl, ← E.flat_len, List.take_left])
  rw [hl] at hr
  exact hr
theorem OwE.there (h : OwE E e w (.slice (some ad) n c) L) {j : Nat} (hj : j < L.length) : w.there ad.block (ad.off + j * E.sz) E.sz := by
  obtain ⟨cur, ha, hn, hb, h1, h2, h3, h4⟩ := h.home
  have hoff : ad.off = 0 := by rw [ha]
  intro i hi
  have hj2 : j * E.sz + E.sz ≤ L.length * E.sz := by rw [← Nat.succ_mul]; exact Nat.mul_le_mul_right _ hj
  have hsz : L.length * E.sz ≤ cur.size := by rw [h3]; exact Nat.mul_le_mul_right _ h1
  refine ⟨?_, hb.free _⟩
  rw [hb.cell, Array.getElem?_eq_getElem (by omega)]
  rfl
/-- The row cut. -/
theorem OwE.cut (h : OwE E e w (.slice (some ad) n c) L) {m : Nat} (hm : m ≤ L.length) : OwE E e w (.slice (some ad) m c) (L.take m) := by
  obtain ⟨cur, ha, hn, hb, h1, h2, h3, h4⟩ := h.home
  have hl : (L.take m).length = m := by rw [List.length_take]; omega
  have hr := OwE.of_box (E := E) (L := L.take m) (c := c) hb (by rw [hl]; omega) h2 h3 (by
    rw [hl, E.flat_take, ← h4, List.take_take, Nat.min_eq_left (Nat.mul_le_mul_right _ hm)])
  rw [hl, ← ha] at hr
  exact hr
/-- A store of one element, at the operation, in a region that draws. -/
theorem put_store {P : Program} {ops : Array Oper} {ty rt : TypeId} {pos : String} {af : Array Edge} {px vx : Operand} {a : Act} {K : Act → World → Prop} {Q : Exit → Act → World → Prop} {F : Prop}
    (hown : OwE E e w (.slice (some ad) n c) L) (j : Nat) (x : T) (hj : j < L.length) (hp : a.eval px = .pointer (some (ad.add (j * E.sz)))) (hv : a.eval vx = .agg (E.enc x).toArray) (hi : (P.info? ty).map (·.size) = some E.sz)
    (h : ∀ w', OwE E e w' (.slice (some ad) n c) (L.set j x) → Turn (fun k => k = ad.block) w w' → K a w') :
    if Region.wanted { dst := none, op := .store ty px vx, type := rt, pos := pos, after := af, guard := none } (yielded ops a.tmps) = true then Oper.wp P { dst := none, op := .store ty px vx, type := rt, pos := pos, after := af, guard := none } a w K Q else F := by
  rw [if_pos (by rfl)]
  obtain ⟨cur, ha, -⟩ := hown.home
  have hadd : ad.add (j * E.sz) = ⟨ad.block, ad.off + j * E.sz, none⟩ := by
    obtain ⟨b, o, s⟩ := ad
    simp only [Addr.mk.injEq, true_and] at ha
    obtain ⟨rfl, rfl⟩ := ha
    rw [own_add, Nat.zero_add]
  refine wp_store_mid ty px vx rfl ad.block (ad.off + j * E.sz) (E.enc x).toArray (by rw [hp, hadd]) hv (by rw [List.size_toArray, E.len]; exact hown.there hj) (by rw [List.size_toArray, E.len]; exact hi) (all_oneCell_toArray (E.one x)) ?_
  exact h _ (hown.put hj x) (turn_setCells (S := fun k => k = ad.block) rfl _ _ _)
/-- append, at the operation as it is written, in a region that draws. -/
theorem put_app {P : Program} {tS : TypeId} {z : Value} {by' : Nat} (ht : P.underlying tS = some (.slice e)) (hi0 : (P.info? e).map (fun i => (i.zero, i.size, i.bytes)) = some (some z, E.sz, by')) (hz : z.cells.size = E.sz) (hby : by' ≤ 1000)
    {w : World} {ops : Array Oper} {d : Option Nat} {ty : TypeId} {pos : String} {af : Array Edge} {s x : Operand} {a : Act} {K : Act → World → Prop} {Q : Exit → Act → World → Prop} {F : Prop} (l : List T) (hown : OwE E e w (a.eval s) l)
    (m : List T) (hy : RdE E w (a.eval x) m) (hl : l.length + m.length ≤ 3000000)
    (h : ∀ A n c w', OwE E e w' (.slice A n c) (l ++ m) → Turn (fun k => (a.eval s).ownBlock = some k) w w' → ((Value.slice A n c).ownBlock = (a.eval s).ownBlock ∨ (Value.slice A n c).ownBlock = some w.heap.size) → K (a.put d (.slice A n c)) w') :
    if Region.wanted { dst := d, op := .call { callee := .builtin .append, args := #[s, x], argTypes := #[tS, tS] }, type := ty, pos := pos, after := af, guard := none } (yielded ops a.tmps) = true then Oper.wp P { dst := d, op := .call { callee := .builtin .append, args := #[s, x], argTypes := #[tS, tS] }, type := ty, pos := pos, after := af, guard := none } a w K Q else F :=
  step_appE ht hi0 hz w rfl s x tS rfl (a.eval s) l rfl hown (a.eval x) rfl m (hy.src ht) (by simp only [maxLen]; omega) (Nat.le_trans (Nat.mul_le_mul hl hby) (by omega)) h
/-- One element's row, new. -/
theorem one_row (E : El T) (e : TypeId) (w : World) (x : T) : RdE E (w.alloc (.cells (E.enc x).toArray e)) (.slice (some ⟨w.heap.size, 0, none⟩) 1 1) [x] := by
  have h := (OwE.made (E := E) (e := e) w [x] (by show (1 : Nat) ≤ maxLen; simp [maxLen])).rd
  have e1 : E.flat [x] = E.enc x := by rw [El.flat_cons, El.flat_nil, List.append_nil]
  rw [e1] at h
  exact h
theorem OwE.some_at {A : Option Addr} (h : OwE E e w (.slice A n c) L) (h0 : 0 < L.length) : ∃ ad, A = some ad ∧ n = L.length := by
  rcases h.form with ⟨_, rfl⟩ | ⟨g, cap, cur, e1, _⟩
  · exact absurd h0 (by simp)
  · injection e1 with e1 e2 e3
    exact ⟨_, e1, e2⟩
end

end Go.Proofs.YticglepkbihldaaGreat

/-
  A slice of elements of any size that came in. No type is named here.
-/
namespace Go.Proofs.YticglepkbihldaaGreat
open Go.RowKit Go.ChangeShapes Go.WideShapes Go.Deep

theorem open_elems {P : Program} {H X : Type} [Inhabited X] {enc : TypeId × Value → H} {W : World} {T e : TypeId} (E : El X) (ok : X → Prop) {v : Value} {d : DataW H} {p : List MemPlace} {a : Option Addr} {len cap : Nat}
    (hT : P.underlying T = some (.slice e)) (hC : P.cellsOf e = E.sz) (hv : v = .slice a len cap) (h : DataW.Trod enc P W 0 (fun _ => true) true T v d p)
    (one : ∀ (n : Nat) (cs : List Value) (y : DataW H × List MemPlace), cs.length = E.sz → DataW.trod enc P W 0 (fun _ => true) true n e cs = some y → ∃ x, cs = E.enc x ∧ ok x) :
    ∃ l : List X, RdE E W v l ∧ l.length ≤ maxLen ∧ ∀ x ∈ l, ok x := by
  subst hv
  obtain ⟨fuel, hf⟩ := h
  rcases open_slice hT hf with ⟨hcs, _⟩ | ⟨a', len', cap', m, n, D, Pl, hcs, _, hl, hm, hmm, _, hx⟩
  · simp [Value.cells] at hcs
    obtain ⟨rfl, rfl, rfl⟩ := hcs
    exact ⟨[], RdE.nil W, Nat.zero_le _, fun x hx => by cases hx⟩
  · simp [Value.cells] at hcs
    obtain ⟨rfl, rfl, rfl⟩ := hcs
    have hmm' : m = cap := by simpa using hmm
    subst hmm'
    have key : ∀ i, i < len → ∃ x : X, (∀ j u, (E.enc x)[j]? = some u → W.cell? (a'.add (i * E.sz + j)) = some u) ∧ ok x := by
      intro i hi
      obtain ⟨cs, h1, h2⟩ := hx i (by omega)
      rw [hC] at h1
      obtain ⟨_, hlen, hcell⟩ := World.cells?_some h1
      obtain ⟨x, rfl, hok⟩ := one _ _ _ hlen h2
      refine ⟨x, fun j u hj => ?_, hok⟩
      have hjl : j < E.sz := by
        have := (List.getElem?_eq_some_iff.1 hj).1
        rwa [E.len] at this
      have hc := hcell j hjl
      rw [eadd_add] at hc
      rw [hc]
      exact hj
    obtain ⟨V, hV⟩ := choose_lt key
    have hll : ((List.range len).map V).length = len := by simp
    refine ⟨(List.range len).map V, ⟨some a', m, by rw [hll], ⟨by rw [hll]; omega, by omega⟩, (fun e => by cases e), fun ad e i u hi => ?_⟩, by rw [hll]; omega, fun x hx => ?_⟩
    · cases e
      have hil : i < len * E.sz := by
        have := (List.getElem?_eq_some_iff.1 hi).1
        rwa [E.flat_len, hll] at this
      have hs : 0 < E.sz := by
        rcases Nat.eq_zero_or_pos E.sz with c | c
        · rw [c] at hil; simp at hil
        · exact c
      have hq : i / E.sz < len := (Nat.div_lt_iff_lt_mul hs).2 hil
      have hr : i % E.sz < E.sz := Nat.mod_lt _ hs
      have hi2 : i = i / E.sz * E.sz + i % E.sz := by rw [Nat.mul_comm]; exact (Nat.div_add_mod i E.sz).symm
      have hVi : ((List.range len).map V)[i / E.sz]? = some (V (i / E.sz)) := by rw [List.getElem?_map, List.getElem?_range hq]; rfl
      rw [hi2, E.flat_at hVi hr] at hi
      have := (hV _ hq).1 _ _ hi
      rw [← hi2] at this
      exact this
    · obtain ⟨i, hi, rfl⟩ := List.mem_map.1 hx
      exact (hV i (List.mem_range.1 hi)).2

end Go.Proofs.YticglepkbihldaaGreat

/-
  A slice of numbers that came in, of any kind: its numbers, wherever it lies; its parts. No type is named here.
-/
namespace Go.Proofs.YticglepkbihldaaGreat
open Go.RowKit

/-- A slice value, wherever it lies: its numbers are l. -/
def RdN (k : IntKind) (w : World) (v : Value) (l : List Int) : Prop :=
  ∃ A c, v = .slice A l.length c ∧ (l.length ≤ c ∧ c ≤ maxLen) ∧ (A = none → l = [] ∧ c = 0) ∧ ∀ ad, A = some ad → ∀ j x, l[j]? = some x → w.cell? (ad.add j) = some (.int k x)

section
variable {k : IntKind} {w w' : World} {v : Value} {l : List Int}
theorem nadd_block (a : Addr) (n : Nat) : (a.add n).block = a.block := by unfold Addr.add; split <;> rfl
theorem nadd_of_add (a : Addr) (i j : Nat) : (a.add i).add j = a.add (i + j) := by
  unfold Addr.add
  by_cases hi : i = 0 <;> by_cases hj : j = 0 <;> simp [hi, hj, Nat.add_assoc]
theorem RdN.turn {S : Nat → Prop} (h : RdN k w v l) (ht : Turn S w w') (hs : ∀ b, v.ownBlock = some b → ¬ S b) : RdN k w' v l := by
  obtain ⟨A, c, rfl, hk, hn, hc⟩ := h
  refine ⟨A, c, rfl, hk, hn, fun ad e j b hj => ?_⟩
  have h1 := hc ad e j b hj
  have hlt := World.block_lt_of_cell? w _ h1
  rw [ht.cell hlt (by subst e; rw [nadd_block]; exact hs _ rfl)]
  exact h1
theorem RdN.later (h : RdN k w v l) (ht : Turn (fun _ => False) w w') : RdN k w' v l := h.turn ht (fun _ _ f => f)
theorem RdN.shape (h : RdN k w v l) : ∃ A c, v = .slice A l.length c := by
  obtain ⟨A, c, e, _⟩ := h
  exact ⟨A, c, e⟩
theorem RdN.at {A : Option Addr} {n c : Nat} (h : RdN k w (.slice A n c) l) {j : Nat} {x : Int} (hj : l[j]? = some x) : ∃ ad, A = some ad ∧ w.cell? (ad.add j) = some (.int k x) := by
  obtain ⟨A', c', hv, _, hn, hc⟩ := h
  injection hv with h1 h2 h3
  subst h1
  cases A with
  | none =>
    obtain ⟨rfl, _⟩ := hn rfl
    cases hj
  | some ad => exact ⟨ad, rfl, hc ad rfl j x hj⟩
theorem RdN.fits {A : Option Addr} {n c : Nat} (h : RdN k w (.slice A n c) l) : n = l.length ∧ l.length ≤ c ∧ c ≤ maxLen := by
  obtain ⟨A', c', hv, hc, _⟩ := h
  injection hv with h1 h2 h3
  subst h3
  exact ⟨h2, hc⟩
theorem RdN.front {A : Option Addr} {n c : Nat} (h : RdN k w (.slice A n c) l) (m : Nat) (hm : m ≤ n) : RdN k w (.slice A m c) (l.take m) := by
  obtain ⟨A', c', hv, hc, hn, hx⟩ := h
  injection hv with h1 h2 h3
  subst h1 h2 h3
  have e : (l.take m).length = m := by rw [List.length_take]; omega
  refine ⟨A, c, by rw [e], ⟨by omega, hc.2⟩, (fun e => by rw [(hn e).1]; exact ⟨List.take_nil, (hn e).2⟩), fun ad e2 j b hj => ?_⟩
  rw [List.getElem?_take] at hj
  split at hj
  · exact hx ad e2 j b hj
  · cases hj
theorem RdN.back {ad : Addr} {n c : Nat} (h : RdN k w (.slice (some ad) n c) l) (m : Nat) (hm : m ≤ n) : RdN k w (.slice (some (ad.add m)) (n - m) (c - m)) (l.drop m) := by
  obtain ⟨A', c', hv, hc, hn, hx⟩ := h
  injection hv with h1 h2 h3
  subst h1 h2 h3
  refine ⟨some (ad.add m), c - m, by rw [List.length_drop], ⟨by rw [List.length_drop]; omega, by omega⟩, (fun e => by cases e), fun ad' e2 j b hj => ?_⟩
  injection e2 with e2
  subst e2
  rw [List.getElem?_drop] at hj
  rw [nadd_of_add]
  exact hx ad rfl _ b hj
end

section
open Go.ChangeShapes Go.WideShapes Go.Deep
theorem open_nums {P : Program} {H : Type} {enc : TypeId × Value → H} {W : World} {T e : TypeId} {k : IntKind} {v : Value} {d : DataW H} {p : List MemPlace} {a : Option Addr} {len cap : Nat}
    (hT : P.underlying T = some (.slice e)) (he : P.underlying e = some (.int k)) (hC : P.cellsOf e = 1) (hv : v = .slice a len cap) (h : DataW.Trod enc P W 0 (fun _ => true) true T v d p) :
    ∃ l, RdN k W v l ∧ l.length ≤ maxLen ∧ ∀ x ∈ l, (Lit.int k x).wf = true := by
  subst hv
  obtain ⟨fuel, hf⟩ := h
  rcases open_slice hT hf with ⟨hcs, _⟩ | ⟨a', len', cap', m, n, D, Pl, hcs, _, hl, hm, hmm, _, hx⟩
  · simp [Value.cells] at hcs
    obtain ⟨rfl, rfl, rfl⟩ := hcs
    exact ⟨[], ⟨none, 0, rfl, ⟨Nat.le_refl _, Nat.zero_le _⟩, fun _ => ⟨rfl, rfl⟩, fun _ e => by cases e⟩, Nat.zero_le _, fun x hx => by cases hx⟩
  · simp [Value.cells] at hcs
    obtain ⟨rfl, rfl, rfl⟩ := hcs
    have hmm' : m = cap := by simpa using hmm
    subst hmm'
    have key : ∀ i, i < len → ∃ b : Int, W.cell? (a'.add i) = some (.int k b) ∧ (Lit.int k b).wf = true := by
      intro i hi
      obtain ⟨cs, h1, h2⟩ := hx i (by omega)
      rw [hC] at h1
      obtain ⟨_, hlen, hcell⟩ := World.cells?_some h1
      match cs, hlen with
      | [c0], _ =>
        obtain ⟨K, k0, _, kw⟩ := DataW.trod_int he h2
        simp only [List.cons.injEq, and_true] at k0
        subst k0
        have hc := hcell 0 (by omega)
        simp only [Go.Deep.add_add] at hc
        have e2 : i * 1 + 0 = i := by omega
        exact ⟨K, by simpa [e2] using hc, kw⟩
    obtain ⟨V, hV⟩ := choose_lt key
    have hll : ((List.range len).map V).length = len := by simp
    refine ⟨(List.range len).map V, ⟨some a', m, by rw [hll], ⟨by rw [hll]; omega, by omega⟩, (fun e => by cases e), fun ad e j b hj => ?_⟩, by rw [hll]; omega, fun x hx => ?_⟩
    · cases e
      have hjl : j < len := by
        have := (List.getElem?_eq_some_iff.1 hj).1
        simpa using this
      have hb : b = V j := by
        rw [List.getElem?_map, List.getElem?_range hjl] at hj
        exact (Option.some.inj hj).symm
      rw [hb]
      exact (hV j hjl).1
    · obtain ⟨i, hi, rfl⟩ := List.mem_map.1 hx
      exact (hV i (List.mem_range.1 hi)).2
end

end Go.Proofs.YticglepkbihldaaGreat

/-
  Stage 9: keys, facts and numbers in memory.
-/
namespace Go.Proofs.YticglepkbihldaaGreat
open Go.RowKit Go.ChangeShapes Go.WideShapes Go.Deep

/-- A number's cell. -/
def EN9 : El Int where
  sz := 1
  enc p := [.int .i64 p]
  len _ := rfl
  one p u hu := by rw [List.mem_singleton.1 hu]; rfl
theorem num_info9 : (Tryz.prog.info? 2).map (fun i => (i.zero, i.size, i.bytes)) = some (some (.int .i64 0), EN9.sz, 8) := by kernel_rfl
theorem num_zero9 : (Value.cells (.int .i64 0)).size = EN9.sz := rfl
theorem num_at9 {w : World} {A : Option Addr} {n c : Nat} {L : List Int} (h : RdE EN9 w (.slice A n c) L) {j : Nat} {x : Int} (hj : L[j]? = some x) :
    ∃ ad, A = some ad ∧ ∀ W, Turn (fun _ => False) w W → W.cell? (ad.add j) = some (.int .i64 x) := by
  obtain ⟨ad, hA, _⟩ := h.cells hj
  refine ⟨ad, hA, fun W ht => ?_⟩
  obtain ⟨ad', hA', hc⟩ := (h.later ht).cells hj
  rw [hA] at hA'
  cases hA'
  have h1 := hc 0 _ rfl
  rwa [show j * EN9.sz + 0 = j from by simp [EN9]] at h1
theorem flat_num9 (l : List Int) : EN9.flat l = l.map (fun x => Value.int .i64 x) := by
  induction l with
  | nil => rfl
  | cons x l ih => rw [El.flat_cons, ih]; rfl
theorem rd_num9 {w : World} {v : Value} {l : List Int} (h : RdE EN9 w v l) : RdN .i64 w v l := by
  obtain ⟨A, c, e, h1, h2, h3⟩ := h
  refine ⟨A, c, e, h1, h2, fun ad ea j x hj => h3 ad ea j _ ?_⟩
  rw [flat_num9, List.getElem?_map, hj]
  rfl
/-- A slice that came in lies in the memory that came in. -/
theorem came_in9 {P : Program} {W : World} {base : Nat} {t e : TypeId} {v : Value} (ht : P.underlying t = some (.slice e)) (h : Value.okWide P W .any base t v) : ∀ g, v.ownBlock = some g → g < W.heap.size := fun g hg => by
  simp only [Value.okWide, ht, Cell.okWide] at h
  obtain ⟨a, n, c, rfl⟩ := okWide_slice ht (by simp only [Value.okWide, ht, Cell.okWide]; exact h)
  cases a with
  | none => simp [Value.ownBlock] at hg
  | some a =>
    simp only [Cell.ok, ht] at h
    have e : a.block = g := by simpa [Value.ownBlock] using hg
    obtain ⟨_, _, h3⟩ := h
    rw [← e]
    obtain ⟨_, _, row, cells, hs, _⟩ := h3
    unfold World.shape? at hs
    rcases Nat.lt_or_ge a.block W.heap.size with hl | hl
    · exact hl
    · rw [Array.getElem?_eq_none hl] at hs
      cases hs

/-- A text, as a value. -/
abbrev sv9 (l : List UInt8) : Value := .string ⟨l.toArray⟩
/-- A key, a fact, as a value. -/
abbrev kv9 (k : K9) : Value := .agg #[.int .i64 k.h, sv9 k.a, sv9 k.b, sv9 k.c, sv9 k.d]
abbrev fv9 (f : F9) : Value := .agg #[.int .i64 f.k.h, sv9 f.k.a, sv9 f.k.b, sv9 f.k.c, sv9 f.k.d, .int .i64 f.v]
/-- A fact's cells. -/
def EF : El F9 where
  sz := 6
  enc f := [.int .i64 f.k.h, sv9 f.k.a, sv9 f.k.b, sv9 f.k.c, sv9 f.k.d, .int .i64 f.v]
  len _ := rfl
  one f u hu := by
    simp only [List.mem_cons, List.not_mem_nil, or_false] at hu
    rcases hu with rfl | rfl | rfl | rfl | rfl | rfl <;> rfl
theorem fact_info : (Tryz.prog.info? 89).map (fun i => (i.zero, i.size, i.bytes)) = some (some (.agg #[.int .i64 0, .string ⟨#[]⟩, .string ⟨#[]⟩, .string ⟨#[]⟩, .string ⟨#[]⟩, .int .i64 0]), EF.sz, 80) := by kernel_rfl
theorem fact_zero : (Value.cells (.agg #[.int .i64 0, .string ⟨#[]⟩, .string ⟨#[]⟩, .string ⟨#[]⟩, .string ⟨#[]⟩, .int .i64 0])).size = EF.sz := rfl
/-- A fact in memory. -/
theorem fact_at {w : World} {A : Option Addr} {n c : Nat} {L : List F9} (h : RdE EF w (.slice A n c) L) {j : Nat} {f : F9} (hj : L[j]? = some f) :
    ∃ ad, A = some ad ∧ ∀ W, Turn (fun _ => False) w W → W.cell? (ad.add (j * 6)) = some (.int .i64 f.k.h) ∧ (∀ i, i < 4 → W.cell? ⟨(ad.add (j * 6)).block, (ad.add (j * 6)).off + (1 + i), none⟩ = some (sv9 (f.k.dim i))) ∧ W.cell? ⟨(ad.add (j * 6)).block, (ad.add (j * 6)).off + 5, none⟩ = some (.int .i64 f.v) := by
  obtain ⟨ad, hA, _⟩ := h.cells hj
  refine ⟨ad, hA, fun W ht => ?_⟩
  obtain ⟨ad', hA', hc⟩ := (h.later ht).cells hj
  rw [hA] at hA'
  cases hA'
  have key : ∀ (k : Nat) (u : Value), (EF.enc f)[k + 1]? = some u → W.cell? ⟨(ad.add (j * 6)).block, (ad.add (j * 6)).off + (k + 1), none⟩ = some u := fun k u hu => by
    rw [show (⟨(ad.add (j * 6)).block, (ad.add (j * 6)).off + (k + 1), none⟩ : Addr) = (ad.add (j * 6)).add (k + 1) from rfl, eadd_add]
    exact hc (k + 1) u hu
  refine ⟨hc 0 _ rfl, fun i hi => ?_, key 4 _ rfl⟩
  match i, hi with
  | 0, _ => exact key 0 _ rfl
  | 1, _ => exact key 1 _ rfl
  | 2, _ => exact key 2 _ rfl
  | 3, _ => exact key 3 _ rfl
/-- The same, cell by cell. -/
theorem fact_at6 {w : World} {A : Option Addr} {n c : Nat} {L : List F9} (h : RdE EF w (.slice A n c) L) {j : Nat} {f : F9} (hj : L[j]? = some f) :
    ∃ ad, A = some ad ∧ ∀ W, Turn (fun _ => False) w W → W.cell? (ad.add (j * 6)) = some (.int .i64 f.k.h) ∧ W.cell? ⟨(ad.add (j * 6)).block, (ad.add (j * 6)).off + 1, none⟩ = some (sv9 f.k.a) ∧ W.cell? ⟨(ad.add (j * 6)).block, (ad.add (j * 6)).off + 2, none⟩ = some (sv9 f.k.b) ∧
      W.cell? ⟨(ad.add (j * 6)).block, (ad.add (j * 6)).off + 3, none⟩ = some (sv9 f.k.c) ∧ W.cell? ⟨(ad.add (j * 6)).block, (ad.add (j * 6)).off + 4, none⟩ = some (sv9 f.k.d) ∧ W.cell? ⟨(ad.add (j * 6)).block, (ad.add (j * 6)).off + 5, none⟩ = some (.int .i64 f.v) := by
  obtain ⟨ad, hA, hc⟩ := fact_at h hj
  refine ⟨ad, hA, fun W ht => ?_⟩
  obtain ⟨h0, h1, h2⟩ := hc W ht
  exact ⟨h0, h1 0 (by omega), h1 1 (by omega), h1 2 (by omega), h1 3 (by omega), h2⟩
/-- A box's key: its cells. -/
theorem dim_cell {W : World} {g o : Nat} {t : TypeId} {vs : Array Value} {k : K9} (hb : Box W g t vs) (h : ∀ i, i < 4 → vs[o + i]? = some (sv9 (k.dim i))) : ∀ i, i < 4 → W.cell? ⟨g, o + i, none⟩ = some (sv9 (k.dim i)) := fun i hi => by
  rw [hb.cell]
  exact h i hi
theorem key_cells {k : K9} : ∀ i, i < 4 → (#[.int .i64 k.h, sv9 k.a, sv9 k.b, sv9 k.c, sv9 k.d] : Array Value)[1 + i]? = some (sv9 (k.dim i)) := fun i hi => by
  match i, hi with
  | 0, _ => rfl
  | 1, _ => rfl
  | 2, _ => rfl
  | 3, _ => rfl
theorem fact_cells {f : F9} : ∀ i, i < 4 → (#[.int .i64 f.k.h, sv9 f.k.a, sv9 f.k.b, sv9 f.k.c, sv9 f.k.d, .int .i64 f.v] : Array Value)[1 + i]? = some (sv9 (f.k.dim i)) := fun i hi => by
  match i, hi with
  | 0, _ => rfl
  | 1, _ => rfl
  | 2, _ => rfl
  | 3, _ => rfl

end Go.Proofs.YticglepkbihldaaGreat

/-
  Stage 9: keys and facts held against each other by ==.
-/
namespace Go.Proofs.YticglepkbihldaaGreat
open Go.RowKit

theorem bytes_beq9 (a b : List UInt8) : ((⟨a.toArray⟩ : ByteArray).toList == (⟨b.toArray⟩ : ByteArray).toList) = decide (a = b) := by
  rw [ByteArray.toList_eq, ByteArray.toList_eq]
  by_cases h : a = b
  · subst h; simp
  · simp [h]
theorem eq_texts9 (d : Nat) (a0 a1 a2 a3 b0 b1 b2 b3 : List UInt8) (w : World) :
    (Op.equalIn (d + 2) 46 (.agg #[sv9 a0, sv9 a1, sv9 a2, sv9 a3]) (.agg #[sv9 b0, sv9 b1, sv9 b2, sv9 b3])).run Tryz.prog w = .ok (decide (a0 = b0) && decide (a1 = b1) && decide (a2 = b2) && decide (a3 = b3)) w := by
  have u3 := Tryz.underlying9
  have a3' := Tryz.isAgg9
  have z3 := Tryz.sizeOf9
  rw [Op.equalIn]
  simp only [Sem.run_bind, run_underlying Tryz.underlying46, Result.andThen_ok]
  simp only [Std.Legacy.Range.forIn_eq_forIn_range', Std.Legacy.Range.size, Nat.sub_zero, Nat.add_sub_cancel, Nat.div_one, List.range'_succ, List.range'_zero, List.forIn_cons, List.forIn_nil]
  go_simp
  by_cases h0 : a0 = b0 <;> by_cases h1 : a1 = b1 <;> by_cases h2 : a2 = b2 <;> by_cases h3 : a3 = b3 <;> simp [h0, h1, h2, h3]

theorem eq_key9 (d : Nat) (p q : K9) (w : World) : (Op.equalIn (d + 3) 48 (kv9 p) (kv9 q)).run Tryz.prog w = .ok (decide (p = q)) w := by
  have hS : Tryz.prog.underlying 48 = some (.struct (Tryz.prog.fieldsOf 48)) := by kernel_rfl
  have hp : Tryz.prog.stoodInHeld 48 = false := by kernel_rfl
  have u2 := Tryz.underlying2
  have i2 := Tryz.isAgg2
  have z2 := Tryz.sizeOf2
  have i4 := Tryz.isAgg46
  have z4 := Tryz.sizeOf46
  have key := eq_texts9 d p.a p.b p.c p.d q.a q.b q.c q.d
  rw [run_equalIn_agg w (d + 2) 48 _ _ hS hp]
  simp only [Program.fieldsOf, Tryz.underlying48]
  go_simp
  obtain ⟨h, a, b, c, e⟩ := p
  obtain ⟨h', a', b', c', e'⟩ := q
  by_cases h0 : h = h' <;> by_cases h1 : a = a' <;> by_cases h2 : b = b' <;> by_cases h3 : c = c' <;> by_cases h4 : e = e' <;> simp [h0, h1, h2, h3, h4]
theorem eq_fact9 (d : Nat) (f g : F9) (w : World) : (Op.equalIn (d + 4) 89 (fv9 f) (fv9 g)).run Tryz.prog w = .ok (decide (f = g)) w := by
  have hS : Tryz.prog.underlying 89 = some (.struct (Tryz.prog.fieldsOf 89)) := by kernel_rfl
  have hp : Tryz.prog.stoodInHeld 89 = false := by kernel_rfl
  have u2 := Tryz.underlying2
  have i2 := Tryz.isAgg2
  have z2 := Tryz.sizeOf2
  have i4 := Tryz.isAgg48
  have z4 := Tryz.sizeOf48
  have key := eq_key9 d f.k g.k
  rw [run_equalIn_agg w (d + 3) 89 _ _ hS hp]
  simp only [Program.fieldsOf, Tryz.underlying89]
  go_simp
  obtain ⟨k, v⟩ := f
  obtain ⟨k', v'⟩ := g
  by_cases h0 : k = k' <;> by_cases h1 : v = v' <;> simp [h0, h1]
theorem run_neq_fact (f g : F9) (w : World) : (binOp .neq 89 (fv9 f) (fv9 g)).run Tryz.prog w = .ok (.bool (!decide (f = g))) w := by
  rw [run_neq_struct, show (10000 : Nat) = 9996 + 4 from rfl, eq_fact9]
  rfl
theorem run_eql_fact (f g : F9) (w : World) : (binOp .eql 89 (fv9 f) (fv9 g)).run Tryz.prog w = .ok (.bool (decide (f = g))) w := by
  rw [run_eql_struct, show (10000 : Nat) = 9996 + 4 from rfl, eq_fact9]
  rfl
theorem run_neq_key (p q : K9) (w : World) : (binOp .neq 48 (kv9 p) (kv9 q)).run Tryz.prog w = .ok (.bool (!decide (p = q))) w := by
  rw [run_neq_struct, show (10000 : Nat) = 9997 + 3 from rfl, eq_key9]
  rfl
theorem run_eql_key (p q : K9) (w : World) : (binOp .eql 48 (kv9 p) (kv9 q)).run Tryz.prog w = .ok (.bool (decide (p = q))) w := by
  rw [run_eql_struct, show (10000 : Nat) = 9997 + 3 from rfl, eq_key9]
  rfl
theorem guard_fact9 (op : BinOp) (x y : Operand) (f g : F9) (w : World) : (eqGuard op 89 x y (fv9 f) (fv9 g)).run Tryz.prog w = .ok () w := run_eqGuard_agg w op _ x y _ _ (by kernel_rfl)
theorem guard_key9 (op : BinOp) (x y : Operand) (p q : K9) (w : World) : (eqGuard op 48 x y (kv9 p) (kv9 q)).run Tryz.prog w = .ok () w := run_eqGuard_agg w op _ x y _ _ (by kernel_rfl)

end Go.Proofs.YticglepkbihldaaGreat

/-
  Numbers of cells: a number's sign, its size, two numbers together, by the program and by the document.
-/
namespace Go.Proofs.YticglepkbihldaaGreat
open Go.RowKit

theorem u64_of {x : Int} (h : fit x = true) : IntKind.u64.wrap x = if x < 0 then x + 18446744073709551616 else x := by
  rw [fit_iff] at h
  rw [IntKind.wrap_u64]
  split <;> omega

theorem size_a {x : Int} (h : 4611686018427387904 < x ∨ x < -4611686018427387904) : 4611686018427387905 = (sizeC x : Int) := by
  unfold sizeC
  rw [if_neg (by omega)]
  rfl
theorem size_b {x : Int} (h : x ≤ 4611686018427387904 ∧ -4611686018427387904 ≤ x) (g : x < 0) : -x = (sizeC x : Int) := by
  unfold sizeC
  rw [if_pos (by omega)]
  omega
theorem size_c {x : Int} (h : x ≤ 4611686018427387904 ∧ -4611686018427387904 ≤ x) (g : 0 ≤ x) : x = (sizeC x : Int) := by
  unfold sizeC
  rw [if_pos (by omega)]
  omega

theorem wrap_par (z : Nat) : IntKind.i64.wrap (z : Int) % 2 = ((z % 2 : Nat) : Int) := by
  rw [IntKind.wrap_i64]
  have h := Int.emod_emod_of_dvd ((z : Int) + 9223372036854775808) (show (2 : Int) ∣ 18446744073709551616 from ⟨9223372036854775808, by decide⟩)
  generalize ((z : Int) + 9223372036854775808) % 18446744073709551616 = r at *
  omega

/-- The lowest bit of two numbers' common ones. -/
def low2 (x y : Int) : Int := if x % 2 = 1 ∧ y % 2 = 1 then 1 else 0
theorem low_and (x y : Int) : bits BinOp.and IntKind.i64 (bits BinOp.and IntKind.i64 x y) 1 = low2 x y := by
  have e1 : ∀ u : Int, bits BinOp.and IntKind.i64 u 1 = u % 2 := fun u => by
    show IntKind.i64.wrap ((BitVec.ofInt 64 u &&& BitVec.ofInt 64 1).toNat : Int) = _
    rw [BitVec.toNat_and, show (BitVec.ofInt 64 1).toNat = 1 from rfl, Nat.and_one_is_mod, BitVec.toNat_ofInt]
    have := Int.emod_nonneg u (b := 2 ^ 64) (by decide)
    have e : ((2 ^ 64 : Nat) : Int) = 18446744073709551616 := rfl
    rw [e]
    rw [IntWalk.i64_in _ (by omega)]
    omega
  rw [e1]
  have hx : (BitVec.ofInt 64 x).toNat % 2 = (x % 2).toNat := by rw [BitVec.toNat_ofInt, show ((2 ^ 64 : Nat) : Int) = 18446744073709551616 from rfl]; omega
  have hy : (BitVec.ofInt 64 y).toNat % 2 = (y % 2).toNat := by rw [BitVec.toNat_ofInt, show ((2 ^ 64 : Nat) : Int) = 18446744073709551616 from rfl]; omega
  have h2 : ((BitVec.ofInt 64 x).toNat &&& (BitVec.ofInt 64 y).toNat) % 2 = (x % 2).toNat &&& (y % 2).toNat := by
    have := Nat.and_mod_two_pow (a := (BitVec.ofInt 64 x).toNat) (b := (BitVec.ofInt 64 y).toNat) (n := 1)
    rw [Nat.pow_one, hx, hy] at this
    exact this
  show IntKind.i64.wrap ((BitVec.ofInt 64 x &&& BitVec.ofInt 64 y).toNat : Int) % 2 = low2 x y
  rw [BitVec.toNat_and]
  generalize (BitVec.ofInt 64 x).toNat &&& (BitVec.ofInt 64 y).toNat = z at *
  rw [wrap_par, h2]
  unfold low2
  rcases (show x % 2 = 0 ∨ x % 2 = 1 by omega) with a | a <;> rcases (show y % 2 = 0 ∨ y % 2 = 1 by omega) with b | b <;> rw [a, b] <;> rfl

theorem sign_same {g q : Int} (h : fit g = true) (hq : q = wrap64 (g * 2)) {z : Int} (hg : g = z / 2) : ((if g < 0 then 1 else 0 : Int) = if q < 0 then 1 else 0) ↔ fit z = true := by
  rw [fit_iff] at *
  unfold wrap64 at hq
  subst hq
  split <;> split <;> omega

theorem ret_pair {a b : Int} {k : IntKind} {c : Bool} (h : a = b) : Ending.returned (.tuple #[.int k a, .bool c]) = .returned (.tuple #[.int k b, .bool c]) := by rw [h]

/-- What two numbers come to, and whether. -/
def sumV (x y : Int) : Value := .tuple #[.int .i64 (if fit (x + y) then x + y else 0), .bool (fit (x + y))]
theorem sumV_yes {x y : Int} (h : fit (x + y) = true) : sumV x y = .tuple #[.int .i64 (x + y), .bool true] := by unfold sumV; rw [h]; rfl
theorem sumV_no {x y : Int} (h : fit (x + y) = false) : sumV x y = .tuple #[.int .i64 0, .bool false] := by unfold sumV; rw [h]; rfl

section
variable {x y : Int}
theorem add_a (hx : fit x = true) (hy : fit y = true) (h : 0 ≤ y) (g : x ≤ wrap64 (9223372036854775807 - y)) : Ending.returned (.tuple #[.int .i64 (wrap64 (x + y)), .bool true]) = .returned (sumV x y) := by
  rw [fit_iff] at *
  have e : wrap64 (9223372036854775807 - y) = 9223372036854775807 - y := by unfold wrap64; omega
  rw [e] at g
  rw [sumV_yes ((fit_iff _).2 ⟨by omega, by omega⟩)]
  exact ret_pair (by unfold wrap64; omega)
theorem add_b (hy : fit y = true) (h : 0 ≤ y) (g : wrap64 (9223372036854775807 - y) < x) : Ending.returned (.tuple #[.int .i64 0, .bool false]) = .returned (sumV x y) := by
  rw [fit_iff] at *
  have e : wrap64 (9223372036854775807 - y) = 9223372036854775807 - y := by unfold wrap64; omega
  rw [e] at g
  rw [sumV_no]
  rw [Bool.eq_false_iff, ne_eq, fit_iff]
  omega
theorem add_c (hy : fit y = true) (h : y < 0) (g : x < wrap64 (-9223372036854775808 - y)) : Ending.returned (.tuple #[.int .i64 0, .bool false]) = .returned (sumV x y) := by
  rw [fit_iff] at *
  have e : wrap64 (-9223372036854775808 - y) = -9223372036854775808 - y := by unfold wrap64; omega
  rw [e] at g
  rw [sumV_no]
  rw [Bool.eq_false_iff, ne_eq, fit_iff]
  omega
theorem add_d (hx : fit x = true) (hy : fit y = true) (h : y < 0) (g : wrap64 (-9223372036854775808 - y) ≤ x) : Ending.returned (.tuple #[.int .i64 (wrap64 (x + y)), .bool true]) = .returned (sumV x y) := by
  rw [fit_iff] at *
  have e : wrap64 (-9223372036854775808 - y) = -9223372036854775808 - y := by unfold wrap64; omega
  rw [e] at g
  rw [sumV_yes ((fit_iff _).2 ⟨by omega, by omega⟩)]
  exact ret_pair (by unfold wrap64; omega)
end

end Go.Proofs.YticglepkbihldaaGreat

/-
  Cells by the program and by the document: one value's cell, a mean, which are right.
-/
namespace Go.Proofs.YticglepkbihldaaGreat
open Go.RowKit

theorem results_cell {fn : Func} {p : Tmp} {ty : TypeId} (h : fn.results = #[.cell p ty]) (tmps : Array Value) (P : Program) (w : World) :
    (results fn tmps).run P w = ((asAddr (tmps.getD p undef)).run P w).andThen fun a w₁ => (loadVar ty a).run P w₁ := by
  simp only [results, h]
  simp [Sem.run_bind, Result.andThen]

/-- A cell, as a value. -/
def cv (c : Cl) : Value := .agg #[.int .i64 c.n, .int .i64 c.s, .int .i64 c.lo, .int .i64 c.hi]
/-- Numbers that an int64 holds. -/
def okC (c : Cl) : Prop := fit c.n = true ∧ fit c.s = true ∧ fit c.lo = true ∧ fit c.hi = true

set_option maxRecDepth 100000 in
set_option maxHeartbeats 400000 in
theorem of_any (v : Int) (w : World) :
    Calls Tryz.prog 72 #[.int .i64 v] w fun e w' => e = .returned (.agg #[.int .i64 1, .int .i64 v, .int .i64 v, .int .i64 v]) ∧ w' = w.alloc (.cells #[.int .i64 1, .int .i64 v, .int .i64 v, .int .i64 v] 50) := by
  go_enter Tryz.func72, Tryz.ntmps72
  go_wp2
  refine bodyPost_ret (v := .agg #[.int .i64 1, .int .i64 v, .int .i64 v, .int .i64 v]) ?_ rfl ⟨rfl, rfl⟩
  rw [results_cell rfl]
  go_simp
/-- What Mean answers. -/
def meanV (n s : Int) : Value := if n < 1 then .tuple #[.int .i64 0, .bool false] else .tuple #[.int .i64 (s / n), .bool true]
theorem meanV_shape (n s : Int) : ∃ x b, meanV n s = .tuple #[.int .i64 x, .bool b] := by
  unfold meanV
  split <;> exact ⟨_, _, rfl⟩
theorem mean_no {n s : Int} (h : n < 1) : Ending.returned (.tuple #[.int .i64 0, .bool false]) = .returned (meanV n s) := by
  unfold meanV
  rw [if_pos h]
theorem mean_div {n s : Int} (hs : fit s = true) (h : 1 ≤ n) : wrap64 (s.tdiv n) = s.tdiv n := by
  rw [fit_iff] at hs
  have h1 : (s.tdiv n).natAbs ≤ s.natAbs := by rw [Int.natAbs_tdiv]; exact Nat.div_le_self _ _
  unfold wrap64
  generalize hq : s.tdiv n = q at *
  by_cases h0 : 0 ≤ s
  · have : 0 ≤ q := by rw [← hq]; exact Int.tdiv_nonneg h0 (by omega)
    omega
  · have h2 : 0 ≤ (-s).tdiv n := Int.tdiv_nonneg (by omega) (by omega)
    rw [Int.neg_tdiv, hq] at h2
    omega
theorem mean_a {n s : Int} (hs : fit s = true) (h : 1 ≤ n) (g : s.tmod n < 0) : Ending.returned (.tuple #[.int .i64 (wrap64 (wrap64 (s.tdiv n) - 1)), .bool true]) = .returned (meanV n s) := by
  have hf := floor_of s n (by omega)
  rw [if_pos g] at hf
  rw [mean_div hs h, hf]
  unfold meanV
  rw [if_neg (by omega)]
  refine ret_pair ?_
  rw [fit_iff] at hs
  have h1 := Int.ediv_mul_le s (b := n) (by omega)
  have h2 := Int.lt_ediv_add_one_mul_self s (b := n) (by omega)
  have h3 : -9223372036854775808 ≤ s / n := by
    rw [Int.le_ediv_iff_mul_le (by omega)]
    have : (-9223372036854775808 : Int) * n ≤ -9223372036854775808 * 1 := by omega
    omega
  have h4 : s / n ≤ 9223372036854775807 := by
    have h5 : s / n < 9223372036854775808 := by
      rw [Int.ediv_lt_iff_lt_mul (by omega)]
      omega
    omega
  unfold wrap64
  omega
theorem mean_b {n s : Int} (hs : fit s = true) (h : 1 ≤ n) (g : 0 ≤ s.tmod n) : Ending.returned (.tuple #[.int .i64 (wrap64 (s.tdiv n)), .bool true]) = .returned (meanV n s) := by
  have hf := floor_of s n (by omega)
  rw [if_neg (by omega)] at hf
  rw [mean_div hs h, hf]
  unfold meanV
  rw [if_neg (by omega)]

theorem rightC_eq (n s lo hi : Int) : rightC ⟨n, s, lo, hi⟩ = true ↔ (n = 0 ∧ s = 0 ∧ lo = 0 ∧ hi = 0) ∨ (0 < n ∧ lo ≤ hi ∧ (1 < n ∨ (s = lo ∧ s = hi))) := by
  unfold rightC
  by_cases h : n = 0
  · subst h
    simp [Cl.zero]
  · simp only [if_neg h, Bool.and_eq_true, Bool.or_eq_true, decide_eq_true_iff]
    constructor
    · exact fun g => .inr g
    · rintro (g | g)
      · exact absurd g.1 h
      · exact g
theorem right_is {n s lo hi : Int} {b : Bool} (h : b = true ↔ (n = 0 ∧ s = 0 ∧ lo = 0 ∧ hi = 0) ∨ (0 < n ∧ lo ≤ hi ∧ (1 < n ∨ (s = lo ∧ s = hi)))) : b = rightC ⟨n, s, lo, hi⟩ := by
  rw [Bool.eq_iff_iff, rightC_eq]
  exact h

theorem right_t {n s lo hi : Int} (h : (n = 0 ∧ s = 0 ∧ lo = 0 ∧ hi = 0) ∨ (0 < n ∧ lo ≤ hi ∧ (1 < n ∨ (s = lo ∧ s = hi)))) : true = rightC ⟨n, s, lo, hi⟩ := right_is ⟨fun _ => h, fun _ => rfl⟩
theorem right_f {n s lo hi : Int} (h : ¬ ((n = 0 ∧ s = 0 ∧ lo = 0 ∧ hi = 0) ∨ (0 < n ∧ lo ≤ hi ∧ (1 < n ∨ (s = lo ∧ s = hi))))) : false = rightC ⟨n, s, lo, hi⟩ := right_is ⟨fun e => (by cases e), fun g => absurd g h⟩
theorem right_d {n s lo hi : Int} {q : Prop} [Decidable q] (h : q ↔ ((n = 0 ∧ s = 0 ∧ lo = 0 ∧ hi = 0) ∨ (0 < n ∧ lo ≤ hi ∧ (1 < n ∨ (s = lo ∧ s = hi))))) : decide q = rightC ⟨n, s, lo, hi⟩ := right_is (by rw [decide_eq_true_iff]; exact h)
theorem right_b {n s lo hi a b : Int} (h : a = b ↔ ((n = 0 ∧ s = 0 ∧ lo = 0 ∧ hi = 0) ∨ (0 < n ∧ lo ≤ hi ∧ (1 < n ∨ (s = lo ∧ s = hi))))) : (a == b) = rightC ⟨n, s, lo, hi⟩ := right_is (by rw [beq_iff_eq]; exact h)

theorem right_o {n s lo hi a b : Int} {q : Prop} [Decidable q] (h : (q ∨ a = b) ↔ ((n = 0 ∧ s = 0 ∧ lo = 0 ∧ hi = 0) ∨ (0 < n ∧ lo ≤ hi ∧ (1 < n ∨ (s = lo ∧ s = hi))))) : (decide q || a == b) = rightC ⟨n, s, lo, hi⟩ := right_is (by rw [Bool.or_eq_true, decide_eq_true_iff, beq_iff_eq]; exact h)

set_option maxRecDepth 100000 in
set_option maxHeartbeats 1000000 in
theorem right_any (n s lo hi : Int) (w : World) :
    Calls Tryz.prog 42 #[.agg #[.int .i64 n, .int .i64 s, .int .i64 lo, .int .i64 hi]] w fun e w' => e = .returned (.bool (rightC ⟨n, s, lo, hi⟩)) ∧ Turn (fun _ => False) w w' := by
  by_cases hn : n = 1
  · subst hn
    by_cases h1 : lo = s
    · by_cases h2 : hi = s
      · subst h1 h2
        go_enter Tryz.func42, Tryz.ntmps42
        go_wp2_with fail
        go_region_with (go_at_call 72; refine (of_any _ _).mono ?_; rintro e w' ⟨rfl, rfl⟩)
        all_goals go_wp2
        all_goals go_ret
        all_goals exact ⟨ret_bool (right_is (by simp)), ((Turn.refl _ w).alloc _).drew.alloc _⟩
      · have h2' : ¬ s = hi := fun e => h2 e.symm
        go_enter Tryz.func42, Tryz.ntmps42
        go_wp2_with fail
        go_region_with (go_at_call 72; refine (of_any _ _).mono ?_; rintro e w' ⟨rfl, rfl⟩)
        all_goals go_wp2
        all_goals go_ret
        all_goals exact ⟨ret_bool (right_is (by simp; omega)), ((Turn.refl _ w).alloc _).drew.alloc _⟩
    · have h1' : ¬ s = lo := fun e => h1 e.symm
      go_enter Tryz.func42, Tryz.ntmps42
      go_wp2_with fail
      go_region_with (go_at_call 72; refine (of_any _ _).mono ?_; rintro e w' ⟨rfl, rfl⟩)
      all_goals go_wp2
      all_goals go_ret
      all_goals exact ⟨ret_bool (right_is (by simp; omega)), ((Turn.refl _ w).alloc _).drew.alloc _⟩
  · have hn1 : (n == 1) = false := by rw [beq_eq_false_iff_ne]; exact hn
    go_enter Tryz.func42, Tryz.ntmps42
    go_wp2
    all_goals go_ret
    all_goals
      simp only [beq_iff_eq, beq_eq_false_iff_ne, ne_eq] at *
      first
        | exact ⟨ret_bool (right_t (by omega)), (Turn.refl _ w).alloc _⟩
        | exact ⟨ret_bool (right_f (by omega)), (Turn.refl _ w).alloc _⟩
        | exact ⟨ret_bool (right_d (by omega)), (Turn.refl _ w).alloc _⟩
        | exact ⟨ret_bool (right_b (by omega)), (Turn.refl _ w).alloc _⟩

set_option maxRecDepth 100000 in
set_option maxHeartbeats 1000000 in
theorem ref_right (n s lo hi : Int) (w : World) :
    Calls Tryz.prog 41 #[.agg #[.int .i64 n, .int .i64 s, .int .i64 lo, .int .i64 hi]] w fun e w' => e = .returned (.bool (rightC ⟨n, s, lo, hi⟩)) ∧ Turn (fun _ => False) w w' := by
  go_enter Tryz.func41, Tryz.ntmps41
  go_wp2
  all_goals go_ret
  all_goals
    simp only [beq_iff_eq, beq_eq_false_iff_ne, ne_eq] at *
    first
      | exact ⟨ret_bool (right_t (by omega)), (Turn.refl _ w).alloc _⟩
      | exact ⟨ret_bool (right_f (by omega)), (Turn.refl _ w).alloc _⟩
      | exact ⟨ret_bool (right_d (by omega)), (Turn.refl _ w).alloc _⟩
      | exact ⟨ret_bool (right_b (by omega)), (Turn.refl _ w).alloc _⟩
      | exact ⟨ret_bool (right_o (by omega)), (Turn.refl _ w).alloc _⟩

end Go.Proofs.YticglepkbihldaaGreat

/-
  Two cells together, by the program and by the document.
-/
namespace Go.Proofs.YticglepkbihldaaGreat
open Go.RowKit

/-- What a call that makes a cell answers. -/
def outC : Option Cl → Value
  | some c => .tuple #[cv c, .bool true]
  | none => .tuple #[cv Cl.zero, .bool false]
theorem okC_zero : okC Cl.zero := ⟨rfl, rfl, rfl, rfl⟩
theorem okC_of {v : Int} (h : fit v = true) : okC (Cl.of v) := ⟨rfl, h, h, h⟩
theorem okC_merge {a b c : Cl} (ha : okC a) (hb : okC b) (h : mergeC a b = some c) : okC c := by
  unfold mergeC at h
  split at h
  · cases h
    exact hb
  · split at h
    · cases h
      exact ha
    · split at h
      · rename_i g
        rw [Bool.and_eq_true] at g
        cases h
        obtain ⟨_, _, a3, a4⟩ := ha
        obtain ⟨_, _, b3, b4⟩ := hb
        refine ⟨g.1, g.2, ?_, ?_⟩
        · show fit (min a.lo b.lo) = true
          rw [fit_iff] at *
          omega
        · show fit (max a.hi b.hi) = true
          rw [fit_iff] at *
          omega
      · cases h
theorem merge_l {n : Int} (s lo hi : Int) (b : Cl) (h : n = 0) : Ending.returned (.tuple #[cv b, .bool true]) = .returned (outC (mergeC ⟨n, s, lo, hi⟩ b)) := by
  unfold mergeC
  rw [if_pos h]
  rfl
theorem merge_r {m : Int} (t lo' hi' : Int) (a : Cl) (h : ¬ a.n = 0) (g : m = 0) : Ending.returned (.tuple #[cv a, .bool true]) = .returned (outC (mergeC a ⟨m, t, lo', hi'⟩)) := by
  unfold mergeC
  rw [if_neg h, if_pos g]
  rfl
theorem merge_no {a b : Cl} (h0 : ¬ a.n = 0) (h1 : ¬ b.n = 0) (h : fit (a.n + b.n) = false ∨ fit (a.s + b.s) = false) : Ending.returned (.tuple #[cv Cl.zero, .bool false]) = .returned (outC (mergeC a b)) := by
  unfold mergeC
  rw [if_neg h0, if_neg h1, if_neg (by rcases h with h | h <;> rw [h] <;> simp)]
  rfl
theorem merge_yes {a b : Cl} (h0 : ¬ a.n = 0) (h1 : ¬ b.n = 0) (ha : fit (a.n + b.n) = true) (hb : fit (a.s + b.s) = true) {LO HI : Int} (g1 : LO = min a.lo b.lo) (g2 : HI = max a.hi b.hi) :
    Ending.returned (.tuple #[.agg #[.int .i64 (a.n + b.n), .int .i64 (a.s + b.s), .int .i64 LO, .int .i64 HI], .bool true]) = .returned (outC (mergeC a b)) := by
  subst g1 g2
  unfold mergeC
  rw [if_neg h0, if_neg h1, if_pos (by rw [ha, hb]; rfl)]
  rfl

end Go.Proofs.YticglepkbihldaaGreat
