
/-
  Slices of elements of any size: what they hold, wherever they lie; rows of a call's own; append. No type is named here.
-/
import Derived.Test.YtieffpngknglpaaOa
import Derived.WalkMore
import Derived.OwnWalk
namespace Go.Proofs.Ytieffpngknglpaa
open Go.RowKit

/-- How an element stands in memory: its cells. -/
structure El (T : Type) where
  sz : Nat
  enc : T → List Value
  len : ∀ t, (enc t).length = sz
  one : ∀ t, ∀ u ∈ enc t, u.oneCell' = true

section
variable {T : Type} (E : El T)
/-- All cells of elements. -/
def El.flat (l : List T) : List Value := l.flatMap E.enc
theorem El.flat_nil : E.flat [] = [] := rfl
theorem El.flat_cons (t : T) (l : List T) : E.flat (t :: l) = E.enc t ++ E.flat l := rfl
theorem El.flat_append (l m : List T) : E.flat (l ++ m) = E.flat l ++ E.flat m := List.flatMap_append
theorem El.flat_len (l : List T) : (E.flat l).length = l.length * E.sz := by
  induction l with
  | nil => simp [El.flat]
  | cons t l ih => rw [El.flat_cons, List.length_append, ih, E.len, List.length_cons, Nat.add_mul, Nat.one_mul, Nat.add_comm]
theorem El.flat_one (l : List T) : ∀ u ∈ E.flat l, u.oneCell' = true := fun u hu => by
  obtain ⟨t, _, h⟩ := List.mem_flatMap.1 hu
  exact E.one t u h
theorem El.flat_at {l : List T} {j : Nat} {t : T} (hj : l[j]? = some t) {i : Nat} (hi : i < E.sz) : (E.flat l)[j * E.sz + i]? = (E.enc t)[i]? := by
  induction l generalizing j with
  | nil => cases hj
  | cons x l ih =>
    rw [El.flat_cons]
    cases j with
    | zero =>
      cases hj
      rw [Nat.zero_mul, Nat.zero_add, List.getElem?_append_left (by rw [E.len]; exact hi)]
    | succ j =>
      rw [List.getElem?_append_right (by rw [E.len, Nat.succ_mul]; omega), E.len, show (j + 1) * E.sz + i - E.sz = j * E.sz + i by rw [Nat.succ_mul]; omega]
      exact ih hj
theorem El.flat_take (l : List T) (n : Nat) : E.flat (l.take n) = (E.flat l).take (n * E.sz) := by
  induction l generalizing n with
  | nil => simp [El.flat]
  | cons x l ih =>
    cases n with
    | zero => simp [El.flat]
    | succ n =>
      rw [List.take_succ_cons, El.flat_cons, El.flat_cons, ih, List.take_append, E.len, Nat.succ_mul, Nat.add_sub_cancel, List.take_of_length_le (l := E.enc x) (by rw [E.len]; omega)]
theorem El.flat_drop (l : List T) (n : Nat) : E.flat (l.drop n) = (E.flat l).drop (n * E.sz) := by
  induction l generalizing n with
  | nil => simp [El.flat]
  | cons x l ih =>
    cases n with
    | zero => simp [El.flat]
    | succ n =>
      rw [List.drop_succ_cons, ih, El.flat_cons, List.drop_append, E.len, Nat.succ_mul, Nat.add_sub_cancel, List.drop_of_length_le (l := E.enc x) (by rw [E.len]; omega), List.nil_append]

/-- A slice value, wherever it lies: its elements are l. -/
def RdE (w : World) (v : Value) (l : List T) : Prop :=
  ∃ A c, v = .slice A l.length c ∧ (l.length ≤ c ∧ c ≤ maxLen) ∧ (A = none → l = [] ∧ c = 0) ∧ ∀ ad, A = some ad → ∀ i u, (E.flat l)[i]? = some u → w.cell? (ad.add i) = some u
end

section
variable {T : Type} {E : El T} {w w' : World} {v : Value} {l : List T}
theorem eadd_block (a : Addr) (n : Nat) : (a.add n).block = a.block := by unfold Addr.add; split <;> rfl
theorem eadd_add (a : Addr) (i j : Nat) : (a.add i).add j = a.add (i + j) := by
  unfold Addr.add
  by_cases hi : i = 0 <;> by_cases hj : j = 0 <;> simp [hi, hj, Nat.add_assoc]
theorem RdE.nil (w : World) : RdE E w (.slice none 0 0) [] := ⟨none, 0, rfl, ⟨Nat.le_refl _, Nat.zero_le _⟩, fun _ => ⟨rfl, rfl⟩, fun _ e => by cases e⟩
theorem RdE.turn {S : Nat → Prop} (h : RdE E w v l) (ht : Turn S w w') (hs : ∀ b, v.ownBlock = some b → ¬ S b) : RdE E w' v l := by
  obtain ⟨A, c, rfl, hk, hn, hc⟩ := h
  refine ⟨A, c, rfl, hk, hn, fun ad e i u hi => ?_⟩
  have h1 := hc ad e i u hi
  have hlt := World.block_lt_of_cell? w _ h1
  rw [ht.cell hlt (by subst e; rw [eadd_block]; exact hs _ rfl)]
  exact h1
theorem RdE.later (h : RdE E w v l) (ht : Turn (fun _ => False) w w') : RdE E w' v l := h.turn ht (fun _ _ f => f)
theorem RdE.shape (h : RdE E w v l) : ∃ A c, v = .slice A l.length c := by
  obtain ⟨A, c, e, _⟩ := h
  exact ⟨A, c, e⟩
theorem RdE.cells {A : Option Addr} {n c : Nat} (h : RdE E w (.slice A n c) l) {j : Nat} {t : T} (hj : l[j]? = some t) :
    ∃ ad, A = some ad ∧ ∀ i u, (E.enc t)[i]? = some u → w.cell? (ad.add (j * E.sz + i)) = some u := by
  obtain ⟨A', c', hv, _, hn, hc⟩ := h
  injection hv with h1 h2 h3
  subst h1
  cases A with
  | none =>
    obtain ⟨rfl, _⟩ := hn rfl
    cases hj
  | some ad =>
    refine ⟨ad, rfl, fun i u hu => hc ad rfl _ u ?_⟩
    have hi : i < E.sz := by
      have := (List.getElem?_eq_some_iff.1 hu).1
      rwa [E.len] at this
    rw [E.flat_at hj hi]
    exact hu
theorem RdE.fits {A : Option Addr} {n c : Nat} (h : RdE E w (.slice A n c) l) : n = l.length ∧ l.length ≤ c ∧ c ≤ maxLen ∧ (A = none → l = [] ∧ c = 0) := by
  obtain ⟨A', c', hv, hc, hn, _⟩ := h
  injection hv with h1 h2 h3
  subst h3 h1
  exact ⟨h2, hc.1, hc.2, hn⟩
theorem RdE.front {A : Option Addr} {n c : Nat} (h : RdE E w (.slice A n c) l) (m : Nat) (hm : m ≤ n) : RdE E w (.slice A m c) (l.take m) := by
  obtain ⟨A', c', hv, hc, hn, hx⟩ := h
  injection hv with h1 h2 h3
  subst h1 h2 h3
  have e : (l.take m).length = m := by rw [List.length_take]; omega
  refine ⟨A, c, by rw [e], ⟨by omega, hc.2⟩, (fun e => by rw [(hn e).1]; exact ⟨List.take_nil, (hn e).2⟩), fun ad e2 i u hi => ?_⟩
  rw [E.flat_take, List.getElem?_take] at hi
  split at hi
  · exact hx ad e2 i u hi
  · cases hi
theorem RdE.back {ad : Addr} {n c : Nat} (h : RdE E w (.slice (some ad) n c) l) (m : Nat) (hm : m ≤ n) : RdE E w (.slice (some (ad.add (m * E.sz))) (n - m) (c - m)) (l.drop m) := by
  obtain ⟨A', c', hv, hc, hn, hx⟩ := h
  injection hv with h1 h2 h3
  subst h1 h2 h3
  refine ⟨some (ad.add (m * E.sz)), c - m, by rw [List.length_drop], ⟨by rw [List.length_drop]; omega, by omega⟩, (fun e => by cases e), fun ad' e2 i u hi => ?_⟩
  injection e2 with e2
  subst e2
  rw [E.flat_drop, List.getElem?_drop] at hi
  rw [eadd_add]
  exact hx ad rfl _ u hi
/-- Behind a slice's whole capacity: nothing, wherever it is said to lie. -/
theorem RdE.none_left (A : Option Addr) (hA : A ≠ none) (w : World) (c : Nat) (hc : c ≤ maxLen) : RdE E w (.slice A 0 c) [] :=
  ⟨A, c, rfl, ⟨Nat.zero_le _, hc⟩, (fun e => absurd e hA), fun _ _ i u hi => by simp [El.flat] at hi⟩
theorem RdE.src {P : Program} {tx e' : TypeId} (hk : P.underlying tx = some (.slice e')) (h : RdE E w v l) : Src P E.sz tx v l.length (E.flat l) w := by
  obtain ⟨A, c, rfl, hc, hn, hx⟩ := h
  cases A with
  | none =>
    obtain ⟨rfl, rfl⟩ := hn rfl
    exact Src.ofNil (P := P) w hk 0
  | some ad => exact Src.ofSlice (P := P) w hk ad l.length c _ (E.flat_len l) (fun j u hj => hx ad rfl j u hj) (E.flat_one l)

/-- Slice value v, at the head of a row of a call's own, or nil: its elements, of type e, are l. -/
def OwE (E : El T) (e : TypeId) (w : World) (v : Value) (l : List T) : Prop := w.ownsRow 0 e E.sz v l.length (E.flat l)
variable {e : TypeId}
theorem OwE.nil (w : World) : OwE E e w (.slice none 0 0) [] := World.ownsRow_nil w 0 _ _
theorem OwE.lt (h : OwE E e w v l) {k : Nat} (hk : v.ownBlock = some k) : k < w.heap.size := (World.ownsRow.lt h k hk).2
theorem OwE.turn {S : Nat → Prop} (h : OwE E e w v l) (ht : Turn S w w') (hn : ∀ k, v.ownBlock = some k → ¬ S k) : OwE E e w' v l := by
  refine ⟨h.1, ?_⟩
  rcases h.2 with h0 | ⟨g, cap, cur, rfl, hb, hg, rest⟩
  · exact .inl h0
  · exact .inr ⟨g, cap, cur, rfl, hb, (ht.block g (Array.getElem?_eq_some_iff.1 hg).1 (hn g rfl)).trans hg, rest⟩
theorem OwE.later (h : OwE E e w v l) (ht : Turn (fun _ => False) w w') : OwE E e w' v l := h.turn ht (fun _ _ f => f)
theorem OwE.form (h : OwE E e w v l) : (v = .slice none 0 0 ∧ l = []) ∨ ∃ g cap cur, v = .slice (some ⟨g, 0, none⟩) l.length cap ∧ Box w g e cur ∧ l.length ≤ cap ∧ cap ≤ maxLen ∧ cur.size = cap * E.sz ∧ cur.toList.take (l.length * E.sz) = E.flat l := by
  rcases h.2 with ⟨h0, h1⟩ | ⟨g, cap, cur, hv, _, hg, hn, hm, hs, ht⟩
  · exact .inl ⟨h0, List.eq_nil_of_length_eq_zero h1⟩
  · exact .inr ⟨g, cap, cur, hv, hg, hn, hm, hs, ht⟩
theorem own_add (g i : Nat) : (⟨g, 0, none⟩ : Addr).add i = ⟨g, i, none⟩ := by unfold Addr.add; split <;> simp_all
theorem OwE.rd (h : OwE E e w v l) : RdE E w v l := by
  rcases h.form with ⟨rfl, rfl⟩ | ⟨g, cap, cur, rfl, hb, h1, h2, h3, h4⟩
  · exact RdE.nil w
  · refine ⟨_, _, rfl, ⟨h1, h2⟩, (fun e => by cases e), fun ad e i u hi => ?_⟩
    cases e
    rw [own_add, hb.cell]
    rw [← h4, List.getElem?_take] at hi
    split at hi
    · simpa using hi
    · cases hi
theorem OwE.shape (h : OwE E e w v l) : ∃ A c, v = .slice A l.length c := h.rd.shape
theorem OwE.not_box {g : Nat} {t : TypeId} {cs : Array Value} (h : OwE E e w v l) (hb : Box w g t cs) (hne : e ≠ t) : v.ownBlock ≠ some g := by
  rcases h.form with ⟨rfl, _⟩ | ⟨g', cap, cur, rfl, hb', _⟩
  · simp [Value.ownBlock]
  · intro e1
    obtain rfl : g' = g := by simpa [Value.ownBlock] using e1
    have e2 := hb'.symm.trans hb
    injection e2 with e2
    injection e2 with _ e3
    exact hne e3
/-- A block that was just laid out whole. -/
theorem OwE.made (w : World) (l : List T) (hm : l.length ≤ maxLen) : OwE E e (w.alloc (.cells (E.flat l).toArray e)) (.slice (some ⟨w.heap.size, 0, none⟩) l.length l.length) l :=
  ⟨E.flat_len l, .inr ⟨w.heap.size, l.length, _, rfl, Nat.zero_le _, heap_alloc_new w _, Nat.le_refl _, hm, by rw [List.size_toArray, E.flat_len], by rw [List.take_of_length_le (by simp [E.flat_len])]⟩⟩
end

/-- append onto a row of one's own: at the operation, for the walk. -/
theorem wpList_appE {P : Program} {T : Type} {E : El T} {tS e : TypeId} {z : Value} {by' : Nat} (ht : P.underlying tS = some (.slice e)) (hi0 : (P.info? e).map (fun i => (i.zero, i.size, i.bytes)) = some (some z, E.sz, by')) (hz : z.cells.size = E.sz)
    (w : World) {ops : Array Oper} {rest : List Oper} {o : Oper} {a : Act} {Q : Exit → Act → World → Prop} (hgd : o.guard = none) (s x : Operand) (tx : TypeId)
    (ho : o.op = .call { callee := .builtin .append, args := #[s, x], argTypes := #[tS, tx] }) (v : Value) (l : List T) (hs : a.eval s = v) (hown : OwE E e w v l)
    (y : Value) (hx : a.eval x = y) (m : List T) (hy : Src P E.sz tx y m.length (E.flat m) w) (hl : l.length + m.length ≤ maxLen) (hb : (l.length + m.length) * by' ≤ 140737488355328)
    (h : ∀ A n c w', OwE E e w' (.slice A n c) (l ++ m) → Turn (fun k => v.ownBlock = some k) w w' → ((Value.slice A n c).ownBlock = v.ownBlock ∨ (Value.slice A n c).ownBlock = some w.heap.size) → wpList P ops Q rest (a.put o.dst (.slice A n c)) w') :
    wpList P ops Q (o :: rest) a w := by
  refine wpList_plain hgd fun K hK => ?_
  obtain ⟨i, hi, hz0, h1, h2⟩ := info_parts hi0
  unfold OwE at hown
  rw [← h1] at hown hy
  obtain ⟨A, n, c, w', hr, g1, g2, g3⟩ := run_app (P := P) w tS tx o.type e i z ht hi hz0 (by rw [h1]; exact hz) v l.length _ hown y m.length _ hy hl (by rw [h2]; exact hb)
  unfold Oper.wp execOp
  simp only [ho, resolve, invoke, builtin, Sem.run_bind, Sem.run_pure, Result.andThen_ok, List.map_toArray, List.map_cons, List.map_nil, hs, hx, hr]
  refine hK _ _ (h A n c w' ?_ ((Turn.refl _ w).grown g2 (fun k _ e => e)) g3)
  unfold OwE
  rw [List.length_append, E.flat_append, ← h1]
  exact g1

/-- The same as one step of a region that draws. -/
theorem step_appE {P : Program} {T : Type} {E : El T} {tS e : TypeId} {z : Value} {by' : Nat} (ht : P.underlying tS = some (.slice e)) (hi0 : (P.info? e).map (fun i => (i.zero, i.size, i.bytes)) = some (some z, E.sz, by')) (hz : z.cells.size = E.sz)
    (w : World) {ops : Array Oper} {o : Oper} {a : Act} {K : Act → World → Prop} {Q : Exit → Act → World → Prop} {F : Prop} (hgd : o.guard = none) (s x : Operand) (tx : TypeId)
    (ho : o.op = .call { callee := .builtin .append, args := #[s, x], argTypes := #[tS, tx] }) (v : Value) (l : List T) (hs : a.eval s = v) (hown : OwE E e w v l)
    (y : Value) (hx : a.eval x = y) (m : List T) (hy : Src P E.sz tx y m.length (E.flat m) w) (hl : l.length + m.length ≤ maxLen) (hb : (l.length + m.length) * by' ≤ 140737488355328)
    (h : ∀ A n c w', OwE E e w' (.slice A n c) (l ++ m) → Turn (fun k => v.ownBlock = some k) w w' → ((Value.slice A n c).ownBlock = v.ownBlock ∨ (Value.slice A n c).ownBlock = some w.heap.size) → K (a.put o.dst (.slice A n c)) w') :
    if Region.wanted o (yielded ops a.tmps) = true then Oper.wp P o a w K Q else F := by
  have hw : Region.wanted o (yielded ops a.tmps) = true := by simp [Region.wanted, hgd]
  rw [if_pos hw]
  obtain ⟨i, hi, hz0, h1, h2⟩ := info_parts hi0
  unfold OwE at hown
  rw [← h1] at hown hy
  obtain ⟨A, n, c, w', hr, g1, g2, g3⟩ := run_app (P := P) w tS tx o.type e i z ht hi hz0 (by rw [h1]; exact hz) v l.length _ hown y m.length _ hy hl (by rw [h2]; exact hb)
  unfold Oper.wp execOp
  simp only [ho, resolve, invoke, builtin, Sem.run_bind, Sem.run_pure, Result.andThen_ok, List.map_toArray, List.map_cons, List.map_nil, hs, hx, hr]
  refine h A n c w' ?_ ((Turn.refl _ w).grown g2 (fun k _ e => e)) g3
  unfold OwE
  rw [List.length_append, E.flat_append, ← h1]
  exact g1

end Go.Proofs.Ytieffpngknglpaa
