/-
  Texts laid one behind the other: Ga Bb.
-/
import Derived.Test.YtieffpngknglpaaJoacab
import Derived.WalkMore
import Derived.OwnWalk
import Derived.ProofKit
import Derived.OpenShut
import Derived.Deep.Slices
import Derived.Deep.Fields
import Derived.Laws.CopyOwn
import Derived.Deep.OwnRows

/-
  Slices of elements of any size: what they hold, wherever they lie; rows of a call's own; append. No type is named here.
-/
namespace Go.Proofs.Ytieffpngknglpaa
open Go.RowKit

/-- How an element stands in memory: its cells. -/
structure El (T : Type) where
  sz : Nat
  enc : T → List Value
  len : ∀ t, (enc t).length = sz
  one : ∀ t, ∀ u ∈ enc t, u.oneCell' = true

section
variable {T : Type} (E : El T)
/-- All cells of elements. -/
def El.flat (l : List T) : List Value := l.flatMap E.enc
theorem El.flat_nil : E.flat [] = [] := rfl
theorem El.flat_cons (t : T) (l : List T) : E.flat (t :: l) = E.enc t ++ E.flat l := rfl
theorem El.flat_append (l m : List T) : E.flat (l ++ m) = E.flat l ++ E.flat m := List.flatMap_append
theorem El.flat_len (l : List T) : (E.flat l).length = l.length * E.sz := by
  induction l with
  | nil => simp [El.flat]
  | cons t l ih => rw [El.flat_cons, List.length_append, ih, E.len, List.length_cons, Nat.add_mul, Nat.one_mul, Nat.add_comm]
theorem El.flat_one (l : List T) : ∀ u ∈ E.flat l, u.oneCell' = true := fun u hu => by
  obtain ⟨t, _, h⟩ := List.mem_flatMap.1 hu
  exact E.one t u h
theorem El.flat_at {l : List T} {j : Nat} {t : T} (hj : l[j]? = some t) {i : Nat} (hi : i < E.sz) : (E.flat l)[j * E.sz + i]? = (E.enc t)[i]? := by
  induction l generalizing j with
  | nil => cases hj
  | cons x l ih =>
    rw [El.flat_cons]
    cases j with
    | zero =>
      cases hj
      rw [Nat.zero_mul, Nat.zero_add, List.getElem?_append_left (by rw [E.len]; exact hi)]
    | succ j =>
      rw [List.getElem?_append_right (by rw [E.len, Nat.succ_mul]; omega), E.len, show (j + 1) * E.sz + i - E.sz = j * E.sz + i by rw [Nat.succ_mul]; omega]
      exact ih hj
theorem El.flat_take (l : List T) (n : Nat) : E.flat (l.take n) = (E.flat l).take (n * E.sz) := by
  induction l generalizing n with
  | nil => simp [El.flat]
  | cons x l ih =>
    cases n with
    | zero => simp [El.flat]
    | succ n =>
      rw [List.take_succ_cons, El.flat_cons, El.flat_cons, ih, List.take_append, E.len, Nat.succ_mul, Nat.add_sub_cancel, List.take_of_length_le (l := E.enc x) (by rw [E.len]; omega)]
theorem El.flat_drop (l : List T) (n : Nat) : E.flat (l.drop n) = (E.flat l).drop (n * E.sz) := by
  induction l generalizing n with
  | nil => simp [El.flat]
  | cons x l ih =>
    cases n with
    | zero => simp [El.flat]
    | succ n =>
      rw [List.drop_succ_cons, ih, El.flat_cons, List.drop_append, E.len, Nat.succ_mul, Nat.add_sub_cancel, List.drop_of_length_le (l := E.enc x) (by rw [E.len]; omega), List.nil_append]

/-- A slice value, wherever it lies: its elements are l. -/
def RdE (w : World) (v : Value) (l : List T) : Prop :=
  ∃ A c, v = .slice A l.length c ∧ (l.length ≤ c ∧ c ≤ maxLen) ∧ (A = none → l = [] ∧ c = 0) ∧ ∀ ad, A = some ad → ∀ i u, (E.flat l)[i]? = some u → w.cell? (ad.add i) = some u
end

section
variable {T : Type} {E : El T} {w w' : World} {v : Value} {l : List T}
theorem eadd_block (a : Addr) (n : Nat) : (a.add n).block = a.block := by unfold Addr.add; split <;> rfl
theorem eadd_add (a : Addr) (i j : Nat) : (a.add i).add j = a.add (i + j) := by
  unfold Addr.add
  by_cases hi : i = 0 <;> by_cases hj : j = 0 <;> simp [hi, hj, Nat.add_assoc]
theorem RdE.nil (w : World) : RdE E w (.slice none 0 0) [] := ⟨none, 0, rfl, ⟨Nat.le_refl _, Nat.zero_le _⟩, fun _ => ⟨rfl, rfl⟩, fun _ e => by cases e⟩
theorem RdE.turn {S : Nat → Prop} (h : RdE E w v l) (ht : Turn S w w') (hs : ∀ b, v.ownBlock = some b → ¬ S b) : RdE E w' v l := by
  obtain ⟨A, c, rfl, hk, hn, hc⟩ := h
  refine ⟨A, c, rfl, hk, hn, fun ad e i u hi => ?_⟩
  have h1 := hc ad e i u hi
  have hlt := World.block_lt_of_cell? w _ h1
  rw [ht.cell hlt (by subst e; rw [eadd_block]; exact hs _ rfl)]
  exact h1
theorem RdE.later (h : RdE E w v l) (ht : Turn (fun _ => False) w w') : RdE E w' v l := h.turn ht (fun _ _ f => f)
theorem RdE.shape (h : RdE E w v l) : ∃ A c, v = .slice A l.length c := by
  obtain ⟨A, c, e, _⟩ := h
  exact ⟨A, c, e⟩
theorem RdE.cells {A : Option Addr} {n c : Nat} (h : RdE E w (.slice A n c) l) {j : Nat} {t : T} (hj : l[j]? = some t) :
    ∃ ad, A = some ad ∧ ∀ i u, (E.enc t)[i]? = some u → w.cell? (ad.add (j * E.sz + i)) = some u := by
  obtain ⟨A', c', hv, _, hn, hc⟩ := h
  injection hv with h1 h2 h3
  subst h1
  cases A with
  | none =>
    obtain ⟨rfl, _⟩ := hn rfl
    cases hj
  | some ad =>
    refine ⟨ad, rfl, fun i u hu => hc ad rfl _ u ?_⟩
    have hi : i < E.sz := by
      have := (List.getElem?_eq_some_iff.1 hu).1
      rwa [E.len] at this
    rw [E.flat_at hj hi]
    exact hu
theorem RdE.fits {A : Option Addr} {n c : Nat} (h : RdE E w (.slice A n c) l) : n = l.length ∧ l.length ≤ c ∧ c ≤ maxLen ∧ (A = none → l = [] ∧ c = 0) := by
  obtain ⟨A', c', hv, hc, hn, _⟩ := h
  injection hv with h1 h2 h3
  subst h3 h1
  exact ⟨h2, hc.1, hc.2, hn⟩
theorem RdE.front {A : Option Addr} {n c : Nat} (h : RdE E w (.slice A n c) l) (m : Nat) (hm : m ≤ n) : RdE E w (.slice A m c) (l.take m) := by
  obtain ⟨A', c', hv, hc, hn, hx⟩ := h
  injection hv with h1 h2 h3
  subst h1 h2 h3
  have e : (l.take m).length = m := by rw [List.length_take]; omega
  refine ⟨A, c, by rw [e], ⟨by omega, hc.2⟩, (fun e => by rw [(hn e).1]; exact ⟨List.take_nil, (hn e).2⟩), fun ad e2 i u hi => ?_⟩
  rw [E.flat_take, List.getElem?_take] at hi
  split at hi
  · exact hx ad e2 i u hi
  · cases hi
theorem RdE.back {ad : Addr} {n c : Nat} (h : RdE E w (.slice (some ad) n c) l) (m : Nat) (hm : m ≤ n) : RdE E w (.slice (some (ad.add (m * E.sz))) (n - m) (c - m)) (l.drop m) := by
  obtain ⟨A', c', hv, hc, hn, hx⟩ := h
  injection hv with h1 h2 h3
  subst h1 h2 h3
  refine ⟨some (ad.add (m * E.sz)), c - m, by rw [List.length_drop], ⟨by rw [List.length_drop]; omega, by omega⟩, (fun e => by cases e), fun ad' e2 i u hi => ?_⟩
  injection e2 with e2
  subst e2
  rw [E.flat_drop, List.getElem?_drop] at hi
  rw [eadd_add]
  exact hx ad rfl _ u hi
/-- Behind a slice's whole capacity: nothing, wherever it is said to lie. -/
theorem RdE.none_left (A : Option Addr) (hA : A ≠ none) (w : World) (c : Nat) (hc : c ≤ maxLen) : RdE E w (.slice A 0 c) [] :=
  ⟨A, c, rfl, ⟨Nat.zero_le _, hc⟩, (fun e => absurd e hA), fun _ _ i u hi => by simp [El.flat] at hi⟩
theorem RdE.src {P : Program} {tx e' : TypeId} (hk : P.underlying tx = some (.slice e')) (h : RdE E w v l) : Src P E.sz tx v l.length (E.flat l) w := by
  obtain ⟨A, c, rfl, hc, hn, hx⟩ := h
  cases A with
  | none =>
    obtain ⟨rfl, rfl⟩ := hn rfl
    exact Src.ofNil (P := P) w hk 0
  | some ad => exact Src.ofSlice (P := P) w hk ad l.length c _ (E.flat_len l) (fun j u hj => hx ad rfl j u hj) (E.flat_one l)

/-- Slice value v, at the head of a row of a call's own, or nil: its elements, of type e, are l. -/
def OwE (E : El T) (e : TypeId) (w : World) (v : Value) (l : List T) : Prop := w.ownsRow 0 e E.sz v l.length (E.flat l)
variable {e : TypeId}
theorem OwE.nil (w : World) : OwE E e w (.slice none 0 0) [] := World.ownsRow_nil w 0 _ _
theorem OwE.lt (h : OwE E e w v l) {k : Nat} (hk : v.ownBlock = some k) : k < w.heap.size := (World.ownsRow.lt h k hk).2
theorem OwE.turn {S : Nat → Prop} (h : OwE E e w v l) (ht : Turn S w w') (hn : ∀ k, v.ownBlock = some k → ¬ S k) : OwE E e w' v l := by
  refine ⟨h.1, ?_⟩
  rcases h.2 with h0 | ⟨g, cap, cur, rfl, hb, hg, rest⟩
  · exact .inl h0
  · exact .inr ⟨g, cap, cur, rfl, hb, (ht.block g (Array.getElem?_eq_some_iff.1 hg).1 (hn g rfl)).trans hg, rest⟩
theorem OwE.later (h : OwE E e w v l) (ht : Turn (fun _ => False) w w') : OwE E e w' v l := h.turn ht (fun _ _ f => f)
theorem OwE.form (h : OwE E e w v l) : (v = .slice none 0 0 ∧ l = []) ∨ ∃ g cap cur, v = .slice (some ⟨g, 0, none⟩) l.length cap ∧ Box w g e cur ∧ l.length ≤ cap ∧ cap ≤ maxLen ∧ cur.size = cap * E.sz ∧ cur.toList.take (l.length * E.sz) = E.flat l := by
  rcases h.2 with ⟨h0, h1⟩ | ⟨g, cap, cur, hv, _, hg, hn, hm, hs, ht⟩
  · exact .inl ⟨h0, List.eq_nil_of_length_eq_zero h1⟩
  · exact .inr ⟨g, cap, cur, hv, hg, hn, hm, hs, ht⟩
theorem own_add (g i : Nat) : (⟨g, 0, none⟩ : Addr).add i = ⟨g, i, none⟩ := by unfold Addr.add; split <;> simp_all
theorem OwE.rd (h : OwE E e w v l) : RdE E w v l := by
  rcases h.form with ⟨rfl, rfl⟩ | ⟨g, cap, cur, rfl, hb, h1, h2, h3, h4⟩
  · exact RdE.nil w
  · refine ⟨_, _, rfl, ⟨h1, h2⟩, (fun e => by cases e), fun ad e i u hi => ?_⟩
    cases e
    rw [own_add, hb.cell]
    rw [← h4, List.getElem?_take] at hi
    split at hi
    · simpa using hi
    · cases hi
theorem OwE.shape (h : OwE E e w v l) : ∃ A c, v = .slice A l.length c := h.rd.shape
theorem OwE.not_box {g : Nat} {t : TypeId} {cs : Array Value} (h : OwE E e w v l) (hb : Box w g t cs) (hne : e ≠ t) : v.ownBlock ≠ some g := by
  rcases h.form with ⟨rfl, _⟩ | ⟨g', cap, cur, rfl, hb', _⟩
  · simp [Value.ownBlock]
  · intro e1
    obtain rfl : g' = g := by simpa [Value.ownBlock] using e1
    have e2 := hb'.symm.trans hb
    injection e2 with e2
    injection e2 with _ e3
    exact hne e3
/-- A block that was just laid out whole. -/
theorem OwE.made (w : World) (l : List T) (hm : l.length ≤ maxLen) : OwE E e (w.alloc (.cells (E.flat l).toArray e)) (.slice (some ⟨w.heap.size, 0, none⟩) l.length l.length) l :=
  ⟨E.flat_len l, .inr ⟨w.heap.size, l.length, _, rfl, Nat.zero_le _, heap_alloc_new w _, Nat.le_refl _, hm, by rw [List.size_toArray, E.flat_len], by rw [List.take_of_length_le (by simp [E.flat_len])]⟩⟩
end

/-- append onto a row of one's own: at the operation, for the walk. -/
theorem wpList_appE {P : Program} {T : Type} {E : El T} {tS e : TypeId} {z : Value} {by' : Nat} (ht : P.underlying tS = some (.slice e)) (hi0 : (P.info? e).map (fun i => (i.zero, i.size, i.bytes)) = some (some z, E.sz, by')) (hz : z.cells.size = E.sz)
    (w : World) {ops : Array Oper} {rest : List Oper} {o : Oper} {a : Act} {Q : Exit → Act → World → Prop} (hgd : o.guard = none) (s x : Operand) (tx : TypeId)
    (ho : o.op = .call { callee := .builtin .append, args := #[s, x], argTypes := #[tS, tx] }) (v : Value) (l : List T) (hs : a.eval s = v) (hown : OwE E e w v l)
    (y : Value) (hx : a.eval x = y) (m : List T) (hy : Src P E.sz tx y m.length (E.flat m) w) (hl : l.length + m.length ≤ maxLen) (hb : (l.length + m.length) * by' ≤ 140737488355328)
    (h : ∀ A n c w', OwE E e w' (.slice A n c) (l ++ m) → Turn (fun k => v.ownBlock = some k) w w' → ((Value.slice A n c).ownBlock = v.ownBlock ∨ (Value.slice A n c).ownBlock = some w.heap.size) → wpList P ops Q rest (a.put o.dst (.slice A n c)) w') :
    wpList P ops Q (o :: rest) a w := by
  refine wpList_plain hgd fun K hK => ?_
  obtain ⟨i, hi, hz0, h1, h2⟩ := info_parts hi0
  unfold OwE at hown
  rw [← h1] at hown hy
  obtain ⟨A, n, c, w', hr, g1, g2, g3⟩ := run_app (P := P) w tS tx o.type e i z ht hi hz0 (by rw [h1]; exact hz) v l.length _ hown y m.length _ hy hl (by rw [h2]; exact hb)
  unfold Oper.wp execOp
  simp only [ho, resolve, invoke, builtin, Sem.run_bind, Sem.run_pure, Result.andThen_ok, List.map_toArray, List.map_cons, List.map_nil, hs, hx, hr]
  refine hK _ _ (h A n c w' ?_ ((Turn.refl _ w).grown g2 (fun k _ e => e)) g3)
  unfold OwE
  rw [List.length_append, E.flat_append, ← h1]
  exact g1

/-- The same as one step of a region that draws. -/
theorem step_appE {P : Program} {T : Type} {E : El T} {tS e : TypeId} {z : Value} {by' : Nat} (ht : P.underlying tS = some (.slice e)) (hi0 : (P.info? e).map (fun i => (i.zero, i.size, i.bytes)) = some (some z, E.sz, by')) (hz : z.cells.size = E.sz)
    (w : World) {ops : Array Oper} {o : Oper} {a : Act} {K : Act → World → Prop} {Q : Exit → Act → World → Prop} {F : Prop} (hgd : o.guard = none) (s x : Operand) (tx : TypeId)
    (ho : o.op = .call { callee := .builtin .append, args := #[s, x], argTypes := #[tS, tx] }) (v : Value) (l : List T) (hs : a.eval s = v) (hown : OwE E e w v l)
    (y : Value) (hx : a.eval x = y) (m : List T) (hy : Src P E.sz tx y m.length (E.flat m) w) (hl : l.length + m.length ≤ maxLen) (hb : (l.length + m.length) * by' ≤ 140737488355328)
    (h : ∀ A n c w', OwE E e w' (.slice A n c) (l ++ m) → Turn (fun k => v.ownBlock = some k) w w' → ((Value.slice A n c).ownBlock = v.ownBlock ∨ (Value.slice A n c).ownBlock = some w.heap.size) → K (a.put o.dst (.slice A n c)) w') :
    if Region.wanted o (yielded ops a.tmps) = true then Oper.wp P o a w K Q else F := by
  have hw : Region.wanted o (yielded ops a.tmps) = true := by simp [Region.wanted, hgd]
  rw [if_pos hw]
  obtain ⟨i, hi, hz0, h1, h2⟩ := info_parts hi0
  unfold OwE at hown
  rw [← h1] at hown hy
  obtain ⟨A, n, c, w', hr, g1, g2, g3⟩ := run_app (P := P) w tS tx o.type e i z ht hi hz0 (by rw [h1]; exact hz) v l.length _ hown y m.length _ hy hl (by rw [h2]; exact hb)
  unfold Oper.wp execOp
  simp only [ho, resolve, invoke, builtin, Sem.run_bind, Sem.run_pure, Result.andThen_ok, List.map_toArray, List.map_cons, List.map_nil, hs, hx, hr]
  refine h A n c w' ?_ ((Turn.refl _ w).grown g2 (fun k _ e => e)) g3
  unfold OwE
  rw [List.length_append, E.flat_append, ← h1]
  exact g1

end Go.Proofs.Ytieffpngknglpaa

/-
  Bytes: a slice that reads as bytes, wherever it lies; bytes that a call made. No function is named here.
-/
namespace Go.Proofs.Ytieffpngknglpaa
open Go.RowKit

theorem ret_int {k : IntKind} {a b : Int} (h : a = b) : Ending.returned (.int k a) = .returned (.int k b) := by rw [h]
theorem ret_bool {a b : Bool} (h : a = b) : Ending.returned (.bool a) = .returned (.bool b) := by rw [h]

theorem By.empty (w : World) : By (w.alloc (.cells #[] 5)) (.slice (some ⟨w.heap.size, 0, none⟩) 0 0) [] :=
  World.ownsRow_made w #[] 0 (Nat.zero_le _) (by simp [maxLen]) rfl

/-- A slice value, wherever it lies: its bytes are l. -/
def Rd (w : World) (v : Value) (l : List UInt8) : Prop :=
  ∃ A c, v = .slice A l.length c ∧ (l.length ≤ c ∧ c ≤ maxLen) ∧ (A = none → l = [] ∧ c = 0) ∧ ∀ ad, A = some ad → ∀ j b, l[j]? = some b → w.cell? (ad.add j) = some (bv b)

theorem add_block (a : Addr) (n : Nat) : (a.add n).block = a.block := by unfold Addr.add; split <;> rfl

section
variable {w w' : World} {v : Value} {l : List UInt8}
theorem By.rd (h : By w v l) : Rd w v l := by
  rcases h.form with ⟨rfl, rfl⟩ | ⟨g, cap, cur, rfl, hb, h1, h2, _, ht⟩
  · exact ⟨none, 0, rfl, ⟨Nat.le_refl _, Nat.zero_le _⟩, fun _ => ⟨rfl, rfl⟩, fun _ e => by cases e⟩
  · refine ⟨_, _, rfl, ⟨h1, h2⟩, (fun e => by cases e), fun ad e j b hj => ?_⟩
    cases e
    have := World.ownsRow.cells h (g := g) rfl j (bv b) (by simp [hj])
    exact this
theorem Rd.yields (h : Rd w v l) : Yields w 34 v l := by
  obtain ⟨A, c, rfl, hk, hn, hc⟩ := h
  cases A with
  | none =>
    obtain ⟨rfl, rfl⟩ := hn rfl
    exact Src.ofNil (P := Try.prog) w (size := 1) Try.underlying34 0
  | some ad =>
    refine Src.ofSlice (P := Try.prog) w (size := 1) Try.underlying34 ad l.length c (l.map bv) (by simp) ?_ (bv_one l)
    intro j u hu
    rw [List.getElem?_map] at hu
    cases hb : l[j]? with
    | none => rw [hb] at hu; cases hu
    | some b =>
      rw [hb] at hu
      cases hu
      exact hc ad rfl j b hb
theorem Rd.turn {S : Nat → Prop} (h : Rd w v l) (ht : Turn S w w') (hs : ∀ k, v.ownBlock = some k → ¬ S k) : Rd w' v l := by
  obtain ⟨A, c, rfl, hk, hn, hc⟩ := h
  refine ⟨A, c, rfl, hk, hn, fun ad e j b hj => ?_⟩
  have h1 := hc ad e j b hj
  have hlt := World.block_lt_of_cell? w _ h1
  rw [ht.cell hlt (by subst e; rw [add_block]; exact hs _ rfl)]
  exact h1
theorem Rd.later (h : Rd w v l) (ht : Turn (fun _ => False) w w') : Rd w' v l := h.turn ht (fun _ _ f => f)
theorem Rd.at {A : Option Addr} {n c : Nat} (h : Rd w (.slice A n c) l) {k : Nat} {b : UInt8} (hk : l[k]? = some b) : ∃ ad, A = some ad ∧ w.cell? (ad.add k) = some (.int .u8 (b.toNat : Int)) := by
  obtain ⟨A', c', hv, _, hn, hc⟩ := h
  injection hv with h1 h2 h3
  subst h1
  cases A with
  | none =>
    obtain ⟨rfl, _⟩ := hn rfl
    cases hk
  | some ad => exact ⟨ad, rfl, hc ad rfl k b hk⟩
end

section
variable {w : World} {ad : Addr} {n c : Nat} {l : List UInt8}
theorem add_of_add (a : Addr) (i j : Nat) : (a.add i).add j = a.add (i + j) := by
  unfold Addr.add
  by_cases hi : i = 0 <;> by_cases hj : j = 0 <;> simp [hi, hj, Nat.add_assoc]
theorem Rd.front {A : Option Addr} (h : Rd w (.slice A n c) l) (k : Nat) (hk : k ≤ n) : Rd w (.slice A k c) (l.take k) := by
  obtain ⟨A', c', hv, hc, hn, hx⟩ := h
  injection hv with h1 h2 h3
  subst h1 h2 h3
  have e : (l.take k).length = k := by rw [List.length_take]; omega
  refine ⟨A, c, by rw [e], ⟨by omega, hc.2⟩, (fun e => by rw [(hn e).1]; exact ⟨List.take_nil, (hn e).2⟩), fun ad e2 j b hj => ?_⟩
  rw [List.getElem?_take] at hj
  split at hj
  · exact hx ad e2 j b hj
  · cases hj
theorem Rd.back (h : Rd w (.slice (some ad) n c) l) (k : Nat) (hk : k ≤ n) : Rd w (.slice (some (ad.add k)) (n - k) (c - k)) (l.drop k) := by
  obtain ⟨A', c', hv, hc, hn, hx⟩ := h
  injection hv with h1 h2 h3
  subst h1 h2 h3
  refine ⟨some (ad.add k), c - k, by rw [List.length_drop], ⟨by rw [List.length_drop]; omega, by omega⟩, (fun e => by cases e), fun ad' e2 j b hj => ?_⟩
  injection e2 with e2
  subst e2
  rw [List.getElem?_drop] at hj
  rw [add_of_add]
  exact hx ad rfl _ b hj
theorem Rd.some_at {A : Option Addr} (h : Rd w (.slice A n c) l) (h0 : 0 < l.length) : ∃ ad, A = some ad := by
  obtain ⟨b, hb⟩ : ∃ b, l[0]? = some b := ⟨_, List.getElem?_eq_getElem h0⟩
  obtain ⟨ad, e, _⟩ := h.at hb
  exact ⟨ad, e⟩
theorem Rd.fits {A : Option Addr} (h : Rd w (.slice A n c) l) : n = l.length ∧ l.length ≤ c ∧ c ≤ maxLen := by
  obtain ⟨A', c', hv, hc, _⟩ := h
  injection hv with h1 h2 h3
  subst h3
  exact ⟨h2, hc⟩
end

/-- A slice as a string. -/
theorem Rd.string {w : World} {v : Value} {l : List UInt8} (h : Rd w v l) : (convert 34 9 v).run Try.prog w = .ok (.string ⟨l.toArray⟩) w := by
  obtain ⟨A, c, rfl, hk, hn, hc⟩ := h
  cases A with
  | none =>
    obtain ⟨rfl, rfl⟩ := hn rfl
    exact run_convert_bytes_nil (P := Try.prog) w 34 5 Try.underlying34 Try.underlying5 0 0 _ Try.underlying9
  | some ad =>
    exact run_convert_bytes_back (P := Try.prog) w 34 9 5 ad c l Try.underlying34 Try.underlying5 Try.underlying9
      (fun j hj => hc ad rfl j _ (List.getElem?_eq_getElem hj))

section
open Go.ChangeShapes Go.WideShapes Go.Deep
theorem open_bytes {H : Type} {enc : TypeId × Value → H} {W : World} {v : Value} {d : DataW H} {p : List MemPlace} {a : Option Addr} {len cap : Nat} (hv : v = .slice a len cap)
    (h : DataW.Trod enc Try.prog W 0 (fun _ => true) true 34 v d p) : ∃ l, Rd W v l ∧ l.length ≤ maxLen := by
  subst hv
  obtain ⟨fuel, hf⟩ := h
  rcases open_slice Try.underlying34 hf with ⟨hcs, _⟩ | ⟨a', len', cap', m, n, D, Pl, hcs, _, hl, hm, hmm, _, hx⟩
  · simp [Value.cells] at hcs
    obtain ⟨rfl, rfl, rfl⟩ := hcs
    exact ⟨[], ⟨none, 0, rfl, ⟨Nat.le_refl _, Nat.zero_le _⟩, fun _ => ⟨rfl, rfl⟩, fun _ e => by cases e⟩, Nat.zero_le _⟩
  · simp [Value.cells] at hcs
    obtain ⟨rfl, rfl, rfl⟩ := hcs
    have hC : Try.prog.cellsOf 5 = 1 := by kernel_rfl
    have hmm' : m = cap := by simpa using hmm
    subst hmm'
    have key : ∀ i, i < len → ∃ b : UInt8, W.cell? (a'.add i) = some (bv b) := by
      intro i hi
      obtain ⟨cs, h1, h2⟩ := hx i (by omega)
      rw [hC] at h1
      obtain ⟨_, hlen, hcell⟩ := World.cells?_some h1
      match cs, hlen with
      | [c0], _ =>
        obtain ⟨K, k0, _, kw⟩ := DataW.trod_int Try.underlying5 h2
        simp only [List.cons.injEq, and_true] at k0
        subst k0
        have hK : 0 ≤ K ∧ K ≤ 255 := by simpa [Lit.wf, IntKind.min, IntKind.max, IntKind.signed, IntKind.bits] using kw
        have hc := hcell 0 (by omega)
        simp only [Go.Deep.add_add] at hc
        refine ⟨UInt8.ofNat K.toNat, ?_⟩
        have e : bv (UInt8.ofNat K.toNat) = .int .u8 K := by
          unfold bv
          rw [UInt8.toNat_ofNat', Nat.mod_eq_of_lt (by omega), Int.toNat_of_nonneg hK.1]
        rw [e]
        have e2 : i * 1 + 0 = i := by omega
        simpa [e2] using hc
    obtain ⟨V, hV⟩ := choose_lt key
    have hll : ((List.range len).map V).length = len := by simp
    refine ⟨(List.range len).map V, ⟨some a', m, by rw [hll], ⟨by rw [hll]; omega, by omega⟩, (fun e => by cases e), fun ad e j b hj => ?_⟩, by rw [hll]; omega⟩
    cases e
    have hjl : j < len := by
      have := (List.getElem?_eq_some_iff.1 hj).1
      simpa using this
    have hb : b = V j := by
      rw [List.getElem?_map, List.getElem?_range hjl] at hj
      exact (Option.some.inj hj).symm
    rw [hb]
    exact hV j hjl
end

theorem By.made (w : World) (l : List UInt8) (hl : l.length ≤ maxLen) : By (w.alloc (.cells (l.map bv).toArray 5)) (.slice (some ⟨w.heap.size, 0, none⟩) l.length l.length) l := by
  refine ⟨by simp, .inr ⟨w.heap.size, l.length, (l.map bv).toArray, rfl, Nat.zero_le _, heap_alloc_new w _, Nat.le_refl _, hl, by simp, by simp; exact List.take_of_length_le (by simp)⟩⟩

/-- Behind a call that makes bytes of its own. -/
def Made (w w' : World) (v : Value) (l : List UInt8) : Prop := By w' v l ∧ Turn (fun _ => False) w w' ∧ ∀ k, v.ownBlock = some k → w.heap.size ≤ k

theorem Below.turned {w w' : World} (h : Below w.heap.size w w') : Turn (fun _ => False) w w' := ⟨h.os, h.tape, h.output, h.size, fun k hk _ => h.block k hk⟩

/-- A row of bytes l, with room for n more, of which k are put. -/
def room (l m : List UInt8) (k : Nat) : Array Value := ((l ++ (m.take k ++ List.replicate (m.length - k) 0)).map bv).toArray

theorem room_set (l m : List UInt8) (k : Nat) (x : UInt8) (hx : m[k]? = some x) : (room l m k).setIfInBounds (l.length + k) (.int .u8 (x.toNat : Int)) = room l m (k + 1) := by
  obtain ⟨hk, e⟩ := List.getElem?_eq_some_iff.1 hx
  have e1 : m.length - k = (m.length - (k + 1)) + 1 := by omega
  have e2 : m.take (k + 1) ++ List.replicate (m.length - (k + 1)) 0 = (m.take k ++ List.replicate (m.length - k) 0).set k x := by
    rw [List.take_succ_eq_append_getElem hk, e, e1, List.replicate_succ, List.set_append_right _ _ (by rw [List.length_take]; omega), List.length_take, Nat.min_eq_left (by omega), Nat.sub_self, List.set_cons_zero, List.append_assoc]
    rfl
  unfold room
  rw [e2]
  have e3 : (l ++ (m.take k ++ List.replicate (m.length - k) 0)).set (l.length + k) x = l ++ (m.take k ++ List.replicate (m.length - k) 0).set k x := by
    rw [List.set_append_right _ _ (by omega), Nat.add_sub_cancel_left]
  rw [← e3, List.map_set, List.setIfInBounds_toArray]
  rfl
theorem room_at (l m : List UInt8) (k : Nat) (h : k < m.length) : (room l m k)[l.length + k]? = some (.int .u8 0) := by
  unfold room
  rw [List.getElem?_toArray, List.getElem?_map, List.getElem?_append_right (by omega), Nat.add_sub_cancel_left, List.getElem?_append_right (by rw [List.length_take]; omega), List.length_take, Nat.min_eq_left (by omega), Nat.sub_self,
    List.getElem?_replicate, if_pos (by omega)]
  rfl
theorem room_zero (l m : List UInt8) : (splice (madeCells #[.int .u8 0] (l.length + m.length)).toList 0 (l.map bv)).toArray = room l m 0 := by
  unfold splice room
  rw [toList_madeCells_one]
  simp [bv]
theorem room_all (l m : List UInt8) : room l m m.length = ((l ++ m).map bv).toArray := by
  unfold room
  simp
theorem Box.by {w : World} {g : Nat} {l : List UInt8} (h : Box w g 5 (l.map bv).toArray) (hl : l.length ≤ maxLen) : By w (.slice (some ⟨g, 0, none⟩) l.length l.length) l :=
  ⟨by simp, .inr ⟨g, l.length, (l.map bv).toArray, rfl, Nat.zero_le _, h, Nat.le_refl _, hl, by simp, by simp; exact List.take_of_length_le (by simp)⟩⟩

theorem u8_size : (Try.prog.info? 5).map (·.size) = some 1 := by kernel_rfl

theorem copy_src {w : World} {A : Option Addr} {n c : Nat} {l : List UInt8} {X : List Value} {B : Obj} (h : Rd w (.slice A n c) l) (hX : X = l.map bv) (h0 : 0 < l.length) :
    ∃ ad, A = some ad ∧ ∀ j v, X[j]? = some v → (w.alloc B).cell? (ad.add j) = some v := by
  obtain ⟨A', c', hv, _, hn, hc⟩ := h
  injection hv with h1 h2 h3
  subst h1
  cases A with
  | none =>
    obtain ⟨rfl, _⟩ := hn rfl
    exact absurd h0 (by simp)
  | some ad =>
    refine ⟨ad, rfl, fun j v hj => ?_⟩
    rw [hX, List.getElem?_map] at hj
    cases hb : l[j]? with
    | none => rw [hb] at hj; cases hj
    | some b =>
      rw [hb] at hj
      cases hj
      have h1 := hc ad rfl j b hb
      rw [World.cell?_alloc_lt w B _ (World.block_lt_of_cell? w _ h1)]
      exact h1

theorem Made.rd {w w' : World} {v : Value} {l : List UInt8} (h : Made w w' v l) : Rd w' v l := h.1.rd

theorem made_app {w w1 w2 w3 : World} {A A' : Option Addr} {n c n' c' B : Nat} {l m : List UInt8} (h : Made w w1 (.slice A n c) l) (ht : Turn (fun _ => False) w1 w2) (hb : By w3 (.slice A' n' c') m)
    (hg : w2.grownBy w3 (Value.slice A n c).ownBlock) (ha : (Value.slice A' n' c').ownBlock = (Value.slice A n c).ownBlock ∨ (Value.slice A' n' c').ownBlock = some B) (hB : w2.heap.size = B) : Made w w3 (.slice A' n' c') m := by
  have h1 : Turn (fun _ => False) w w2 := h.2.1.trans ht (fun _ _ f => f)
  refine ⟨hb, h1.grown hg (fun k hk e => ?_), fun k hk => ?_⟩
  · have := h.2.2 k e
    omega
  · rcases ha with e | e
    · exact h.2.2 k (by rw [← e]; exact hk)
    · rw [e] at hk
      have := h1.size
      injection hk with hk
      omega
theorem By.shape {w : World} {v : Value} {l : List UInt8} (h : By w v l) : ∃ A c, v = .slice A l.length c := by
  rcases h.form with ⟨rfl, rfl⟩ | ⟨g, cap, cur, rfl, _⟩
  · exact ⟨_, _, rfl⟩
  · exact ⟨_, _, rfl⟩
theorem made_empty (w : World) : Made w (w.alloc (.cells #[] 5)) (.slice (some ⟨w.heap.size, 0, none⟩) 0 0) [] :=
  ⟨By.empty w, (Turn.refl _ w).alloc _, fun k hk => by
    have : w.heap.size = k := by simpa [Value.ownBlock] using hk
    omega⟩

theorem Rd.none (w : World) : Rd w (.slice none 0 0) [] := (By.nil w).rd
theorem Rd.drewN {w : World} {v : Value} {l : List UInt8} (h : Rd w v l) (k : Nat) : Rd (w.drewN k) v l := h.later ((Turn.refl _ w).drewN k)
theorem Rd.drew {w : World} {v : Value} {l : List UInt8} (h : Rd w v l) : Rd w.drew v l := h.later (Turn.refl _ w).drew
theorem quiet_left {P : Program} {f : FuncId} {args : Array Value} {w : World} {n : Nat} {v : Value}
    (h : Calls P f args (w.drewN n) fun e w' => e = .returned v ∧ w.drewN n = w') : Calls P f args (w.drewN n) fun e w'' => e = .returned v ∧ ∃ m, w'' = w.drewN m :=
  h.mono fun _ _ ⟨he, hm⟩ => ⟨he, n, hm.symm⟩

theorem splice_full {M X : List Value} (h : M.length = X.length) : splice M 0 X = X := by
  unfold splice
  rw [List.take_zero, List.nil_append, Nat.zero_add, ← h, List.drop_length, List.append_nil]

theorem Rd.shape {w : World} {v : Value} {l : List UInt8} (h : Rd w v l) : ∃ A c, v = .slice A l.length c := by
  obtain ⟨A, c, e, _⟩ := h
  exact ⟨A, c, e⟩
/-- A call that turns only what is new since w. -/
theorem Turn.fresh {S : Nat → Prop} {w w1 w2 : World} (h : Turn (fun _ => False) w w1) (g : Turn S w1 w2) (hs : ∀ k, S k → w.heap.size ≤ k) : Turn (fun _ => False) w w2 :=
  h.trans g (fun k hk s => by have := hs k s; omega)

theorem By.set {w : World} {g n c : Nat} {l : List UInt8} (h : By w (.slice (some ⟨g, 0, none⟩) n c) l) (i : Nat) (y : UInt8) : By (w.setCell ⟨g, i, none⟩ (bv y)) (.slice (some ⟨g, 0, none⟩) n c) (l.set i y) := by
  rcases h.form with ⟨e, _⟩ | ⟨g', cap, cur, e, hb, h1, h2, h3, h4⟩
  · cases e
  · injection e with e1 e2 e3
    injection e1 with e1
    injection e1 with e1
    subst e1 e2 e3
    refine ⟨by simp, .inr ⟨g, c, cur.setIfInBounds i (bv y), by rw [List.length_set], Nat.zero_le _, hb.set i (bv y), by rw [List.length_set]; exact h1, h2, by simpa using h3, ?_⟩⟩
    rw [List.length_set, Nat.mul_one, Array.toList_setIfInBounds, List.take_set, h4, List.map_set]
theorem By.cells {w : World} {g n c : Nat} {l : List UInt8} (h : By w (.slice (some ⟨g, 0, none⟩) n c) l) {i : Nat} {x : UInt8} (hx : l[i]? = some x) : w.cell? ⟨g, i, none⟩ = some (.int .u8 (x.toNat : Int)) := by
  obtain ⟨ad, e, hc⟩ := h.rd.at hx
  cases e
  have e1 : (⟨g, 0, none⟩ : Addr).add i = ⟨g, i, none⟩ := by unfold Addr.add; split <;> simp_all
  rw [e1] at hc
  exact hc
theorem By.free {w : World} {g n c : Nat} {l : List UInt8} (h : By w (.slice (some ⟨g, 0, none⟩) n c) l) (i : Nat) : w.frozen? ⟨g, i, none⟩ = false := by
  rcases h.form with ⟨e, _⟩ | ⟨g', cap, cur, e, hb, _⟩
  · cases e
  · injection e with e1 e2 e3
    injection e1 with e1
    injection e1 with e1
    subst e1
    exact hb.free i
theorem By.block {w : World} {A : Option Addr} {n c : Nat} {l : List UInt8} (h : By w (.slice A n c) l) (h0 : 0 < l.length) : ∃ g, A = some ⟨g, 0, none⟩ := by
  rcases h.form with ⟨_, rfl⟩ | ⟨g', cap, cur, e, _⟩
  · cases h0
  · injection e with e1
    exact ⟨g', e1⟩

end Go.Proofs.Ytieffpngknglpaa
