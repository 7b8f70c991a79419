
/-
  Rows of elements of one cell that a call owns: what they hold, what leaves them as they are, one element put behind them. Rows of numbers.
-/
import Derived.Test.YtjhgbbmghgeeoaaIa
namespace Go.Proofs.Ytjhgbbmghgeeoaa
open Go.RowKit

/-- Slice value v, at the head of a row of its own, or nil: its elements, of one cell each, of type e, are xs. -/
def Row (e : TypeId) (w : World) (v : Value) (xs : List Value) : Prop := w.ownsRow 0 e 1 v xs.length xs

section
variable {e : TypeId} {w w' : World} {v : Value} {xs : List Value}
theorem Row.nil (e : TypeId) (w : World) : Row e w (.slice none 0 0) [] := World.ownsRow_nil w 0 _ 1
theorem Row.lt (h : Row e w v xs) {k : Nat} (hk : v.ownBlock = some k) : k < w.heap.size := (World.ownsRow.lt h k hk).2
theorem Row.turn {S : Nat → Prop} (h : Row e w v xs) (ht : Turn S w w') (hn : ∀ k, v.ownBlock = some k → ¬ S k) : Row e w' v xs := by
  refine ⟨h.1, ?_⟩
  rcases h.2 with h0 | ⟨g, cap, cur, rfl, hb, hg, rest⟩
  · exact .inl h0
  · exact .inr ⟨g, cap, cur, rfl, hb, (ht.block g (Array.getElem?_eq_some_iff.1 hg).1 (hn g rfl)).trans hg, rest⟩
theorem Row.later (h : Row e w v xs) (ht : Turn (fun _ => False) w w') : Row e w' v xs := h.turn ht (fun _ _ f => f)
theorem Row.grown {row : Option Nat} (h : Row e w v xs) (hg : w.grownBy w' row) (hn : v.ownBlock = none ∨ v.ownBlock ≠ row) : Row e w' v xs := World.ownsRow.kept h hg hn
theorem Row.form (h : Row e w v xs) : (v = .slice none 0 0 ∧ xs = []) ∨ ∃ g cap cur, v = .slice (some ⟨g, 0, none⟩) xs.length cap ∧ Box w g e cur ∧ xs.length ≤ cap ∧ cap ≤ maxLen ∧ cur.size = cap ∧ cur.toList.take xs.length = xs := by
  rcases h.2 with ⟨h0, h1⟩ | ⟨g, cap, cur, hv, _, hg, hn, hm, hs, ht⟩
  · exact .inl ⟨h0, List.eq_nil_of_length_eq_zero h1⟩
  · exact .inr ⟨g, cap, cur, hv, hg, hn, hm, by simpa using hs, by simpa using ht⟩
theorem Row.shape (h : Row e w v xs) : ∃ A c, v = .slice A xs.length c := by
  rcases h.form with ⟨rfl, rfl⟩ | ⟨g, cap, cur, rfl, _⟩
  · exact ⟨_, _, rfl⟩
  · exact ⟨_, _, rfl⟩
theorem Row.bounds {A : Option Addr} {n c : Nat} (h : Row e w (.slice A n c) xs) : n = xs.length ∧ xs.length ≤ c ∧ c ≤ maxLen := by
  rcases h.form with ⟨h1, rfl⟩ | ⟨g, cap, cur, h1, _, h2, h3, _⟩
  · injection h1 with h4 h5 h6
    subst h4 h5 h6
    exact ⟨rfl, by simp, by simp⟩
  · injection h1 with h4 h5 h6
    subst h4 h5 h6
    exact ⟨rfl, h2, h3⟩
/-- Rows of elements of two types are two rows. -/
theorem Row.apart {e' : TypeId} {v' : Value} {xs' : List Value} (h : Row e w v xs) (h' : Row e' w v' xs') (hne : e ≠ e') : v.ownBlock = none ∨ v.ownBlock ≠ v'.ownBlock := by
  rcases h.form with ⟨rfl, _⟩ | ⟨g, cap, cur, rfl, hb, _⟩
  · exact .inl rfl
  · rcases h'.form with ⟨rfl, _⟩ | ⟨g', cap', cur', rfl, hb', _⟩
    · exact .inr (by simp [Value.ownBlock])
    · refine .inr fun e1 => ?_
      obtain rfl : g = g' := by simpa [Value.ownBlock] using e1
      have e2 := hb.symm.trans hb'
      injection e2 with e2
      injection e2 with _ e3
      exact hne e3
theorem Row.not_box {g : Nat} {t : TypeId} {cs : Array Value} (h : Row e w v xs) (hb : Box w g t cs) (hne : e ≠ t) : v.ownBlock ≠ some g := by
  rcases h.form with ⟨rfl, _⟩ | ⟨g', cap, cur, rfl, hb', _⟩
  · simp [Value.ownBlock]
  · intro e1
    obtain rfl : g' = g := by simpa [Value.ownBlock] using e1
    have e2 := hb'.symm.trans hb
    injection e2 with e2
    injection e2 with _ e3
    exact hne e3
theorem Row.at {A : Option Addr} {n c : Nat} (h : Row e w (.slice A n c) xs) {j : Nat} {x : Value} (hj : xs[j]? = some x) : ∃ ad, A = some ad ∧ w.cell? (ad.add j) = some x := by
  rcases h.form with ⟨_, rfl⟩ | ⟨g, cap, cur, h1, hb, _⟩
  · cases hj
  · injection h1 with h4 h5 h6
    subst h4
    have := World.ownsRow.cells h (g := g) rfl j x (by simpa using hj)
    exact ⟨_, rfl, this⟩
end

/-- A row that a call has made since w. -/
def MadeRow (e : TypeId) (w w' : World) (v : Value) (xs : List Value) : Prop := Row e w' v xs ∧ ∀ k, v.ownBlock = some k → w.heap.size ≤ k

/-- append of one element onto a row of one's own, or nil. -/
theorem wpList_push {w : World} {ops : Array Oper} {rest : List Oper} {o : Oper} {a : Act} {Q : Exit → Act → World → Prop} (hgd : o.guard = none) (s x : Operand) (t e : TypeId) {b : Nat}
    (ht : Try.prog.underlying t = some (.slice e)) {z : Value} (hz : (Try.prog.info? e).map (fun i => (i.zero, i.size, i.bytes)) = some (some z, 1, b)) (hzs : z.cells.size = 1) (hb : b ≤ 1000)
    (ho : o.op = .call { callee := .builtin .append, args := #[s, x], argTypes := #[t, t] }) (v : Value) (xs : List Value) (hs : a.eval s = v) (hown : Row e w v xs)
    (g : Nat) (y : Value) (hx : a.eval x = .slice (some ⟨g, 0, none⟩) 1 1) (hy : w.cell? ⟨g, 0, none⟩ = some y) (hy1 : y.oneCell' = true) (hl : xs.length ≤ 1000000000)
    (h : ∀ A n c w', Row e w' (.slice A n c) (xs ++ [y]) → w.grownBy w' v.ownBlock → ((Value.slice A n c).ownBlock = v.ownBlock ∨ (Value.slice A n c).ownBlock = some w.heap.size) → wpList Try.prog ops Q rest (a.put o.dst (.slice A n c)) w') :
    wpList Try.prog ops Q (o :: rest) a w := by
  refine wpList_plain hgd fun K hK => ?_
  obtain ⟨i, hi, hz0, h1, h2⟩ := info_parts hz
  have hsrc : Src Try.prog i.size t (.slice (some ⟨g, 0, none⟩) 1 1) 1 [y] w := by
    rw [h1]
    refine Src.ofSlice (P := Try.prog) w (size := 1) ht ⟨g, 0, none⟩ 1 1 [y] rfl ?_ ?_
    · intro j u hj
      cases j with
      | zero =>
        obtain rfl : y = u := by simpa using hj
        simpa [Addr.add] using hy
      | succ j => simp at hj
    · intro u hu
      obtain rfl : u = y := by simpa using hu
      exact hy1
  unfold Row at hown
  rw [← h1] at hown
  obtain ⟨A, n, c, w', hr, g1, g2, g3⟩ := run_app (P := Try.prog) w t t o.type e i z ht hi hz0 (by rw [h1]; exact hzs) v xs.length xs hown _ 1 [y] hsrc
    (by simp only [maxLen]; omega) (by rw [h2]; have : (xs.length + 1) * b ≤ 1000000001 * 1000 := Nat.mul_le_mul (by omega) hb; omega)
  unfold Oper.wp execOp
  simp only [ho, resolve, invoke, builtin, Sem.run_bind, Sem.run_pure, Result.andThen_ok, List.map_toArray, List.map_cons, List.map_nil, hs, hx, hr]
  refine hK _ _ (h A n c w' ?_ g2 g3)
  unfold Row
  rw [List.length_append, ← h1]
  exact g1

theorem int_info : (Try.prog.info? 3).map (fun i => (i.zero, i.size, i.bytes)) = some (some (.int .i64 0), 1, 8) := by kernel_rfl
theorem bytes_info : (Try.prog.info? 22).map (fun i => (i.zero, i.size, i.bytes)) = some (some (.slice none 0 0), 1, 24) := by kernel_rfl

/-- A slice value that reads as the numbers L. -/
def Nums (w : World) (v : Value) (L : List Nat) : Prop :=
  ∃ A c, v = .slice A L.length c ∧ ∀ (j n : Nat), L[j]? = some n → ∃ ad, A = some ad ∧ w.cell? (ad.add j) = some (.int .i64 (n : Int))
def nv (n : Nat) : Value := .int .i64 (n : Int)
theorem Row.nums {w : World} {v : Value} {L : List Nat} (h : Row 3 w v (L.map nv)) : Nums w v L := by
  obtain ⟨A, c, rfl⟩ := h.shape
  refine ⟨A, c, by rw [List.length_map], fun j n hj => ?_⟩
  exact h.at (x := nv n) (by rw [List.getElem?_map, hj]; rfl)
theorem Nums.at {w : World} {A : Option Addr} {n c : Nat} {L : List Nat} (h : Nums w (.slice A n c) L) {k x : Nat} (hk : L[k]? = some x) : ∃ ad, A = some ad ∧ w.cell? (ad.add k) = some (.int .i64 (x : Int)) := by
  obtain ⟨A', c', hv, hx⟩ := h
  injection hv with h1 h2 h3
  subst h1
  exact hx k x hk
theorem Nums.shape {w : World} {v : Value} {L : List Nat} (h : Nums w v L) : ∃ A c, v = .slice A L.length c := by
  obtain ⟨A, c, e, _⟩ := h
  exact ⟨A, c, e⟩
theorem cell_odd {w w' : World} {D : Nat} {a : Addr} {x : Value} (hc : w.cell? a = some x) (ht : Turn (odd D w) w w') : w'.cell? a = some x := by
  rw [ht.cell (World.block_lt_of_cell? w _ hc) ?_]
  · exact hc
  · rintro ⟨_, o, ho, hf⟩
    obtain ⟨o', ho', hf'⟩ := cells_of_cell hc
    rw [ho] at ho'
    cases ho'
    rw [hf] at hf'
    cases hf'
theorem Nums.odd {w w' : World} {D : Nat} {v : Value} {L : List Nat} (h : Nums w v L) (ht : Turn (odd D w) w w') : Nums w' v L := by
  obtain ⟨A, c, e, hx⟩ := h
  refine ⟨A, c, e, fun j n hj => ?_⟩
  obtain ⟨ad, e1, hc⟩ := hx j n hj
  exact ⟨ad, e1, cell_odd hc ht⟩
theorem Nums.later {w w' : World} {v : Value} {L : List Nat} (h : Nums w v L) (ht : Turn (fun _ => False) w w') : Nums w' v L := h.odd (D := 0) ht.none

/-- What lies below what may turn. -/
theorem Nums.below {w w' : World} {D : Nat} {v : Value} {L : List Nat} (h : Nums w v L) (ht : Turn (fun k => D ≤ k) w w') (hD : w.heap.size ≤ D) : Nums w' v L := by
  obtain ⟨A, c, e, hx⟩ := h
  refine ⟨A, c, e, fun j n hj => ?_⟩
  obtain ⟨ad, e1, hc⟩ := hx j n hj
  have hlt := World.block_lt_of_cell? w _ hc
  exact ⟨ad, e1, by rw [ht.cell hlt (by omega)]; exact hc⟩
theorem Rd.below {w w' : World} {D : Nat} {v : Value} {l : List UInt8} (h : Rd w v l) (ht : Turn (fun k => D ≤ k) w w') (hD : w.heap.size ≤ D) : Rd w' v l := by
  obtain ⟨A, c, rfl, hk, hn, hc⟩ := h
  refine ⟨A, c, rfl, hk, hn, fun ad e j b hj => ?_⟩
  have h1 := hc ad e j b hj
  have hlt := World.block_lt_of_cell? w _ h1
  rw [ht.cell hlt (by omega)]
  exact h1

end Go.Proofs.Ytjhgbbmghgeeoaa
