/-
  Texts laid one behind the other: Q3fm Wn Nc Gb Hbb Hcb Hdb Heb.
-/
import Derived.Test.YtamcgoamkakpkaaJocaa
import Derived.Test.YtamcgoamkakpkaaJocab
import Derived.BigQuiet
import Derived.Deep.RegionHeld3

/-
  Maps of names, plain: values turned, keys kept.
-/
namespace Go.Proofs.Ytamcgoamkakpkaa
open Go.RowKit

section
variable {V U : Type}
/-- Values turned, keys kept. -/
def fm15 (f : V → U) (l : List (List UInt8 × V)) : List (List UInt8 × U) := l.map fun p => (p.1, f p.2)
theorem fm_cons15 (f : V → U) (p : List UInt8 × V) (l : List (List UInt8 × V)) : fm15 f (p :: l) = (p.1, f p.2) :: fm15 f l := rfl
theorem fm_get15 (f : V → U) (k : List UInt8) : ∀ l : List (List UInt8 × V), getK ltN (fm15 f l) k = (getK ltN l k).map f
  | [] => rfl
  | p :: l => by
    rw [fm_cons15, getK_cons, getK_cons, fm_get15 f k l]
    split
    · rfl
    · split <;> rfl
theorem fm_has15 (f : V → U) (k : List UInt8) (l : List (List UInt8 × V)) : hasK ltN (fm15 f l) k = hasK ltN l k := by
  rw [has_get, has_get, fm_get15]
  cases getK ltN l k <;> rfl
theorem fm_put15 (f : V → U) (k : List UInt8) (v : V) : ∀ l : List (List UInt8 × V), fm15 f (putK ltN l k v) = putK ltN (fm15 f l) k (f v)
  | [] => rfl
  | p :: l => by
    rw [fm_cons15, putK_cons, putK_cons]
    split
    · rw [fm_cons15, fm_put15 f k v l]
    · split <;> rfl
theorem fm_drop15 (f : V → U) (k : List UInt8) : ∀ l : List (List UInt8 × V), fm15 f (dropK ltN l k) = dropK ltN (fm15 f l) k
  | [] => rfl
  | p :: l => by
    rw [fm_cons15, dropK_cons, dropK_cons]
    split
    · rw [fm_cons15, fm_drop15 f k l]
    · split <;> rfl
theorem fm_len15 (f : V → U) (l : List (List UInt8 × V)) : (fm15 f l).length = l.length := List.length_map _
theorem fm_up15 (f : V → U) {l : List (List UInt8 × V)} (h : Up ltN (fm15 f l)) : Up ltN l := fun i j a b hij ha hb =>
  h i j (a.1, f a.2) (b.1, f b.2) hij (by unfold fm15; rw [List.getElem?_map, ha]; rfl) (by unfold fm15; rw [List.getElem?_map, hb]; rfl)
theorem up_fm15 (f : V → U) {l : List (List UInt8 × V)} (h : Up ltN l) : Up ltN (fm15 f l) := fun i j a b hij ha hb => by
  unfold fm15 at ha hb
  rw [List.getElem?_map] at ha hb
  cases e1 : l[i]? with
  | none => rw [e1] at ha; cases ha
  | some p =>
    cases e2 : l[j]? with
    | none => rw [e2] at hb; cases hb
    | some q =>
      rw [e1] at ha
      rw [e2] at hb
      cases ha
      cases hb
      exact h i j p q hij e1 e2
theorem put_get15 {k : List UInt8} {v : V} : ∀ {l : List (List UInt8 × V)}, getK ltN l k = some v → putK ltN l k v = l
  | [], h => by cases h
  | p :: l, h => by
    rw [getK_cons] at h
    rw [putK_cons]
    split at h
    · rename_i h1
      rw [if_pos h1, put_get15 h]
    · rename_i h1
      rw [if_neg h1]
      split at h
      · rename_i h2
        rw [if_pos h2]
        cases h
        rw [← h2]
      · cases h
theorem drop_ne15 {k : List UInt8} : ∀ {l : List (List UInt8 × V)} (_ : Up ltN l) {q : List UInt8 × V}, q ∈ dropK ltN l k → q.1 ≠ k
  | [], _, q, h => by cases h
  | p :: l, hu, q, h => by
    obtain ⟨h1, h2⟩ := up_cons.1 hu
    rw [dropK_cons] at h
    split at h
    · rename_i h3
      rcases List.mem_cons.1 h with e | e
      · subst e
        exact fun e => by rw [e, show ltN k k = false from rises_bytes.irr k] at h3; cases h3
      · exact drop_ne15 h2 e
    · rename_i h3
      have hq : ∀ q ∈ l, ltN p.1 q.1 = true := fun q hm => by
        obtain ⟨i, hi, e⟩ := List.mem_iff_getElem.1 hm
        exact h1 i q (by rw [List.getElem?_eq_getElem hi, e])
      split at h
      · rename_i h4
        have := hq q h
        exact fun e => by rw [h4, e, show ltN k k = false from rises_bytes.irr k] at this; cases this
      · rename_i h4
        rcases List.mem_cons.1 h with e | e
        · subst e
          exact h4
        · have h5 := hq q e
          exact fun e => by rw [e] at h5; exact h3 h5
end

end Go.Proofs.Ytamcgoamkakpkaa

/-
  A row that a call owns, of which a slice shows a part from some place on, with room behind it (a queue: taken ahead, put behind). No type is named here.
-/
namespace Go.Proofs.Ytamcgoamkakpkaa
open Go.RowKit

/-- The slice v shows the elements l, from some place of a row on, with room. -/
def Win {T : Type} (E : El T) (e : TypeId) (w : World) (v : Value) (l : List T) : Prop :=
  (v = .slice none 0 0 ∧ l = []) ∨ ∃ b k c cur, v = .slice (some ⟨b, k, none⟩) l.length c ∧ Box w b e cur ∧ l.length ≤ c ∧ k + c * E.sz ≤ cur.size ∧ c ≤ maxLen ∧ (cur.toList.drop k).take (l.length * E.sz) = E.flat l
theorem add_at (b k n : Nat) : (⟨b, k, none⟩ : Addr).add n = ⟨b, k + n, none⟩ := by unfold Addr.add; split <;> simp_all

section
variable {T : Type} {E : El T} {e : TypeId} {w w' : World} {v : Value} {l : List T}
theorem Win.nil (w : World) : Win E e w (.slice none 0 0) [] := .inl ⟨rfl, rfl⟩
theorem Win.turn {S : Nat → Prop} (h : Win E e w v l) (ht : Turn S w w') (hs : ∀ k, v.ownBlock = some k → ¬ S k) : Win E e w' v l := by
  rcases h with h | ⟨b, k, c, cur, rfl, hb, rest⟩
  · exact .inl h
  · exact .inr ⟨b, k, c, cur, rfl, hb.turn ht (hs b rfl), rest⟩
theorem Win.typ (h : Win E e w v l) {k : Nat} (hk : v.ownBlock = some k) : ∃ cs, Box w k e cs := by
  rcases h with ⟨rfl, _⟩ | ⟨b, k', c, cur, rfl, hb, rest⟩
  · cases hk
  · cases hk
    exact ⟨cur, hb⟩
theorem Win.lt (h : Win E e w v l) {k : Nat} (hk : v.ownBlock = some k) : k < w.heap.size := by
  obtain ⟨cs, hb⟩ := h.typ hk
  exact hb.lt
theorem Win.shape (h : Win E e w v l) : ∃ A c, v = .slice A l.length c := by
  rcases h with ⟨rfl, rfl⟩ | ⟨b, k, c, cur, rfl, _⟩
  · exact ⟨_, _, rfl⟩
  · exact ⟨_, _, rfl⟩
theorem Win.cells (h : Win E e w v l) {b k n c : Nat} (hv : v = .slice (some ⟨b, k, none⟩) n c) : ∀ (j : Nat) (u : Value), (E.flat l)[j]? = some u → w.cell? ((⟨b, k, none⟩ : Addr).add j) = some u := by
  rcases h with ⟨e0, _⟩ | ⟨b', k', c', cur, e0, hb, h1, h2, h3, h4⟩
  · rw [e0] at hv; cases hv
  · rw [e0] at hv
    cases hv
    intro j u hu
    rw [← h4, List.getElem?_take] at hu
    split at hu
    · rw [List.getElem?_drop] at hu
      rw [add_at, hb.cell, ← hu]
      simp
    · cases hu
theorem Win.rd (h : Win E e w v l) : RdE E w v l := by
  have hx := h
  rcases h with ⟨rfl, rfl⟩ | ⟨b, k, c, cur, rfl, hb, h1, h2, h3, h4⟩
  · exact RdE.nil w
  · refine ⟨_, _, rfl, ⟨h1, h3⟩, (fun e => by cases e), fun ad e j u hj => ?_⟩
    cases e
    exact hx.cells rfl j u hj
/-- Without the first i. -/
theorem Win.tail (h : Win E e w v l) {A : Option Addr} {n c : Nat} (hv : v = .slice A n c) {i : Nat} (hi : i ≤ n) : Win E e w (tailV E A n c i) (l.drop i) := by
  rcases h with ⟨e0, rfl⟩ | ⟨b, k, c', cur, e0, hb, h1, h2, h3, h4⟩
  · rw [e0] at hv
    cases hv
    obtain rfl : i = 0 := by omega
    exact .inl ⟨rfl, rfl⟩
  · rw [e0] at hv
    cases hv
    have hlen : (l.drop i).length = l.length - i := List.length_drop ..
    unfold tailV
    by_cases hc : c = i
    · have e1 : l.length = c := by omega
      subst hc
      refine .inr ⟨b, k, 0, cur, ?_, hb, ?_, ?_, Nat.zero_le _, ?_⟩
      · rw [hlen, if_pos rfl, e1, Nat.sub_self]
      · rw [hlen]; omega
      · rw [Nat.zero_mul]; exact Nat.le_trans (Nat.le_add_right k _) h2
      · rw [hlen, e1, Nat.sub_self, Nat.zero_mul, List.take_zero, ← e1, List.drop_length]
        rfl
    · refine .inr ⟨b, k + i * E.sz, c - i, cur, ?_, hb, ?_, ?_, by omega, ?_⟩
      · rw [hlen, if_neg hc, Option.map_some, add_at]
      · rw [hlen]; omega
      · have : i * E.sz + (c - i) * E.sz = c * E.sz := by rw [← Nat.add_mul]; congr 1; omega
        omega
      · rw [hlen, E.flat_drop, ← h4, List.drop_take, List.drop_drop, Nat.sub_mul]
end

/-- append onto such a slice, or nil. -/
theorem run_appW {P : Program} {T : Type} {E : El T} {tS e : TypeId} {z : Value} {by' : Nat} (ht : P.underlying tS = some (.slice e)) (hi0 : (P.info? e).map (fun i => (i.zero, i.size, i.bytes)) = some (some z, E.sz, by')) (hz : z.cells.size = E.sz)
    (w : World) (tx ty : TypeId) (v : Value) (l : List T) (hown : Win E e w v l) (y : Value) (m : List T) (hs : Src P E.sz tx y m.length (E.flat m) w) (hl : l.length + m.length ≤ maxLen) (hb : (l.length + m.length) * by' ≤ 140737488355328) :
    ∃ A n c w', (Builtin.append_ #[tS, tx] ty #[v, y]).run P w = .ok (.slice A n c) w' ∧ Win E e w' (.slice A n c) (l ++ m) ∧ Turn (fun k => v.ownBlock = some k) w w' ∧ ((Value.slice A n c).ownBlock = v.ownBlock ∨ (Value.slice A n c).ownBlock = some w.heap.size) := by
  obtain ⟨i, hi, hz0, h1, h2⟩ := info_parts hi0
  have hfl : (E.flat (l ++ m)).length = (l.length + m.length) * E.sz := by rw [E.flat_len, List.length_append]
  rcases hown with ⟨rfl, rfl⟩ | ⟨b, k, c, cur, rfl, hg, hnc, hcs, hcm, htake⟩
  · have hown : w.ownsRow 0 e i.size (.slice none 0 0) 0 [] := World.ownsRow_nil w 0 _ _
    rw [← h1] at hs
    obtain ⟨A, n, c, w', hr, g1, g2, g3⟩ := run_app (P := P) w tS tx ty e i z ht hi hz0 (by rw [h1]; exact hz) (.slice none 0 0) 0 _ hown y m.length _ hs (by simpa using hl) (by rw [h2]; simpa using hb)
    refine ⟨A, n, c, w', hr, ?_, (Turn.refl _ w).grown g2 (fun k _ e => e), g3⟩
    rw [h1, Nat.zero_add] at g1
    have ho : OwE E e w' (.slice A n c) m := g1
    rcases ho.form with ⟨e1, rfl⟩ | ⟨b, cap, cur, e1, hb, q1, q2, q3, q4⟩
    · exact .inl ⟨e1, rfl⟩
    · exact .inr ⟨b, 0, cap, cur, e1, hb, q1, by omega, q2, by rw [List.drop_zero]; exact q4⟩
  · have hkl : k + l.length * E.sz ≤ cur.size := Nat.le_trans (Nat.add_le_add_left (Nat.mul_le_mul_right _ hnc) k) hcs
    by_cases hroom : l.length + m.length ≤ c
    · have hnl := hs.newsLen
      have hfit : k + l.length * E.sz + (E.flat m).length ≤ cur.size := by
        rw [hnl]
        have := Nat.mul_le_mul_right E.sz hroom
        rw [Nat.add_mul] at this
        omega
      have hst := run_storeCells_at P b (k + l.length * E.sz) e (E.flat m) 0 cur w hg (by simpa using hfit) hs.one
      simp only [Nat.add_zero] at hst
      have hr : (Builtin.append_ #[tS, tx] ty #[.slice (some ⟨b, k, none⟩) l.length c, y]).run P w =
          .ok (.slice (some ⟨b, k, none⟩) (l.length + m.length) c) (w.setRow b (cur.toList.take (k + l.length * E.sz) ++ E.flat m ++ cur.toList.drop (k + l.length * E.sz + (E.flat m).length)).toArray) := by
        rcases hs.kind with ⟨e', hk⟩ | hk <;> simp [Builtin.append_, run_underlying ht, run_underlying hk, sizeOf, typeInfo, hi, h1, hs.len, hs.cells, hroom, add_at, hst]
      refine ⟨_, _, _, _, hr, .inr ⟨b, k, c, _, by rw [List.length_append], setRow_heap w b cur _ e _ hg, by rw [List.length_append]; exact hroom, ?_, hcm, ?_⟩, ?_, .inl rfl⟩
      · simp only [List.size_toArray, List.length_append, List.length_take, List.length_drop, Array.length_toList]
        omega
      · have e1 : (cur.toList.take (k + l.length * E.sz)).drop k = E.flat l := by rw [List.drop_take, Nat.add_sub_cancel_left, htake]
        rw [List.append_assoc, List.drop_append_of_le_length (by have h0 : cur.toList.length = cur.size := Array.length_toList; rw [List.length_take, h0]; omega), e1, ← List.append_assoc, ← E.flat_append, List.length_append, ← hfl]
        exact List.take_left
      · exact (Turn.refl _ w).grown ⟨rfl, rfl, rfl, by simp, fun j _ hk => setRow_other w b j _ (fun e => hk (by rw [e]))⟩ (fun j _ e => by rw [← e]; rfl)
    · have hwin : Win E e w.drew (.slice (some ⟨b, k, none⟩) l.length c) l := Win.turn (.inr ⟨b, k, c, cur, rfl, hg, hnc, hcs, hcm, htake⟩) ((Turn.refl (fun _ => False) w).drew) (fun _ _ f => f)
      rw [← h1] at hs
      have hold : (Builtin.firstCells i.size l.length (.slice (some ⟨b, k, none⟩) l.length c)).run P w.drew = .ok (E.flat l).toArray w.drew :=
        run_firstCells_some (P := P) w.drew i.size l.length ⟨b, k, none⟩ l.length c (E.flat l) (by rw [h1, E.flat_len]) (hwin.cells rfl)
      have hr := run_append_grow_src (P := P) w tS tx ty e i z ht hi hz0 (some ⟨b, k, none⟩) l.length c (E.flat l) hold y m.length _ hs (by omega) (by simp only [maxLen] at hl; omega) (growslice_fits (by simp only [maxLen] at hl; omega) (by rw [h2]; exact hb))
      have hge := grownCap_ge w (l.length + m.length) c e
      have hgm := grownCap_le_maxLen w (l.length + m.length) c e hl
      refine ⟨_, _, _, _, hr, .inr ⟨w.heap.size, 0, _, _, by rw [List.length_append], heap_alloc_new w.drew _, by rw [List.length_append]; exact hge, ?_, hgm, ?_⟩, ?_, .inr rfl⟩
      · rw [← E.flat_append, Array.size_append, size_zeroCells, hz, List.size_toArray, hfl, Nat.zero_add, ← Nat.add_mul]
        exact Nat.mul_le_mul_right _ (by omega)
      · rw [← E.flat_append, Array.toList_append, List.drop_zero, List.length_append, ← hfl]
        exact List.take_left
      · exact ⟨rfl, rfl, rfl, by simp, fun j hj _ => Below.heap_alloc w.drew _ j hj⟩

/-- append onto such a slice: at its operation, in a drawn region. -/
theorem put_appW {P : Program} {T : Type} {E : El T} {tS e : TypeId} {z : Value} {by' : Nat} (ht : P.underlying tS = some (.slice e)) (hi0 : (P.info? e).map (fun i => (i.zero, i.size, i.bytes)) = some (some z, E.sz, by')) (hz : z.cells.size = E.sz) (hby : by' ≤ 1000)
    {w : World} {ops : Array Oper} {d : Option Nat} {ty : TypeId} {pos : String} {af : Array Edge} {s x : Operand} {a : Act} {K : Act → World → Prop} {Q : Exit → Act → World → Prop} {F : Prop} (l : List T) (hown : Win E e w (a.eval s) l)
    (m : List T) (hy : RdE E w (a.eval x) m) (hl : l.length + m.length ≤ 3000000)
    (h : ∀ A n c w', Win E e w' (.slice A n c) (l ++ m) → Turn (fun k => (a.eval s).ownBlock = some k) w w' → ((Value.slice A n c).ownBlock = (a.eval s).ownBlock ∨ (Value.slice A n c).ownBlock = some w.heap.size) → K (a.put d (.slice A n c)) w') :
    if Region.wanted { dst := d, op := .call { callee := .builtin .append, args := #[s, x], argTypes := #[tS, tS] }, type := ty, pos := pos, after := af, guard := none } (yielded ops a.tmps) = true then Oper.wp P { dst := d, op := .call { callee := .builtin .append, args := #[s, x], argTypes := #[tS, tS] }, type := ty, pos := pos, after := af, guard := none } a w K Q else F := by
  rw [if_pos (by simp [Region.wanted])]
  obtain ⟨A, n, c, w', hr, g1, g2, g3⟩ := run_appW (P := P) ht hi0 hz w tS ty (a.eval s) l hown (a.eval x) m (hy.src ht) (by simp only [maxLen]; omega) (Nat.le_trans (Nat.mul_le_mul hl hby) (by omega))
  unfold Oper.wp execOp
  simp only [resolve, invoke, builtin, Sem.run_bind, Sem.run_pure, Result.andThen_ok, List.map_toArray, List.map_cons, List.map_nil, hr]
  exact h A n c w' g1 g2 g3

/-- l[i:], of such a slice. -/
theorem wpList_cutW {P : Program} {T : Type} {E : El T} {tS e : TypeId} {w : World} {ops : Array Oper} {rest : List Oper} {op : Oper} {a : Act} {Q : Exit → Act → World → Prop} {A : Option Addr} {n c i : Nat} {L : List T}
    (ht : P.underlying tS = some (.slice e)) (hz : (P.info? e).map (·.size) = some E.sz) (hgd : op.guard = none) (xo ko : Operand) (ho : op.op = .slice tS xo (some ko) none none) (hw : Win E e w (.slice A n c) L) (hx : a.eval xo = .slice A n c) (hk : a.eval ko = .int .i64 (i : Int)) (hi : i ≤ n)
    (h : ∀ B, Win E e w (.slice B (n - i) (c - i)) (L.drop i) → (∀ g, (Value.slice B (n - i) (c - i)).ownBlock = some g → (Value.slice A n c).ownBlock = some g) → wpList P ops Q rest (a.put op.dst (.slice B (n - i) (c - i))) w) : wpList P ops Q (op :: rest) a w :=
  wpList_plain hgd fun K hK => by
    unfold Oper.wp
    rw [exec_tail (E := E) ho hx hk ht hz hi w]
    refine hK _ _ (h _ (hw.tail rfl hi) (fun g hg => ?_))
    by_cases e : c = i
    · rw [if_pos e] at hg
      cases A with
      | none => simp [Value.ownBlock] at hg
      | some ad => simpa [Value.ownBlock] using hg
    · rw [if_neg e] at hg
      cases A with
      | none => simp [Value.ownBlock] at hg
      | some ad => simpa [Value.ownBlock, eadd_block] using hg

end Go.Proofs.Ytamcgoamkakpkaa

/-
  A slice's value, by its parts.
-/
namespace Go.Proofs.Ytamcgoamkakpkaa
open Go.RowKit

/-- A slice. -/
structure SlB where
  A : Option Addr
  n : Nat
  c : Nat
instance : Inhabited SlB := ⟨⟨none, 0, 0⟩⟩
abbrev SlB.v (s : SlB) : Value := .slice s.A s.n s.c

end Go.Proofs.Ytamcgoamkakpkaa

/-
  The document's map of numbers and texts, in memory.
-/
namespace Go.Proofs.Ytamcgoamkakpkaa
open Go.RowKit

/-- A number and a text, as a pair's cells. -/
def EP : El (Int × List UInt8) where
  sz := 2
  enc p := [.int .i64 p.1, .string ⟨p.2.toArray⟩]
  len _ := rfl
  one p u hu := by
    rcases List.mem_cons.1 hu with rfl | hu
    · rfl
    · rw [List.mem_singleton.1 hu]; rfl
def ltI (a b : Int) : Bool := decide (a < b)
theorem rises_ltI : Rises ltI := rises_int
theorem has_at {L : List (Int × List UInt8)} {k : Int} {i : Nat} {p : Int × List UInt8} (h : plc ltI L k = i) (hp : L[i]? = some p) : hasK ltI L k = decide (p.1 = k) := by
  unfold hasK
  rw [h, hp]
theorem has_not {L : List (Int × List UInt8)} {k : Int} {i : Nat} (h : plc ltI L k = i) (hi : L.length ≤ i) : hasK ltI L k = false := by
  unfold hasK
  rw [h, List.getElem?_eq_none hi]

end Go.Proofs.Ytamcgoamkakpkaa

/-
  Nodes of a tree: their order, their count, a node over two trees (keys string, values []byte).
-/
namespace Go.Proofs.Ytamcgoamkakpkaa.omb
open Go.RowKit

def eK (k : (List UInt8)) : Value := (.string ⟨k.toArray⟩)
def eV (v : SlB) : Value := (.slice v.A v.n v.c)
/-- The tree x lies at p. -/
abbrev Nd (w : World) (x : Tr (List UInt8) SlB) (p : Value) : Prop := TreeAt 79 eK eV w x p
/-- A node's own cells. -/
def One (w : World) (g : Nat) (k : (List UInt8)) (v : SlB) (pl pr : Value) (n : Nat) : Prop := Box w g 79 #[(.string ⟨k.toArray⟩), (.slice v.A v.n v.c), pl, pr, .int .i64 (n : Int)]
theorem One.later {w w' : World} {g : Nat} {k : (List UInt8)} {v : SlB} {pl pr : Value} {n : Nat} (h : One w g k v pl pr n) (ht : Turn (fun _ => False) w w') : One w' g k v pl pr n := Box.turn h ht (fun f => f)
theorem One.cells {w : World} {g : Nat} {k : (List UInt8)} {v : SlB} {pl pr : Value} {n : Nat} (h : One w g k v pl pr n) :
    w.cell? ⟨g, 0, none⟩ = some (.string ⟨k.toArray⟩) ∧ w.cell? ⟨g, 1, none⟩ = some (.slice v.A v.n v.c) ∧ w.cell? ⟨g, 2, none⟩ = some pl ∧ w.cell? ⟨g, 3, none⟩ = some pr ∧ w.cell? ⟨g, 4, none⟩ = some (.int .i64 (n : Int)) :=
  ⟨Box.cell h 0, Box.cell h 1, Box.cell h 2, Box.cell h 3, Box.cell h 4⟩
theorem nd_node {w : World} {l r : Tr (List UInt8) SlB} {k : (List UInt8)} {v : SlB} {p : Value} (h : Nd w (.node l k v r) p) : ∃ g pl pr, p = .pointer (some ⟨g, 0, none⟩) ∧ One w g k v pl pr (l.cnt + r.cnt + 1) ∧ Nd w l pl ∧ Nd w r pr := h

set_option maxRecDepth 100000 in
theorem nan_any (a : (List UInt8)) (w : World) : Calls Try.prog 44 #[(.string ⟨a.toArray⟩)] w fun e w' => e = .returned (.bool false) ∧ w = w' := by
  go_enter Try.func44, Try.ntmps44
  go_wp2
  go_ret
  exact ⟨by simp, rfl⟩

set_option maxRecDepth 100000 in
theorem less_any (a b : (List UInt8)) (w : World) : Calls Try.prog 34 #[(.string ⟨a.toArray⟩), (.string ⟨b.toArray⟩)] w fun e w' => e = .returned (.bool (Op.bytesLess a b)) ∧ w = w' := by
  go_enter Try.func34, Try.ntmps34
  go_wp2_with (go_at_call 44; refine (nan_any _ _).mono ?_; rintro e w' ⟨rfl, rfl⟩)
  go_ret
  exact ⟨by first | rfl | simp [ltI], rfl⟩

/-- What Compare answers. -/
def ord (a b : (List UInt8)) : Int := if Op.bytesLess a b then -1 else if Op.bytesLess b a then 1 else 0
theorem ord_lt {a b : (List UInt8)} (h : Op.bytesLess a b = true) : ord a b = -1 := if_pos h
theorem ord_gt {a b : (List UInt8)} (h : Op.bytesLess b a = true) : ord a b = 1 := by unfold ord; rw [if_neg (by rw [not_lt_of rises_bytes h]; simp), if_pos h]
theorem ord_eq (a : (List UInt8)) : ord a a = 0 := by unfold ord; rw [if_neg (by rw [rises_bytes.irr]; simp), if_neg (by rw [rises_bytes.irr]; simp)]

set_option maxRecDepth 100000 in
theorem compare_any (a b : (List UInt8)) (w : World) : Calls Try.prog 47 #[(.string ⟨a.toArray⟩), (.string ⟨b.toArray⟩)] w fun e w' => e = .returned (.int .i64 (ord a b)) ∧ w = w' := by
  by_cases h1 : Op.bytesLess a b = true
  · rw [ord_lt h1]
    go_enter Try.func47, Try.ntmps47
    go_wp2_with (go_at_call 44; refine (nan_any _ _).mono ?_; rintro e w' ⟨rfl, rfl⟩)
    all_goals go_ret
    exact ⟨rfl, rfl⟩
  · have h1 : Op.bytesLess a b = false := by simpa using h1
    by_cases h2 : a = b
    · subst h2
      rw [ord_eq]
      have h2 : (a == a) = true := by simp
      go_enter Try.func47, Try.ntmps47
      go_wp2_with (go_at_call 44; refine (nan_any _ _).mono ?_; rintro e w' ⟨rfl, rfl⟩)
      all_goals go_ret
      exact ⟨rfl, rfl⟩
    · rw [ord_gt (rises_bytes.tot _ _ h2 h1)]
      have h3 : (a == b) = false := beq_eq_false_iff_ne.2 h2
      go_enter Try.func47, Try.ntmps47
      go_wp2_with (go_at_call 44; refine (nan_any _ _).mono ?_; rintro e w' ⟨rfl, rfl⟩)
      all_goals go_ret
      exact ⟨rfl, rfl⟩

set_option maxRecDepth 100000 in
theorem count_any {x : Tr (List UInt8) SlB} {w : World} {p : Value} (h : Nd w x p) : Calls Try.prog 38 #[p] w fun e w' => e = .returned (.int .i64 (x.cnt : Int)) ∧ w = w' := by
  cases x with
  | nil =>
    obtain rfl : p = .pointer none := h
    go_enter Try.func38, Try.ntmps38
    go_wp2
    go_ret
    exact ⟨rfl, rfl⟩
  | node l k v r =>
    obtain ⟨g, pl, pr, rfl, hb, hl, hr⟩ := nd_node h
    have hc := hb.cells.2.2.2.2
    show Calls _ _ _ _ fun e w' => e = .returned (.int .i64 ((l.cnt + r.cnt + 1 : Nat) : Int)) ∧ w = w'
    generalize l.cnt + r.cnt + 1 = n at *
    clear h hb hl hr
    go_enter Try.func38, Try.ntmps38
    go_wp2
    go_ret
    exact ⟨rfl, rfl⟩

/-- The behaviour of what answers a tree, new since w, whose list is L. -/
def Tree (w w' : World) (e : Ending) (x : Tr (List UInt8) SlB) : Prop := ∃ g, e = .returned (.pointer (some ⟨g, 0, none⟩)) ∧ Nd w' x (.pointer (some ⟨g, 0, none⟩)) ∧ Turn (fun _ => False) w w'

set_option maxRecDepth 100000 in
set_option maxHeartbeats 1000000 in
theorem over_any {l r : Tr (List UInt8) SlB} {w : World} {g : Nat} {k : (List UInt8)} {v : SlB} {ql qr pl pr : Value} {n : Nat} (h : One w g k v ql qr n) (hl : Nd w l pl) (hr : Nd w r pr) (hs : l.cnt + r.cnt ≤ 1000000000) :
    Calls Try.prog 48 #[.pointer (some ⟨g, 0, none⟩), pl, pr] w fun e w' => Tree w w' e (.node l k v r) := by
  have HL := Lib.hid hl
  have HR := Lib.hid hr
  obtain ⟨hc0, hc1, -, -, -⟩ := (h.later (Turn.refl _ w).drew).cells
  obtain ⟨pl, rfl⟩ := hl.shape
  obtain ⟨pr, rfl⟩ := hr.shape
  have hw1 : IntKind.i64.wrap ((l.cnt : Int) + (r.cnt : Int)) = (l.cnt : Int) + (r.cnt : Int) := IntWalk.i64_in _ (by omega)
  have hw2 : IntKind.i64.wrap ((l.cnt : Int) + (r.cnt : Int) + 1) = (l.cnt : Int) + (r.cnt : Int) + 1 := IntWalk.i64_in _ (by omega)
  clear hl hr
  go_enter Try.func48, Try.ntmps48
  go_wp2_with fail
  have HO := Lib.hid h; clear h
  have hc0' := hc0; have hc1' := hc1
  go_region_held3 (fun W => W.cell? ⟨g, 0, none⟩ = some (.string ⟨k.toArray⟩) ∧ W.cell? ⟨g, 1, none⟩ = some (.slice v.A v.n v.c)) (first | exact ⟨hc0, hc1⟩ | exact ⟨((HO.out.later (Turn.refl _ w).drew).later ((Turn.refl _ _).alloc _)).cells.1, ((HO.out.later (Turn.refl _ w).drew).later ((Turn.refl _ _).alloc _)).cells.2.1⟩)
    (first
      | (go_at_call 38; with_reducible refine (count_any (p := .pointer pl) (HL.out.later (Turn.refl _ w).drew)).mono ?_; rintro e w' ⟨rfl, rfl⟩)
      | (go_at_call 38; with_reducible refine (count_any (p := .pointer pr) (HR.out.later (Turn.refl _ w).drew)).mono ?_; rintro e w' ⟨rfl, rfl⟩)
      | fail)
  all_goals go_wp2
  all_goals go_ret
  all_goals exact ⟨w.heap.size, rfl, ⟨w.heap.size, .pointer pl, .pointer pr, rfl, by have := Box.new w.drew 79 #[(.string ⟨k.toArray⟩), (.slice v.A v.n v.c), .pointer pl, .pointer pr, .int .i64 ((l.cnt : Int) + (r.cnt : Int) + 1)]; exact this, HL.out.later ((Turn.refl _ w).drew.alloc _), HR.out.later ((Turn.refl _ w).drew.alloc _)⟩, (Turn.refl _ w).drew.alloc _⟩

end Go.Proofs.Ytamcgoamkakpkaa.omb

/-
  A tree that is turned where one side is too heavy (keys string, values []byte).
-/
namespace Go.Proofs.Ytamcgoamkakpkaa.omb
open Go.RowKit

/-- A tree with the same list. -/
def Same' (w w' : World) (e : Ending) (x : Tr (List UInt8) SlB) : Prop := ∃ y : Tr (List UInt8) SlB, y.flat = x.flat ∧ Tree w w' e y
theorem same_of {w w0 w' : World} {e : Ending} {x y : Tr (List UInt8) SlB} (h : Tree w0 w' e y) (ht : Turn (fun _ => False) w w0) (hf : y.flat = x.flat) : Same' w w' e x := by
  obtain ⟨g, h1, h2, h3⟩ := h
  exact ⟨y, hf, g, h1, h2, ht.trans h3 (fun _ _ f => f)⟩
theorem keeps {w : World} {x : Tr (List UInt8) SlB} {p : Value} (h : Nd w x p) : Hid (∀ W, Turn (fun _ => False) w W → Nd W x p) := fun _ ht => h.later ht
theorem keep1 {w : World} {g : Nat} {k : (List UInt8)} {v : SlB} {pl pr : Value} {n : Nat} (h : One w g k v pl pr n) : Hid (∀ W, Turn (fun _ => False) w W → One W g k v pl pr n) := fun _ ht => h.later ht
theorem flat_node (l : Tr (List UInt8) SlB) (k : (List UInt8)) (v : SlB) (r : Tr (List UInt8) SlB) : (Tr.node l k v r).flat = l.flat ++ (k, v) :: r.flat := rfl
theorem cnt_node (l : Tr (List UInt8) SlB) (k : (List UInt8)) (v : SlB) (r : Tr (List UInt8) SlB) : (Tr.node l k v r).cnt = l.cnt + r.cnt + 1 := rfl

set_option maxRecDepth 100000 in
set_option maxHeartbeats 2000000 in
theorem turnLeft_any {l a b : Tr (List UInt8) SlB} {k k2 : (List UInt8)} {v v2 : SlB} {w : World} {p : Value} (h : Nd w (.node l k v (.node a k2 v2 b)) p) (hs : l.cnt + (a.cnt + b.cnt) ≤ 1000000) :
    Calls Try.prog 51 #[p] w fun e w' => Same' w w' e (.node l k v (.node a k2 v2 b)) := by
  obtain ⟨g, pl, pr, rfl, hg, hl, hr⟩ := nd_node h
  obtain ⟨u, pa, pb, rfl, hu, ha, hb⟩ := nd_node hr
  have HG := keep1 hg; have HU := keep1 hu; have HL := keeps hl; have HA := keeps ha; have HB := keeps hb
  obtain ⟨pl, rfl⟩ := hl.shape
  obtain ⟨pa, rfl⟩ := ha.shape
  obtain ⟨pb, rfl⟩ := hb.shape
  obtain ⟨-, -, c2, c3, -⟩ := hg.cells
  obtain ⟨-, -, d2, d3, -⟩ := hu.cells
  have HCA : Hid (∀ W, Turn (fun _ => False) w W → Calls Try.prog 38 #[.pointer pa] W fun e w' => e = .returned (.int .i64 (a.cnt : Int)) ∧ W = w') := fun W ht => count_any (HA.out W ht)
  have HCB : Hid (∀ W, Turn (fun _ => False) w W → Calls Try.prog 38 #[.pointer pb] W fun e w' => e = .returned (.int .i64 (b.cnt : Int)) ∧ W = w') := fun W ht => count_any (HB.out W ht)
  clear h hg hl hr hu ha hb
  by_cases hc : a.cnt + 1 < 2 * (b.cnt + 1)
  · have hc' : (a.cnt : Int) + 1 < 2 * ((b.cnt : Int) + 1) := by omega
    go_enter Try.func51, Try.ntmps51
    go_wp2_with fail
    go_quiet (first
      | (go_at_call 38; with_reducible exact quiet_left (HCA.out _ ((Turn.refl _ w).drewN _)))
      | (go_at_call 38; with_reducible exact quiet_left (HCB.out _ ((Turn.refl _ w).drewN _))))
    go_wp2_with fail
    have HK : Hid (∀ W, Turn (fun _ => False) w W → (W.cell? ⟨g, 2, none⟩ = some (.pointer pl) ∧ W.cell? ⟨u, 2, none⟩ = some (.pointer pa) ∧ W.cell? ⟨u, 3, none⟩ = some (.pointer pb)) ∧ Turn (fun _ => False) w W) :=
      fun W ht => ⟨⟨(HG.out W ht).cells.2.2.1, (HU.out W ht).cells.2.2.1, (HU.out W ht).cells.2.2.2.1⟩, ht⟩
    go_region_held3 (fun W => (W.cell? ⟨g, 2, none⟩ = some (.pointer pl) ∧ W.cell? ⟨u, 2, none⟩ = some (.pointer pa) ∧ W.cell? ⟨u, 3, none⟩ = some (.pointer pb)) ∧ Turn (fun _ => False) w W)
      ((refine HK.out _ ?_; repeat (first | with_reducible exact Turn.refl _ w | with_reducible exact HT2.out | with_reducible exact HT.out | with_reducible refine Turn.drew ?_ | with_reducible refine Turn.drewN ?_ _)))
      (first
        | (go_at_call 48; (with_reducible refine (over_any (g := g) (pl := .pointer pl) (pr := .pointer pa) (HG.out _ ?_) (HL.out _ ?_) (HA.out _ ?_) ?_).mono ?_); exact (Turn.refl _ w).drewN _; exact (Turn.refl _ w).drewN _; exact (Turn.refl _ w).drewN _; (focus (omega)); rintro e w2 ⟨q, rfl, hn, ht⟩; have HT := Lib.hid (((Turn.refl _ w).drewN _).trans ht (fun _ _ f => f)); have HN := Lib.hid hn; clear hn ht)
        | (go_at_call 48; (with_reducible refine (over_any (g := u) (pr := .pointer pb) (HU.out _ ?_) HN.out (HB.out _ ?_) ?_).mono ?_); exact HT.out; exact HT.out; (focus (rw [cnt_node]; omega)); rintro e w3 ⟨q2, rfl, hn2, ht2⟩; have HT2 := Lib.hid (HT.out.trans ht2 (fun _ _ f => f)); have HN2 := Lib.hid hn2; clear hn2 ht2)
        | fail)
    all_goals go_wp2
    all_goals go_ret
    all_goals exact ⟨_, by simp [flat_node], q2, rfl, HN2.out, HT2.out⟩
  · have hc' : ¬ (a.cnt : Int) + 1 < 2 * ((b.cnt : Int) + 1) := by omega
    cases a with
    | nil => exact absurd (show (0 : Nat) + 1 < 2 * (b.cnt + 1) by omega) hc
    | node c k3 v3 d =>
      obtain ⟨t, pc, pd, hpa, ht, hc2, hd2⟩ := nd_node (HA.out w (Turn.refl _ w))
      cases hpa
      have HT3 := keep1 ht; have HC := keeps hc2; have HD := keeps hd2
      obtain ⟨pc, rfl⟩ := hc2.shape
      obtain ⟨pd, rfl⟩ := hd2.shape
      obtain ⟨m, hm⟩ : ∃ m, m = (Tr.node c k3 v3 d).cnt := ⟨_, rfl⟩
      rw [← hm] at hs HCA hc'
      have HM := Lib.hid (hm.trans (cnt_node c k3 v3 d))
      clear ht hc2 hd2 hc hm
      go_enter Try.func51, Try.ntmps51
      go_wp2_with fail
      go_quiet (first
        | (go_at_call 38; with_reducible exact quiet_left (HCA.out _ ((Turn.refl _ w).drewN _)))
        | (go_at_call 38; with_reducible exact quiet_left (HCB.out _ ((Turn.refl _ w).drewN _))))
      have e2 := (HU.out _ ((Turn.refl _ w).drewN nq)).cells.2.2.1
      go_wp2_with fail
      have HK : Hid (∀ W, Turn (fun _ => False) w W → (W.cell? ⟨g, 2, none⟩ = some (.pointer pl) ∧ W.cell? ⟨t, 2, none⟩ = some (.pointer pc) ∧ W.cell? ⟨t, 3, none⟩ = some (.pointer pd) ∧ W.cell? ⟨u, 3, none⟩ = some (.pointer pb)) ∧ Turn (fun _ => False) w W) :=
        fun W ht => ⟨⟨(HG.out W ht).cells.2.2.1, (HT3.out W ht).cells.2.2.1, (HT3.out W ht).cells.2.2.2.1, (HU.out W ht).cells.2.2.2.1⟩, ht⟩
      go_region_held3 (fun W => (W.cell? ⟨g, 2, none⟩ = some (.pointer pl) ∧ W.cell? ⟨t, 2, none⟩ = some (.pointer pc) ∧ W.cell? ⟨t, 3, none⟩ = some (.pointer pd) ∧ W.cell? ⟨u, 3, none⟩ = some (.pointer pb)) ∧ Turn (fun _ => False) w W)
        ((refine HK.out _ ?_; repeat (first | with_reducible exact Turn.refl _ w | with_reducible exact HTC.out | with_reducible exact HTB.out | with_reducible exact HTA.out | with_reducible refine Turn.drew ?_ | with_reducible refine Turn.drewN ?_ _)))
        (first
          | (go_at_call 48; (with_reducible refine (over_any (g := g) (pl := .pointer pl) (pr := .pointer pc) (HG.out _ ?_) (HL.out _ ?_) (HC.out _ ?_) ?_).mono ?_); exact (Turn.refl _ w).drewN _; exact (Turn.refl _ w).drewN _; exact (Turn.refl _ w).drewN _; (focus (have := HM.out; omega)); rintro e w2 ⟨q, rfl, hn, ht⟩; have HTA := Lib.hid (((Turn.refl _ w).drewN _).trans ht (fun _ _ f => f)); have HNA := Lib.hid hn; clear hn ht)
          | (go_at_call 48; (with_reducible refine (over_any (g := u) (pl := .pointer pd) (pr := .pointer pb) (HU.out _ ?_) (HD.out _ ?_) (HB.out _ ?_) ?_).mono ?_); exact HTA.out; exact HTA.out; exact HTA.out; (focus (have := HM.out; omega)); rintro e w3 ⟨q2, rfl, hn2, ht2⟩; have HTB := Lib.hid (HTA.out.trans ht2 (fun _ _ f => f)); have HNB := Lib.hid hn2; have HNA2 := Lib.hid (HNA.out.later ht2); clear hn2 ht2)
          | (go_at_call 48; (with_reducible refine (over_any (g := t) (HT3.out _ ?_) HNA2.out HNB.out ?_).mono ?_); exact HTB.out; (focus (rw [cnt_node, cnt_node]; have := HM.out; omega)); rintro e w4 ⟨q3, rfl, hn3, ht3⟩; have HTC := Lib.hid (HTB.out.trans ht3 (fun _ _ f => f)); have HNC := Lib.hid hn3; clear hn3 ht3)
          | fail)
      all_goals go_wp2
      all_goals go_ret
      all_goals exact ⟨_, by simp [flat_node], q3, rfl, HNC.out, HTC.out⟩

set_option maxRecDepth 100000 in
set_option maxHeartbeats 2000000 in
theorem turnRight_any {a b r : Tr (List UInt8) SlB} {k k2 : (List UInt8)} {v v2 : SlB} {w : World} {p : Value} (h : Nd w (.node (.node a k2 v2 b) k v r) p) (hs : (a.cnt + b.cnt) + r.cnt ≤ 1000000) :
    Calls Try.prog 52 #[p] w fun e w' => Same' w w' e (.node (.node a k2 v2 b) k v r) := by
  obtain ⟨g, pl, pr, rfl, hg, hl, hr⟩ := nd_node h
  obtain ⟨u, pa, pb, rfl, hu, ha, hb⟩ := nd_node hl
  have HG := keep1 hg; have HU := keep1 hu; have HR := keeps hr; have HA := keeps ha; have HB := keeps hb
  obtain ⟨pr, rfl⟩ := hr.shape
  obtain ⟨pa, rfl⟩ := ha.shape
  obtain ⟨pb, rfl⟩ := hb.shape
  obtain ⟨-, -, c2, c3, -⟩ := hg.cells
  obtain ⟨-, -, d2, d3, -⟩ := hu.cells
  have HCA : Hid (∀ W, Turn (fun _ => False) w W → Calls Try.prog 38 #[.pointer pa] W fun e w' => e = .returned (.int .i64 (a.cnt : Int)) ∧ W = w') := fun W ht => count_any (HA.out W ht)
  have HCB : Hid (∀ W, Turn (fun _ => False) w W → Calls Try.prog 38 #[.pointer pb] W fun e w' => e = .returned (.int .i64 (b.cnt : Int)) ∧ W = w') := fun W ht => count_any (HB.out W ht)
  clear h hg hl hr hu ha hb
  by_cases hc : b.cnt + 1 < 2 * (a.cnt + 1)
  · have hc' : (b.cnt : Int) + 1 < 2 * ((a.cnt : Int) + 1) := by omega
    go_enter Try.func52, Try.ntmps52
    go_wp2_with fail
    go_quiet (first
      | (go_at_call 38; with_reducible exact quiet_left (HCA.out _ ((Turn.refl _ w).drewN _)))
      | (go_at_call 38; with_reducible exact quiet_left (HCB.out _ ((Turn.refl _ w).drewN _))))
    go_wp2_with fail
    have HK : Hid (∀ W, Turn (fun _ => False) w W → (W.cell? ⟨u, 2, none⟩ = some (.pointer pa) ∧ W.cell? ⟨u, 3, none⟩ = some (.pointer pb) ∧ W.cell? ⟨g, 3, none⟩ = some (.pointer pr)) ∧ Turn (fun _ => False) w W) :=
      fun W ht => ⟨⟨(HU.out W ht).cells.2.2.1, (HU.out W ht).cells.2.2.2.1, (HG.out W ht).cells.2.2.2.1⟩, ht⟩
    go_region_held3 (fun W => (W.cell? ⟨u, 2, none⟩ = some (.pointer pa) ∧ W.cell? ⟨u, 3, none⟩ = some (.pointer pb) ∧ W.cell? ⟨g, 3, none⟩ = some (.pointer pr)) ∧ Turn (fun _ => False) w W)
      ((refine HK.out _ ?_; repeat (first | with_reducible exact Turn.refl _ w | with_reducible exact HT2.out | with_reducible exact HT.out | with_reducible refine Turn.drew ?_ | with_reducible refine Turn.drewN ?_ _)))
      (first
        | (go_at_call 48; (with_reducible refine (over_any (g := g) (pl := .pointer pb) (pr := .pointer pr) (HG.out _ ?_) (HB.out _ ?_) (HR.out _ ?_) ?_).mono ?_); exact (Turn.refl _ w).drewN _; exact (Turn.refl _ w).drewN _; exact (Turn.refl _ w).drewN _; (focus (omega)); rintro e w2 ⟨q, rfl, hn, ht⟩; have HT := Lib.hid (((Turn.refl _ w).drewN _).trans ht (fun _ _ f => f)); have HN := Lib.hid hn; clear hn ht)
        | (go_at_call 48; (with_reducible refine (over_any (g := u) (pl := .pointer pa) (HU.out _ ?_) (HA.out _ ?_) HN.out ?_).mono ?_); exact HT.out; exact HT.out; (focus (rw [cnt_node]; omega)); rintro e w3 ⟨q2, rfl, hn2, ht2⟩; have HT2 := Lib.hid (HT.out.trans ht2 (fun _ _ f => f)); have HN2 := Lib.hid hn2; clear hn2 ht2)
        | fail)
    all_goals go_wp2
    all_goals go_ret
    all_goals exact ⟨_, by simp [flat_node], q2, rfl, HN2.out, HT2.out⟩
  · have hc' : ¬ (b.cnt : Int) + 1 < 2 * ((a.cnt : Int) + 1) := by omega
    cases b with
    | nil => exact absurd (show (0 : Nat) + 1 < 2 * (a.cnt + 1) by omega) hc
    | node c k3 v3 d =>
      obtain ⟨t, pc, pd, hpa, ht, hc2, hd2⟩ := nd_node (HB.out w (Turn.refl _ w))
      cases hpa
      have HT3 := keep1 ht; have HC := keeps hc2; have HD := keeps hd2
      obtain ⟨pc, rfl⟩ := hc2.shape
      obtain ⟨pd, rfl⟩ := hd2.shape
      obtain ⟨m, hm⟩ : ∃ m, m = (Tr.node c k3 v3 d).cnt := ⟨_, rfl⟩
      rw [← hm] at hs HCB hc'
      have HM := Lib.hid (hm.trans (cnt_node c k3 v3 d))
      clear ht hc2 hd2 hc hm
      go_enter Try.func52, Try.ntmps52
      go_wp2_with fail
      go_quiet (first
        | (go_at_call 38; with_reducible exact quiet_left (HCA.out _ ((Turn.refl _ w).drewN _)))
        | (go_at_call 38; with_reducible exact quiet_left (HCB.out _ ((Turn.refl _ w).drewN _))))
      have e2 := (HU.out _ ((Turn.refl _ w).drewN nq)).cells.2.2.2.1
      go_wp2_with fail
      have HK : Hid (∀ W, Turn (fun _ => False) w W → (W.cell? ⟨u, 2, none⟩ = some (.pointer pa) ∧ W.cell? ⟨t, 2, none⟩ = some (.pointer pc) ∧ W.cell? ⟨t, 3, none⟩ = some (.pointer pd) ∧ W.cell? ⟨g, 3, none⟩ = some (.pointer pr)) ∧ Turn (fun _ => False) w W) :=
        fun W ht => ⟨⟨(HU.out W ht).cells.2.2.1, (HT3.out W ht).cells.2.2.1, (HT3.out W ht).cells.2.2.2.1, (HG.out W ht).cells.2.2.2.1⟩, ht⟩
      go_region_held3 (fun W => (W.cell? ⟨u, 2, none⟩ = some (.pointer pa) ∧ W.cell? ⟨t, 2, none⟩ = some (.pointer pc) ∧ W.cell? ⟨t, 3, none⟩ = some (.pointer pd) ∧ W.cell? ⟨g, 3, none⟩ = some (.pointer pr)) ∧ Turn (fun _ => False) w W)
        ((refine HK.out _ ?_; repeat (first | with_reducible exact Turn.refl _ w | with_reducible exact HTC.out | with_reducible exact HTB.out | with_reducible exact HTA.out | with_reducible refine Turn.drew ?_ | with_reducible refine Turn.drewN ?_ _)))
        (first
          | (go_at_call 48; (with_reducible refine (over_any (g := u) (pl := .pointer pa) (pr := .pointer pc) (HU.out _ ?_) (HA.out _ ?_) (HC.out _ ?_) ?_).mono ?_); exact (Turn.refl _ w).drewN _; exact (Turn.refl _ w).drewN _; exact (Turn.refl _ w).drewN _; (focus (have := HM.out; omega)); rintro e w2 ⟨q, rfl, hn, ht⟩; have HTA := Lib.hid (((Turn.refl _ w).drewN _).trans ht (fun _ _ f => f)); have HNA := Lib.hid hn; clear hn ht)
          | (go_at_call 48; (with_reducible refine (over_any (g := g) (pl := .pointer pd) (pr := .pointer pr) (HG.out _ ?_) (HD.out _ ?_) (HR.out _ ?_) ?_).mono ?_); exact HTA.out; exact HTA.out; exact HTA.out; (focus (have := HM.out; omega)); rintro e w3 ⟨q2, rfl, hn2, ht2⟩; have HTB := Lib.hid (HTA.out.trans ht2 (fun _ _ f => f)); have HNB := Lib.hid hn2; have HNA2 := Lib.hid (HNA.out.later ht2); clear hn2 ht2)
          | (go_at_call 48; (with_reducible refine (over_any (g := t) (HT3.out _ ?_) HNA2.out HNB.out ?_).mono ?_); exact HTB.out; (focus (rw [cnt_node, cnt_node]; have := HM.out; omega)); rintro e w4 ⟨q3, rfl, hn3, ht3⟩; have HTC := Lib.hid (HTB.out.trans ht3 (fun _ _ f => f)); have HNC := Lib.hid hn3; clear hn3 ht3)
          | fail)
      all_goals go_wp2
      all_goals go_ret
      all_goals exact ⟨_, by simp [flat_node], q3, rfl, HNC.out, HTC.out⟩

set_option maxRecDepth 100000 in
set_option maxHeartbeats 2000000 in
theorem even_any {l r : Tr (List UInt8) SlB} {k : (List UInt8)} {v : SlB} {w : World} {p : Value} (h : Nd w (.node l k v r) p) (hs : l.cnt + r.cnt ≤ 1000000) :
    Calls Try.prog 49 #[p] w fun e w' => Same' w w' e (.node l k v r) := by
  have HN := keeps h
  obtain ⟨g, pl, pr, rfl, hg, hl, hr⟩ := nd_node h
  have HG := keep1 hg; have HL := keeps hl; have HR := keeps hr
  obtain ⟨pl, rfl⟩ := hl.shape
  obtain ⟨pr, rfl⟩ := hr.shape
  obtain ⟨-, -, c2, c3, -⟩ := hg.cells
  have HCL : Hid (∀ W, Turn (fun _ => False) w W → Calls Try.prog 38 #[.pointer pl] W fun e w' => e = .returned (.int .i64 (l.cnt : Int)) ∧ W = w') := fun W ht => count_any (HL.out W ht)
  have HCR : Hid (∀ W, Turn (fun _ => False) w W → Calls Try.prog 38 #[.pointer pr] W fun e w' => e = .returned (.int .i64 (r.cnt : Int)) ∧ W = w') := fun W ht => count_any (HR.out W ht)
  clear h hg hl hr
  by_cases h1 : 3 * (l.cnt + 1) < r.cnt + 1
  · cases r with
    | nil => exact absurd h1 (by show ¬ 3 * (l.cnt + 1) < 0 + 1; omega)
    | node a k2 v2 b =>
      have HT : Hid (∀ W, Turn (fun _ => False) w W → Calls Try.prog 51 #[.pointer (some ⟨g, 0, none⟩)] W fun e w' => Same' W w' e (.node l k v (.node a k2 v2 b))) := fun W ht => turnLeft_any (HN.out W ht) (by rw [cnt_node] at hs; omega)
      generalize (Tr.node a k2 v2 b) = r at *
      have h1' : 3 * ((l.cnt : Int) + 1) < (r.cnt : Int) + 1 := by omega
      go_enter Try.func49, Try.ntmps49
      go_wp2_with fail
      go_quiet (first
        | (go_at_call 38; with_reducible exact quiet_left (HCL.out _ ((Turn.refl _ w).drewN _)))
        | (go_at_call 38; with_reducible exact quiet_left (HCR.out _ ((Turn.refl _ w).drewN _))))
      go_wp2_with (go_at_call 51; refine (HT.out _ ((Turn.refl _ w).drewN _)).mono ?_; rintro e w' ⟨y, hf, q, rfl, hn, ht⟩; have HF := Lib.hid hf; have HQ := Lib.hid hn; have HTT := Lib.hid ht; clear hf hn ht)
      go_ret
      exact ⟨y, HF.out, q, rfl, HQ.out, ((Turn.refl _ w).drewN _).trans HTT.out (fun _ _ f => f)⟩
  · by_cases h2 : 3 * (r.cnt + 1) < l.cnt + 1
    · cases l with
      | nil => exact absurd h2 (by show ¬ 3 * (r.cnt + 1) < 0 + 1; omega)
      | node a k2 v2 b =>
        have HT : Hid (∀ W, Turn (fun _ => False) w W → Calls Try.prog 52 #[.pointer (some ⟨g, 0, none⟩)] W fun e w' => Same' W w' e (.node (.node a k2 v2 b) k v r)) := fun W ht => turnRight_any (HN.out W ht) (by rw [cnt_node] at hs; omega)
        generalize (Tr.node a k2 v2 b) = l at *
        have h1' : ¬ 3 * ((l.cnt : Int) + 1) < (r.cnt : Int) + 1 := by omega
        have h2' : 3 * ((r.cnt : Int) + 1) < (l.cnt : Int) + 1 := by omega
        go_enter Try.func49, Try.ntmps49
        go_wp2_with fail
        go_quiet (first
          | (go_at_call 38; with_reducible exact quiet_left (HCL.out _ ((Turn.refl _ w).drewN _)))
          | (go_at_call 38; with_reducible exact quiet_left (HCR.out _ ((Turn.refl _ w).drewN _))))
        go_wp2_with (go_at_call 52; refine (HT.out _ ((Turn.refl _ w).drewN _)).mono ?_; rintro e w' ⟨y, hf, q, rfl, hn, ht⟩; have HF := Lib.hid hf; have HQ := Lib.hid hn; have HTT := Lib.hid ht; clear hf hn ht)
        go_ret
        exact ⟨y, HF.out, q, rfl, HQ.out, ((Turn.refl _ w).drewN _).trans HTT.out (fun _ _ f => f)⟩
    · have h1' : ¬ 3 * ((l.cnt : Int) + 1) < (r.cnt : Int) + 1 := by omega
      have h2' : ¬ 3 * ((r.cnt : Int) + 1) < (l.cnt : Int) + 1 := by omega
      go_enter Try.func49, Try.ntmps49
      go_wp2_with fail
      go_quiet (first
        | (go_at_call 38; with_reducible exact quiet_left (HCL.out _ ((Turn.refl _ w).drewN _)))
        | (go_at_call 38; with_reducible exact quiet_left (HCR.out _ ((Turn.refl _ w).drewN _))))
      go_wp2_with fail
      go_ret
      exact ⟨_, rfl, g, rfl, HN.out _ ((Turn.refl _ w).drewN _), (Turn.refl _ w).drewN _⟩

end Go.Proofs.Ytamcgoamkakpkaa.omb

/-
  A tree in which a key has a value (keys string, values []byte).
-/
namespace Go.Proofs.Ytamcgoamkakpkaa.omb
open Go.RowKit

/-- A tree whose list is L. -/
def Has (w w' : World) (e : Ending) (L : List ((List UInt8) × SlB)) : Prop := ∃ y : Tr (List UInt8) SlB, y.flat = L ∧ Tree w w' e y
theorem same_has {w w' : World} {e : Ending} {x : Tr (List UInt8) SlB} (h : Same' w w' e x) : Has w w' e x.flat := h
theorem cnt_of {y : Tr (List UInt8) SlB} {L : List ((List UInt8) × SlB)} (h : y.flat = L) : y.cnt = L.length := by rw [← h, Tr.cnt_flat]
theorem cnt_put {x y : Tr (List UInt8) SlB} {k : (List UInt8)} {v : SlB} (h : y.flat = putK Op.bytesLess x.flat k v) : y.cnt ≤ x.cnt + 1 := by
  rw [cnt_of h, put_size, Tr.cnt_flat]
  split <;> omega
theorem cnt_drop {x y : Tr (List UInt8) SlB} {k : (List UInt8)} (h : y.flat = dropK Op.bytesLess x.flat k) : y.cnt ≤ x.cnt := by
  have := drop_size (lt := Op.bytesLess) x.flat k
  rw [cnt_of h, ← Tr.cnt_flat x]
  omega
theorem keep_call {w : World} {x : Tr (List UInt8) SlB} {p : Value} (h : Nd w x p) : ∃ A, p = .pointer A := h.shape

set_option maxRecDepth 100000 in
set_option maxHeartbeats 4000000 in
theorem with_any (k : (List UInt8)) (v : SlB) (x : Tr (List UInt8) SlB) : ∀ (w : World) (p : Value), Nd w x p → x.cnt ≤ 999999 → Up Op.bytesLess x.flat →
    Calls Try.prog 40 #[p, (.string ⟨k.toArray⟩), (.slice v.A v.n v.c)] w fun e w' => Has w w' e (putK Op.bytesLess x.flat k v) := by
  induction x with
  | nil =>
    intro w p h _ _
    obtain rfl : p = .pointer none := h
    go_enter Try.func40, Try.ntmps40
    go_wp2
    go_ret
    exact ⟨.node .nil k v .nil, rfl, w.heap.size, rfl, ⟨w.heap.size, .pointer none, .pointer none, rfl, Box.new w 79 #[(.string ⟨k.toArray⟩), (.slice v.A v.n v.c), .pointer none, .pointer none, .int .i64 1], rfl, rfl⟩, (Turn.refl _ w).alloc _⟩
  | node l k0 v0 r ihl ihr =>
    intro w p h hs hu
    obtain ⟨g, pl, pr, rfl, hg, hl, hr⟩ := nd_node h
    have HG := keep1 hg; have HL := keeps hl; have HR := keeps hr
    obtain ⟨pl, rfl⟩ := hl.shape
    obtain ⟨pr, rfl⟩ := hr.shape
    obtain ⟨c0, -, -, -, -⟩ := hg.cells
    obtain ⟨hu1, hu2, hu3⟩ := up_parts hu
    rw [cnt_node] at hs
    clear h hg hl hr hu
    have HK : Hid (∀ W, Turn (fun _ => False) w W → (W.cell? ⟨g, 2, none⟩ = some (.pointer pl) ∧ W.cell? ⟨g, 3, none⟩ = some (.pointer pr)) ∧ Turn (fun _ => False) w W) :=
      fun W ht => ⟨⟨(HG.out W ht).cells.2.2.1, (HG.out W ht).cells.2.2.2.1⟩, ht⟩
    by_cases h1 : Op.bytesLess k k0 = true
    · have hp : putK Op.bytesLess (Tr.node l k0 v0 r).flat k v = putK Op.bytesLess l.flat k v ++ (k0, v0) :: r.flat := put_left rises_bytes (p := (k0, v0)) h1 v r.flat l.flat
      rw [hp]
      have HC : Hid (∀ W, Calls Try.prog 47 #[(.string ⟨k.toArray⟩), (.string ⟨k0.toArray⟩)] W fun e w' => e = .returned (.int .i64 (-1)) ∧ W = w') := fun W => by have := compare_any k k0 W; rw [ord_lt h1] at this; exact this
      have HI : Hid (∀ W, Turn (fun _ => False) w W → Calls Try.prog 40 #[.pointer pl, (.string ⟨k.toArray⟩), (.slice v.A v.n v.c)] W fun e w' => Has W w' e (putK Op.bytesLess l.flat k v)) := fun W ht => ihl W _ (HL.out W ht) (by omega) hu1
      clear ihl ihr hu1 hu2 hu3 hp h1
      go_enter Try.func40, Try.ntmps40
      go_wp2_with (go_at_call 47; refine (HC.out _).mono ?_; rintro e w' ⟨rfl, rfl⟩)
      go_region_held3 (fun W => (W.cell? ⟨g, 2, none⟩ = some (.pointer pl) ∧ W.cell? ⟨g, 3, none⟩ = some (.pointer pr)) ∧ Turn (fun _ => False) w W)
        ((refine HK.out _ ?_; repeat (first | with_reducible exact Turn.refl _ w | with_reducible exact HTC.out | with_reducible exact HTB.out | with_reducible exact HTA.out | with_reducible refine Turn.drew ?_ | with_reducible refine Turn.drewN ?_ _)))
        (first
          | (go_at_call 40; (with_reducible refine (HI.out _ ?_).mono ?_); exact (Turn.refl _ w).drew; rintro e w2 ⟨y, hy, q, rfl, hn, ht⟩; have HTA := Lib.hid ((Turn.refl _ w).drew.trans ht (fun _ _ f => f)); have HNA := Lib.hid hn; have HY := Lib.hid hy; clear hn ht hy)
          | (go_at_call 48; (with_reducible refine (over_any (g := g) (pr := .pointer pr) (HG.out _ ?_) HNA.out (HR.out _ ?_) ?_).mono ?_); exact HTA.out; exact HTA.out; (focus (have := cnt_put HY.out; omega)); rintro e w3 ⟨q2, rfl, hn2, ht2⟩; have HTB := Lib.hid (HTA.out.trans ht2 (fun _ _ f => f)); have HNB := Lib.hid hn2; clear hn2 ht2)
          | (go_at_call 49; (with_reducible refine (even_any HNB.out ?_).mono ?_); (focus (have := cnt_put HY.out; omega)); rintro e w4 ⟨z, hz, q3, rfl, hn3, ht3⟩; have HTC := Lib.hid (HTB.out.trans ht3 (fun _ _ f => f)); have HNC := Lib.hid hn3; have HZ := Lib.hid hz; clear hn3 ht3 hz)
          | fail)
      all_goals go_wp2
      all_goals go_ret
      all_goals exact ⟨z, by rw [HZ.out, flat_node, HY.out], q3, rfl, HNC.out, HTC.out⟩
    · by_cases h2 : Op.bytesLess k0 k = true
      · have hp : putK Op.bytesLess (Tr.node l k0 v0 r).flat k v = l.flat ++ (k0, v0) :: putK Op.bytesLess r.flat k v := put_right (p := (k0, v0)) h2 v r.flat l.flat (hu3.tr rises_bytes h2)
        rw [hp]
        have HC : Hid (∀ W, Calls Try.prog 47 #[(.string ⟨k.toArray⟩), (.string ⟨k0.toArray⟩)] W fun e w' => e = .returned (.int .i64 1) ∧ W = w') := fun W => by have := compare_any k k0 W; rw [ord_gt h2] at this; exact this
        have HI : Hid (∀ W, Turn (fun _ => False) w W → Calls Try.prog 40 #[.pointer pr, (.string ⟨k.toArray⟩), (.slice v.A v.n v.c)] W fun e w' => Has W w' e (putK Op.bytesLess r.flat k v)) := fun W ht => ihr W _ (HR.out W ht) (by omega) hu2
        clear ihl ihr hu1 hu2 hu3 hp h1 h2
        go_enter Try.func40, Try.ntmps40
        go_wp2_with (go_at_call 47; refine (HC.out _).mono ?_; rintro e w' ⟨rfl, rfl⟩)
        go_region_held3 (fun W => (W.cell? ⟨g, 2, none⟩ = some (.pointer pl) ∧ W.cell? ⟨g, 3, none⟩ = some (.pointer pr)) ∧ Turn (fun _ => False) w W)
          ((refine HK.out _ ?_; repeat (first | with_reducible exact Turn.refl _ w | with_reducible exact HTC.out | with_reducible exact HTB.out | with_reducible exact HTA.out | with_reducible refine Turn.drew ?_ | with_reducible refine Turn.drewN ?_ _)))
          (first
            | (go_at_call 40; (with_reducible refine (HI.out _ ?_).mono ?_); exact (Turn.refl _ w).drew; rintro e w2 ⟨y, hy, q, rfl, hn, ht⟩; have HTA := Lib.hid ((Turn.refl _ w).drew.trans ht (fun _ _ f => f)); have HNA := Lib.hid hn; have HY := Lib.hid hy; clear hn ht hy)
            | (go_at_call 48; (with_reducible refine (over_any (g := g) (pl := .pointer pl) (HG.out _ ?_) (HL.out _ ?_) HNA.out ?_).mono ?_); exact HTA.out; exact HTA.out; (focus (have := cnt_put HY.out; omega)); rintro e w3 ⟨q2, rfl, hn2, ht2⟩; have HTB := Lib.hid (HTA.out.trans ht2 (fun _ _ f => f)); have HNB := Lib.hid hn2; clear hn2 ht2)
            | (go_at_call 49; (with_reducible refine (even_any HNB.out ?_).mono ?_); (focus (have := cnt_put HY.out; omega)); rintro e w4 ⟨z, hz, q3, rfl, hn3, ht3⟩; have HTC := Lib.hid (HTB.out.trans ht3 (fun _ _ f => f)); have HNC := Lib.hid hn3; have HZ := Lib.hid hz; clear hn3 ht3 hz)
            | fail)
        all_goals go_wp2
        all_goals go_ret
        all_goals exact ⟨z, by rw [HZ.out, flat_node, HY.out], q3, rfl, HNC.out, HTC.out⟩
      · have he : k0 = k := by
          by_cases e : k0 = k
          · exact e
          · exact absurd (rises_bytes.tot _ _ e (by simpa using h2)) h1
        subst he
        have hp : putK Op.bytesLess (Tr.node l k0 v0 r).flat k0 v = l.flat ++ (k0, v) :: r.flat := put_same rises_bytes (p := (k0, v0)) v r.flat l.flat hu3
        rw [hp]
        have HC : Hid (∀ W, Calls Try.prog 47 #[(.string ⟨k0.toArray⟩), (.string ⟨k0.toArray⟩)] W fun e w' => e = .returned (.int .i64 0) ∧ W = w') := fun W => by have := compare_any k0 k0 W; rw [ord_eq] at this; exact this
        clear ihl ihr hu1 hu2 hu3 hp h1 h2
        have HSZ : Hid (∀ W, Turn (fun _ => False) w W → W.cell? ⟨g, 4, none⟩ = some (.int .i64 ((l.cnt + r.cnt + 1 : Nat) : Int))) := fun W ht => (HG.out W ht).cells.2.2.2.2
        obtain ⟨m, hm⟩ : ∃ m, m = l.cnt + r.cnt + 1 := ⟨_, rfl⟩
        rw [← hm] at HSZ
        have HM := Lib.hid hm; clear hm
        have c2 := (HK.out _ (Turn.refl _ w).drew).1.1
        have c3 := (HK.out _ (Turn.refl _ w).drew).1.2
        have c4 := HSZ.out _ (Turn.refl _ w).drew
        go_enter Try.func40, Try.ntmps40
        go_wp2_with (go_at_call 47; refine (HC.out _).mono ?_; rintro e w' ⟨rfl, rfl⟩)
        go_region
        all_goals go_wp2
        all_goals go_ret
        all_goals exact ⟨.node l k0 v r, rfl, w.heap.size, rfl, ⟨w.heap.size, .pointer pl, .pointer pr, rfl, by rw [← HM.out]; exact Box.new w.drew 79 #[(.string ⟨k0.toArray⟩), (.slice v.A v.n v.c), .pointer pl, .pointer pr, .int .i64 (m : Int)], HL.out _ ((Turn.refl _ w).drew.alloc _), HR.out _ ((Turn.refl _ w).drew.alloc _)⟩, (Turn.refl _ w).drew.alloc _⟩

end Go.Proofs.Ytamcgoamkakpkaa.omb

/-
  A tree's least key; a tree in which a key has no value (keys string, values []byte).
-/
namespace Go.Proofs.Ytamcgoamkakpkaa.omb
open Go.RowKit

/-- A tree, perhaps empty, whose list is L. -/
def Has0 (w w' : World) (e : Ending) (L : List ((List UInt8) × SlB)) : Prop := ∃ (y : Tr (List UInt8) SlB) (A : Option Addr), y.flat = L ∧ e = .returned (.pointer A) ∧ Nd w' y (.pointer A) ∧ Turn (fun _ => False) w w'
/-- How many nodes a tree has, as its top says. -/
def szAt (w : World) : Value → Nat
  | .pointer (some a) => match w.cell? ⟨a.block, 4, none⟩ with
    | some (.int _ n) => n.toNat
    | _ => 0
  | _ => 0
theorem sz_is {w : World} {x : Tr (List UInt8) SlB} {p : Value} (h : Nd w x p) : szAt w p = x.cnt := by
  cases x with
  | nil => obtain rfl : p = .pointer none := h; rfl
  | node l k v r =>
    obtain ⟨g, pl, pr, rfl, hg, _, _⟩ := nd_node h
    unfold szAt
    dsimp only
    rw [hg.cells.2.2.2.2]
    rfl

/-- A node with the least key of a tree. -/
def Least (w : World) (x : Tr (List UInt8) SlB) (p : Value) : Prop := ∃ g k v pl pr n rest, p = .pointer (some ⟨g, 0, none⟩) ∧ One w g k v pl pr n ∧ x.flat = (k, v) :: rest
structure LeastRel (w : World) (x : Tr (List UInt8) SlB) (p : Value) : Prop where
  out : ∃ (l r : Tr (List UInt8) SlB) (k : (List UInt8)) (v : SlB) (tl : List ((List UInt8) × SlB)), Nd w (.node l k v r) p ∧ x.flat = (Tr.node l k v r).flat ++ tl

set_option maxRecDepth 100000 in
set_option maxHeartbeats 1000000 in
theorem least_any {l r : Tr (List UInt8) SlB} {k : (List UInt8)} {v : SlB} {w : World} {p : Value} (h : Nd w (.node l k v r) p) :
    Calls Try.prog 50 #[p] w fun e w' => (∃ u, e = .returned u ∧ Least w (.node l k v r) u) ∧ w = w' := by
  have HR : Hid (LeastRel w (.node l k v r) p) := ⟨l, r, k, v, [], h, by rw [List.append_nil]⟩
  clear h
  generalize (Tr.node l k v r) = x at *
  go_enter Try.func50, Try.ntmps50
  go_wp2
  go_loop [0] (fun x0 => LeastRel w x x0) (fun x0 => szAt w x0)
  case atStart => exact HR.out
  case round =>
    obtain ⟨l, r, k, v, tl, hn, hf⟩ := hrel.out
    have HSZ := Lib.hid (sz_is hn)
    obtain ⟨g, pl, pr, rfl, hg, hl, hr⟩ := nd_node hn
    have hc2 := hg.cells.2.2.1
    have HG := Lib.hid hg; have HF := Lib.hid hf; clear hg hf hn hrel HR
    cases l with
    | nil =>
      obtain rfl : pl = .pointer none := hl
      clear hr
      go_wp2
      go_ret
      exact ⟨⟨_, rfl, g, k, v, _, _, _, _, rfl, HG.out, HF.out⟩, rfl⟩
    | node a k2 v2 b =>
      have HSL := Lib.hid (sz_is hl)
      have HL := Lib.hid hl
      obtain ⟨u, pa, pb, rfl, -, -, -⟩ := nd_node hl
      clear hl hr
      go_wp2
      go_round
      case rel => exact ⟨a, b, k2, v2, _, HL.out, by rw [HF.out, flat_node, List.append_assoc]⟩
      case measure => have h1 := HSZ.out; have h2 := HSL.out; rw [cnt_node] at h1; show szAt w _ < szAt w _; rw [h1, h2]; omega

set_option maxRecDepth 100000 in
set_option maxHeartbeats 4000000 in
theorem without_any (x : Tr (List UInt8) SlB) : ∀ (k : (List UInt8)) (w : World) (p : Value), Nd w x p → x.cnt ≤ 999999 → Up Op.bytesLess x.flat →
    Calls Try.prog 41 #[p, (.string ⟨k.toArray⟩)] w fun e w' => Has0 w w' e (dropK Op.bytesLess x.flat k) := by
  induction x with
  | nil =>
    intro k w p h _ _
    obtain rfl : p = .pointer none := h
    go_enter Try.func41, Try.ntmps41
    go_wp2
    go_ret
    exact ⟨.nil, none, rfl, rfl, rfl, Turn.refl _ w⟩
  | node l k0 v0 r ihl ihr =>
    intro k w p h hs hu
    obtain ⟨g, pl, pr, rfl, hg, hl, hr⟩ := nd_node h
    have HG := keep1 hg; have HL := keeps hl; have HR := keeps hr
    obtain ⟨pl, rfl⟩ := hl.shape
    obtain ⟨pr, rfl⟩ := hr.shape
    obtain ⟨c0, -, c2, c3, -⟩ := hg.cells
    obtain ⟨hu1, hu2, hu3⟩ := up_parts hu
    rw [cnt_node] at hs
    clear h hg hu
    have HK : Hid (∀ W, Turn (fun _ => False) w W → (W.cell? ⟨g, 2, none⟩ = some (.pointer pl) ∧ W.cell? ⟨g, 3, none⟩ = some (.pointer pr)) ∧ Turn (fun _ => False) w W) :=
      fun W ht => ⟨⟨(HG.out W ht).cells.2.2.1, (HG.out W ht).cells.2.2.2.1⟩, ht⟩
    by_cases h1 : Op.bytesLess k k0 = true
    · have hp : dropK Op.bytesLess (Tr.node l k0 v0 r).flat k = dropK Op.bytesLess l.flat k ++ (k0, v0) :: r.flat := drop_left rises_bytes (p := (k0, v0)) h1 r.flat l.flat
      rw [hp]
      have HC : Hid (∀ W, Calls Try.prog 47 #[(.string ⟨k.toArray⟩), (.string ⟨k0.toArray⟩)] W fun e w' => e = .returned (.int .i64 (-1)) ∧ W = w') := fun W => by have := compare_any k k0 W; rw [ord_lt h1] at this; exact this
      have HI : Hid (∀ W, Turn (fun _ => False) w W → Calls Try.prog 41 #[.pointer pl, (.string ⟨k.toArray⟩)] W fun e w' => Has0 W w' e (dropK Op.bytesLess l.flat k)) := fun W ht => ihl k W _ (HL.out W ht) (by omega) hu1
      clear ihl ihr hu1 hu2 hu3 hp h1 hl hr c2 c3
      go_enter Try.func41, Try.ntmps41
      go_wp2_with (go_at_call 47; refine (HC.out _).mono ?_; rintro e w' ⟨rfl, rfl⟩)
      go_region_held3 (fun W => (W.cell? ⟨g, 2, none⟩ = some (.pointer pl) ∧ W.cell? ⟨g, 3, none⟩ = some (.pointer pr)) ∧ Turn (fun _ => False) w W)
        ((refine HK.out _ ?_; repeat (first | with_reducible exact Turn.refl _ w | with_reducible exact HTC.out | with_reducible exact HTB.out | with_reducible exact HTA.out | with_reducible refine Turn.drew ?_ | with_reducible refine Turn.drewN ?_ _)))
        (first
          | (go_at_call 41; (with_reducible refine (HI.out _ ?_).mono ?_); exact (Turn.refl _ w).drew; rintro e w2 ⟨y, q, hy, rfl, hn, ht⟩; have HTA := Lib.hid ((Turn.refl _ w).drew.trans ht (fun _ _ f => f)); have HNA := Lib.hid hn; have HY := Lib.hid hy; clear hn ht hy)
          | (go_at_call 48; (with_reducible refine (over_any (g := g) (pr := .pointer pr) (HG.out _ ?_) HNA.out (HR.out _ ?_) ?_).mono ?_); exact HTA.out; exact HTA.out; (focus (have := cnt_drop HY.out; omega)); rintro e w3 ⟨q2, rfl, hn2, ht2⟩; have HTB := Lib.hid (HTA.out.trans ht2 (fun _ _ f => f)); have HNB := Lib.hid hn2; clear hn2 ht2)
          | (go_at_call 49; (with_reducible refine (even_any HNB.out ?_).mono ?_); (focus (have := cnt_drop HY.out; omega)); rintro e w4 ⟨z, hz, q3, rfl, hn3, ht3⟩; have HTC := Lib.hid (HTB.out.trans ht3 (fun _ _ f => f)); have HNC := Lib.hid hn3; have HZ := Lib.hid hz; clear hn3 ht3 hz) | fail)
      all_goals go_wp2
      all_goals go_ret
      all_goals exact ⟨z, _, by rw [HZ.out, flat_node, HY.out], rfl, HNC.out, HTC.out⟩
    · by_cases h2 : Op.bytesLess k0 k = true
      · have hp : dropK Op.bytesLess (Tr.node l k0 v0 r).flat k = l.flat ++ (k0, v0) :: dropK Op.bytesLess r.flat k := drop_right (p := (k0, v0)) h2 r.flat l.flat (hu3.tr rises_bytes h2)
        rw [hp]
        have HC : Hid (∀ W, Calls Try.prog 47 #[(.string ⟨k.toArray⟩), (.string ⟨k0.toArray⟩)] W fun e w' => e = .returned (.int .i64 1) ∧ W = w') := fun W => by have := compare_any k k0 W; rw [ord_gt h2] at this; exact this
        have HI : Hid (∀ W, Turn (fun _ => False) w W → Calls Try.prog 41 #[.pointer pr, (.string ⟨k.toArray⟩)] W fun e w' => Has0 W w' e (dropK Op.bytesLess r.flat k)) := fun W ht => ihr k W _ (HR.out W ht) (by omega) hu2
        clear ihl ihr hu1 hu2 hu3 hp h1 h2 hl hr c2 c3
        go_enter Try.func41, Try.ntmps41
        go_wp2_with (go_at_call 47; refine (HC.out _).mono ?_; rintro e w' ⟨rfl, rfl⟩)
        go_region_held3 (fun W => (W.cell? ⟨g, 2, none⟩ = some (.pointer pl) ∧ W.cell? ⟨g, 3, none⟩ = some (.pointer pr)) ∧ Turn (fun _ => False) w W)
          ((refine HK.out _ ?_; repeat (first | with_reducible exact Turn.refl _ w | with_reducible exact HTC.out | with_reducible exact HTB.out | with_reducible exact HTA.out | with_reducible refine Turn.drew ?_ | with_reducible refine Turn.drewN ?_ _)))
          (first
          | (go_at_call 41; (with_reducible refine (HI.out _ ?_).mono ?_); exact (Turn.refl _ w).drew; rintro e w2 ⟨y, q, hy, rfl, hn, ht⟩; have HTA := Lib.hid ((Turn.refl _ w).drew.trans ht (fun _ _ f => f)); have HNA := Lib.hid hn; have HY := Lib.hid hy; clear hn ht hy)
          | (go_at_call 48; (with_reducible refine (over_any (g := g) (pl := .pointer pl) (HG.out _ ?_) (HL.out _ ?_) HNA.out ?_).mono ?_); exact HTA.out; exact HTA.out; (focus (have := cnt_drop HY.out; omega)); rintro e w3 ⟨q2, rfl, hn2, ht2⟩; have HTB := Lib.hid (HTA.out.trans ht2 (fun _ _ f => f)); have HNB := Lib.hid hn2; clear hn2 ht2)
          | (go_at_call 49; (with_reducible refine (even_any HNB.out ?_).mono ?_); (focus (have := cnt_drop HY.out; omega)); rintro e w4 ⟨z, hz, q3, rfl, hn3, ht3⟩; have HTC := Lib.hid (HTB.out.trans ht3 (fun _ _ f => f)); have HNC := Lib.hid hn3; have HZ := Lib.hid hz; clear hn3 ht3 hz) | fail)
        all_goals go_wp2
        all_goals go_ret
        all_goals exact ⟨z, _, by rw [HZ.out, flat_node, HY.out], rfl, HNC.out, HTC.out⟩
      · have he : k0 = k := by
          by_cases e : k0 = k
          · exact e
          · exact absurd (rises_bytes.tot _ _ e (by simpa using h2)) h1
        subst he
        have hp : dropK Op.bytesLess (Tr.node l k0 v0 r).flat k0 = l.flat ++ r.flat := drop_same rises_bytes (p := (k0, v0)) r.flat l.flat hu3
        rw [hp]
        have HC : Hid (∀ W, Calls Try.prog 47 #[(.string ⟨k0.toArray⟩), (.string ⟨k0.toArray⟩)] W fun e w' => e = .returned (.int .i64 0) ∧ W = w') := fun W => by have := compare_any k0 k0 W; rw [ord_eq] at this; exact this
        clear hu1 hu3 hp h1 h2 ihl
        cases l with
        | nil =>
          have e : (Value.pointer pl) = .pointer none := hl
          cases e
          clear ihr hu2 hl hr
          go_enter Try.func41, Try.ntmps41
          go_wp2_with (go_at_call 47; refine (HC.out _).mono ?_; rintro e w' ⟨rfl, rfl⟩)
          go_ret
          exact ⟨r, pr, rfl, rfl, HR.out _ (Turn.refl _ w), Turn.refl _ w⟩
        | node a k2 v2 b =>
          cases r with
          | nil =>
            have e : (Value.pointer pr) = .pointer none := hr
            cases e
            obtain ⟨u, pa, pb, hpl, -, -, -⟩ := nd_node hl
            cases hpl
            clear ihr hu2 hl hr
            go_enter Try.func41, Try.ntmps41
            go_wp2_with (go_at_call 47; refine (HC.out _).mono ?_; rintro e w' ⟨rfl, rfl⟩)
            go_ret
            exact ⟨.node a k2 v2 b, _, by show _ = _ ++ []; rw [List.append_nil], rfl, HL.out _ (Turn.refl _ w), Turn.refl _ w⟩
          | node c k3 v3 d =>
            obtain ⟨u, pa, pb, hpl, -, -, -⟩ := nd_node hl
            cases hpl
            obtain ⟨t, pc, pd, hpr, -, -, -⟩ := nd_node hr
            cases hpr
            have HLS : Hid (Calls Try.prog 50 #[.pointer (some ⟨t, 0, none⟩)] w fun e w' => (∃ u, e = .returned u ∧ Least w (.node c k3 v3 d) u) ∧ w = w') := least_any hr
            have HI : Hid (∀ k W, Turn (fun _ => False) w W → Calls Try.prog 41 #[.pointer (some ⟨t, 0, none⟩), (.string ⟨k.toArray⟩)] W fun e w' => Has0 W w' e (dropK Op.bytesLess (Tr.node c k3 v3 d).flat k)) := fun k W ht => ihr k W _ (HR.out W ht) (by omega) hu2
            clear ihr hu2 hl hr
            obtain ⟨x1, hx1⟩ : ∃ x, x = Tr.node a k2 v2 b := ⟨_, rfl⟩
            obtain ⟨x2, hx2⟩ : ∃ x, x = Tr.node c k3 v3 d := ⟨_, rfl⟩
            rw [← hx1] at HL hs
            rw [← hx2] at HR HI HLS hs
            rw [← hx1, ← hx2]
            clear hx1 hx2 HG
            go_enter Try.func41, Try.ntmps41
            go_wp2_with (first
              | (go_at_call 47; refine (HC.out _).mono ?_; rintro e w' ⟨rfl, rfl⟩)
              | (go_at_call 50; refine HLS.out.mono ?_; rintro e w' ⟨⟨_, rfl, s, ks, vs, ps, pt, n, rest, rfl, hone, hflat⟩, rfl⟩; have HS := keep1 hone; have HF := Lib.hid hflat; clear hone hflat)
              | fail)
            have HK2 : Hid (∀ W, Turn (fun _ => False) w W → (W.cell? ⟨g, 2, none⟩ = some (.pointer (some ⟨u, 0, none⟩)) ∧ W.cell? ⟨g, 3, none⟩ = some (.pointer (some ⟨t, 0, none⟩)) ∧ W.cell? ⟨s, 0, none⟩ = some (.string ⟨ks.toArray⟩)) ∧ Turn (fun _ => False) w W) :=
              fun W ht => ⟨⟨(HK.out W ht).1.1, (HK.out W ht).1.2, (HS.out W ht).cells.1⟩, ht⟩
            go_region_held3 (fun W => (W.cell? ⟨g, 2, none⟩ = some (.pointer (some ⟨u, 0, none⟩)) ∧ W.cell? ⟨g, 3, none⟩ = some (.pointer (some ⟨t, 0, none⟩)) ∧ W.cell? ⟨s, 0, none⟩ = some (.string ⟨ks.toArray⟩)) ∧ Turn (fun _ => False) w W)
              ((refine HK2.out _ ?_; repeat (first | with_reducible exact Turn.refl _ w | with_reducible exact HTC.out | with_reducible exact HTB.out | with_reducible exact HTA.out | with_reducible refine Turn.drew ?_ | with_reducible refine Turn.drewN ?_ _)))
              (first
                | (go_at_call 41; (with_reducible refine (HI.out ks _ ?_).mono ?_); exact (Turn.refl _ w).drew; rintro e w2 ⟨y, q, hy, rfl, hn, ht⟩; have HTA := Lib.hid ((Turn.refl _ w).drew.trans ht (fun _ _ f => f)); have HNA := Lib.hid hn; have HY := Lib.hid hy; clear hn ht hy)
                | (go_at_call 48; (with_reducible refine (over_any (g := s) (pl := .pointer (some ⟨u, 0, none⟩)) (HS.out _ ?_) (HL.out _ ?_) HNA.out ?_).mono ?_); exact HTA.out; exact HTA.out; (focus (have := cnt_drop HY.out; omega)); rintro e w3 ⟨q2, rfl, hn2, ht2⟩; have HTB := Lib.hid (HTA.out.trans ht2 (fun _ _ f => f)); have HNB := Lib.hid hn2; clear hn2 ht2)
                | (go_at_call 49; (with_reducible refine (even_any HNB.out ?_).mono ?_); (focus (have := cnt_drop HY.out; omega)); rintro e w4 ⟨z, hz, q3, rfl, hn3, ht3⟩; have HTC := Lib.hid (HTB.out.trans ht3 (fun _ _ f => f)); have HNC := Lib.hid hn3; have HZ := Lib.hid hz; clear hn3 ht3 hz) | fail)
            all_goals go_wp2
            all_goals go_ret
            all_goals exact ⟨z, _, by rw [HZ.out, flat_node, HY.out, HF.out, drop_first rises_bytes (ks, vs)], rfl, HNC.out, HTC.out⟩

end Go.Proofs.Ytamcgoamkakpkaa.omb
