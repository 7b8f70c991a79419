
/-
  Frames of payloads put one behind the other: where each ends; what a round of the loop that puts them finds, and leaves.
-/
import Derived.Test.YtjhgbbmghgeeoaaFm
namespace Go.Proofs.Ytjhgbbmghgeeoaa
open Go.RowKit

/-- Where each frame ends. -/
def endsOf (L : List (List UInt8)) : List Nat := (List.range L.length).map fun j => total (L.take (j + 1))
theorem endsOf_at {L : List (List UInt8)} {j : Nat} (h : j < L.length) : (endsOf L)[j]? = some (total (L.take (j + 1))) := by
  unfold endsOf
  rw [List.getElem?_map, List.getElem?_range h]
  rfl
theorem endsOf_len (L : List (List UInt8)) : (endsOf L).length = L.length := by simp [endsOf]
theorem endsOf_more {L : List (List UInt8)} {i : Nat} (h : i < L.length) : endsOf (L.take (i + 1)) = endsOf (L.take i) ++ [total (L.take (i + 1))] := by
  unfold endsOf
  have e1 : (L.take (i + 1)).length = i + 1 := by rw [List.length_take]; omega
  have e2 : (L.take i).length = i := by rw [List.length_take]; omega
  rw [e1, e2, List.range_succ, List.map_append]
  congr 1
  · refine List.map_congr_left fun j hj => ?_
    have := List.mem_range.1 hj
    rw [List.take_take, List.take_take, Nat.min_eq_left (by omega), Nat.min_eq_left (by omega)]
  · simp [List.take_take]
theorem joined_more {L : List (List UInt8)} {i : Nat} {p : List UInt8} (h : L[i]? = some p) : joined (L.take (i + 1)) = joined (L.take i) ++ fr p := by
  obtain ⟨h1, h2⟩ := List.getElem?_eq_some_iff.1 h
  unfold joined
  rw [List.take_succ_eq_append_getElem h1, h2, List.flatMap_append]
  simp
theorem total_take_le (L : List (List UInt8)) (i : Nat) : total (L.take i) ≤ total L := by
  have e : total L = total (L.take i) + total (L.drop i) := by
    unfold total
    rw [← List.sum_append, ← List.map_append, List.take_append_drop]
  omega
theorem total_small : ∀ (L : List (List UInt8)), (∀ p ∈ L, p.length ≤ 100) → total L ≤ 114 * L.length
  | [], _ => Nat.le_refl _
  | p :: L, h => by
    have h1 := total_small L (fun q hq => h q (List.mem_cons_of_mem _ hq))
    have h2 := h p (by simp)
    have h3 := enc_ten p.length
    unfold total at h1 ⊢
    rw [List.map_cons, List.sum_cons, List.length_cons]
    unfold sz at h1 ⊢
    omega

theorem By.row {w : World} {v : Value} {l : List UInt8} (h : By w v l) : Row 5 w v (l.map bv) := by
  unfold Row
  rw [List.length_map]
  exact h
theorem By.apart {w : World} {v v' : Value} {l : List UInt8} {e : TypeId} {xs : List Value} (h : By w v l) (h' : Row e w v' xs) (hne : 5 ≠ e) : v.ownBlock = none ∨ v.ownBlock ≠ v'.ownBlock := h.row.apart h' hne

structure CutRel (w : World) (b6 : Nat) (L : List (List UInt8)) (wr : World) (x5 ve : Value) (i : Nat) : Prop where
  hi : i ≤ L.length
  hs : ∀ p ∈ L.take i, p.length ≤ 100
  ha : Made w wr x5 (joined (L.take i))
  hb : Box wr b6 24 #[ve]
  h6 : w.heap.size ≤ b6
  re : Row 3 wr ve ((endsOf (L.take i)).map nv)
  fe : ∀ k, ve.ownBlock = some k → w.heap.size ≤ k

theorem cut_row {w wr w1 w2 : World} {b6 : Nat} {L : List (List UInt8)} {x5 ve : Value} {i : Nat} (h : CutRel w b6 L wr x5 ve i) (t1 : Turn (fun _ => False) wr w1) (g5 : w1.grownBy w2 x5.ownBlock) (o2 : Obj) :
    Row 3 (w2.alloc o2) ve ((endsOf (L.take i)).map nv) ∧ Box (w2.alloc o2) b6 24 #[ve] := by
  have hm1 : By w1 x5 (joined (L.take i)) := h.ha.1.turn t1 (fun _ _ f => f)
  have re1 : Row 3 w1 ve _ := h.re.later t1
  have hne5 : ve.ownBlock = none ∨ ve.ownBlock ≠ x5.ownBlock := by
    rcases hm1.apart re1 (by decide) with e | e
    · rcases h.re.form with ⟨rfl, _⟩ | ⟨g, cap, cur, rfl, _⟩
      · exact .inl rfl
      · exact .inr (by rw [e]; simp [Value.ownBlock])
    · exact .inr (fun e1 => e e1.symm)
  exact ⟨(re1.grown g5 hne5).later ((Turn.refl _ w2).alloc o2), ((h.hb.turn t1 (fun f => f)).grown g5 (fun e => (hm1.row.not_box (h.hb.turn t1 (fun f => f)) (by decide)) e.symm)).alloc o2⟩
theorem cut_box {w wr w1 w2 w3 : World} {b6 : Nat} {L : List (List UInt8)} {x5 ve : Value} {i : Nat} (h : CutRel w b6 L wr x5 ve i) (t1 : Turn (fun _ => False) wr w1) (g5 : w1.grownBy w2 x5.ownBlock) {o2 : Obj}
    (g6 : (w2.alloc o2).grownBy w3 ve.ownBlock) : Box w3 b6 24 #[ve] := by
  obtain ⟨h1, h2⟩ := cut_row h t1 g5 o2
  exact h2.grown g6 (fun e => (h1.not_box h2 (by decide)) e.symm)

theorem cut_next {w wr w1 w2 w3 : World} {b6 : Nat} {L : List (List UInt8)} {x5 ve : Value} {i : Nat} (h : CutRel w b6 L wr x5 ve i) {p : List UInt8} (hp : L[i]? = some p) (h100 : p.length ≤ 100)
    (t1 : Turn (fun _ => False) wr w1) {A5 : Option Addr} {n5 c5 : Nat} (r5 : By w2 (.slice A5 n5 c5) (joined (L.take i) ++ fr p)) (g5 : w1.grownBy w2 x5.ownBlock)
    (a5 : (Value.slice A5 n5 c5).ownBlock = x5.ownBlock ∨ (Value.slice A5 n5 c5).ownBlock = some w1.heap.size)
    {o2 : Obj} {A6 : Option Addr} {n6 c6 : Nat} (r6 : Row 3 w3 (.slice A6 n6 c6) ((endsOf (L.take i)).map nv ++ [nv (total (L.take (i + 1)))])) (g6 : (w2.alloc o2).grownBy w3 ve.ownBlock)
    (a6 : (Value.slice A6 n6 c6).ownBlock = ve.ownBlock ∨ (Value.slice A6 n6 c6).ownBlock = some (w2.heap.size + 1)) :
    CutRel w b6 L (w3.setCell ⟨b6, 0, none⟩ (.slice A6 n6 c6)) (.slice A5 n5 c5) (.slice A6 n6 c6) (i + 1) ∧ Turn (fun k => w.heap.size ≤ k) wr (w3.setCell ⟨b6, 0, none⟩ (.slice A6 n6 c6)) := by
  obtain ⟨h1, h2⟩ := List.getElem?_eq_some_iff.1 hp
  have s0 := h.ha.2.1.size
  have s1 := t1.size
  have hm1 : Made w w1 x5 (joined (L.take i)) := ⟨h.ha.1.turn t1 (fun _ _ f => f), h.ha.2.1.trans t1 (fun _ _ f => f), h.ha.2.2⟩
  have hm2 : Made w w2 (.slice A5 n5 c5) (joined (L.take i) ++ fr p) := by
    refine ⟨r5, hm1.2.1.grown g5 (fun k hk e => by have := h.ha.2.2 k e; omega), fun k hk => ?_⟩
    rcases a5 with e | e
    · exact h.ha.2.2 k (by rw [← e]; exact hk)
    · rw [e] at hk
      injection hk with hk
      omega
  have s2 := g5.size
  have re1 : Row 3 w1 ve _ := h.re.later t1
  have hne5 : ve.ownBlock = none ∨ ve.ownBlock ≠ x5.ownBlock := by
    rcases hm1.1.apart re1 (by decide) with e | e
    · rcases h.re.form with ⟨rfl, _⟩ | ⟨g, cap, cur, rfl, _⟩
      · exact .inl rfl
      · exact .inr (by rw [e]; simp [Value.ownBlock])
    · exact .inr (fun e1 => e e1.symm)
  have re2 : Row 3 (w2.alloc o2) ve _ := (re1.grown g5 hne5).later ((Turn.refl _ w2).alloc o2)
  have b62 : Box (w2.alloc o2) b6 24 #[ve] := (((h.hb.turn t1 (fun f => f)).grown g5 (fun e => (hm1.1.row.not_box (h.hb.turn t1 (fun f => f)) (by decide)) e.symm)).alloc o2)
  have b63 : Box w3 b6 24 #[ve] := b62.grown g6 (fun e => (re2.not_box b62 (by decide)) e.symm)
  have hm2a : Made w (w2.alloc o2) (.slice A5 n5 c5) (joined (L.take i) ++ fr p) := ⟨hm2.1.alloc o2, hm2.2.1.alloc o2, hm2.2.2⟩
  have hm3 : Made w w3 (.slice A5 n5 c5) (joined (L.take i) ++ fr p) := ⟨hm2a.1.grown g6 (hm2a.1.apart re2 (by decide)), hm2a.2.1.grown g6 (fun k hk e => by have := h.fe k e; omega), hm2a.2.2⟩
  have hnb5 : (Value.slice A5 n5 c5).ownBlock ≠ some b6 := hm3.1.row.not_box b63 (by decide)
  have hnb6 : (Value.slice A6 n6 c6).ownBlock ≠ some b6 := r6.not_box b63 (by decide)
  have tS : Turn (fun k => k = b6) w3 (w3.setCell ⟨b6, 0, none⟩ (.slice A6 n6 c6)) := (Turn.refl (fun k => k = b6) w3).setCell (p := ⟨b6, 0, none⟩) (fun _ => rfl) _
  have h66 := h.h6
  refine ⟨⟨h1, ?_, ?_, by simpa using b63.set 0 (.slice A6 n6 c6), h.h6, ?_, ?_⟩, ?_⟩
  · intro q hq
    rw [List.take_succ_eq_append_getElem h1, h2] at hq
    rcases List.mem_append.1 hq with hq | hq
    · exact h.hs q hq
    · obtain rfl : q = p := by simpa using hq
      exact h100
  · rw [joined_more hp]
    exact ⟨hm3.1.turn tS (fun k hk e => hnb5 (by rw [hk, e])), hm3.2.1.fresh tS (fun k e => by rw [e]; exact h66), hm3.2.2⟩
  · rw [endsOf_more h1, List.map_append]
    exact r6.turn tS (fun k hk e => hnb6 (by rw [hk, e]))
  · intro k hk
    rcases a6 with e | e
    · exact h.fe k (by rw [← e]; exact hk)
    · rw [e] at hk
      injection hk with hk
      omega
  · refine Turn.trans (T := fun k => w.heap.size ≤ k) ?_ (tS.mono (fun k _ e => by rw [e]; exact h66)) (fun _ _ s => s)
    refine Turn.grown ?_ g6 (fun k _ e => h.fe k e)
    exact (t1.none.grown g5 (fun k _ e => h.ha.2.2 k e)).alloc o2

theorem laid_len : ∀ (i : Nat) (L : List (List UInt8)), (laid i L).length = L.length
  | _, [] => rfl
  | i, p :: L => by
    show (laid _ L).length + 1 = L.length + 1
    rw [laid_len]
theorem allOf_cut {L : List (List UInt8)} (h : ∀ p ∈ L, p.length ≤ 100) (m : Nat) : allOf ((joined L).take m) = laid 0 (upto m L) :=
  allF_cut L _ 0 m (fun p hp => by have := h p hp; omega) (Nat.lt_succ_self _)
/-- One that is whole: which it is, and that it ends within m. -/
theorem cut_one {L : List (List UInt8)} {m : Nat} {pre : List (Nat × List UInt8)} {x : Nat × List UInt8} (h : pre ++ [x] <+: laid 0 (upto m L)) :
    L[pre.length]? = some x.2 ∧ pre.length < L.length ∧ total (L.take (pre.length + 1)) ≤ m := by
  obtain ⟨t, e⟩ := h
  have h1 : (laid 0 (upto m L))[pre.length]? = some x := by
    rw [← e, List.append_assoc, List.getElem?_append_right (Nat.le_refl _)]
    simp
  have h2 : (upto m L)[pre.length]? = some x.2 := by
    have h3 : ((laid 0 (upto m L)).map (·.2))[pre.length]? = some x.2 := by rw [List.getElem?_map, h1]; rfl
    rwa [laid_map] at h3
  obtain ⟨s, e2⟩ := upto_prefix m L
  have hlt := (List.getElem?_eq_some_iff.1 h2).1
  have h4 : L[pre.length]? = some x.2 := by
    rw [← e2, List.getElem?_append_left hlt]
    exact h2
  refine ⟨h4, (List.getElem?_eq_some_iff.1 h4).1, ?_⟩
  have e3 : L.take (pre.length + 1) = (upto m L).take (pre.length + 1) := by
    have h5 : L.take (pre.length + 1) = (upto m L ++ s).take (pre.length + 1) := by rw [e2]
    rw [h5, List.take_append_of_le_length (by omega)]
  rw [e3]
  exact Nat.le_trans (total_take_le _ _) (upto_total m L)
theorem cut_take (m : Nat) (L : List (List UInt8)) : L.take (upto m L).length = upto m L := by
  obtain ⟨s, e2⟩ := upto_prefix m L
  have h5 : L.take (upto m L).length = (upto m L ++ s).take (upto m L).length := by rw [e2]
  rw [h5, List.take_left]
/-- The next one ends beyond m. -/
theorem cut_beyond {m : Nat} {L : List (List UInt8)} (h : (upto m L).length < L.length) : m < total (L.take ((upto m L).length + 1)) := by
  obtain ⟨p, hp⟩ : ∃ p, L[(upto m L).length]? = some p := ⟨_, List.getElem?_eq_getElem h⟩
  have h1 := upto_more m L p hp
  obtain ⟨h2, h3⟩ := List.getElem?_eq_some_iff.1 hp
  rw [List.take_succ_eq_append_getElem h2, h3, cut_take]
  unfold total at h1 ⊢
  rw [List.map_append, List.sum_append]
  simpa using h1

end Go.Proofs.Ytjhgbbmghgeeoaa
