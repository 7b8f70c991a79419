/-
  Texts laid one behind the other: Fm Fn R1m R1g R1i R1j Ey R1k.
-/
import Derived.Test.YtgchfckmhibeaaaJocac
import Derived.Test.YtgchfckmhibeaaaJocai
import Derived.Test.YtgchfckmhibeaaaJocae
import Derived.Test.YtgchfckmhibeaaaJocah

/-
  A slice of slices of bytes that came in, opened.
-/
namespace Go.Proofs.Ytgchfckmhibeaaa
open Go.RowKit

section
open Go.ChangeShapes Go.WideShapes Go.Deep
theorem open_bytes_at {H : Type} {enc : TypeId × Value → H} {W : World} {fuel : Nat} {cs : List Value} {x : DataW H × List MemPlace}
    (hf : DataW.trod enc Try.prog W 0 (fun _ => true) true fuel 22 cs = some x) : ∃ v l, cs = [v] ∧ Rd W v l ∧ l.length ≤ maxLen := by
  rcases open_slice Try.underlying22 hf with ⟨hcs, _⟩ | ⟨a', len, cap, m, n, D, Pl, hcs, _, hl, hm, hmm, _, hx⟩
  · exact ⟨_, [], hcs, Rd.none W, Nat.zero_le _⟩
  · have hC : Try.prog.cellsOf 5 = 1 := by kernel_rfl
    have hmm' : m = cap := by simpa using hmm
    subst hmm'
    have key : ∀ i, i < len → ∃ b : UInt8, W.cell? (a'.add i) = some (bv b) := by
      intro i hi
      obtain ⟨cs, h1, h2⟩ := hx i (by omega)
      rw [hC] at h1
      obtain ⟨_, hlen, hcell⟩ := World.cells?_some h1
      match cs, hlen with
      | [c0], _ =>
        obtain ⟨K, k0, _, kw⟩ := DataW.trod_int Try.underlying5 h2
        simp only [List.cons.injEq, and_true] at k0
        subst k0
        have hK : 0 ≤ K ∧ K ≤ 255 := by simpa [Lit.wf, IntKind.min, IntKind.max, IntKind.signed, IntKind.bits] using kw
        have hc := hcell 0 (by omega)
        simp only [Go.Deep.add_add] at hc
        refine ⟨UInt8.ofNat K.toNat, ?_⟩
        have e : bv (UInt8.ofNat K.toNat) = .int .u8 K := by
          unfold bv
          rw [UInt8.toNat_ofNat', Nat.mod_eq_of_lt (by omega), Int.toNat_of_nonneg hK.1]
        rw [e]
        have e2 : i * 1 + 0 = i := by omega
        simpa [e2] using hc
    obtain ⟨V, hV⟩ := choose_lt key
    have hll : ((List.range len).map V).length = len := by simp
    refine ⟨_, (List.range len).map V, hcs, ⟨some a', m, by rw [hll], ⟨by rw [hll]; omega, by omega⟩, (fun e => by cases e), fun ad e j b hj => ?_⟩, by rw [hll]; omega⟩
    cases e
    have hjl : j < len := by
      have := (List.getElem?_eq_some_iff.1 hj).1
      simpa using this
    have hb : b = V j := by
      rw [List.getElem?_map, List.getElem?_range hjl] at hj
      exact (Option.some.inj hj).symm
    rw [hb]
    exact hV j hjl

theorem open_rows {H : Type} {enc : TypeId × Value → H} {W : World} {v : Value} {d : DataW H} {p : List MemPlace} {a : Option Addr} {len cap : Nat} (hv : v = .slice a len cap)
    (h : DataW.Trod enc Try.prog W 0 (fun _ => true) true 63 v d p) : ∃ L, Rds W v L ∧ L.length ≤ maxLen ∧ ∀ l ∈ L, l.length ≤ maxLen := by
  subst hv
  obtain ⟨fuel, hf⟩ := h
  rcases open_slice Try.underlying63 hf with ⟨hcs, _⟩ | ⟨a', len', cap', m, n, D, Pl, hcs, _, hl, hm, hmm, _, hx⟩
  · simp [Value.cells] at hcs
    obtain ⟨rfl, rfl, rfl⟩ := hcs
    exact ⟨[], ⟨none, 0, rfl, ⟨Nat.le_refl _, Nat.zero_le _⟩, fun j l h => by simp at h⟩, Nat.zero_le _, fun l h => by cases h⟩
  · simp [Value.cells] at hcs
    obtain ⟨rfl, rfl, rfl⟩ := hcs
    have hC : Try.prog.cellsOf 22 = 1 := by kernel_rfl
    have hmm' : m = cap := by simpa using hmm
    subst hmm'
    have key : ∀ i, i < len → ∃ y : Value × List UInt8, W.cell? (a'.add i) = some y.1 ∧ Rd W y.1 y.2 ∧ y.2.length ≤ maxLen := by
      intro i hi
      obtain ⟨cs, h1, h2⟩ := hx i (by omega)
      rw [hC] at h1
      obtain ⟨_, hlen, hcell⟩ := World.cells?_some h1
      obtain ⟨u, l, rfl, hr, hl⟩ := open_bytes_at h2
      have hc := hcell 0 (by simp)
      simp only [Go.Deep.add_add] at hc
      have e2 : i * 1 + 0 = i := by omega
      exact ⟨(u, l), by simpa [e2] using hc, hr, hl⟩
    obtain ⟨V, hV⟩ := choose_lt key
    have hll : ((List.range len).map fun i => (V i).2).length = len := by simp
    refine ⟨(List.range len).map fun i => (V i).2, ⟨some a', m, by rw [hll], ⟨by rw [hll]; omega, by omega⟩, fun j l hj => ?_⟩, by rw [hll]; omega, fun l hl => ?_⟩
    · have hjl : j < len := by
        have := (List.getElem?_eq_some_iff.1 hj).1
        simpa using this
      have hb : (V j).2 = l := by
        rw [List.getElem?_map, List.getElem?_range hjl] at hj
        exact Option.some.inj hj
      obtain ⟨h1, h2, _⟩ := hV j hjl
      exact ⟨a', (V j).1, rfl, h1, hb ▸ h2⟩
    · obtain ⟨i, hi, rfl⟩ := List.mem_map.1 hl
      exact (hV i (List.mem_range.1 hi)).2.2
end

end Go.Proofs.Ytgchfckmhibeaaa

/-
  Frames of payloads put one behind the other: where each ends; what a round of the loop that puts them finds, and leaves.
-/
namespace Go.Proofs.Ytgchfckmhibeaaa
open Go.RowKit

/-- Where each frame ends. -/
def endsOf (L : List (List UInt8)) : List Nat := (List.range L.length).map fun j => total (L.take (j + 1))
theorem endsOf_at {L : List (List UInt8)} {j : Nat} (h : j < L.length) : (endsOf L)[j]? = some (total (L.take (j + 1))) := by
  unfold endsOf
  rw [List.getElem?_map, List.getElem?_range h]
  rfl
theorem endsOf_len (L : List (List UInt8)) : (endsOf L).length = L.length := by simp [endsOf]
theorem endsOf_more {L : List (List UInt8)} {i : Nat} (h : i < L.length) : endsOf (L.take (i + 1)) = endsOf (L.take i) ++ [total (L.take (i + 1))] := by
  unfold endsOf
  have e1 : (L.take (i + 1)).length = i + 1 := by rw [List.length_take]; omega
  have e2 : (L.take i).length = i := by rw [List.length_take]; omega
  rw [e1, e2, List.range_succ, List.map_append]
  congr 1
  · refine List.map_congr_left fun j hj => ?_
    have := List.mem_range.1 hj
    rw [List.take_take, List.take_take, Nat.min_eq_left (by omega), Nat.min_eq_left (by omega)]
  · simp [List.take_take]
theorem joined_more {L : List (List UInt8)} {i : Nat} {p : List UInt8} (h : L[i]? = some p) : joined (L.take (i + 1)) = joined (L.take i) ++ fr p := by
  obtain ⟨h1, h2⟩ := List.getElem?_eq_some_iff.1 h
  unfold joined
  rw [List.take_succ_eq_append_getElem h1, h2, List.flatMap_append]
  simp
theorem total_take_le (L : List (List UInt8)) (i : Nat) : total (L.take i) ≤ total L := by
  have e : total L = total (L.take i) + total (L.drop i) := by
    unfold total
    rw [← List.sum_append, ← List.map_append, List.take_append_drop]
  omega
theorem total_small : ∀ (L : List (List UInt8)), (∀ p ∈ L, p.length ≤ 100) → total L ≤ 114 * L.length
  | [], _ => Nat.le_refl _
  | p :: L, h => by
    have h1 := total_small L (fun q hq => h q (List.mem_cons_of_mem _ hq))
    have h2 := h p (by simp)
    have h3 := enc_ten p.length
    unfold total at h1 ⊢
    rw [List.map_cons, List.sum_cons, List.length_cons]
    unfold sz at h1 ⊢
    omega

theorem By.row {w : World} {v : Value} {l : List UInt8} (h : By w v l) : Row 5 w v (l.map bv) := by
  unfold Row
  rw [List.length_map]
  exact h
theorem By.apart {w : World} {v v' : Value} {l : List UInt8} {e : TypeId} {xs : List Value} (h : By w v l) (h' : Row e w v' xs) (hne : 5 ≠ e) : v.ownBlock = none ∨ v.ownBlock ≠ v'.ownBlock := h.row.apart h' hne

structure CutRel (w : World) (b6 : Nat) (L : List (List UInt8)) (wr : World) (x5 ve : Value) (i : Nat) : Prop where
  hi : i ≤ L.length
  hs : ∀ p ∈ L.take i, p.length ≤ 100
  ha : Made w wr x5 (joined (L.take i))
  hb : Box wr b6 47 #[ve]
  h6 : w.heap.size ≤ b6
  re : Row 3 wr ve ((endsOf (L.take i)).map nv)
  fe : ∀ k, ve.ownBlock = some k → w.heap.size ≤ k

theorem cut_row {w wr w1 w2 : World} {b6 : Nat} {L : List (List UInt8)} {x5 ve : Value} {i : Nat} (h : CutRel w b6 L wr x5 ve i) (t1 : Turn (fun _ => False) wr w1) (g5 : w1.grownBy w2 x5.ownBlock) (o2 : Obj) :
    Row 3 (w2.alloc o2) ve ((endsOf (L.take i)).map nv) ∧ Box (w2.alloc o2) b6 47 #[ve] := by
  have hm1 : By w1 x5 (joined (L.take i)) := h.ha.1.turn t1 (fun _ _ f => f)
  have re1 : Row 3 w1 ve _ := h.re.later t1
  have hne5 : ve.ownBlock = none ∨ ve.ownBlock ≠ x5.ownBlock := by
    rcases hm1.apart re1 (by decide) with e | e
    · rcases h.re.form with ⟨rfl, _⟩ | ⟨g, cap, cur, rfl, _⟩
      · exact .inl rfl
      · exact .inr (by rw [e]; simp [Value.ownBlock])
    · exact .inr (fun e1 => e e1.symm)
  exact ⟨(re1.grown g5 hne5).later ((Turn.refl _ w2).alloc o2), ((h.hb.turn t1 (fun f => f)).grown g5 (fun e => (hm1.row.not_box (h.hb.turn t1 (fun f => f)) (by decide)) e.symm)).alloc o2⟩
theorem cut_box {w wr w1 w2 w3 : World} {b6 : Nat} {L : List (List UInt8)} {x5 ve : Value} {i : Nat} (h : CutRel w b6 L wr x5 ve i) (t1 : Turn (fun _ => False) wr w1) (g5 : w1.grownBy w2 x5.ownBlock) {o2 : Obj}
    (g6 : (w2.alloc o2).grownBy w3 ve.ownBlock) : Box w3 b6 47 #[ve] := by
  obtain ⟨h1, h2⟩ := cut_row h t1 g5 o2
  exact h2.grown g6 (fun e => (h1.not_box h2 (by decide)) e.symm)

theorem cut_next {w wr w1 w2 w3 : World} {b6 : Nat} {L : List (List UInt8)} {x5 ve : Value} {i : Nat} (h : CutRel w b6 L wr x5 ve i) {p : List UInt8} (hp : L[i]? = some p) (h100 : p.length ≤ 100)
    (t1 : Turn (fun _ => False) wr w1) {A5 : Option Addr} {n5 c5 : Nat} (r5 : By w2 (.slice A5 n5 c5) (joined (L.take i) ++ fr p)) (g5 : w1.grownBy w2 x5.ownBlock)
    (a5 : (Value.slice A5 n5 c5).ownBlock = x5.ownBlock ∨ (Value.slice A5 n5 c5).ownBlock = some w1.heap.size)
    {o2 : Obj} {A6 : Option Addr} {n6 c6 : Nat} (r6 : Row 3 w3 (.slice A6 n6 c6) ((endsOf (L.take i)).map nv ++ [nv (total (L.take (i + 1)))])) (g6 : (w2.alloc o2).grownBy w3 ve.ownBlock)
    (a6 : (Value.slice A6 n6 c6).ownBlock = ve.ownBlock ∨ (Value.slice A6 n6 c6).ownBlock = some (w2.heap.size + 1)) :
    CutRel w b6 L (w3.setCell ⟨b6, 0, none⟩ (.slice A6 n6 c6)) (.slice A5 n5 c5) (.slice A6 n6 c6) (i + 1) ∧ Turn (fun k => w.heap.size ≤ k) wr (w3.setCell ⟨b6, 0, none⟩ (.slice A6 n6 c6)) := by
  obtain ⟨h1, h2⟩ := List.getElem?_eq_some_iff.1 hp
  have s0 := h.ha.2.1.size
  have s1 := t1.size
  have hm1 : Made w w1 x5 (joined (L.take i)) := ⟨h.ha.1.turn t1 (fun _ _ f => f), h.ha.2.1.trans t1 (fun _ _ f => f), h.ha.2.2⟩
  have hm2 : Made w w2 (.slice A5 n5 c5) (joined (L.take i) ++ fr p) := by
    refine ⟨r5, hm1.2.1.grown g5 (fun k hk e => by have := h.ha.2.2 k e; omega), fun k hk => ?_⟩
    rcases a5 with e | e
    · exact h.ha.2.2 k (by rw [← e]; exact hk)
    · rw [e] at hk
      injection hk with hk
      omega
  have s2 := g5.size
  have re1 : Row 3 w1 ve _ := h.re.later t1
  have hne5 : ve.ownBlock = none ∨ ve.ownBlock ≠ x5.ownBlock := by
    rcases hm1.1.apart re1 (by decide) with e | e
    · rcases h.re.form with ⟨rfl, _⟩ | ⟨g, cap, cur, rfl, _⟩
      · exact .inl rfl
      · exact .inr (by rw [e]; simp [Value.ownBlock])
    · exact .inr (fun e1 => e e1.symm)
  have re2 : Row 3 (w2.alloc o2) ve _ := (re1.grown g5 hne5).later ((Turn.refl _ w2).alloc o2)
  have b62 : Box (w2.alloc o2) b6 47 #[ve] := (((h.hb.turn t1 (fun f => f)).grown g5 (fun e => (hm1.1.row.not_box (h.hb.turn t1 (fun f => f)) (by decide)) e.symm)).alloc o2)
  have b63 : Box w3 b6 47 #[ve] := b62.grown g6 (fun e => (re2.not_box b62 (by decide)) e.symm)
  have hm2a : Made w (w2.alloc o2) (.slice A5 n5 c5) (joined (L.take i) ++ fr p) := ⟨hm2.1.alloc o2, hm2.2.1.alloc o2, hm2.2.2⟩
  have hm3 : Made w w3 (.slice A5 n5 c5) (joined (L.take i) ++ fr p) := ⟨hm2a.1.grown g6 (hm2a.1.apart re2 (by decide)), hm2a.2.1.grown g6 (fun k hk e => by have := h.fe k e; omega), hm2a.2.2⟩
  have hnb5 : (Value.slice A5 n5 c5).ownBlock ≠ some b6 := hm3.1.row.not_box b63 (by decide)
  have hnb6 : (Value.slice A6 n6 c6).ownBlock ≠ some b6 := r6.not_box b63 (by decide)
  have tS : Turn (fun k => k = b6) w3 (w3.setCell ⟨b6, 0, none⟩ (.slice A6 n6 c6)) := (Turn.refl (fun k => k = b6) w3).setCell (p := ⟨b6, 0, none⟩) (fun _ => rfl) _
  have h66 := h.h6
  refine ⟨⟨h1, ?_, ?_, by simpa using b63.set 0 (.slice A6 n6 c6), h.h6, ?_, ?_⟩, ?_⟩
  · intro q hq
    rw [List.take_succ_eq_append_getElem h1, h2] at hq
    rcases List.mem_append.1 hq with hq | hq
    · exact h.hs q hq
    · obtain rfl : q = p := by simpa using hq
      exact h100
  · rw [joined_more hp]
    exact ⟨hm3.1.turn tS (fun k hk e => hnb5 (by rw [hk, e])), hm3.2.1.fresh tS (fun k e => by rw [e]; exact h66), hm3.2.2⟩
  · rw [endsOf_more h1, List.map_append]
    exact r6.turn tS (fun k hk e => hnb6 (by rw [hk, e]))
  · intro k hk
    rcases a6 with e | e
    · exact h.fe k (by rw [← e]; exact hk)
    · rw [e] at hk
      injection hk with hk
      omega
  · refine Turn.trans (T := fun k => w.heap.size ≤ k) ?_ (tS.mono (fun k _ e => by rw [e]; exact h66)) (fun _ _ s => s)
    refine Turn.grown ?_ g6 (fun k _ e => h.fe k e)
    exact (t1.none.grown g5 (fun k _ e => h.ha.2.2 k e)).alloc o2

theorem laid_len : ∀ (i : Nat) (L : List (List UInt8)), (laid i L).length = L.length
  | _, [] => rfl
  | i, p :: L => by
    show (laid _ L).length + 1 = L.length + 1
    rw [laid_len]
theorem allOf_cut {L : List (List UInt8)} (h : ∀ p ∈ L, p.length ≤ 100) (m : Nat) : allOf ((joined L).take m) = laid 0 (upto m L) :=
  allF_cut L _ 0 m (fun p hp => by have := h p hp; omega) (Nat.lt_succ_self _)
/-- One that is whole: which it is, and that it ends within m. -/
theorem cut_one {L : List (List UInt8)} {m : Nat} {pre : List (Nat × List UInt8)} {x : Nat × List UInt8} (h : pre ++ [x] <+: laid 0 (upto m L)) :
    L[pre.length]? = some x.2 ∧ pre.length < L.length ∧ total (L.take (pre.length + 1)) ≤ m := by
  obtain ⟨t, e⟩ := h
  have h1 : (laid 0 (upto m L))[pre.length]? = some x := by
    rw [← e, List.append_assoc, List.getElem?_append_right (Nat.le_refl _)]
    simp
  have h2 : (upto m L)[pre.length]? = some x.2 := by
    have h3 : ((laid 0 (upto m L)).map (·.2))[pre.length]? = some x.2 := by rw [List.getElem?_map, h1]; rfl
    rwa [laid_map] at h3
  obtain ⟨s, e2⟩ := upto_prefix m L
  have hlt := (List.getElem?_eq_some_iff.1 h2).1
  have h4 : L[pre.length]? = some x.2 := by
    rw [← e2, List.getElem?_append_left hlt]
    exact h2
  refine ⟨h4, (List.getElem?_eq_some_iff.1 h4).1, ?_⟩
  have e3 : L.take (pre.length + 1) = (upto m L).take (pre.length + 1) := by
    have h5 : L.take (pre.length + 1) = (upto m L ++ s).take (pre.length + 1) := by rw [e2]
    rw [h5, List.take_append_of_le_length (by omega)]
  rw [e3]
  exact Nat.le_trans (total_take_le _ _) (upto_total m L)
theorem cut_take (m : Nat) (L : List (List UInt8)) : L.take (upto m L).length = upto m L := by
  obtain ⟨s, e2⟩ := upto_prefix m L
  have h5 : L.take (upto m L).length = (upto m L ++ s).take (upto m L).length := by rw [e2]
  rw [h5, List.take_left]
/-- The next one ends beyond m. -/
theorem cut_beyond {m : Nat} {L : List (List UInt8)} (h : (upto m L).length < L.length) : m < total (L.take ((upto m L).length + 1)) := by
  obtain ⟨p, hp⟩ : ∃ p, L[(upto m L).length]? = some p := ⟨_, List.getElem?_eq_getElem h⟩
  have h1 := upto_more m L p hp
  obtain ⟨h2, h3⟩ := List.getElem?_eq_some_iff.1 hp
  rw [List.take_succ_eq_append_getElem h2, h3, cut_take]
  unfold total at h1 ⊢
  rw [List.map_append, List.sum_append]
  simpa using h1

end Go.Proofs.Ytgchfckmhibeaaa

/-
  Stage 17, plain: records there and back; of records that are cut anywhere all come that are whole.
-/
namespace Go.Proofs.Ytgchfckmhibeaaa
open Go.RowKit

set_option maxRecDepth 100000

theorem right_parts17 {b : P17} {n : Int} (h : right17 b n = true) : (allB b.f n).1 = 0 ∧ numsR17 b.seq b.tick b.bud = true := by
  unfold right17 at h
  rw [Bool.and_eq_true, decide_eq_true_iff] at h
  exact h
theorem parse_back17 {b : P17} {n : Int} (h : right17 b n = true) : parse17 (pay17 b n.toNat) n = (b, 0) := by
  obtain ⟨h1, h2⟩ := right_parts17 h
  obtain ⟨s, t, u, e1, e2, e3, hb, -, -⟩ := nums_of17 h2
  have ho : okDims n = true := by
    obtain ⟨⟨n1, n4⟩, _⟩ := all_good h1
    unfold okDims
    simp [n1, n4]
  obtain ⟨sq, tk, bu, fs⟩ := b
  dsimp only at e1 e2 e3 h1 h2
  subst e1; subst e2; subst e3
  have ep : pay17 ⟨s, t, u, fs⟩ n.toNat = enc s ++ (enc t ++ (enc u ++ batchB fs n.toNat)) := by
    show enc (Int.toNat s) ++ enc (Int.toNat t) ++ enc (Int.toNat u) ++ _ = _
    rw [Int.toNat_natCast, Int.toNat_natCast, Int.toNat_natCast, List.append_assoc, List.append_assoc]
  obtain ⟨a1, a2⟩ := num_back (n := s) (by show _ < _; omega) (enc t ++ (enc u ++ batchB fs n.toNat))
  obtain ⟨b1, b2⟩ := num_back (n := t) (by show _ < _; omega) (enc u ++ batchB fs n.toNat)
  obtain ⟨c1, c2⟩ := num_back (n := u) (by show _ < _; omega) (batchB fs n.toNat)
  unfold parse17
  rw [if_pos ho, ep]
  dsimp only
  rw [a1, a2, b1, b2, c1, c2, if_neg (by simp), if_neg (by rw [h2]; decide), readB_back h1, if_neg (by simp)]
/-- Batches whose numbers rise. -/
def Up17 : Option Int → List P17 → Prop
  | _, [] => True
  | o, b :: r => (∀ s, o = some s → s < b.seq) ∧ Up17 (some b.seq) r
theorem Up17.take : ∀ {o : Option Int} {l : List P17} (k : Nat), Up17 o l → Up17 o (l.take k)
  | _, [], _, _ => by rw [List.take_nil]; trivial
  | _, _ :: _, 0, _ => trivial
  | _, _ :: _, k + 1, h => ⟨h.1, h.2.take k⟩
theorem Up17.snoc : ∀ {o : Option Int} {l : List P17} {b : P17}, Up17 o l → (∀ s, (l.getLast?.map (·.seq)).or o = some s → s < b.seq) → Up17 o (l ++ [b])
  | _, [], _, _, h => ⟨fun s e => h s (by simpa using e), trivial⟩
  | o, a :: r, b, h, hs => ⟨h.1, Up17.snoc h.2 (fun s e => hs s (by
      cases r with
      | nil => simpa using e
      | cons c r => rw [List.getLast?_cons_cons]; cases hl : (c :: r).getLast? with
        | none => simp at hl
        | some x => rw [hl] at e; simpa using e))⟩
def pays17 (n : Int) (l : List P17) : List (List UInt8) := l.map fun b => pay17 b n.toNat
theorem play_back17 (n : Int) (E : Nat) : ∀ (l : List P17) (i : Nat) (o : Option Int), (∀ b ∈ l, right17 b n = true) → Up17 o l → play17 n (laid i (pays17 n l)) o E = (l, E)
  | [], _, _, _, _ => rfl
  | b :: r, i, o, hr, hu => by
    have hb := parse_back17 (hr b (List.mem_cons_self ..))
    have ih := play_back17 n E r (i + sz (pay17 b n.toNat).length) (some b.seq) (fun c hc => hr c (List.mem_cons_of_mem _ hc)) hu.2
    show play17 n ((i, pay17 b n.toNat) :: laid (i + sz (pay17 b n.toNat).length) (pays17 n r)) o E = _
    unfold play17
    rw [hb]
    dsimp only
    rw [if_neg (by simp)]
    have hany : o.any (fun s => decide (b.seq ≤ s)) = false := by
      cases o with
      | none => rfl
      | some s => have := hu.1 s rfl; simp [Option.any]; omega
    rw [if_neg (by rw [hany]; decide), ih]
theorem pay_len17 {b : P17} {n : Int} (h : right17 b n = true) : (pay17 b n.toNat).length ≤ 10040 := by
  have h1 := (right_parts17 h).1
  obtain ⟨h2, h3, h4, _⟩ := all_good h1
  have h5 := partB_len (l := b.f) (n := n.toNat) (by omega) (fun f hf => good_chk (h4 f hf)) b.f.length
  rw [partB_all] at h5
  show (enc b.seq.toNat ++ enc b.tick.toNat ++ enc b.bud.toNat ++ batchB b.f n.toNat).length ≤ _
  have := enc_len b.seq.toNat; have := enc_len b.tick.toNat; have := enc_len b.bud.toNat
  simp only [List.length_append]
  omega
theorem total_len17 : ∀ (L : List (List UInt8)), (∀ p ∈ L, p.length ≤ 10040) → total L ≤ 10060 * L.length
  | [], _ => Nat.le_refl _
  | p :: L, h => by
    have h1 := total_len17 L (fun q hq => h q (List.mem_cons_of_mem _ hq))
    have h2 := h p (by simp)
    have h3 := enc_ten p.length
    unfold total at h1 ⊢
    rw [List.map_cons, List.sum_cons, List.length_cons]
    unfold sz at h1 ⊢
    omega
theorem pays_take17 (n : Int) (l : List P17) (k : Nat) : pays17 n (l.take k) = (pays17 n l).take k := by
  unfold pays17
  rw [List.map_take]
theorem upto_take17 (m : Nat) (L : List (List UInt8)) : upto m L = L.take (upto m L).length := by
  exact List.prefix_iff_eq_take.1 (upto_prefix m L)
/-- How many come of records that are cut. -/
def many17 (m : Nat) (n : Int) (l : List P17) : Nat := (upto m (pays17 n l)).length
theorem many_le17 {m : Nat} {n : Int} {l : List P17} : many17 m n l ≤ l.length := by
  have h := (upto_prefix m (pays17 n l)).length_le
  unfold pays17 at h
  rw [List.length_map] at h
  exact h
theorem replay_cut17 {n : Int} {l : List P17} (hr : ∀ b ∈ l, right17 b n = true) (hu : Up17 none l) (m : Nat) :
    replay17 ((joined (pays17 n l)).take m) n = (l.take (many17 m n l), total ((pays17 n l).take (many17 m n l))) := by
  have h1 : allOf ((joined (pays17 n l)).take m) = laid 0 (upto m (pays17 n l)) := allF_cut _ _ 0 m (fun p hp => by
    obtain ⟨b, hb, rfl⟩ := List.mem_map.1 hp
    have := pay_len17 (hr b hb)
    omega) (Nat.lt_succ_self _)
  unfold replay17
  rw [h1, laid_end, Nat.zero_add]
  have h2 : upto m (pays17 n l) = pays17 n (l.take (many17 m n l)) := by rw [pays_take17]; exact upto_take17 _ _
  rw [h2, play_back17 n _ _ 0 none (fun b hb => hr b (List.mem_of_mem_take hb)) (hu.take _), pays_take17]
/-- Which records are whole. -/
theorem ends_in17 {m : Nat} {L : List (List UInt8)} {i : Nat} (h : i < L.length) : total (L.take (i + 1)) ≤ m ↔ i < (upto m L).length := by
  constructor
  · intro h1
    rcases Nat.lt_or_ge i (upto m L).length with h2 | h2
    · exact h2
    · exfalso
      obtain ⟨p, hp⟩ : ∃ p, L[(upto m L).length]? = some p := ⟨_, List.getElem?_eq_getElem (by omega)⟩
      have h3 := upto_more m L p hp
      have h4 : total (L.take ((upto m L).length + 1)) = total (upto m L) + sz p.length := by
        obtain ⟨h0, e⟩ := List.getElem?_eq_some_iff.1 hp
        rw [List.take_succ_eq_append_getElem h0, e, ← upto_take17]
        unfold total
        rw [List.map_append, List.sum_append]
        simp
      have h5 : total (L.take ((upto m L).length + 1)) ≤ total (L.take (i + 1)) := by
        have := total_take_le (L.take (i + 1)) ((upto m L).length + 1)
        rw [List.take_take, Nat.min_eq_left (by omega)] at this
        exact this
      omega
  · intro h1
    have h2 : L.take (i + 1) = (upto m L).take (i + 1) := by
      conv => rhs; rw [upto_take17]
      rw [List.take_take, Nat.min_eq_left (by omega)]
    rw [h2]
    exact Nat.le_trans (total_take_le _ _) (upto_total m L)
theorem rec_right17 {b : P17} {n : Int} (h : (rec17 b n).2 = 0) : right17 b n = true ∧ (rec17 b n).1 = fr (pay17 b n.toNat) := by
  unfold rec17 at h ⊢
  by_cases hr : right17 b n = true
  · rw [if_pos hr]
    exact ⟨hr, rfl⟩
  · rw [if_neg hr] at h
    exact absurd h (by decide)
theorem one_right17 : right17 ⟨1, 2, 3, [⟨⟨4, [], [], [], []⟩, 3⟩]⟩ 1 = true := by decide +kernel

end Go.Proofs.Ytgchfckmhibeaaa

/-
  Stage 17: the document's Replay, walked.
-/
namespace Go.Proofs.Ytgchfckmhibeaaa
open Go.RowKit

set_option maxRecDepth 100000

/-- Behind Replay: batches laid in new memory, and how far. -/
def Replayed17 (w : World) (r : List P17 × Nat) (e : Ending) (w' : World) : Prop :=
  ∃ v L, e = .returned (.tuple #[v, .int .i64 (r.2 : Int)]) ∧ L.map B17.p = r.1 ∧ BR17 w' v L ∧ Turn (fun _ => False) w w'
theorem off_rd17 {w : World} {x : Value} {L : List B17} (h : Off17 w x L) (h2 : RdE EB17 w x L) : BR17 w x L := ⟨h2, fun b hb => (h b hb).1⟩

theorem apart17 {w wr : World} {x : Value} {L : List B17} {b : B17} {e : TypeId} (h : NewE EB17 e w wr x L) (hn : ∀ k, b.sl.ownBlock = some k → wr.heap.size ≤ k) : b.f ≠ [] → ∀ k, b.sl.ownBlock = some k → x.ownBlock ≠ some k := fun _ k hk e => by
  have h1 := hn k hk
  have h2 := h.own.lt e
  omega
theorem allF_le17 : ∀ (f i : Nat) (l : List UInt8), (allF f i l).length ≤ f
  | 0, _, _ => Nat.le_refl _
  | f + 1, i, l => by
    by_cases h : (takes l).2.2 = 0
    · rw [allF_step h, List.length_cons]
      have := allF_le17 f (i + (takes l).2.1) (l.drop (takes l).2.1)
      omega
    · rw [allF_stop h]
      exact Nat.zero_le _

set_option maxHeartbeats 8000000 in
theorem ref_replay17 (u : Value) (d : List UInt8) (n : Int) (w : World) (hv : Rd w u d) (hl : d.length ≤ 900000) : Calls Try.prog 9 #[u, .int .i64 n] w fun e w' => Replayed17 w (replay17 d n) e w' := by
  have HV := Lib.hid hv
  obtain ⟨A, c, rfl⟩ := hv.shape
  have HSPEC : Hid (replay17 d n = on17 n (allOf d) (endOf 0 (allOf d)) [] 0) := rfl
  have HALL := Lib.hid (ref_allB _ d w hv (by omega))
  unfold AllPostB at HALL
  have HXL : Hid ((allOf d).length ≤ 900001) := by show _ ≤ _; have := allF_le17 (d.length + 1) 0 d; unfold allOf; omega
  generalize endOf 0 (allOf d) = E at *
  generalize allOf d = xs at *
  clear hv hl
  go_enter Try.func9, Try.ntmps9
  go_wp2_with fail
  refine HALL.out.mono ?_
  rintro e w1 ⟨v1, v2, rfl, n1, f1, t1⟩
  obtain ⟨A1, c1, rfl⟩ := n1.shape
  obtain ⟨A2, c2, rfl⟩ := f1.shape
  have HN1 := Lib.hid n1; have HF1 := Lib.hid f1; have HT1 := Lib.hid t1
  have hm1 : (xs.map (·.1)).length = xs.length := List.length_map _
  have hm2 : (xs.map (·.2)).length = xs.length := List.length_map _
  rw [hm1] at HN1 ⊢
  rw [hm2] at HF1 ⊢
  obtain ⟨M, hM⟩ : ∃ M, M = xs.length := ⟨_, rfl⟩
  rw [← hM] at HN1 HF1 ⊢
  have hMb : M ≤ 900001 := by have := HXL.out; omega
  have HM := Lib.hid hM
  clear n1 f1 t1 hm1 hm2 HALL hM
  go_wp2_with fail
  go_loopw [9, 10] (fun x9 x10 wr => ∃ (i : Nat) (L : List B17), x10 = .int .i64 (i : Int) ∧ i ≤ M ∧ L.length ≤ i ∧ NewE EB17 52 w1 wr x9 L ∧ Off17 wr x9 L ∧ replay17 d n = on17 n xs E L i) (fun _ x10 _ => M - (intOf x10).toNat)
  case atStart => exact ⟨0, [], rfl, Nat.zero_le _, Nat.le_refl _, ⟨OwE.nil _, (fun k e => by simp [Value.ownBlock] at e), Turn.refl _ _⟩, Off17.nil _ _, HSPEC.out⟩
  case round =>
    clear HSPEC
    obtain ⟨i, L, rfl, hi, hLi, hnew, hoff, hsp⟩ := hrel
    have HNW := Lib.hid hnew
    have HOF := Lib.hid hoff
    have HSP := Lib.hid hsp
    have HLI := Lib.hid hLi
    obtain ⟨A9, c9, hv9⟩ := hnew.own.shape
    subst hv9
    have HTR : Hid (Turn (fun _ => False) w wr) := HT1.out.trans HNW.out.turn (fun _ _ f => f)
    clear hnew hoff hsp hLi
    by_cases hlt : i < M
    · have hil : (i : Int) < M := by omega
      obtain ⟨⟨j, p⟩, hx⟩ : ∃ x, xs[i]? = some x := ⟨_, List.getElem?_eq_getElem (by rw [← HM.out]; exact hlt)⟩
      have HX := Lib.hid hx
      obtain ⟨ad1, rfl, hc1⟩ := (HN1.out.later HNW.out.turn).at (k := i) (x := j) (by rw [List.getElem?_map, hx]; rfl)
      obtain ⟨ad2, A3, c3, rfl, hc2, hr3, hb3⟩ := (HF1.out.later HNW.out.turn).at (k := i) (l := p) (by rw [List.getElem?_map, hx]; rfl)
      have HPA := Lib.hid (ref_parse17 _ p n wr hr3 (fun g hg => Nat.lt_of_lt_of_le (hb3 g hg) HTR.out.size))
      have HC1 := Lib.hid hc1
      clear hx hr3 hb3 hc1
      unfold Parsed17 at HPA
      go_wp2_with fail
      refine HPA.out.mono ?_
      rintro e wp ⟨b, rfl, hbp, rb, tb, nb⟩
      clear HPA hc2
      have HBP := Lib.hid hbp; have HRB := Lib.hid rb; have HTB := Lib.hid tb; have HNB := Lib.hid nb
      clear hbp rb tb nb
      obtain ⟨q, hq⟩ : ∃ q, q = wp.heap.size := ⟨_, rfl⟩
      obtain ⟨wq, hwq⟩ : ∃ wq, wq = wp.alloc (.cells (bcells17 b) 52) := ⟨_, rfl⟩
      have HTQ : Hid (Turn (fun _ => False) wp wq) := by rw [hwq]; exact (Turn.refl _ wp).alloc _
      have HBX : Hid (Box wq q 52 (bcells17 b)) := by rw [hwq, hq]; exact Box.new wp _ _
      have HWQ := Lib.hid hwq; have HQ := Lib.hid hq
      clear hwq hq
      have hwrq : Turn (fun _ => False) wr wq := HTB.out.trans HTQ.out (fun _ _ f => f)
      have a1 : wq.cell? (ad1.add i) = some (.int .i64 (j : Int)) := by
        rw [hwrq.cell (World.block_lt_of_cell? wr _ HC1.out) (fun f => f)]
        exact HC1.out
      have HTE : Hid (Turn (fun _ => False) w wq) := HTR.out.trans hwrq (fun _ _ f => f)
      have HBE : Hid (BR17 wq (.slice A9 L.length c9) L) := (off_rd17 HOF.out HNW.out.own.rd).later hwrq
      have HA1 := Lib.hid a1
      have HWR := Lib.hid hwrq
      clear a1 hwrq
      by_cases hf : (parse17 p n).2 = 0
      · obtain ⟨N, hN⟩ : ∃ N, N = L.length := ⟨_, rfl⟩
        have hsq : b.seq = (parse17 p n).1.seq := congrArg P17.seq HBP.out
        have HSQ := Lib.hid hsq
        have HHF := Lib.hid hf
        have HNN := Lib.hid hN
        obtain ⟨b0, b1, b2, b3⟩ := box_bat17 HBX.out
        rw [hf]
        rw [← hN] at HBE HNW HOF ⊢
        by_cases hlow : ∃ s, L.getLast? = some s ∧ b.seq ≤ s.seq
        · obtain ⟨s, hs, hle⟩ := hlow
          have HEND : Hid (replay17 d n = (L.map B17.p, j)) := by show _ = _; rw [HSP.out]; exact on_low17 HX.out hf hs (by rw [← hsq]; exact hle)
          obtain ⟨K, hK, hKN⟩ : ∃ K, L[K]? = some s ∧ N = K + 1 := by
            rw [List.getLast?_eq_getElem?] at hs
            have h1 := (List.getElem?_eq_some_iff.1 hs).1
            exact ⟨L.length - 1, hs, by omega⟩
          obtain ⟨ad9, rfl, hc9⟩ := bat_at17 HBE.out.1 hK
          have x9 := (hc9 wq (Turn.refl _ _)).1
          have hd0 : decide (0 < N) = true := decide_eq_true (by omega)
          have hk1 : (N : Int) - 1 = (K : Int) := by omega
          have hkN : (K : Int) < N := by omega
          have hkn : K < N := by omega
          have hkw : IntKind.i64.wrap (K : Int) = (K : Int) := IntWalk.i64_in _ (by have := HXL.out; have := HM.out; have := HLI.out; have := HNN.out; omega)
          clear hf hsq hN hs hc9 hK hKN
          have a1 := HA1.out
          go_wp2_with fail
          rw [← HWQ.out, ← HQ.out]
          go_quiet (fail)
          go_wp2_with fail
          have a1 : (wq.drewN nq).cell? (ad1.add i) = some (.int .i64 (j : Int)) := HA1.out
          go_quiet (fail)
          go_wp2
          go_ret2
          exact ⟨_, L, by rw [HEND.out]; rfl, by rw [HEND.out], HBE.out.later (((Turn.refl _ wq).drewN _).drewN _), (HTE.out.drewN _).drewN _⟩
        · have hnx : ∀ s, L.getLast? = some s → ¬ (parse17 p n).1.seq ≤ s.seq := fun s h1 h2 => hlow ⟨s, h1, by rw [hsq]; exact h2⟩
          have HNX : Hid (replay17 d n = on17 n xs E (L ++ [b]) (i + 1)) := by show _ = _; rw [HSP.out]; exact on_next17 HX.out hf HBP.out hnx
          have HLM : Hid (L.length + 1 ≤ 1000000) := by show _ ≤ _; have := HLI.out; have := HXL.out; have := HM.out; omega
          have HAP := Lib.hid (apart17 HNW.out HNB.out)
          by_cases hN0 : L = []
          · have hN1 : N = 0 := by rw [hN, hN0]; rfl
            subst hN1
            clear hf hsq hN hlow hN0 hnx
            go_wp2_with fail
            rw [← HWQ.out, ← HQ.out]
            go_quiet (fail)
            have HTZ : Hid (Turn (fun _ => False) wq (wq.drewN nq)) := (Turn.refl _ wq).drewN _
            generalize wq.drewN nq = wz at *
            obtain ⟨d0, d1, d2, d3⟩ := box_bat17 (HBX.out.turn HTZ.out (fun f => f))
            have hwz := (HWR.out.trans HTZ.out (fun _ _ f => f))
            have HNZ := Lib.hid ((HNW.out.later hwz).alloc (.cells (bcells17 b) 52))
            have HSR := Lib.hid (one_row EB17 52 wz b)
            have HOZ := Lib.hid ((HOF.out.later hwz).later ((Turn.refl (fun _ => False) wz).alloc (.cells (bcells17 b) 52)))
            have HRZ : Hid (RdE EF (wz.alloc (.cells (bcells17 b) 52)) b.sl b.f) := ((HRB.out.later HTQ.out).later HTZ.out).later ((Turn.refl _ wz).alloc _)
            clear hwz
            go_wp2_with (at_builtin; refine wpList_bats17 _ rfl _ _ rfl _ _ rfl HNZ.out.own _ rfl [b] HSR.out HLM.out ?_; intro A5 n5 c5 w5 ho5 ht5 hn5; have HN5 := Lib.hid (HNZ.out.step ho5 ht5 hn5); have HO5 := Lib.hid (HOZ.out.step HRZ.out HAP.out ht5 hn5); clear ho5 ht5 hn5)
            go_roundw
            case rel => exact ⟨i + 1, _, by go_num, hlt, by rw [List.length_append, List.length_singleton]; have := HLI.out; omega, HN5.out, HO5.out, HNX.out⟩
            case measure => simp [intOf]; omega
          · obtain ⟨s, hs⟩ : ∃ s, L.getLast? = some s := by
              cases hl : L.getLast? with
              | none => exact absurd (List.getLast?_eq_none_iff.1 hl) hN0
              | some s => exact ⟨s, rfl⟩
            have hle : ¬ b.seq ≤ s.seq := by rw [hsq]; exact hnx s hs
            obtain ⟨K, hK, hKN⟩ : ∃ K, L[K]? = some s ∧ N = K + 1 := by
              rw [List.getLast?_eq_getElem?] at hs
              have h1 := (List.getElem?_eq_some_iff.1 hs).1
              exact ⟨L.length - 1, hs, by omega⟩
            obtain ⟨ad9, rfl, hc9⟩ := bat_at17 HBE.out.1 hK
            have x9 := (hc9 wq (Turn.refl _ _)).1
            have hd0 : decide (0 < N) = true := decide_eq_true (by omega)
            have hk1 : (N : Int) - 1 = (K : Int) := by omega
            have hkN : (K : Int) < N := by omega
            have hkn : K < N := by omega
            have hkw : IntKind.i64.wrap (K : Int) = (K : Int) := IntWalk.i64_in _ (by have := HXL.out; have := HM.out; have := HLI.out; have := HNN.out; omega)
            clear hf hsq hN hs hc9 hK hKN hlow hN0 hnx
            go_wp2_with fail
            rw [← HWQ.out, ← HQ.out]
            go_quiet (fail)
            clear x9
            have HTZ : Hid (Turn (fun _ => False) wq (wq.drewN nq)) := (Turn.refl _ wq).drewN _
            generalize wq.drewN nq = wz at *
            obtain ⟨d0, d1, d2, d3⟩ := box_bat17 (HBX.out.turn HTZ.out (fun f => f))
            have hwz := (HWR.out.trans HTZ.out (fun _ _ f => f))
            have HNZ := Lib.hid ((HNW.out.later hwz).alloc (.cells (bcells17 b) 52))
            have HSR := Lib.hid (one_row EB17 52 wz b)
            have HOZ := Lib.hid ((HOF.out.later hwz).later ((Turn.refl (fun _ => False) wz).alloc (.cells (bcells17 b) 52)))
            have HRZ : Hid (RdE EF (wz.alloc (.cells (bcells17 b) 52)) b.sl b.f) := ((HRB.out.later HTQ.out).later HTZ.out).later ((Turn.refl _ wz).alloc _)
            clear hwz
            go_wp2_with (at_builtin; refine wpList_bats17 _ rfl _ _ rfl _ _ rfl HNZ.out.own _ rfl [b] HSR.out HLM.out ?_; intro A5 n5 c5 w5 ho5 ht5 hn5; have HN5 := Lib.hid (HNZ.out.step ho5 ht5 hn5); have HO5 := Lib.hid (HOZ.out.step HRZ.out HAP.out ht5 hn5); clear ho5 ht5 hn5)
            go_roundw
            case rel => exact ⟨i + 1, _, by go_num, hlt, by rw [List.length_append, List.length_singleton]; have := HLI.out; omega, HN5.out, HO5.out, HNX.out⟩
            case measure => simp [intOf]; omega
      · have HEND : Hid (replay17 d n = (L.map B17.p, j)) := by show _ = _; rw [HSP.out]; exact on_bad17 HX.out hf
        have hf2 : ((parse17 p n).2 == 0) = false := by rw [beq_eq_false_iff_ne]; exact hf
        have hf3 : ((parse17 p n).2 != 0) = true := by rw [bne_iff_ne]; exact hf
        clear hf
        generalize (parse17 p n).2 = f at *
        obtain ⟨b0, b1, b2, b3⟩ := box_bat17 HBX.out
        have a1 := HA1.out
        go_wp2_with fail
        rw [← HWQ.out, ← HQ.out]
        go_quiet (fail)
        go_wp2_with fail
        have a1 : (wq.drewN nq).cell? (ad1.add i) = some (.int .i64 (j : Int)) := HA1.out
        go_quiet (fail)
        go_wp2
        go_ret2
        exact ⟨_, L, by rw [HEND.out]; rfl, by rw [HEND.out], HBE.out.later (((Turn.refl _ wq).drewN _).drewN _), (HTE.out.drewN _).drewN _⟩
    · obtain rfl : i = M := by omega
      have HEND : Hid (replay17 d n = (L.map B17.p, E)) := by show _ = _; rw [HSP.out]; exact on_end17 (Nat.le_of_eq HM.out.symm)
      have HBE : Hid (BR17 wr (.slice A9 L.length c9) L) := off_rd17 HOF.out HNW.out.own.rd
      clear HSP HOF
      go_wp2
      go_ret2
      exact ⟨.slice A9 L.length c9, L, by rw [HEND.out]; rfl, by rw [HEND.out], HBE.out, HTR.out⟩

end Go.Proofs.Ytgchfckmhibeaaa

/-
  Stage 17: the document's Facts.
-/
namespace Go.Proofs.Ytgchfckmhibeaaa
open Go.RowKit

set_option maxRecDepth 100000

theorem take_filter17 {α : Type} {l : List α} {P : α → Bool} {k : Nat} {x : α} (h : l[k]? = some x) : (l.take (k + 1)).filter P = (l.take k).filter P ++ (if P x then [x] else []) := by
  obtain ⟨h0, e⟩ := List.getElem?_eq_some_iff.1 h
  rw [List.take_succ_eq_append_getElem h0, e, List.filter_append]
  congr 1
  by_cases hp : P x = true
  · rw [if_pos hp]; simp [hp]
  · rw [if_neg hp]; simp [hp]
theorem take_map17 {L : List B17} {i : Nat} {b : B17} (h : L[i]? = some b) : (L.take (i + 1)).map B17.p = (L.take i).map B17.p ++ [b.p] := by
  obtain ⟨h0, e⟩ := List.getElem?_eq_some_iff.1 h
  rw [List.take_succ_eq_append_getElem h0, e, List.map_append]
  rfl
def inF17 (a b : Int) (f : F9) : Bool := decide (f.k.h ≥ a) && decide (f.k.h < b)
theorem facts_next17 {L : List B17} {i : Nat} {b : B17} {lo hi : Int} (h : L[i]? = some b) : facts17 ((L.take (i + 1)).map B17.p) lo hi = facts17 ((L.take i).map B17.p) lo hi ++ b.f.filter (inF17 lo hi) := by
  rw [take_map17 h]
  unfold facts17
  rw [List.flatMap_append]
  show _ ++ (_ ++ []) = _
  rw [List.append_nil]
  rfl
/-- Batches whose facts are not many. -/
def Some17 (L : List B17) : Prop := L.length ≤ 100 ∧ ∀ b ∈ L, b.f.length ≤ 1000

set_option maxHeartbeats 8000000 in
theorem ref_facts17 (v : Value) (L : List B17) (lo hi : Int) (w : World) (hv : BR17 w v L) (hf : Some17 L) : Calls Try.prog 20 #[v, .int .i64 lo, .int .i64 hi] w fun e w' => Facts9 w (facts17 (L.map B17.p) lo hi) e w' := by
  have HV := Lib.hid hv
  obtain ⟨A, c, rfl⟩ := hv.shape
  have HFW := Lib.hid hf
  obtain ⟨M, hM⟩ : ∃ M, M = L.length := ⟨_, rfl⟩
  have hMb : M ≤ 100 := by have := hf.1; omega
  rw [← hM]
  rw [← hM] at HV
  have HM := Lib.hid hM
  clear hv hf hM
  go_enter Try.func20, Try.ntmps20
  go_wp2_with fail
  go_loopw [7, 8] (fun x7 x8 wr => ∃ (i : Nat) (out : List F9), x8 = .int .i64 (i : Int) ∧ i ≤ M ∧ out.length ≤ i * 1000 ∧ NewE EF 76 w wr x7 out ∧ out = facts17 ((L.take i).map B17.p) lo hi) (fun _ x8 _ => M - (intOf x8).toNat)
  case atStart => exact ⟨0, [], rfl, Nat.zero_le _, Nat.le_refl _, ⟨OwE.nil _, (fun k e => by simp [Value.ownBlock] at e), Turn.refl _ _⟩, rfl⟩
  case round =>
    obtain ⟨i, out, rfl, hi', hlo, hnew, hsp⟩ := hrel
    have HNW := Lib.hid hnew
    have HSP := Lib.hid hsp
    have HLO := Lib.hid hlo
    obtain ⟨A7, c7, hv7⟩ := hnew.own.shape
    subst hv7
    clear hnew hsp hlo
    by_cases hlt : i < M
    · have hil : (i : Int) < M := by omega
      obtain ⟨b, hb⟩ : ∃ b, L[i]? = some b := ⟨_, List.getElem?_eq_getElem (by rw [← HM.out]; exact hlt)⟩
      have hbm : b ∈ L := List.mem_of_getElem? hb
      obtain ⟨ad, rfl, hc⟩ := bat_at17 HV.out.1 hb
      have HC := Lib.hid hc
      have HNX : Hid (facts17 ((L.take (i + 1)).map B17.p) lo hi = out ++ b.f.filter (inF17 lo hi)) := by show _ = _; rw [facts_next17 hb, HSP.out]
      have HFR : Hid (RdE EF w b.sl b.f) := HV.out.2 b hbm
      have hF1 := HFW.out.2 b hbm
      obtain ⟨sq, tk, bd, A3, c3, fs⟩ := b
      dsimp only [B17.sl] at HC HNX HFR hF1
      obtain ⟨F, hF⟩ : ∃ F, F = fs.length := ⟨_, rfl⟩
      have hFb : F ≤ 1000 := by omega
      rw [← hF] at HC HFR
      have HF := Lib.hid hF
      clear hb hbm hc hF hF1
      obtain ⟨O, hO⟩ : ∃ O, O = out.length := ⟨_, rfl⟩
      rw [← hO] at HNW HLO ⊢
      have hOb : O ≤ 100000 := by have := HLO.out; omega
      have HO := Lib.hid hO
      clear hO
      go_wp2_with fail
      have hE0 : fs.take 0 = [] := rfl
      go_loopw [7, 9] (fun x7 x9 wk => ∃ (k : Nat) (o2 : List F9), x9 = .int .i64 (k : Int) ∧ k ≤ F ∧ o2.length ≤ O + k ∧ NewE EF 76 w wk x7 o2 ∧ o2 = out ++ (fs.take k).filter (inF17 lo hi)) (fun _ x9 _ => F - (intOf x9).toNat)
      case atStart => exact ⟨0, out, rfl, Nat.zero_le _, Nat.le_of_eq HO.out.symm, HNW.out, by rw [hE0]; exact (List.append_nil _).symm⟩
      case round =>
        clear HNW
        obtain ⟨k, o2, rfl, hk, hl2, hnew, hsp⟩ := hrel
        have HNW := Lib.hid hnew
        have HS2 := Lib.hid hsp
        have HL2 := Lib.hid hl2
        obtain ⟨A8, c8, hv8⟩ := hnew.own.shape
        subst hv8
        clear hnew hsp hl2
        obtain ⟨a0, a1, a2, a3⟩ := HC.out wr HNW.out.turn
        by_cases hlk : k < F
        · have hkl : (k : Int) < F := by omega
          obtain ⟨f, hf⟩ : ∃ f, fs[k]? = some f := ⟨_, List.getElem?_eq_getElem (by rw [← HF.out]; exact hlk)⟩
          obtain ⟨fd, rfl, hcf⟩ := fact_at6 HFR.out hf
          have HCF := Lib.hid hcf
          have HTK := Lib.hid (take_filter17 (P := inF17 lo hi) hf)
          obtain ⟨f0, f1, f2, f3, f4, f5⟩ := hcf wr HNW.out.turn
          clear hf hcf
          by_cases hin : lo ≤ f.k.h ∧ f.k.h < hi
          · obtain ⟨h1, h2⟩ := hin
            have HX : Hid (o2 ++ [f] = out ++ (fs.take (k + 1)).filter (inF17 lo hi)) := by
              show _ = _
              rw [HTK.out, HS2.out, if_pos (by unfold inF17; rw [decide_eq_true h1, decide_eq_true h2]; rfl), List.append_assoc]
            have HN7 := Lib.hid (HNW.out.alloc (.cells (EF.enc f).toArray 76))
            have HSR := Lib.hid (one_row EF 76 wr f)
            have HLM : Hid (o2.length + 1 ≤ 1000000) := by show _ ≤ _; have := HL2.out; omega
            go_wp2_with (at_builtin; refine wpList_facts9 _ rfl _ _ rfl _ _ rfl HN7.out.own _ rfl [f] HSR.out HLM.out ?_; intro A5 n5 c5 w5 ho5 ht5 hn5; have HN5 := Lib.hid (HN7.out.step ho5 ht5 hn5); clear ho5 ht5 hn5)
            go_roundw
            case rel => exact ⟨k + 1, _, by go_num, hlk, by rw [List.length_append, List.length_singleton]; have := HL2.out; omega, HN5.out, HX.out⟩
            case measure => simp [intOf]; omega
          · have HX : Hid (o2 = out ++ (fs.take (k + 1)).filter (inF17 lo hi)) := by
              show _ = _
              rw [HTK.out, HS2.out, if_neg (by unfold inF17; rw [Bool.and_eq_true, decide_eq_true_iff, decide_eq_true_iff]; exact hin), List.append_nil]
            by_cases h1 : lo ≤ f.k.h
            · have h2 : ¬ f.k.h < hi := fun e => hin ⟨h1, e⟩
              clear hin
              go_wp2
              go_roundw
              case rel => exact ⟨k + 1, _, by go_num, hlk, by have := HL2.out; omega, HNW.out, HX.out⟩
              case measure => simp [intOf]; omega
            · clear hin
              go_wp2
              go_roundw
              case rel => exact ⟨k + 1, _, by go_num, hlk, by have := HL2.out; omega, HNW.out, HX.out⟩
              case measure => simp [intOf]; omega
        · obtain rfl : k = F := by omega
          have HX : Hid (o2 = facts17 ((L.take (i + 1)).map B17.p) lo hi) := by
            show _ = _
            rw [HNX.out, HS2.out, List.take_of_length_le (Nat.le_of_eq HF.out.symm)]
          have HLZ : Hid (o2.length ≤ (i + 1) * 1000) := by show _ ≤ _; have := HL2.out; have := HLO.out; omega
          go_wp2
          go_roundw
          case rel => exact ⟨i + 1, _, by go_num, hlt, HLZ.out, HNW.out, HX.out⟩
          case measure => simp [intOf]; omega
    · obtain rfl : i = M := by omega
      have HX : Hid (out = facts17 (L.map B17.p) lo hi) := by
        show _ = _
        rw [HSP.out, List.take_of_length_le (Nat.le_of_eq HM.out.symm)]
      go_wp2
      go_ret
      exact ⟨_, rfl, by rw [← HX.out]; exact HNW.out.own.rd, HNW.out.turn⟩

end Go.Proofs.Ytgchfckmhibeaaa

/-
  Stage 17: the document's Trim.
-/
namespace Go.Proofs.Ytgchfckmhibeaaa
open Go.RowKit

set_option maxRecDepth 100000

/-- Within a round: the batch's box, the facts that are kept, in a row of its own. -/
structure InT17 (w0 : World) (q : Nat) (b : B17) (W : World) : Prop where
  box : Box W q 52 (bcells17 b)
  new : NewE EF 76 w0 W b.sl b.f
  lo : w0.heap.size ≤ q
theorem InT17.off {w0 W : World} {q : Nat} {b : B17} (h : InT17 w0 q b W) : b.sl.ownBlock ≠ some q := h.new.own.not_box h.box (by decide)
theorem InT17.later {w0 W W1 : World} {q : Nat} {b : B17} (h : InT17 w0 q b W) (ht : Turn (fun _ => False) W W1) : InT17 w0 q b W1 :=
  ⟨h.box.turn ht (fun f => f), h.new.later ht, h.lo⟩
theorem InT17.put {w0 W W1 W2 : World} {q : Nat} {b : B17} {A2 : Option Addr} {n2 c2 : Nat} {M : List F9} (h : InT17 w0 q b W) (h1 : Turn (fun _ => False) W W1) (ho : OwE EF 76 W2 (.slice A2 n2 c2) M)
    (ht : Turn (fun k => b.sl.ownBlock = some k) W1 W2) (hn : (Value.slice A2 n2 c2).ownBlock = b.sl.ownBlock ∨ (Value.slice A2 n2 c2).ownBlock = some W1.heap.size) :
    InT17 w0 q ⟨b.seq, b.tick, b.bud, A2, c2, M⟩ (W2.setCell ⟨q, 3, none⟩ (.slice A2 n2 c2)) := by
  have hl := h.later h1
  have hn2 := hl.new.step ho ht hn
  have hb2 := hl.box.turn ht hl.off
  have hs : Turn (fun g => g = q) W2 (W2.setCell ⟨q, 3, none⟩ (.slice A2 n2 c2)) := Turn.setCell (S := fun g => g = q) (p := ⟨q, 3, none⟩) (Turn.refl _ W2) (fun _ => rfl) _
  obtain ⟨A', c', e⟩ := ho.shape
  injection e with e1 e2 e3
  subst e2
  have hb3 := hb2.set 3 (.slice A2 M.length c2)
  simp only [List.setIfInBounds_toArray, List.set_cons_succ, List.set_cons_zero] at hb3
  have ho2 := ho.not_box hb2 (by decide)
  exact ⟨hb3, ⟨ho.turn hs (fun k hk e => ho2 (by rw [hk, e])), hn2.new, hn2.turn.trans hs (fun k hk e => by have := h.lo; omega)⟩, h.lo⟩
def trim1 (lo hi mark : Int) (x : P17) : List P17 := if (x.f.filter (keepF17 x.seq mark lo hi)).isEmpty then [] else [{ x with f := x.f.filter (keepF17 x.seq mark lo hi) }]
theorem trim_next17 {L : List B17} {i : Nat} {b : B17} {lo hi mark : Int} (h : L[i]? = some b) : trim17 ((L.take (i + 1)).map B17.p) lo hi mark = trim17 ((L.take i).map B17.p) lo hi mark ++ trim1 lo hi mark b.p := by
  rw [take_map17 h]
  unfold trim17 trim1
  rw [List.map_append, List.filter_append]
  congr 1
  simp only [List.map_cons, List.map_nil]
  by_cases he : (b.p.f.filter (keepF17 b.p.seq mark lo hi)).isEmpty
  · simp [he]
  · simp [he]
theorem keep_mark17 {q mark lo hi : Int} {f : F9} (h : mark < q) : keepF17 q mark lo hi f = true := by unfold keepF17; rw [decide_eq_true (show q > mark from h)]; rfl
theorem keep_lo17 {q mark lo hi : Int} {f : F9} (h : f.k.h < lo) : keepF17 q mark lo hi f = true := by unfold keepF17; rw [decide_eq_true h, Bool.or_true]; rfl
theorem keep_hi17 {q mark lo hi : Int} {f : F9} (h : hi ≤ f.k.h) : keepF17 q mark lo hi f = true := by unfold keepF17; rw [decide_eq_true (show f.k.h ≥ hi from h), Bool.or_true]
theorem keep_no17 {q mark lo hi : Int} {f : F9} (h1 : ¬ mark < q) (h2 : ¬ f.k.h < lo) (h3 : ¬ hi ≤ f.k.h) : ¬ keepF17 q mark lo hi f = true := by
  unfold keepF17
  rw [decide_eq_false (show ¬ q > mark from h1), decide_eq_false h2, decide_eq_false (show ¬ f.k.h ≥ hi from h3)]
  decide

/-- Behind Trim. -/
def Trimmed17 (w : World) (r : List P17) (e : Ending) (w' : World) : Prop := ∃ v L, e = .returned v ∧ L.map B17.p = r ∧ BR17 w' v L ∧ Turn (fun _ => False) w w'
set_option maxHeartbeats 16000000 in
theorem ref_trim17 (v : Value) (L : List B17) (lo hi mark : Int) (w : World) (hv : BR17 w v L) (hf : Some17 L) : Calls Try.prog 17 #[v, .int .i64 lo, .int .i64 hi, .int .i64 mark] w fun e w' => Trimmed17 w (trim17 (L.map B17.p) lo hi mark) e w' := by
  have HV := Lib.hid hv
  obtain ⟨A, c, rfl⟩ := hv.shape
  have HFW := Lib.hid hf
  obtain ⟨M, hM⟩ : ∃ M, M = L.length := ⟨_, rfl⟩
  have hMb : M ≤ 100 := by have := hf.1; omega
  rw [← hM]
  rw [← hM] at HV
  have HM := Lib.hid hM
  clear hv hf hM
  go_enter Try.func17, Try.ntmps17
  go_wp2_with fail
  go_loopw [9, 10] (fun x9 x10 wr => ∃ (i : Nat) (out : List B17), x10 = .int .i64 (i : Int) ∧ i ≤ M ∧ out.length ≤ i ∧ NewE EB17 52 w wr x9 out ∧ Off17 wr x9 out ∧ out.map B17.p = trim17 ((L.take i).map B17.p) lo hi mark) (fun _ x10 _ => M - (intOf x10).toNat)
  case atStart => exact ⟨0, [], rfl, Nat.zero_le _, Nat.le_refl _, ⟨OwE.nil _, (fun k e => by simp [Value.ownBlock] at e), Turn.refl _ _⟩, Off17.nil _ _, rfl⟩
  case round =>
    obtain ⟨i, out, rfl, hi', hlo, hnew, hoff, hsp⟩ := hrel
    have HNW := Lib.hid hnew
    have HOF := Lib.hid hoff
    have HSP := Lib.hid hsp
    have HLO := Lib.hid hlo
    obtain ⟨A9, c9, hv9⟩ := hnew.own.shape
    subst hv9
    clear hnew hoff hsp hlo
    by_cases hlt : i < M
    · have hil : (i : Int) < M := by omega
      obtain ⟨b, hb⟩ : ∃ b, L[i]? = some b := ⟨_, List.getElem?_eq_getElem (by rw [← HM.out]; exact hlt)⟩
      have hbm : b ∈ L := List.mem_of_getElem? hb
      obtain ⟨ad, rfl, hc⟩ := bat_at17 HV.out.1 hb
      have HNX : Hid (trim17 ((L.take (i + 1)).map B17.p) lo hi mark = out.map B17.p ++ trim1 lo hi mark b.p) := by show _ = _; rw [trim_next17 hb, HSP.out]
      have HFR : Hid (RdE EF w b.sl b.f) := HV.out.2 b hbm
      have hF1 := HFW.out.2 b hbm
      obtain ⟨sq, tk, bd, A3, c3, fs⟩ := b
      dsimp only [B17.sl, B17.p] at hc HNX HFR hF1
      obtain ⟨F, hF⟩ : ∃ F, F = fs.length := ⟨_, rfl⟩
      have hFb : F ≤ 1000 := by omega
      rw [← hF] at hc HFR
      have HC := Lib.hid hc
      have HF := Lib.hid hF
      obtain ⟨y0, y1, y2, y3⟩ := hc wr HNW.out.turn
      obtain ⟨q, hq⟩ : ∃ q, q = wr.heap.size := ⟨_, rfl⟩
      obtain ⟨wq, hwq⟩ : ∃ wq, wq = wr.alloc (.cells #[.int .i64 sq, .int .i64 tk, .int .i64 bd, .slice none 0 0] 52) := ⟨_, rfl⟩
      have HIN : Hid (InT17 wr q ⟨sq, tk, bd, none, 0, []⟩ wq) := by
        have h0 := Box.new wr 52 (bcells17 ⟨sq, tk, bd, none, 0, []⟩)
        rw [← hq] at h0
        rw [hwq]
        exact ⟨h0, ⟨OwE.nil _, (fun k e => by simp [Value.ownBlock] at e), (Turn.refl (fun _ => False) wr).alloc _⟩, Nat.le_of_eq hq.symm⟩
      have HWQ := Lib.hid hwq; have HQ := Lib.hid hq
      clear hb hbm hc hF hF1 hq hwq
      go_wp2_with fail
      rw [← HQ.out, ← HWQ.out]
      clear y0 y1 y2 y3 HWQ HQ
      have HTO : Hid (Turn (fun _ => False) w wr) := HNW.out.turn
      have hE0 : fs.take 0 = [] := rfl
      obtain ⟨wo, hwo⟩ : ∃ wo, wo = wr := ⟨_, rfl⟩
      subst hwo
      go_loopw [12] (fun x12 wk => ∃ (k : Nat) (A5 : Option Addr) (c5 : Nat) (fl : List F9), x12 = .int .i64 (k : Int) ∧ k ≤ F ∧ fl.length ≤ k ∧ fl = (fs.take k).filter (keepF17 sq mark lo hi) ∧ InT17 wo q ⟨sq, tk, bd, A5, c5, fl⟩ wk) (fun x12 _ => F - (intOf x12).toNat)
      case atStart => exact ⟨0, none, 0, [], rfl, Nat.zero_le _, Nat.le_refl _, by rw [hE0]; rfl, HIN.out⟩
      case round =>
        clear HIN
        obtain ⟨k, A5, c5, fl, rfl, hk, hfl, hfs, hin⟩ := hrel
        have HI := Lib.hid hin
        have HFS := Lib.hid hfs
        have HFL := Lib.hid hfl
        have HTW : Hid (Turn (fun _ => False) w wr) := HTO.out.trans hin.new.turn (fun _ _ f => f)
        obtain ⟨a0, a1, a2, a3⟩ := HC.out wr HTW.out
        clear hin hfs hfl
        by_cases hlk : k < F
        · have hkl : (k : Int) < F := by omega
          obtain ⟨f, hf⟩ : ∃ f, fs[k]? = some f := ⟨_, List.getElem?_eq_getElem (by rw [← HF.out]; exact hlk)⟩
          obtain ⟨fd, rfl, hcf⟩ := fact_at6 HFR.out hf
          have HCF := Lib.hid hcf
          have HTK := Lib.hid (take_filter17 (P := keepF17 sq mark lo hi) hf)
          obtain ⟨f0, f1, f2, f3, f4, f5⟩ := hcf wr HTW.out
          clear hf hcf
          by_cases h1 : mark < sq
          · have HKP : Hid (keepF17 sq mark lo hi f = true) := keep_mark17 h1
            have HX : Hid (fl ++ [f] = (fs.take (k + 1)).filter (keepF17 sq mark lo hi)) := by
              show _ = _
              rw [HTK.out, if_pos HKP.out, HFS.out]
            have HB3 : Hid (∀ W, Turn (fun g => (Value.slice A5 fl.length c5).ownBlock = some g) wr W → W.cell? ⟨q, 3, none⟩ = some (.slice A5 fl.length c5)) := fun W hW => (HI.out.box.turn hW HI.out.off).cell 3
            have HTA : Hid (∀ W, Turn (fun g => (Value.slice A5 fl.length c5).ownBlock = some g) wr W → Turn (fun _ => False) w W) := fun W hW => HTW.out.trans hW (fun g hg e => by have h1 := HI.out.new.new g e; have h2 := HTO.out.size; omega)
            have HOW := Lib.hid HI.out.new.own
            go_wp2_with fail
            refine drawn_region (fun W => Turn (fun g => (Value.slice A5 fl.length c5).ownBlock = some g) wr W) [13] (by kernel_rfl) ?_
            have HWD : Hid (Turn (fun _ => False) wr (World.drew wr)) := (Turn.refl _ wr).drew
            have hS0 : Turn (fun g => (Value.slice A5 fl.length c5).ownBlock = some g) wr (World.drew wr) := HWD.out.mono (fun _ _ f => f.elim)
            generalize World.drew wr = wd at *
            clear a0 a1 a2 a3 f0 f1 f2 f3 f4 f5
            refine drawn_take 0 62 (.pointer (some ⟨q, 3, none⟩)) rfl rfl (by kernel_rfl) (by kernel_rfl) (by kernel_rfl) (by kernel_rfl) (fun _ _ _ h => h) (by rfl) (by assumption) (by intro w hSw; obtain hS1 := hSw; go_simp) ?_
            try simp only [List.setIfInBounds_toArray, List.set_cons_zero, List.set_cons_succ]
            refine drawn_take 1 63 (.slice A5 fl.length c5) rfl rfl (by kernel_rfl) (by kernel_rfl) (by kernel_rfl) (by kernel_rfl) (fun _ _ _ h => h) (by rfl) (by assumption) (by intro w hSw; have b3 := HB3.out _ hSw; clear hSw; go_simp) ?_
            try simp only [List.setIfInBounds_toArray, List.set_cons_zero, List.set_cons_succ]
            refine drawn_take 2 64 (.slice (some ad) M c) rfl rfl (by kernel_rfl) (by kernel_rfl) (by kernel_rfl) (by kernel_rfl) (fun _ _ _ h => h) (by rfl) (by assumption) (by intro w hSw; obtain hS1 := hSw; go_simp) ?_
            try simp only [List.setIfInBounds_toArray, List.set_cons_zero, List.set_cons_succ]
            refine drawn_take 3 65 (.int .i64 (i : Int)) rfl rfl (by kernel_rfl) (by kernel_rfl) (by kernel_rfl) (by kernel_rfl) (fun _ _ _ h => h) (by rfl) (by assumption) (by intro w hSw; obtain hS1 := hSw; go_simp) ?_
            try simp only [List.setIfInBounds_toArray, List.set_cons_zero, List.set_cons_succ]
            refine drawn_take 4 66 (.pointer (some (ad.add (i * 4)))) rfl rfl (by kernel_rfl) (by kernel_rfl) (by kernel_rfl) (by kernel_rfl) (fun _ _ _ h => h) (by rfl) (by assumption) (by intro w hSw; obtain hS1 := hSw; go_simp) ?_
            try simp only [List.setIfInBounds_toArray, List.set_cons_zero, List.set_cons_succ]
            refine drawn_take 5 67 (.pointer (some ⟨(ad.add (i * 4)).block, (ad.add (i * 4)).off + 3, none⟩)) rfl rfl (by kernel_rfl) (by kernel_rfl) (by kernel_rfl) (by kernel_rfl) (fun _ _ _ h => h) (by rfl) (by assumption) (by intro w hSw; obtain hS1 := hSw; go_simp) ?_
            try simp only [List.setIfInBounds_toArray, List.set_cons_zero, List.set_cons_succ]
            refine drawn_take 6 68 (.slice (some fd) F c3) rfl rfl (by kernel_rfl) (by kernel_rfl) (by kernel_rfl) (by kernel_rfl) (fun _ _ _ h => h) (by rfl) (by assumption) (by intro w hSw; obtain ⟨-, -, -, b3⟩ := HC.out _ (HTA.out _ hSw); clear hSw; go_simp) ?_
            try simp only [List.setIfInBounds_toArray, List.set_cons_zero, List.set_cons_succ]
            refine drawn_take 7 69 (.int .i64 (k : Int)) rfl rfl (by kernel_rfl) (by kernel_rfl) (by kernel_rfl) (by kernel_rfl) (fun _ _ _ h => h) (by rfl) (by assumption) (by intro w hSw; obtain hS1 := hSw; go_simp) ?_
            try simp only [List.setIfInBounds_toArray, List.set_cons_zero, List.set_cons_succ]
            refine drawn_take 8 70 (.pointer (some (fd.add (k * 6)))) rfl rfl (by kernel_rfl) (by kernel_rfl) (by kernel_rfl) (by kernel_rfl) (fun _ _ _ h => h) (by rfl) (by assumption) (by intro w hSw; obtain hS1 := hSw; go_simp) ?_
            try simp only [List.setIfInBounds_toArray, List.set_cons_zero, List.set_cons_succ]
            refine drawn_take 9 71 (fv9 f) rfl rfl (by kernel_rfl) (by kernel_rfl) (by kernel_rfl) (by kernel_rfl) (fun _ _ _ h => h) (by rfl) (by assumption) (by intro w hSw; obtain ⟨b0, b1, b2, b3, b4, b5⟩ := HCF.out _ (HTA.out _ hSw); clear hSw; go_simp) ?_
            try simp only [List.setIfInBounds_toArray, List.set_cons_zero, List.set_cons_succ]
            refine drawn_any [10] (by kernel_rfl) (by simp) ?_
            refine drawn_cons rfl (fun K hK => ?_) drawn_nil
            go_simp
            have hS4 := hS0.alloc (.cells (EF.enc f).toArray 76)
            have HSR := Lib.hid (one_row EF 76 wd f)
            have HW4 : Hid (Turn (fun _ => False) wr (wd.alloc (.cells (EF.enc f).toArray 76))) := HWD.out.alloc _
            refine hK.out _ _ _ hS4 ?_
            clear hK K hS0
            try simp only [List.setIfInBounds_toArray, List.set_cons_zero, List.set_cons_succ]
            refine drawn_any [11] (by kernel_rfl) (by simp) ?_
            refine drawn_cons rfl (fun K1 hK => ?_) drawn_nil
            refine put_app Try.underlying43 fact_info fact_zero (by omega) fl (HOW.out.turn HW4.out (fun _ _ f => f)) [f] HSR.out (by have := HFL.out; simp only [List.length_cons, List.length_nil]; omega) ?_
            intro A2 n2 c2 w2 ho ht hn
            have HPT := Lib.hid (HI.out.put HW4.out ho ht hn)
            have hS2 : Turn (fun g => (Value.slice A5 fl.length c5).ownBlock = some g) wr w2 := (HW4.out.mono (fun _ _ f => f.elim)).trans ht (fun _ _ e => e)
            have HB2 := Lib.hid (HI.out.box.turn hS2 HI.out.off)
            refine hK.out _ _ _ hS2 ?_
            clear hK K1 ho ht hn hS4
            try simp only [List.setIfInBounds_toArray, List.set_cons_zero, List.set_cons_succ]
            refine drawn_take 12 74 (.pointer (some ⟨q, 3, none⟩)) rfl rfl (by kernel_rfl) (by kernel_rfl) (by kernel_rfl) (by kernel_rfl) (fun _ _ _ h => h) (by rfl) (by assumption) (by intro w hSw; obtain hS1 := hSw; go_simp) ?_
            try simp only [List.setIfInBounds_toArray, List.set_cons_zero, List.set_cons_succ]
            have z1 := HB2.out.cell 3
            have z2 := HB2.out.free 3
            clear hS2
            refine drawn_last (z := 13) rfl (by kernel_rfl) (by kernel_rfl) (by kernel_rfl) (fun K1 hK => ?_)
            go_simp
            refine hK.out _ _ ?_
            clear hK K1 z1 z2
            go_wp2
            go_roundw
            case rel => exact ⟨k + 1, _, _, _, by go_num, hlk, by rw [List.length_append, List.length_singleton]; have := HFL.out; omega, HX.out, HPT.out⟩
            case measure => simp [intOf]; omega
          · by_cases h2 : f.k.h < lo
            · have HKP : Hid (keepF17 sq mark lo hi f = true) := keep_lo17 h2
              have HX : Hid (fl ++ [f] = (fs.take (k + 1)).filter (keepF17 sq mark lo hi)) := by
                show _ = _
                rw [HTK.out, if_pos HKP.out, HFS.out]
              have HB3 : Hid (∀ W, Turn (fun g => (Value.slice A5 fl.length c5).ownBlock = some g) wr W → W.cell? ⟨q, 3, none⟩ = some (.slice A5 fl.length c5)) := fun W hW => (HI.out.box.turn hW HI.out.off).cell 3
              have HTA : Hid (∀ W, Turn (fun g => (Value.slice A5 fl.length c5).ownBlock = some g) wr W → Turn (fun _ => False) w W) := fun W hW => HTW.out.trans hW (fun g hg e => by have h1 := HI.out.new.new g e; have h2 := HTO.out.size; omega)
              have HOW := Lib.hid HI.out.new.own
              go_wp2_with fail
              refine drawn_region (fun W => Turn (fun g => (Value.slice A5 fl.length c5).ownBlock = some g) wr W) [13] (by kernel_rfl) ?_
              have HWD : Hid (Turn (fun _ => False) wr (World.drew wr)) := (Turn.refl _ wr).drew
              have hS0 : Turn (fun g => (Value.slice A5 fl.length c5).ownBlock = some g) wr (World.drew wr) := HWD.out.mono (fun _ _ f => f.elim)
              generalize World.drew wr = wd at *
              clear a0 a1 a2 a3 f0 f1 f2 f3 f4 f5
              refine drawn_take 0 62 (.pointer (some ⟨q, 3, none⟩)) rfl rfl (by kernel_rfl) (by kernel_rfl) (by kernel_rfl) (by kernel_rfl) (fun _ _ _ h => h) (by rfl) (by assumption) (by intro w hSw; obtain hS1 := hSw; go_simp) ?_
              try simp only [List.setIfInBounds_toArray, List.set_cons_zero, List.set_cons_succ]
              refine drawn_take 1 63 (.slice A5 fl.length c5) rfl rfl (by kernel_rfl) (by kernel_rfl) (by kernel_rfl) (by kernel_rfl) (fun _ _ _ h => h) (by rfl) (by assumption) (by intro w hSw; have b3 := HB3.out _ hSw; clear hSw; go_simp) ?_
              try simp only [List.setIfInBounds_toArray, List.set_cons_zero, List.set_cons_succ]
              refine drawn_take 2 64 (.slice (some ad) M c) rfl rfl (by kernel_rfl) (by kernel_rfl) (by kernel_rfl) (by kernel_rfl) (fun _ _ _ h => h) (by rfl) (by assumption) (by intro w hSw; obtain hS1 := hSw; go_simp) ?_
              try simp only [List.setIfInBounds_toArray, List.set_cons_zero, List.set_cons_succ]
              refine drawn_take 3 65 (.int .i64 (i : Int)) rfl rfl (by kernel_rfl) (by kernel_rfl) (by kernel_rfl) (by kernel_rfl) (fun _ _ _ h => h) (by rfl) (by assumption) (by intro w hSw; obtain hS1 := hSw; go_simp) ?_
              try simp only [List.setIfInBounds_toArray, List.set_cons_zero, List.set_cons_succ]
              refine drawn_take 4 66 (.pointer (some (ad.add (i * 4)))) rfl rfl (by kernel_rfl) (by kernel_rfl) (by kernel_rfl) (by kernel_rfl) (fun _ _ _ h => h) (by rfl) (by assumption) (by intro w hSw; obtain hS1 := hSw; go_simp) ?_
              try simp only [List.setIfInBounds_toArray, List.set_cons_zero, List.set_cons_succ]
              refine drawn_take 5 67 (.pointer (some ⟨(ad.add (i * 4)).block, (ad.add (i * 4)).off + 3, none⟩)) rfl rfl (by kernel_rfl) (by kernel_rfl) (by kernel_rfl) (by kernel_rfl) (fun _ _ _ h => h) (by rfl) (by assumption) (by intro w hSw; obtain hS1 := hSw; go_simp) ?_
              try simp only [List.setIfInBounds_toArray, List.set_cons_zero, List.set_cons_succ]
              refine drawn_take 6 68 (.slice (some fd) F c3) rfl rfl (by kernel_rfl) (by kernel_rfl) (by kernel_rfl) (by kernel_rfl) (fun _ _ _ h => h) (by rfl) (by assumption) (by intro w hSw; obtain ⟨-, -, -, b3⟩ := HC.out _ (HTA.out _ hSw); clear hSw; go_simp) ?_
              try simp only [List.setIfInBounds_toArray, List.set_cons_zero, List.set_cons_succ]
              refine drawn_take 7 69 (.int .i64 (k : Int)) rfl rfl (by kernel_rfl) (by kernel_rfl) (by kernel_rfl) (by kernel_rfl) (fun _ _ _ h => h) (by rfl) (by assumption) (by intro w hSw; obtain hS1 := hSw; go_simp) ?_
              try simp only [List.setIfInBounds_toArray, List.set_cons_zero, List.set_cons_succ]
              refine drawn_take 8 70 (.pointer (some (fd.add (k * 6)))) rfl rfl (by kernel_rfl) (by kernel_rfl) (by kernel_rfl) (by kernel_rfl) (fun _ _ _ h => h) (by rfl) (by assumption) (by intro w hSw; obtain hS1 := hSw; go_simp) ?_
              try simp only [List.setIfInBounds_toArray, List.set_cons_zero, List.set_cons_succ]
              refine drawn_take 9 71 (fv9 f) rfl rfl (by kernel_rfl) (by kernel_rfl) (by kernel_rfl) (by kernel_rfl) (fun _ _ _ h => h) (by rfl) (by assumption) (by intro w hSw; obtain ⟨b0, b1, b2, b3, b4, b5⟩ := HCF.out _ (HTA.out _ hSw); clear hSw; go_simp) ?_
              try simp only [List.setIfInBounds_toArray, List.set_cons_zero, List.set_cons_succ]
              refine drawn_any [10] (by kernel_rfl) (by simp) ?_
              refine drawn_cons rfl (fun K hK => ?_) drawn_nil
              go_simp
              have hS4 := hS0.alloc (.cells (EF.enc f).toArray 76)
              have HSR := Lib.hid (one_row EF 76 wd f)
              have HW4 : Hid (Turn (fun _ => False) wr (wd.alloc (.cells (EF.enc f).toArray 76))) := HWD.out.alloc _
              refine hK.out _ _ _ hS4 ?_
              clear hK K hS0
              try simp only [List.setIfInBounds_toArray, List.set_cons_zero, List.set_cons_succ]
              refine drawn_any [11] (by kernel_rfl) (by simp) ?_
              refine drawn_cons rfl (fun K1 hK => ?_) drawn_nil
              refine put_app Try.underlying43 fact_info fact_zero (by omega) fl (HOW.out.turn HW4.out (fun _ _ f => f)) [f] HSR.out (by have := HFL.out; simp only [List.length_cons, List.length_nil]; omega) ?_
              intro A2 n2 c2 w2 ho ht hn
              have HPT := Lib.hid (HI.out.put HW4.out ho ht hn)
              have hS2 : Turn (fun g => (Value.slice A5 fl.length c5).ownBlock = some g) wr w2 := (HW4.out.mono (fun _ _ f => f.elim)).trans ht (fun _ _ e => e)
              have HB2 := Lib.hid (HI.out.box.turn hS2 HI.out.off)
              refine hK.out _ _ _ hS2 ?_
              clear hK K1 ho ht hn hS4
              try simp only [List.setIfInBounds_toArray, List.set_cons_zero, List.set_cons_succ]
              refine drawn_take 12 74 (.pointer (some ⟨q, 3, none⟩)) rfl rfl (by kernel_rfl) (by kernel_rfl) (by kernel_rfl) (by kernel_rfl) (fun _ _ _ h => h) (by rfl) (by assumption) (by intro w hSw; obtain hS1 := hSw; go_simp) ?_
              try simp only [List.setIfInBounds_toArray, List.set_cons_zero, List.set_cons_succ]
              have z1 := HB2.out.cell 3
              have z2 := HB2.out.free 3
              clear hS2
              refine drawn_last (z := 13) rfl (by kernel_rfl) (by kernel_rfl) (by kernel_rfl) (fun K1 hK => ?_)
              go_simp
              refine hK.out _ _ ?_
              clear hK K1 z1 z2
              go_wp2
              go_roundw
              case rel => exact ⟨k + 1, _, _, _, by go_num, hlk, by rw [List.length_append, List.length_singleton]; have := HFL.out; omega, HX.out, HPT.out⟩
              case measure => simp [intOf]; omega
            · by_cases h3 : hi ≤ f.k.h
              · have HKP : Hid (keepF17 sq mark lo hi f = true) := keep_hi17 h3
                have HX : Hid (fl ++ [f] = (fs.take (k + 1)).filter (keepF17 sq mark lo hi)) := by
                  show _ = _
                  rw [HTK.out, if_pos HKP.out, HFS.out]
                have HB3 : Hid (∀ W, Turn (fun g => (Value.slice A5 fl.length c5).ownBlock = some g) wr W → W.cell? ⟨q, 3, none⟩ = some (.slice A5 fl.length c5)) := fun W hW => (HI.out.box.turn hW HI.out.off).cell 3
                have HTA : Hid (∀ W, Turn (fun g => (Value.slice A5 fl.length c5).ownBlock = some g) wr W → Turn (fun _ => False) w W) := fun W hW => HTW.out.trans hW (fun g hg e => by have h1 := HI.out.new.new g e; have h2 := HTO.out.size; omega)
                have HOW := Lib.hid HI.out.new.own
                go_wp2_with fail
                refine drawn_region (fun W => Turn (fun g => (Value.slice A5 fl.length c5).ownBlock = some g) wr W) [13] (by kernel_rfl) ?_
                have HWD : Hid (Turn (fun _ => False) wr (World.drew wr)) := (Turn.refl _ wr).drew
                have hS0 : Turn (fun g => (Value.slice A5 fl.length c5).ownBlock = some g) wr (World.drew wr) := HWD.out.mono (fun _ _ f => f.elim)
                generalize World.drew wr = wd at *
                clear a0 a1 a2 a3 f0 f1 f2 f3 f4 f5
                refine drawn_take 0 62 (.pointer (some ⟨q, 3, none⟩)) rfl rfl (by kernel_rfl) (by kernel_rfl) (by kernel_rfl) (by kernel_rfl) (fun _ _ _ h => h) (by rfl) (by assumption) (by intro w hSw; obtain hS1 := hSw; go_simp) ?_
                try simp only [List.setIfInBounds_toArray, List.set_cons_zero, List.set_cons_succ]
                refine drawn_take 1 63 (.slice A5 fl.length c5) rfl rfl (by kernel_rfl) (by kernel_rfl) (by kernel_rfl) (by kernel_rfl) (fun _ _ _ h => h) (by rfl) (by assumption) (by intro w hSw; have b3 := HB3.out _ hSw; clear hSw; go_simp) ?_
                try simp only [List.setIfInBounds_toArray, List.set_cons_zero, List.set_cons_succ]
                refine drawn_take 2 64 (.slice (some ad) M c) rfl rfl (by kernel_rfl) (by kernel_rfl) (by kernel_rfl) (by kernel_rfl) (fun _ _ _ h => h) (by rfl) (by assumption) (by intro w hSw; obtain hS1 := hSw; go_simp) ?_
                try simp only [List.setIfInBounds_toArray, List.set_cons_zero, List.set_cons_succ]
                refine drawn_take 3 65 (.int .i64 (i : Int)) rfl rfl (by kernel_rfl) (by kernel_rfl) (by kernel_rfl) (by kernel_rfl) (fun _ _ _ h => h) (by rfl) (by assumption) (by intro w hSw; obtain hS1 := hSw; go_simp) ?_
                try simp only [List.setIfInBounds_toArray, List.set_cons_zero, List.set_cons_succ]
                refine drawn_take 4 66 (.pointer (some (ad.add (i * 4)))) rfl rfl (by kernel_rfl) (by kernel_rfl) (by kernel_rfl) (by kernel_rfl) (fun _ _ _ h => h) (by rfl) (by assumption) (by intro w hSw; obtain hS1 := hSw; go_simp) ?_
                try simp only [List.setIfInBounds_toArray, List.set_cons_zero, List.set_cons_succ]
                refine drawn_take 5 67 (.pointer (some ⟨(ad.add (i * 4)).block, (ad.add (i * 4)).off + 3, none⟩)) rfl rfl (by kernel_rfl) (by kernel_rfl) (by kernel_rfl) (by kernel_rfl) (fun _ _ _ h => h) (by rfl) (by assumption) (by intro w hSw; obtain hS1 := hSw; go_simp) ?_
                try simp only [List.setIfInBounds_toArray, List.set_cons_zero, List.set_cons_succ]
                refine drawn_take 6 68 (.slice (some fd) F c3) rfl rfl (by kernel_rfl) (by kernel_rfl) (by kernel_rfl) (by kernel_rfl) (fun _ _ _ h => h) (by rfl) (by assumption) (by intro w hSw; obtain ⟨-, -, -, b3⟩ := HC.out _ (HTA.out _ hSw); clear hSw; go_simp) ?_
                try simp only [List.setIfInBounds_toArray, List.set_cons_zero, List.set_cons_succ]
                refine drawn_take 7 69 (.int .i64 (k : Int)) rfl rfl (by kernel_rfl) (by kernel_rfl) (by kernel_rfl) (by kernel_rfl) (fun _ _ _ h => h) (by rfl) (by assumption) (by intro w hSw; obtain hS1 := hSw; go_simp) ?_
                try simp only [List.setIfInBounds_toArray, List.set_cons_zero, List.set_cons_succ]
                refine drawn_take 8 70 (.pointer (some (fd.add (k * 6)))) rfl rfl (by kernel_rfl) (by kernel_rfl) (by kernel_rfl) (by kernel_rfl) (fun _ _ _ h => h) (by rfl) (by assumption) (by intro w hSw; obtain hS1 := hSw; go_simp) ?_
                try simp only [List.setIfInBounds_toArray, List.set_cons_zero, List.set_cons_succ]
                refine drawn_take 9 71 (fv9 f) rfl rfl (by kernel_rfl) (by kernel_rfl) (by kernel_rfl) (by kernel_rfl) (fun _ _ _ h => h) (by rfl) (by assumption) (by intro w hSw; obtain ⟨b0, b1, b2, b3, b4, b5⟩ := HCF.out _ (HTA.out _ hSw); clear hSw; go_simp) ?_
                try simp only [List.setIfInBounds_toArray, List.set_cons_zero, List.set_cons_succ]
                refine drawn_any [10] (by kernel_rfl) (by simp) ?_
                refine drawn_cons rfl (fun K hK => ?_) drawn_nil
                go_simp
                have hS4 := hS0.alloc (.cells (EF.enc f).toArray 76)
                have HSR := Lib.hid (one_row EF 76 wd f)
                have HW4 : Hid (Turn (fun _ => False) wr (wd.alloc (.cells (EF.enc f).toArray 76))) := HWD.out.alloc _
                refine hK.out _ _ _ hS4 ?_
                clear hK K hS0
                try simp only [List.setIfInBounds_toArray, List.set_cons_zero, List.set_cons_succ]
                refine drawn_any [11] (by kernel_rfl) (by simp) ?_
                refine drawn_cons rfl (fun K1 hK => ?_) drawn_nil
                refine put_app Try.underlying43 fact_info fact_zero (by omega) fl (HOW.out.turn HW4.out (fun _ _ f => f)) [f] HSR.out (by have := HFL.out; simp only [List.length_cons, List.length_nil]; omega) ?_
                intro A2 n2 c2 w2 ho ht hn
                have HPT := Lib.hid (HI.out.put HW4.out ho ht hn)
                have hS2 : Turn (fun g => (Value.slice A5 fl.length c5).ownBlock = some g) wr w2 := (HW4.out.mono (fun _ _ f => f.elim)).trans ht (fun _ _ e => e)
                have HB2 := Lib.hid (HI.out.box.turn hS2 HI.out.off)
                refine hK.out _ _ _ hS2 ?_
                clear hK K1 ho ht hn hS4
                try simp only [List.setIfInBounds_toArray, List.set_cons_zero, List.set_cons_succ]
                refine drawn_take 12 74 (.pointer (some ⟨q, 3, none⟩)) rfl rfl (by kernel_rfl) (by kernel_rfl) (by kernel_rfl) (by kernel_rfl) (fun _ _ _ h => h) (by rfl) (by assumption) (by intro w hSw; obtain hS1 := hSw; go_simp) ?_
                try simp only [List.setIfInBounds_toArray, List.set_cons_zero, List.set_cons_succ]
                have z1 := HB2.out.cell 3
                have z2 := HB2.out.free 3
                clear hS2
                refine drawn_last (z := 13) rfl (by kernel_rfl) (by kernel_rfl) (by kernel_rfl) (fun K1 hK => ?_)
                go_simp
                refine hK.out _ _ ?_
                clear hK K1 z1 z2
                go_wp2
                go_roundw
                case rel => exact ⟨k + 1, _, _, _, by go_num, hlk, by rw [List.length_append, List.length_singleton]; have := HFL.out; omega, HX.out, HPT.out⟩
                case measure => simp [intOf]; omega
              · have HX : Hid (fl = (fs.take (k + 1)).filter (keepF17 sq mark lo hi)) := by
                  show _ = _
                  rw [HTK.out, if_neg (keep_no17 h1 h2 h3), HFS.out, List.append_nil]
                go_wp2
                go_roundw
                case rel => exact ⟨k + 1, _, _, _, by go_num, hlk, by have := HFL.out; omega, HX.out, HI.out⟩
                case measure => simp [intOf]; omega
        · obtain rfl : k = F := by omega
          have HFE : Hid (fl = fs.filter (keepF17 sq mark lo hi)) := by
            show _ = _
            rw [HFS.out, List.take_of_length_le (Nat.le_of_eq HF.out.symm)]
          obtain ⟨b0, b1, b2, b3⟩ := box_bat17 HI.out.box
          obtain ⟨G, hG⟩ : ∃ G, G = fl.length := ⟨_, rfl⟩
          have HG := Lib.hid hG
          dsimp only [B17.sl] at b0 b1 b2 b3
          rw [← hG] at b3
          clear hG
          by_cases hG0 : 0 < G
          · have HX : Hid ((out ++ [(⟨sq, tk, bd, A5, c5, fl⟩ : B17)]).map B17.p = trim17 ((L.take (i + 1)).map B17.p) lo hi mark) := by
              show _ = _
              have hne : ¬ (fs.filter (keepF17 sq mark lo hi)).isEmpty = true := fun e => by
                rw [← HFE.out, List.isEmpty_iff] at e
                have := HG.out
                rw [e] at this
                exact absurd hG0 (by rw [this]; simp)
              rw [HNX.out, List.map_append]
              unfold trim1
              rw [if_neg hne, ← HFE.out]
              rfl
            have hwz := HI.out.new.turn
            have HNZ := Lib.hid ((HNW.out.later hwz).alloc (.cells #[.int .i64 sq, .int .i64 tk, .int .i64 bd, .slice A5 G c5] 52))
            have HSR : Hid (RdE EB17 (wr.alloc (.cells #[.int .i64 sq, .int .i64 tk, .int .i64 bd, .slice A5 G c5] 52)) (.slice (some ⟨wr.heap.size, 0, none⟩) 1 1) [⟨sq, tk, bd, A5, c5, fl⟩]) := by rw [HG.out]; exact one_row EB17 52 wr ⟨sq, tk, bd, A5, c5, fl⟩
            have HOZ := Lib.hid ((HOF.out.later hwz).later ((Turn.refl (fun _ => False) wr).alloc (.cells #[.int .i64 sq, .int .i64 tk, .int .i64 bd, .slice A5 G c5] 52)))
            have HRZ : Hid (RdE EF (wr.alloc (.cells #[.int .i64 sq, .int .i64 tk, .int .i64 bd, .slice A5 G c5] 52)) (B17.sl ⟨sq, tk, bd, A5, c5, fl⟩) fl) := HI.out.new.own.rd.later ((Turn.refl _ wr).alloc _)
            have HAP := Lib.hid (apart17 (b := ⟨sq, tk, bd, A5, c5, fl⟩) HNW.out HI.out.new.new)
            have HLM : Hid (out.length + 1 ≤ 1000000) := by show _ ≤ _; have := HLO.out; omega
            clear hwz
            go_wp2_with (at_builtin; refine wpList_bats17 _ rfl _ _ rfl _ _ rfl HNZ.out.own _ rfl [⟨sq, tk, bd, A5, c5, fl⟩] HSR.out HLM.out ?_; intro A6 n6 c6 w5 ho5 ht5 hn5; have HN5 := Lib.hid (HNZ.out.step ho5 ht5 hn5); have HO5 := Lib.hid (HOZ.out.step (b := ⟨sq, tk, bd, A5, c5, fl⟩) HRZ.out HAP.out ht5 hn5); clear ho5 ht5 hn5)
            go_roundw
            case rel => exact ⟨i + 1, _, by go_num, hlt, by rw [List.length_append, List.length_singleton]; have := HLO.out; omega, HN5.out, HO5.out, HX.out⟩
            case measure => simp [intOf]; omega
          · have HX : Hid (out.map B17.p = trim17 ((L.take (i + 1)).map B17.p) lo hi mark) := by
              show _ = _
              have hem : (fs.filter (keepF17 sq mark lo hi)).isEmpty = true := by
                rw [← HFE.out, List.isEmpty_iff]
                exact List.eq_nil_of_length_eq_zero (by rw [← HG.out]; omega)
              rw [HNX.out]
              unfold trim1
              rw [if_pos hem, List.append_nil]
            have hwz := HI.out.new.turn
            have HNZ := Lib.hid (HNW.out.later hwz)
            have HOZ := Lib.hid (HOF.out.later hwz)
            clear hwz
            go_wp2
            go_roundw
            case rel => exact ⟨i + 1, _, by go_num, hlt, by have := HLO.out; omega, HNZ.out, HOZ.out, HX.out⟩
            case measure => simp [intOf]; omega
    · obtain rfl : i = M := by omega
      have HX : Hid (out.map B17.p = trim17 (L.map B17.p) lo hi mark) := by
        show _ = _
        rw [HSP.out, List.take_of_length_le (Nat.le_of_eq HM.out.symm)]
      go_wp2
      go_ret
      exact ⟨_, out, rfl, HX.out, off_rd17 HOF.out HNW.out.own.rd, HNW.out.turn⟩

end Go.Proofs.Ytgchfckmhibeaaa

/-
  A guarded operation that is not wanted, in a region that draws. No type is named here.
-/
namespace Go.Proofs.Ytgchfckmhibeaaa
open Go.RowKit

/-- The walk stands still here. -/
def Halt11 (p : Prop) : Prop := p
theorem halt11 {p : Prop} (h : Halt11 p) : p := h

section
variable {P : Program} {ops : Array Oper} {Q : Exit → Act → World → Prop} {S : World → Prop} {zs : List Nat}
theorem drawn_skip (i d : Nat) {oi : Oper} {fuel : Nat} {listed : Array Bool} {ts : Array Value} {ds : List Deferred} {w : World} (hi0 : nthL ops.toList i = some oi) (hd : oi.dst = some d)
    (hs : Region.noSelect ops = true) (hf : Region.free .any ops listed i = true) (hr : (Region.ready .any ops listed).contains i = true) (hz : (!zs.contains i) = true)
    (hQ : ∀ c (a : Act) w, Q (.panic c) (a.put oi.dst undef) w → Q (.panic c) a w) (hw : Region.wanted oi (yielded ops ts) = false) (hS : freshB zs listed = true → S w)
    (h : Drawn P ops Q S zs fuel (listed.setIfInBounds i true) (ts.setIfInBounds d undef) ds w) : Drawn P ops Q S zs (fuel + 1) listed ts ds w := fun hc => by
  have hi := nth_at hi0
  have hm : i ∈ Region.ready .any ops listed := by simpa using hr
  refine wpAnyG_first hi (Region.noSelect_spec hs) hQ (by simpa using hz) (fun _ => True) (fun _ _ _ _ _ => trivial) fuel listed _ w hc (Region.free_spec hi hf) hm (.inr ⟨hw, rfl⟩) hS ?_
  have h2 := h (hc.step hm)
  rw [hd]
  exact h2
end

section
variable {P : Program} {T : Type} {E : El T} {tS e : TypeId} {ops : Array Oper} {rest : List Oper} {Q : Exit → Act → World → Prop} {op : Oper} {a : Act} {w : World} {A : Option Addr} {n c i : Nat} {L : List T}
/-- A slice's tail, in a region that draws nothing. -/
theorem wpList_cut (ht : P.underlying tS = some (.slice e)) (hz : (P.info? e).map (·.size) = some E.sz) (hgd : op.guard = none) (xo ko : Operand) (ho : op.op = .slice tS xo (some ko) none none) (hrd : RdE E w (.slice A n c) L) (hx : a.eval xo = .slice A n c) (hk : a.eval ko = .int .i64 (i : Int)) (hi : i ≤ n)
    (h : ∀ B, RdE E w (.slice B (n - i) (c - i)) (L.drop i) → (∀ g, (Value.slice B (n - i) (c - i)).ownBlock = some g → (Value.slice A n c).ownBlock = some g) → wpList P ops Q rest (a.put op.dst (.slice B (n - i) (c - i))) w) : wpList P ops Q (op :: rest) a w :=
  wpList_plain hgd fun K hK => by
    unfold Oper.wp
    rw [exec_tail (E := E) ho hx hk ht hz hi w]
    refine hK _ _ (h _ (rd_tailV hrd hi) (fun g hg => ?_))
    by_cases e : c = i
    · rw [if_pos e] at hg
      cases A with
      | none => simp [Value.ownBlock] at hg
      | some ad => simpa [Value.ownBlock] using hg
    · rw [if_neg e] at hg
      cases A with
      | none => simp [Value.ownBlock] at hg
      | some ad => simpa [Value.ownBlock, eadd_block] using hg
/-- No elements: whatever the world. -/
theorem rd_empty {w' : World} {v : Value} (h : RdE E w v []) : RdE E w' v [] := by
  obtain ⟨A, c, e, h1, h2, _⟩ := h
  exact ⟨A, c, e, h1, h2, fun _ _ i u hi => by simp [El.flat] at hi⟩
/-- A slice's front, in a region that draws nothing. -/
theorem wpList_front (ht : P.underlying tS = some (.slice e)) (hz : (P.info? e).map (·.size) = some E.sz) (hgd : op.guard = none) (xo ko : Operand) (ho : op.op = .slice tS xo none (some ko) none) (hrd : RdE E w (.slice A n c) L) (hx : a.eval xo = .slice A n c) (hk : a.eval ko = .int .i64 (i : Int)) (hi : i ≤ n)
    (h : RdE E w (.slice A i c) (L.take i) → wpList P ops Q rest (a.put op.dst (.slice A i c)) w) : wpList P ops Q (op :: rest) a w :=
  wpList_plain hgd fun K hK => by
    unfold Oper.wp
    rw [exec_front (E := E) ho hx hk ht hz (Nat.le_trans hi (by have := hrd.fits; omega)) w]
    exact hK _ _ (h (hrd.front i hi))
end

end Go.Proofs.Ytgchfckmhibeaaa

/-
  Stage 17: the document's Same, of batches that are the same.
-/
namespace Go.Proofs.Ytgchfckmhibeaaa
open Go.RowKit

set_option maxRecDepth 100000

/-- Batches that are held against each other. -/
def Many17 (L : List B17) : Prop := L.length ≤ 100000 ∧ ∀ b ∈ L, b.f.length ≤ 1000
theorem Some17.many {L : List B17} (h : Some17 L) : Many17 L := ⟨by have := h.1; omega, h.2⟩

set_option maxHeartbeats 16000000 in
theorem ref_same17 (u v : Value) (L K : List B17) (w : World) (hu : BR17 w u L) (hv : BR17 w v K) (he : L.map B17.p = K.map B17.p) (hf : Many17 L) : Calls Try.prog 13 #[u, v] w fun e w' => e = .returned (.bool true) ∧ Turn (fun _ => False) w w' := by
  have HU := Lib.hid hu; have HV := Lib.hid hv
  obtain ⟨A, c, rfl⟩ := hu.shape
  obtain ⟨B, d, rfl⟩ := hv.shape
  have HFW := Lib.hid hf
  have hlen : K.length = L.length := by have := congrArg List.length he; rw [List.length_map, List.length_map] at this; omega
  rw [hlen] at HV ⊢
  obtain ⟨M, hM⟩ : ∃ M, M = L.length := ⟨_, rfl⟩
  have hMb : M ≤ 100000 := by have := hf.1; omega
  rw [← hM] at HU HV ⊢
  have HM := Lib.hid hM
  have HKL := Lib.hid hlen
  have HE := Lib.hid he
  clear hu hv hf hM hlen he
  go_enter Try.func13, Try.ntmps13
  go_wp2_with fail
  go_loopw [5] (fun x5 wr => ∃ (i : Nat), x5 = .int .i64 (i : Int) ∧ i ≤ M ∧ Turn (fun _ => False) w wr) (fun x5 _ => M - (intOf x5).toNat)
  case atStart => exact ⟨0, rfl, Nat.zero_le _, Turn.refl _ w⟩
  case round =>
    obtain ⟨i, rfl, hi, ht⟩ := hrel
    have HT := Lib.hid ht
    clear ht
    by_cases hlt : i < M
    · have hil : (i : Int) < M := by omega
      obtain ⟨b, hb⟩ : ∃ b, L[i]? = some b := ⟨_, List.getElem?_eq_getElem (by rw [← HM.out]; exact hlt)⟩
      obtain ⟨b2, hb2⟩ : ∃ b, K[i]? = some b := ⟨_, List.getElem?_eq_getElem (by rw [HKL.out, ← HM.out]; exact hlt)⟩
      have hpp : b.p = b2.p := by
        have h := congrArg (fun l => l[i]?) HE.out
        rw [List.getElem?_map, List.getElem?_map, hb, hb2] at h
        exact Option.some.inj h
      obtain ⟨ad, rfl, hc⟩ := bat_at17 HU.out.1 hb
      obtain ⟨bd, rfl, hd⟩ := bat_at17 HV.out.1 hb2
      have hF := HFW.out.2 b (List.mem_of_getElem? hb)
      have HFU : Hid (RdE EF w b.sl b.f) := HU.out.2 b (List.mem_of_getElem? hb)
      have HFV : Hid (RdE EF w b2.sl b2.f) := HV.out.2 b2 (List.mem_of_getElem? hb2)
      obtain ⟨sq, tk, bu, A3, c3, fs⟩ := b
      obtain ⟨sq', tk', bu', A4, c4, fs'⟩ := b2
      unfold B17.p at hpp
      injection hpp with e1 e2 e3 e4
      subst e1; subst e2; subst e3; subst e4
      dsimp only [B17.sl] at hc hd HFU HFV hF
      obtain ⟨F, hF2⟩ : ∃ F, F = fs.length := ⟨_, rfl⟩
      rw [← hF2] at hc hd HFU HFV
      have HC := Lib.hid hc; have HD := Lib.hid hd
      have HSM : Hid (∀ W, Turn (fun _ => False) w W → Calls Try.prog 18 #[.slice A3 F c3, .slice A4 F c4] W fun e w' => e = .returned (.bool true) ∧ Turn (fun _ => False) W w') := fun W hW => same_refl9 _ _ fs W (HFU.out.later hW) (HFV.out.later hW) (by omega)
      clear hc hd hb hb2 hF hF2
      go_wp2_with fail
      refine drawn_region (fun W => Turn (fun _ => False) w W) [] (by kernel_rfl) ?_
      have hS0 : Turn (fun _ => False) w (World.drew wr) := HT.out.drew
      generalize World.drew wr = wd at *
      refine drawn_take 0 17 (.slice (some ad) M c) rfl rfl (by kernel_rfl) (by kernel_rfl) (by kernel_rfl) (by kernel_rfl) (fun _ _ _ h => h) (by rfl) (by assumption) (by intro w hSw; obtain hS1 := hSw; go_simp) ?_
      try simp only [List.setIfInBounds_toArray, List.set_cons_zero, List.set_cons_succ]
      refine drawn_take 1 18 (.int .i64 (i : Int)) rfl rfl (by kernel_rfl) (by kernel_rfl) (by kernel_rfl) (by kernel_rfl) (fun _ _ _ h => h) (by rfl) (by assumption) (by intro w hSw; obtain hS1 := hSw; go_simp) ?_
      try simp only [List.setIfInBounds_toArray, List.set_cons_zero, List.set_cons_succ]
      refine drawn_take 2 19 (.pointer (some (ad.add (i * 4)))) rfl rfl (by kernel_rfl) (by kernel_rfl) (by kernel_rfl) (by kernel_rfl) (fun _ _ _ h => h) (by rfl) (by assumption) (by intro w hSw; obtain hS1 := hSw; go_simp) ?_
      try simp only [List.setIfInBounds_toArray, List.set_cons_zero, List.set_cons_succ]
      refine drawn_take 3 20 (.pointer (some (ad.add (i * 4)))) rfl rfl (by kernel_rfl) (by kernel_rfl) (by kernel_rfl) (by kernel_rfl) (fun _ _ _ h => h) (by rfl) (by assumption) (by intro w hSw; obtain hS1 := hSw; go_simp) ?_
      try simp only [List.setIfInBounds_toArray, List.set_cons_zero, List.set_cons_succ]
      refine drawn_take 4 21 (.int .i64 sq) rfl rfl (by kernel_rfl) (by kernel_rfl) (by kernel_rfl) (by kernel_rfl) (fun _ _ _ h => h) (by rfl) (by assumption) (by intro w hSw; obtain ⟨b0, b1, b2, b3⟩ := HC.out _ hSw; clear hSw; go_simp) ?_
      try simp only [List.setIfInBounds_toArray, List.set_cons_zero, List.set_cons_succ]
      refine drawn_take 5 22 (.slice (some bd) M d) rfl rfl (by kernel_rfl) (by kernel_rfl) (by kernel_rfl) (by kernel_rfl) (fun _ _ _ h => h) (by rfl) (by assumption) (by intro w hSw; obtain hS1 := hSw; go_simp) ?_
      try simp only [List.setIfInBounds_toArray, List.set_cons_zero, List.set_cons_succ]
      refine drawn_take 6 23 (.int .i64 (i : Int)) rfl rfl (by kernel_rfl) (by kernel_rfl) (by kernel_rfl) (by kernel_rfl) (fun _ _ _ h => h) (by rfl) (by assumption) (by intro w hSw; obtain hS1 := hSw; go_simp) ?_
      try simp only [List.setIfInBounds_toArray, List.set_cons_zero, List.set_cons_succ]
      refine drawn_take 7 24 (.pointer (some (bd.add (i * 4)))) rfl rfl (by kernel_rfl) (by kernel_rfl) (by kernel_rfl) (by kernel_rfl) (fun _ _ _ h => h) (by rfl) (by assumption) (by intro w hSw; obtain hS1 := hSw; go_simp) ?_
      try simp only [List.setIfInBounds_toArray, List.set_cons_zero, List.set_cons_succ]
      refine drawn_take 8 25 (.pointer (some (bd.add (i * 4)))) rfl rfl (by kernel_rfl) (by kernel_rfl) (by kernel_rfl) (by kernel_rfl) (fun _ _ _ h => h) (by rfl) (by assumption) (by intro w hSw; obtain hS1 := hSw; go_simp) ?_
      try simp only [List.setIfInBounds_toArray, List.set_cons_zero, List.set_cons_succ]
      refine drawn_take 9 26 (.int .i64 sq) rfl rfl (by kernel_rfl) (by kernel_rfl) (by kernel_rfl) (by kernel_rfl) (fun _ _ _ h => h) (by rfl) (by assumption) (by intro w hSw; obtain ⟨b0, b1, b2, b3⟩ := HD.out _ hSw; clear hSw; go_simp) ?_
      try simp only [List.setIfInBounds_toArray, List.set_cons_zero, List.set_cons_succ]
      refine drawn_take 10 27 (.bool false) rfl rfl (by kernel_rfl) (by kernel_rfl) (by kernel_rfl) (by kernel_rfl) (fun _ _ _ h => h) (by rfl) (by assumption) (by intro w hSw; obtain hS1 := hSw; go_simp) ?_
      try simp only [List.setIfInBounds_toArray, List.set_cons_zero, List.set_cons_succ]
      refine drawn_take 11 28 (.bool false) rfl rfl (by kernel_rfl) (by kernel_rfl) (by kernel_rfl) (by kernel_rfl) (fun _ _ _ h => h) (by rfl) (by assumption) (by intro w hSw; obtain hS1 := hSw; go_simp) ?_
      try simp only [List.setIfInBounds_toArray, List.set_cons_zero, List.set_cons_succ]
      refine drawn_take 12 29 (.slice (some ad) M c) rfl rfl (by kernel_rfl) (by kernel_rfl) (by kernel_rfl) (by kernel_rfl) (fun _ _ _ h => h) (by rfl) (by assumption) (by intro w hSw; obtain hS1 := hSw; go_simp) ?_
      try simp only [List.setIfInBounds_toArray, List.set_cons_zero, List.set_cons_succ]
      refine drawn_take 13 30 (.int .i64 (i : Int)) rfl rfl (by kernel_rfl) (by kernel_rfl) (by kernel_rfl) (by kernel_rfl) (fun _ _ _ h => h) (by rfl) (by assumption) (by intro w hSw; obtain hS1 := hSw; go_simp) ?_
      try simp only [List.setIfInBounds_toArray, List.set_cons_zero, List.set_cons_succ]
      refine drawn_take 14 31 (.pointer (some (ad.add (i * 4)))) rfl rfl (by kernel_rfl) (by kernel_rfl) (by kernel_rfl) (by kernel_rfl) (fun _ _ _ h => h) (by rfl) (by assumption) (by intro w hSw; obtain hS1 := hSw; go_simp) ?_
      try simp only [List.setIfInBounds_toArray, List.set_cons_zero, List.set_cons_succ]
      refine drawn_take 15 32 (.pointer (some ⟨(ad.add (i * 4)).block, (ad.add (i * 4)).off + 1, none⟩)) rfl rfl (by kernel_rfl) (by kernel_rfl) (by kernel_rfl) (by kernel_rfl) (fun _ _ _ h => h) (by rfl) (by assumption) (by intro w hSw; obtain hS1 := hSw; go_simp) ?_
      try simp only [List.setIfInBounds_toArray, List.set_cons_zero, List.set_cons_succ]
      refine drawn_take 16 33 (.int .i64 tk) rfl rfl (by kernel_rfl) (by kernel_rfl) (by kernel_rfl) (by kernel_rfl) (fun _ _ _ h => h) (by rfl) (by assumption) (by intro w hSw; obtain ⟨b0, b1, b2, b3⟩ := HC.out _ hSw; clear hSw; go_simp) ?_
      try simp only [List.setIfInBounds_toArray, List.set_cons_zero, List.set_cons_succ]
      refine drawn_take 17 34 (.slice (some bd) M d) rfl rfl (by kernel_rfl) (by kernel_rfl) (by kernel_rfl) (by kernel_rfl) (fun _ _ _ h => h) (by rfl) (by assumption) (by intro w hSw; obtain hS1 := hSw; go_simp) ?_
      try simp only [List.setIfInBounds_toArray, List.set_cons_zero, List.set_cons_succ]
      refine drawn_take 18 35 (.int .i64 (i : Int)) rfl rfl (by kernel_rfl) (by kernel_rfl) (by kernel_rfl) (by kernel_rfl) (fun _ _ _ h => h) (by rfl) (by assumption) (by intro w hSw; obtain hS1 := hSw; go_simp) ?_
      try simp only [List.setIfInBounds_toArray, List.set_cons_zero, List.set_cons_succ]
      refine drawn_take 19 36 (.pointer (some (bd.add (i * 4)))) rfl rfl (by kernel_rfl) (by kernel_rfl) (by kernel_rfl) (by kernel_rfl) (fun _ _ _ h => h) (by rfl) (by assumption) (by intro w hSw; obtain hS1 := hSw; go_simp) ?_
      try simp only [List.setIfInBounds_toArray, List.set_cons_zero, List.set_cons_succ]
      refine drawn_take 20 37 (.pointer (some ⟨(bd.add (i * 4)).block, (bd.add (i * 4)).off + 1, none⟩)) rfl rfl (by kernel_rfl) (by kernel_rfl) (by kernel_rfl) (by kernel_rfl) (fun _ _ _ h => h) (by rfl) (by assumption) (by intro w hSw; obtain hS1 := hSw; go_simp) ?_
      try simp only [List.setIfInBounds_toArray, List.set_cons_zero, List.set_cons_succ]
      refine drawn_take 21 38 (.int .i64 tk) rfl rfl (by kernel_rfl) (by kernel_rfl) (by kernel_rfl) (by kernel_rfl) (fun _ _ _ h => h) (by rfl) (by assumption) (by intro w hSw; obtain ⟨b0, b1, b2, b3⟩ := HD.out _ hSw; clear hSw; go_simp) ?_
      try simp only [List.setIfInBounds_toArray, List.set_cons_zero, List.set_cons_succ]
      refine drawn_take 22 39 (.bool false) rfl rfl (by kernel_rfl) (by kernel_rfl) (by kernel_rfl) (by kernel_rfl) (fun _ _ _ h => h) (by rfl) (by assumption) (by intro w hSw; obtain hS1 := hSw; go_simp) ?_
      try simp only [List.setIfInBounds_toArray, List.set_cons_zero, List.set_cons_succ]
      refine drawn_take 23 40 (.bool false) rfl rfl (by kernel_rfl) (by kernel_rfl) (by kernel_rfl) (by kernel_rfl) (fun _ _ _ h => h) (by rfl) (by assumption) (by intro w hSw; obtain hS1 := hSw; go_simp) ?_
      try simp only [List.setIfInBounds_toArray, List.set_cons_zero, List.set_cons_succ]
      refine drawn_take 24 41 (.bool false) rfl rfl (by kernel_rfl) (by kernel_rfl) (by kernel_rfl) (by kernel_rfl) (fun _ _ _ h => h) (by rfl) (by assumption) (by intro w hSw; obtain hS1 := hSw; go_simp) ?_
      try simp only [List.setIfInBounds_toArray, List.set_cons_zero, List.set_cons_succ]
      refine drawn_take 25 42 (.slice (some ad) M c) rfl rfl (by kernel_rfl) (by kernel_rfl) (by kernel_rfl) (by kernel_rfl) (fun _ _ _ h => h) (by rfl) (by assumption) (by intro w hSw; obtain hS1 := hSw; go_simp) ?_
      try simp only [List.setIfInBounds_toArray, List.set_cons_zero, List.set_cons_succ]
      refine drawn_take 26 43 (.int .i64 (i : Int)) rfl rfl (by kernel_rfl) (by kernel_rfl) (by kernel_rfl) (by kernel_rfl) (fun _ _ _ h => h) (by rfl) (by assumption) (by intro w hSw; obtain hS1 := hSw; go_simp) ?_
      try simp only [List.setIfInBounds_toArray, List.set_cons_zero, List.set_cons_succ]
      refine drawn_take 27 44 (.pointer (some (ad.add (i * 4)))) rfl rfl (by kernel_rfl) (by kernel_rfl) (by kernel_rfl) (by kernel_rfl) (fun _ _ _ h => h) (by rfl) (by assumption) (by intro w hSw; obtain hS1 := hSw; go_simp) ?_
      try simp only [List.setIfInBounds_toArray, List.set_cons_zero, List.set_cons_succ]
      refine drawn_take 28 45 (.pointer (some ⟨(ad.add (i * 4)).block, (ad.add (i * 4)).off + 2, none⟩)) rfl rfl (by kernel_rfl) (by kernel_rfl) (by kernel_rfl) (by kernel_rfl) (fun _ _ _ h => h) (by rfl) (by assumption) (by intro w hSw; obtain hS1 := hSw; go_simp) ?_
      try simp only [List.setIfInBounds_toArray, List.set_cons_zero, List.set_cons_succ]
      refine drawn_take 29 46 (.int .i64 bu) rfl rfl (by kernel_rfl) (by kernel_rfl) (by kernel_rfl) (by kernel_rfl) (fun _ _ _ h => h) (by rfl) (by assumption) (by intro w hSw; obtain ⟨b0, b1, b2, b3⟩ := HC.out _ hSw; clear hSw; go_simp) ?_
      try simp only [List.setIfInBounds_toArray, List.set_cons_zero, List.set_cons_succ]
      refine drawn_take 30 47 (.slice (some bd) M d) rfl rfl (by kernel_rfl) (by kernel_rfl) (by kernel_rfl) (by kernel_rfl) (fun _ _ _ h => h) (by rfl) (by assumption) (by intro w hSw; obtain hS1 := hSw; go_simp) ?_
      try simp only [List.setIfInBounds_toArray, List.set_cons_zero, List.set_cons_succ]
      refine drawn_take 31 48 (.int .i64 (i : Int)) rfl rfl (by kernel_rfl) (by kernel_rfl) (by kernel_rfl) (by kernel_rfl) (fun _ _ _ h => h) (by rfl) (by assumption) (by intro w hSw; obtain hS1 := hSw; go_simp) ?_
      try simp only [List.setIfInBounds_toArray, List.set_cons_zero, List.set_cons_succ]
      refine drawn_take 32 49 (.pointer (some (bd.add (i * 4)))) rfl rfl (by kernel_rfl) (by kernel_rfl) (by kernel_rfl) (by kernel_rfl) (fun _ _ _ h => h) (by rfl) (by assumption) (by intro w hSw; obtain hS1 := hSw; go_simp) ?_
      try simp only [List.setIfInBounds_toArray, List.set_cons_zero, List.set_cons_succ]
      refine drawn_take 33 50 (.pointer (some ⟨(bd.add (i * 4)).block, (bd.add (i * 4)).off + 2, none⟩)) rfl rfl (by kernel_rfl) (by kernel_rfl) (by kernel_rfl) (by kernel_rfl) (fun _ _ _ h => h) (by rfl) (by assumption) (by intro w hSw; obtain hS1 := hSw; go_simp) ?_
      try simp only [List.setIfInBounds_toArray, List.set_cons_zero, List.set_cons_succ]
      refine drawn_take 34 51 (.int .i64 bu) rfl rfl (by kernel_rfl) (by kernel_rfl) (by kernel_rfl) (by kernel_rfl) (fun _ _ _ h => h) (by rfl) (by assumption) (by intro w hSw; obtain ⟨b0, b1, b2, b3⟩ := HD.out _ hSw; clear hSw; go_simp) ?_
      try simp only [List.setIfInBounds_toArray, List.set_cons_zero, List.set_cons_succ]
      refine drawn_take 35 52 (.bool false) rfl rfl (by kernel_rfl) (by kernel_rfl) (by kernel_rfl) (by kernel_rfl) (fun _ _ _ h => h) (by rfl) (by assumption) (by intro w hSw; obtain hS1 := hSw; go_simp) ?_
      try simp only [List.setIfInBounds_toArray, List.set_cons_zero, List.set_cons_succ]
      refine drawn_take 36 53 (.bool false) rfl rfl (by kernel_rfl) (by kernel_rfl) (by kernel_rfl) (by kernel_rfl) (fun _ _ _ h => h) (by rfl) (by assumption) (by intro w hSw; obtain hS1 := hSw; go_simp) ?_
      try simp only [List.setIfInBounds_toArray, List.set_cons_zero, List.set_cons_succ]
      refine drawn_take 37 54 (.bool false) rfl rfl (by kernel_rfl) (by kernel_rfl) (by kernel_rfl) (by kernel_rfl) (fun _ _ _ h => h) (by rfl) (by assumption) (by intro w hSw; obtain hS1 := hSw; go_simp) ?_
      try simp only [List.setIfInBounds_toArray, List.set_cons_zero, List.set_cons_succ]
      refine drawn_take 38 55 (.slice (some ad) M c) rfl rfl (by kernel_rfl) (by kernel_rfl) (by kernel_rfl) (by kernel_rfl) (fun _ _ _ h => h) (by rfl) (by assumption) (by intro w hSw; obtain hS1 := hSw; go_simp) ?_
      try simp only [List.setIfInBounds_toArray, List.set_cons_zero, List.set_cons_succ]
      refine drawn_take 39 56 (.int .i64 (i : Int)) rfl rfl (by kernel_rfl) (by kernel_rfl) (by kernel_rfl) (by kernel_rfl) (fun _ _ _ h => h) (by rfl) (by assumption) (by intro w hSw; obtain hS1 := hSw; go_simp) ?_
      try simp only [List.setIfInBounds_toArray, List.set_cons_zero, List.set_cons_succ]
      refine drawn_take 40 57 (.pointer (some (ad.add (i * 4)))) rfl rfl (by kernel_rfl) (by kernel_rfl) (by kernel_rfl) (by kernel_rfl) (fun _ _ _ h => h) (by rfl) (by assumption) (by intro w hSw; obtain hS1 := hSw; go_simp) ?_
      try simp only [List.setIfInBounds_toArray, List.set_cons_zero, List.set_cons_succ]
      refine drawn_take 41 58 (.pointer (some ⟨(ad.add (i * 4)).block, (ad.add (i * 4)).off + 3, none⟩)) rfl rfl (by kernel_rfl) (by kernel_rfl) (by kernel_rfl) (by kernel_rfl) (fun _ _ _ h => h) (by rfl) (by assumption) (by intro w hSw; obtain hS1 := hSw; go_simp) ?_
      try simp only [List.setIfInBounds_toArray, List.set_cons_zero, List.set_cons_succ]
      refine drawn_take 42 59 (.slice A3 F c3) rfl rfl (by kernel_rfl) (by kernel_rfl) (by kernel_rfl) (by kernel_rfl) (fun _ _ _ h => h) (by rfl) (by assumption) (by intro w hSw; obtain ⟨b0, b1, b2, b3⟩ := HC.out _ hSw; clear hSw; go_simp) ?_
      try simp only [List.setIfInBounds_toArray, List.set_cons_zero, List.set_cons_succ]
      refine drawn_take 43 60 (.slice (some bd) M d) rfl rfl (by kernel_rfl) (by kernel_rfl) (by kernel_rfl) (by kernel_rfl) (fun _ _ _ h => h) (by rfl) (by assumption) (by intro w hSw; obtain hS1 := hSw; go_simp) ?_
      try simp only [List.setIfInBounds_toArray, List.set_cons_zero, List.set_cons_succ]
      refine drawn_take 44 61 (.int .i64 (i : Int)) rfl rfl (by kernel_rfl) (by kernel_rfl) (by kernel_rfl) (by kernel_rfl) (fun _ _ _ h => h) (by rfl) (by assumption) (by intro w hSw; obtain hS1 := hSw; go_simp) ?_
      try simp only [List.setIfInBounds_toArray, List.set_cons_zero, List.set_cons_succ]
      refine drawn_take 45 62 (.pointer (some (bd.add (i * 4)))) rfl rfl (by kernel_rfl) (by kernel_rfl) (by kernel_rfl) (by kernel_rfl) (fun _ _ _ h => h) (by rfl) (by assumption) (by intro w hSw; obtain hS1 := hSw; go_simp) ?_
      try simp only [List.setIfInBounds_toArray, List.set_cons_zero, List.set_cons_succ]
      refine drawn_take 46 63 (.pointer (some ⟨(bd.add (i * 4)).block, (bd.add (i * 4)).off + 3, none⟩)) rfl rfl (by kernel_rfl) (by kernel_rfl) (by kernel_rfl) (by kernel_rfl) (fun _ _ _ h => h) (by rfl) (by assumption) (by intro w hSw; obtain hS1 := hSw; go_simp) ?_
      try simp only [List.setIfInBounds_toArray, List.set_cons_zero, List.set_cons_succ]
      refine drawn_take 47 64 (.slice A4 F c4) rfl rfl (by kernel_rfl) (by kernel_rfl) (by kernel_rfl) (by kernel_rfl) (fun _ _ _ h => h) (by rfl) (by assumption) (by intro w hSw; obtain ⟨b0, b1, b2, b3⟩ := HD.out _ hSw; clear hSw; go_simp) ?_
      try simp only [List.setIfInBounds_toArray, List.set_cons_zero, List.set_cons_succ]
      refine drawn_any [48] (by kernel_rfl) (by simp) ?_
      refine drawn_cons rfl (fun K1 hK => ?_) drawn_nil
      go_simp
      refine (HSM.out wd hS0).mono ?_
      rintro e w2 ⟨rfl, t2⟩
      have hS2 := hS0.trans t2 (fun _ _ f => f)
      have HT2 := Lib.hid hS2
      refine hK.out _ _ _ hS2 ?_
      clear hK K1 t2 hS0
      try simp only [List.setIfInBounds_toArray, List.set_cons_zero, List.set_cons_succ]
      refine drawn_take 49 66 (.bool false) rfl rfl (by kernel_rfl) (by kernel_rfl) (by kernel_rfl) (by kernel_rfl) (fun _ _ _ h => h) (by rfl) (by assumption) (by intro w hSw; obtain hS1 := hSw; go_simp) ?_
      try simp only [List.setIfInBounds_toArray, List.set_cons_zero, List.set_cons_succ]
      refine drawn_last1 50 67 (.bool false) rfl rfl (by kernel_rfl) (by kernel_rfl) (by rfl) (by intro w; go_simp) hS2 ?_
      try simp only [List.setIfInBounds_toArray, List.set_cons_zero, List.set_cons_succ]
      clear hS2
      go_wp2
      go_roundw
      case rel => exact ⟨i + 1, by go_num, hlt, HT2.out⟩
      case measure => simp [intOf]; omega
    · obtain rfl : i = M := by omega
      go_wp2
      go_ret
      exact ⟨rfl, HT.out⟩

end Go.Proofs.Ytgchfckmhibeaaa
