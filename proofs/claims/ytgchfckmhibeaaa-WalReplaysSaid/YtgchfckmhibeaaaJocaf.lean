/-
  Texts laid one behind the other: Lb Zb Zc Zd Ze Zj Rc Zl.
-/
import Derived.Test.YtgchfckmhibeaaaJocaa
import Derived.ProofKit
import Derived.OpenShut
import Derived.WalkMore
import Derived.Deep.Slices
import Derived.Deep.Fields
import Derived.Test.YtgchfckmhibeaaaJocae
import Derived.BigQuiet
import Derived.Laws.ResultCell
import Derived.Test.YtgchfckmhibeaaaJocad
import Derived.Test.YtgchfckmhibeaaaJocab

/-
  A slice of numbers that came in, of any kind: its numbers, wherever it lies; its parts. No type is named here.
-/
namespace Go.Proofs.Ytgchfckmhibeaaa
open Go.RowKit

/-- A slice value, wherever it lies: its numbers are l. -/
def RdN (k : IntKind) (w : World) (v : Value) (l : List Int) : Prop :=
  ∃ A c, v = .slice A l.length c ∧ (l.length ≤ c ∧ c ≤ maxLen) ∧ (A = none → l = [] ∧ c = 0) ∧ ∀ ad, A = some ad → ∀ j x, l[j]? = some x → w.cell? (ad.add j) = some (.int k x)

section
variable {k : IntKind} {w w' : World} {v : Value} {l : List Int}
theorem nadd_block (a : Addr) (n : Nat) : (a.add n).block = a.block := by unfold Addr.add; split <;> rfl
theorem nadd_of_add (a : Addr) (i j : Nat) : (a.add i).add j = a.add (i + j) := by
  unfold Addr.add
  by_cases hi : i = 0 <;> by_cases hj : j = 0 <;> simp [hi, hj, Nat.add_assoc]
theorem RdN.turn {S : Nat → Prop} (h : RdN k w v l) (ht : Turn S w w') (hs : ∀ b, v.ownBlock = some b → ¬ S b) : RdN k w' v l := by
  obtain ⟨A, c, rfl, hk, hn, hc⟩ := h
  refine ⟨A, c, rfl, hk, hn, fun ad e j b hj => ?_⟩
  have h1 := hc ad e j b hj
  have hlt := World.block_lt_of_cell? w _ h1
  rw [ht.cell hlt (by subst e; rw [nadd_block]; exact hs _ rfl)]
  exact h1
theorem RdN.later (h : RdN k w v l) (ht : Turn (fun _ => False) w w') : RdN k w' v l := h.turn ht (fun _ _ f => f)
theorem RdN.shape (h : RdN k w v l) : ∃ A c, v = .slice A l.length c := by
  obtain ⟨A, c, e, _⟩ := h
  exact ⟨A, c, e⟩
theorem RdN.at {A : Option Addr} {n c : Nat} (h : RdN k w (.slice A n c) l) {j : Nat} {x : Int} (hj : l[j]? = some x) : ∃ ad, A = some ad ∧ w.cell? (ad.add j) = some (.int k x) := by
  obtain ⟨A', c', hv, _, hn, hc⟩ := h
  injection hv with h1 h2 h3
  subst h1
  cases A with
  | none =>
    obtain ⟨rfl, _⟩ := hn rfl
    cases hj
  | some ad => exact ⟨ad, rfl, hc ad rfl j x hj⟩
theorem RdN.fits {A : Option Addr} {n c : Nat} (h : RdN k w (.slice A n c) l) : n = l.length ∧ l.length ≤ c ∧ c ≤ maxLen := by
  obtain ⟨A', c', hv, hc, _⟩ := h
  injection hv with h1 h2 h3
  subst h3
  exact ⟨h2, hc⟩
theorem RdN.front {A : Option Addr} {n c : Nat} (h : RdN k w (.slice A n c) l) (m : Nat) (hm : m ≤ n) : RdN k w (.slice A m c) (l.take m) := by
  obtain ⟨A', c', hv, hc, hn, hx⟩ := h
  injection hv with h1 h2 h3
  subst h1 h2 h3
  have e : (l.take m).length = m := by rw [List.length_take]; omega
  refine ⟨A, c, by rw [e], ⟨by omega, hc.2⟩, (fun e => by rw [(hn e).1]; exact ⟨List.take_nil, (hn e).2⟩), fun ad e2 j b hj => ?_⟩
  rw [List.getElem?_take] at hj
  split at hj
  · exact hx ad e2 j b hj
  · cases hj
theorem RdN.back {ad : Addr} {n c : Nat} (h : RdN k w (.slice (some ad) n c) l) (m : Nat) (hm : m ≤ n) : RdN k w (.slice (some (ad.add m)) (n - m) (c - m)) (l.drop m) := by
  obtain ⟨A', c', hv, hc, hn, hx⟩ := h
  injection hv with h1 h2 h3
  subst h1 h2 h3
  refine ⟨some (ad.add m), c - m, by rw [List.length_drop], ⟨by rw [List.length_drop]; omega, by omega⟩, (fun e => by cases e), fun ad' e2 j b hj => ?_⟩
  injection e2 with e2
  subst e2
  rw [List.getElem?_drop] at hj
  rw [nadd_of_add]
  exact hx ad rfl _ b hj
end

section
open Go.ChangeShapes Go.WideShapes Go.Deep
theorem open_nums {P : Program} {H : Type} {enc : TypeId × Value → H} {W : World} {T e : TypeId} {k : IntKind} {v : Value} {d : DataW H} {p : List MemPlace} {a : Option Addr} {len cap : Nat}
    (hT : P.underlying T = some (.slice e)) (he : P.underlying e = some (.int k)) (hC : P.cellsOf e = 1) (hv : v = .slice a len cap) (h : DataW.Trod enc P W 0 (fun _ => true) true T v d p) :
    ∃ l, RdN k W v l ∧ l.length ≤ maxLen ∧ ∀ x ∈ l, (Lit.int k x).wf = true := by
  subst hv
  obtain ⟨fuel, hf⟩ := h
  rcases open_slice hT hf with ⟨hcs, _⟩ | ⟨a', len', cap', m, n, D, Pl, hcs, _, hl, hm, hmm, _, hx⟩
  · simp [Value.cells] at hcs
    obtain ⟨rfl, rfl, rfl⟩ := hcs
    exact ⟨[], ⟨none, 0, rfl, ⟨Nat.le_refl _, Nat.zero_le _⟩, fun _ => ⟨rfl, rfl⟩, fun _ e => by cases e⟩, Nat.zero_le _, fun x hx => by cases hx⟩
  · simp [Value.cells] at hcs
    obtain ⟨rfl, rfl, rfl⟩ := hcs
    have hmm' : m = cap := by simpa using hmm
    subst hmm'
    have key : ∀ i, i < len → ∃ b : Int, W.cell? (a'.add i) = some (.int k b) ∧ (Lit.int k b).wf = true := by
      intro i hi
      obtain ⟨cs, h1, h2⟩ := hx i (by omega)
      rw [hC] at h1
      obtain ⟨_, hlen, hcell⟩ := World.cells?_some h1
      match cs, hlen with
      | [c0], _ =>
        obtain ⟨K, k0, _, kw⟩ := DataW.trod_int he h2
        simp only [List.cons.injEq, and_true] at k0
        subst k0
        have hc := hcell 0 (by omega)
        simp only [Go.Deep.add_add] at hc
        have e2 : i * 1 + 0 = i := by omega
        exact ⟨K, by simpa [e2] using hc, kw⟩
    obtain ⟨V, hV⟩ := choose_lt key
    have hll : ((List.range len).map V).length = len := by simp
    refine ⟨(List.range len).map V, ⟨some a', m, by rw [hll], ⟨by rw [hll]; omega, by omega⟩, (fun e => by cases e), fun ad e j b hj => ?_⟩, by rw [hll]; omega, fun x hx => ?_⟩
    · cases e
      have hjl : j < len := by
        have := (List.getElem?_eq_some_iff.1 hj).1
        simpa using this
      have hb : b = V j := by
        rw [List.getElem?_map, List.getElem?_range hjl] at hj
        exact (Option.some.inj hj).symm
      rw [hb]
      exact (hV j hjl).1
    · obtain ⟨i, hi, rfl⟩ := List.mem_map.1 hx
      exact (hV i (List.mem_range.1 hi)).2
end

end Go.Proofs.Ytgchfckmhibeaaa

/-
  Stage 9: keys, facts and numbers in memory.
-/
namespace Go.Proofs.Ytgchfckmhibeaaa
open Go.RowKit Go.ChangeShapes Go.WideShapes Go.Deep

/-- A number's cell. -/
def EN9 : El Int where
  sz := 1
  enc p := [.int .i64 p]
  len _ := rfl
  one p u hu := by rw [List.mem_singleton.1 hu]; rfl
theorem num_info9 : (Try.prog.info? 2).map (fun i => (i.zero, i.size, i.bytes)) = some (some (.int .i64 0), EN9.sz, 8) := by kernel_rfl
theorem num_zero9 : (Value.cells (.int .i64 0)).size = EN9.sz := rfl
theorem num_at9 {w : World} {A : Option Addr} {n c : Nat} {L : List Int} (h : RdE EN9 w (.slice A n c) L) {j : Nat} {x : Int} (hj : L[j]? = some x) :
    ∃ ad, A = some ad ∧ ∀ W, Turn (fun _ => False) w W → W.cell? (ad.add j) = some (.int .i64 x) := by
  obtain ⟨ad, hA, _⟩ := h.cells hj
  refine ⟨ad, hA, fun W ht => ?_⟩
  obtain ⟨ad', hA', hc⟩ := (h.later ht).cells hj
  rw [hA] at hA'
  cases hA'
  have h1 := hc 0 _ rfl
  rwa [show j * EN9.sz + 0 = j from by simp [EN9]] at h1
theorem flat_num9 (l : List Int) : EN9.flat l = l.map (fun x => Value.int .i64 x) := by
  induction l with
  | nil => rfl
  | cons x l ih => rw [El.flat_cons, ih]; rfl
theorem rd_num9 {w : World} {v : Value} {l : List Int} (h : RdE EN9 w v l) : RdN .i64 w v l := by
  obtain ⟨A, c, e, h1, h2, h3⟩ := h
  refine ⟨A, c, e, h1, h2, fun ad ea j x hj => h3 ad ea j _ ?_⟩
  rw [flat_num9, List.getElem?_map, hj]
  rfl
/-- A slice that came in lies in the memory that came in. -/
theorem came_in9 {P : Program} {W : World} {base : Nat} {t e : TypeId} {v : Value} (ht : P.underlying t = some (.slice e)) (h : Value.okWide P W .any base t v) : ∀ g, v.ownBlock = some g → g < W.heap.size := fun g hg => by
  simp only [Value.okWide, ht, Cell.okWide] at h
  obtain ⟨a, n, c, rfl⟩ := okWide_slice ht (by simp only [Value.okWide, ht, Cell.okWide]; exact h)
  cases a with
  | none => simp [Value.ownBlock] at hg
  | some a =>
    simp only [Cell.ok, ht] at h
    have e : a.block = g := by simpa [Value.ownBlock] using hg
    obtain ⟨_, _, h3⟩ := h
    rw [← e]
    obtain ⟨_, _, row, cells, hs, _⟩ := h3
    unfold World.shape? at hs
    rcases Nat.lt_or_ge a.block W.heap.size with hl | hl
    · exact hl
    · rw [Array.getElem?_eq_none hl] at hs
      cases hs

/-- A text, as a value. -/
abbrev sv9 (l : List UInt8) : Value := .string ⟨l.toArray⟩
/-- A key, a fact, as a value. -/
abbrev kv9 (k : K9) : Value := .agg #[.int .i64 k.h, sv9 k.a, sv9 k.b, sv9 k.c, sv9 k.d]
abbrev fv9 (f : F9) : Value := .agg #[.int .i64 f.k.h, sv9 f.k.a, sv9 f.k.b, sv9 f.k.c, sv9 f.k.d, .int .i64 f.v]
/-- A fact's cells. -/
def EF : El F9 where
  sz := 6
  enc f := [.int .i64 f.k.h, sv9 f.k.a, sv9 f.k.b, sv9 f.k.c, sv9 f.k.d, .int .i64 f.v]
  len _ := rfl
  one f u hu := by
    simp only [List.mem_cons, List.not_mem_nil, or_false] at hu
    rcases hu with rfl | rfl | rfl | rfl | rfl | rfl <;> rfl
theorem fact_info : (Try.prog.info? 76).map (fun i => (i.zero, i.size, i.bytes)) = some (some (.agg #[.int .i64 0, .string ⟨#[]⟩, .string ⟨#[]⟩, .string ⟨#[]⟩, .string ⟨#[]⟩, .int .i64 0]), EF.sz, 80) := by kernel_rfl
theorem fact_zero : (Value.cells (.agg #[.int .i64 0, .string ⟨#[]⟩, .string ⟨#[]⟩, .string ⟨#[]⟩, .string ⟨#[]⟩, .int .i64 0])).size = EF.sz := rfl
/-- A fact in memory. -/
theorem fact_at {w : World} {A : Option Addr} {n c : Nat} {L : List F9} (h : RdE EF w (.slice A n c) L) {j : Nat} {f : F9} (hj : L[j]? = some f) :
    ∃ ad, A = some ad ∧ ∀ W, Turn (fun _ => False) w W → W.cell? (ad.add (j * 6)) = some (.int .i64 f.k.h) ∧ (∀ i, i < 4 → W.cell? ⟨(ad.add (j * 6)).block, (ad.add (j * 6)).off + (1 + i), none⟩ = some (sv9 (f.k.dim i))) ∧ W.cell? ⟨(ad.add (j * 6)).block, (ad.add (j * 6)).off + 5, none⟩ = some (.int .i64 f.v) := by
  obtain ⟨ad, hA, _⟩ := h.cells hj
  refine ⟨ad, hA, fun W ht => ?_⟩
  obtain ⟨ad', hA', hc⟩ := (h.later ht).cells hj
  rw [hA] at hA'
  cases hA'
  have key : ∀ (k : Nat) (u : Value), (EF.enc f)[k + 1]? = some u → W.cell? ⟨(ad.add (j * 6)).block, (ad.add (j * 6)).off + (k + 1), none⟩ = some u := fun k u hu => by
    rw [show (⟨(ad.add (j * 6)).block, (ad.add (j * 6)).off + (k + 1), none⟩ : Addr) = (ad.add (j * 6)).add (k + 1) from rfl, eadd_add]
    exact hc (k + 1) u hu
  refine ⟨hc 0 _ rfl, fun i hi => ?_, key 4 _ rfl⟩
  match i, hi with
  | 0, _ => exact key 0 _ rfl
  | 1, _ => exact key 1 _ rfl
  | 2, _ => exact key 2 _ rfl
  | 3, _ => exact key 3 _ rfl
/-- The same, cell by cell. -/
theorem fact_at6 {w : World} {A : Option Addr} {n c : Nat} {L : List F9} (h : RdE EF w (.slice A n c) L) {j : Nat} {f : F9} (hj : L[j]? = some f) :
    ∃ ad, A = some ad ∧ ∀ W, Turn (fun _ => False) w W → W.cell? (ad.add (j * 6)) = some (.int .i64 f.k.h) ∧ W.cell? ⟨(ad.add (j * 6)).block, (ad.add (j * 6)).off + 1, none⟩ = some (sv9 f.k.a) ∧ W.cell? ⟨(ad.add (j * 6)).block, (ad.add (j * 6)).off + 2, none⟩ = some (sv9 f.k.b) ∧
      W.cell? ⟨(ad.add (j * 6)).block, (ad.add (j * 6)).off + 3, none⟩ = some (sv9 f.k.c) ∧ W.cell? ⟨(ad.add (j * 6)).block, (ad.add (j * 6)).off + 4, none⟩ = some (sv9 f.k.d) ∧ W.cell? ⟨(ad.add (j * 6)).block, (ad.add (j * 6)).off + 5, none⟩ = some (.int .i64 f.v) := by
  obtain ⟨ad, hA, hc⟩ := fact_at h hj
  refine ⟨ad, hA, fun W ht => ?_⟩
  obtain ⟨h0, h1, h2⟩ := hc W ht
  exact ⟨h0, h1 0 (by omega), h1 1 (by omega), h1 2 (by omega), h1 3 (by omega), h2⟩
/-- A box's key: its cells. -/
theorem dim_cell {W : World} {g o : Nat} {t : TypeId} {vs : Array Value} {k : K9} (hb : Box W g t vs) (h : ∀ i, i < 4 → vs[o + i]? = some (sv9 (k.dim i))) : ∀ i, i < 4 → W.cell? ⟨g, o + i, none⟩ = some (sv9 (k.dim i)) := fun i hi => by
  rw [hb.cell]
  exact h i hi
theorem key_cells {k : K9} : ∀ i, i < 4 → (#[.int .i64 k.h, sv9 k.a, sv9 k.b, sv9 k.c, sv9 k.d] : Array Value)[1 + i]? = some (sv9 (k.dim i)) := fun i hi => by
  match i, hi with
  | 0, _ => rfl
  | 1, _ => rfl
  | 2, _ => rfl
  | 3, _ => rfl
theorem fact_cells {f : F9} : ∀ i, i < 4 → (#[.int .i64 f.k.h, sv9 f.k.a, sv9 f.k.b, sv9 f.k.c, sv9 f.k.d, .int .i64 f.v] : Array Value)[1 + i]? = some (sv9 (f.k.dim i)) := fun i hi => by
  match i, hi with
  | 0, _ => rfl
  | 1, _ => rfl
  | 2, _ => rfl
  | 3, _ => rfl

end Go.Proofs.Ytgchfckmhibeaaa

/-
  Stage 9: the document's Compare, Check, All.
-/
namespace Go.Proofs.Ytgchfckmhibeaaa
open Go.RowKit

set_option maxRecDepth 100000

end Go.Proofs.Ytgchfckmhibeaaa

/-
  Stage 9: the document's Check and All.
-/
namespace Go.Proofs.Ytgchfckmhibeaaa
open Go.RowKit

set_option maxRecDepth 100000

theorem chk_dims {f : F9} {n : Int} (h : ¬ (1 ≤ n ∧ n ≤ 4)) : chkF f n = 1 := by
  unfold chkF okDims
  rw [if_neg (by simpa using h)]
theorem chk_range {f : F9} {n : Int} (hn : 1 ≤ n ∧ n ≤ 4) (h : ¬ (0 ≤ f.k.h ∧ f.k.h ≤ 16777216 ∧ f.v ≤ 1152921504606846976 ∧ -1152921504606846976 ≤ f.v)) : chkF f n = 2 := by
  unfold chkF okDims
  rw [if_pos (by simpa using hn), if_neg h]
theorem chk_text {f : F9} {n : Int} (hn : 1 ≤ n ∧ n ≤ 4) (h : 0 ≤ f.k.h ∧ f.k.h ≤ 16777216 ∧ f.v ≤ 1152921504606846976 ∧ -1152921504606846976 ≤ f.v) (ht : okTexts n f.k = false) : chkF f n = 4 := by
  unfold chkF okDims
  rw [if_pos (by simpa using hn), if_pos h, ht]
  rfl
theorem chk_ok {f : F9} {n : Int} (hn : 1 ≤ n ∧ n ≤ 4) (h : 0 ≤ f.k.h ∧ f.k.h ≤ 16777216 ∧ f.v ≤ 1152921504606846976 ∧ -1152921504606846976 ≤ f.v) (ht : okTexts n f.k = true) : chkF f n = 0 := by
  unfold chkF okDims
  rw [if_pos (by simpa using hn), if_pos h, ht]
  rfl

set_option maxHeartbeats 4000000 in
theorem ref_check9 (f : F9) (n : Int) (w : World) : Calls Try.prog 91 #[fv9 f, .int .i64 n] w fun e w' => e = .returned (.int .i64 (chkF f n)) ∧ Turn (fun _ => False) w w' := by
  unfold fv9
  obtain ⟨w0, hw0⟩ : ∃ w0, w0 = w.alloc (.cells #[.int .i64 f.k.h, sv9 f.k.a, sv9 f.k.b, sv9 f.k.c, sv9 f.k.d, .int .i64 f.v] 76) := ⟨_, rfl⟩
  have HT0 : Hid (Turn (fun _ => False) w w0) := by rw [hw0]; exact (Turn.refl _ w).alloc _
  have hb1 : Box w0 w.heap.size 76 #[.int .i64 f.k.h, sv9 f.k.a, sv9 f.k.b, sv9 f.k.c, sv9 f.k.d, .int .i64 f.v] := by rw [hw0]; exact Box.new w _ _
  have HD1 := Lib.hid (dim_cell (o := 1) hb1 fact_cells)
  have c1 := hb1.cell 0
  have c2 := hb1.cell 5
  have HW := Lib.hid hw0
  clear hb1 hw0
  by_cases hn : 1 ≤ n ∧ n ≤ 4
  · by_cases hr : 0 ≤ f.k.h ∧ f.k.h ≤ 16777216 ∧ f.v ≤ 1152921504606846976 ∧ -1152921504606846976 ≤ f.v
    · have HN := Lib.hid hn
      have HR := Lib.hid hr
      obtain ⟨n1, n2⟩ := hn
      obtain ⟨r1, r2, r3, r4⟩ := hr
      go_enter Try.func91, Try.ntmps91
      go_wp2_with fail
      rw [← HW.out]
      clear c1 c2
      go_loopw [5] (fun x5 wr => wr = w0 ∧ ∃ i : Nat, x5 = .int .i64 (i : Int) ∧ i ≤ 4 ∧ ∀ k, k < i → okText n k (f.k.dim k) = true) (fun x5 _ => 4 - (intOf x5).toNat)
      case atStart => exact ⟨rfl, 0, rfl, Nat.zero_le _, fun k hk => absurd hk (Nat.not_lt_zero k)⟩
      case round =>
        obtain ⟨rfl, i, rfl, hi, he⟩ := hrel
        have HE := Lib.hid he
        clear he
        by_cases hlt : i < 4
        · have e1 := HD1.out i hlt
          have hil : (i : Int) < 4 := by omega
          unfold sv9 at e1
          generalize hT : f.k.dim i = T at *
          by_cases hlen : 16 < T.length
          · have HK : Hid (chkF f n = 4) := chk_text HN.out HR.out (okTexts_not hlt (by rw [hT]; simp [okText]; intro h; omega))
            have hli : (16 : Int) < T.length := by omega
            go_wp2_with fail
            go_ret
            rw [HK.out]
            exact ⟨rfl, HT0.out⟩
          · have hli : ¬ ((16 : Int) < T.length) := by omega
            by_cases hin : (i : Int) < n
            · have hk : okText n i T = true := by simp [okText, hin]; omega
              have HK := Lib.hid hk
              clear hk
              go_wp2_with fail
              go_roundw
              case rel => exact ⟨trivial, i + 1, by go_num, hlt, fun k hk => by
                by_cases ek : k = i
                · rw [ek, hT]; exact HK.out
                · exact HE.out k (by omega)⟩
              case measure => simp [intOf]; omega
            · cases T with
              | nil =>
                have HK := Lib.hid (show okText n i [] = true by simp [okText])
                go_wp2_with fail
                go_roundw
                case rel => exact ⟨trivial, i + 1, by go_num, hlt, fun k hk => by
                  by_cases ek : k = i
                  · rw [ek, hT]; exact HK.out
                  · exact HE.out k (by omega)⟩
                case measure => simp [intOf]; omega
              | cons t T =>
                have hli2 : (T.length : Int) + 1 ≤ 16 := by rw [List.length_cons] at hlen; omega
                have HK : Hid (chkF f n = 4) := chk_text HN.out HR.out (okTexts_not hlt (by rw [hT]; simp [okText]; omega))
                go_wp2_with fail
                go_ret
                rw [HK.out]
                exact ⟨rfl, HT0.out⟩
        · obtain rfl : i = 4 := by omega
          have HK : Hid (chkF f n = 0) := chk_ok HN.out HR.out (okTexts_all HE.out)
          go_wp2
          go_ret
          rw [HK.out]
          exact ⟨rfl, HT0.out⟩
    · rw [chk_range hn hr]
      obtain ⟨n1, n2⟩ := hn
      by_cases r1 : f.k.h < 0
      · clear hr
        go_enter Try.func91, Try.ntmps91
        go_wp2_with fail
        rw [← HW.out]
        go_ret
        exact ⟨rfl, HT0.out⟩
      · by_cases r2 : 16777216 < f.k.h
        · clear hr
          go_enter Try.func91, Try.ntmps91
          go_wp2_with fail
          rw [← HW.out]
          go_ret
          exact ⟨rfl, HT0.out⟩
        · by_cases r3 : 1152921504606846976 < f.v
          · clear hr
            go_enter Try.func91, Try.ntmps91
            go_wp2_with fail
            rw [← HW.out]
            go_ret
            exact ⟨rfl, HT0.out⟩
          · have r4 : f.v < -1152921504606846976 := by omega
            clear hr
            go_enter Try.func91, Try.ntmps91
            go_wp2_with fail
            rw [← HW.out]
            go_ret
            exact ⟨rfl, HT0.out⟩
  · rw [chk_dims hn]
    by_cases n1 : n < 1
    · clear hn
      go_enter Try.func91, Try.ntmps91
      go_wp2_with fail
      rw [← HW.out]
      go_ret
      exact ⟨rfl, HT0.out⟩
    · have n2 : 4 < n := by omega
      clear hn
      go_enter Try.func91, Try.ntmps91
      go_wp2_with fail
      rw [← HW.out]
      go_ret
      exact ⟨rfl, HT0.out⟩

end Go.Proofs.Ytgchfckmhibeaaa

/-
  Stage 9: the document's All; facts held against each other.
-/
namespace Go.Proofs.Ytgchfckmhibeaaa
open Go.RowKit

set_option maxRecDepth 100000

/-- What All answers, as a value. -/
def allV (l : List F9) (n : Int) : Value := .tuple #[.int .i64 (allB l n).1, .int .i64 (allB l n).2]
theorem allV_bad {l : List F9} {n : Int} (h : ¬ (1 ≤ n ∧ n ≤ 4 ∧ 1 ≤ l.length ∧ l.length ≤ 50)) : allV l n = .tuple #[.int .i64 1, .int .i64 0] := by
  unfold allV allB
  rw [if_neg]
  intro ⟨h1, h2, h3⟩
  unfold okDims at h1
  simp only [Bool.and_eq_true, decide_eq_true_iff] at h1
  exact h ⟨h1.1, h1.2, h2, h3⟩
theorem allV_at {l : List F9} {n : Int} (h : 1 ≤ n ∧ n ≤ 4 ∧ 1 ≤ l.length ∧ l.length ≤ 50) {a b : Int} (e : badAt n l 0 = (a, b)) : allV l n = .tuple #[.int .i64 a, .int .i64 b] := by
  unfold allV allB
  rw [if_pos ⟨by unfold okDims; simp [h.1, h.2.1], h.2.2⟩, e]

set_option maxHeartbeats 4000000 in
theorem ref_all9 (v : Value) (l : List F9) (n : Int) (w : World) (hv : RdE EF w v l) (hl : l.length ≤ 1000000) : Calls Try.prog 75 #[v, .int .i64 n] w fun e w' => e = .returned (allV l n) ∧ Turn (fun _ => False) w w' := by
  have HV := Lib.hid hv
  obtain ⟨A, c, rfl⟩ := hv.shape
  clear hv
  by_cases hg : 1 ≤ n ∧ n ≤ 4 ∧ 1 ≤ l.length ∧ l.length ≤ 50
  · have HG := Lib.hid hg
    obtain ⟨g1, g2, g3, g4⟩ := hg
    have g3' : (1 : Int) ≤ l.length := by omega
    have g4' : (l.length : Int) ≤ 50 := by omega
    go_enter Try.func75, Try.ntmps75
    go_wp2_with fail
    go_loopw [6] (fun x6 wr => ∃ i : Nat, x6 = .int .i64 (i : Int) ∧ i ≤ l.length ∧ badAt n l 0 = badAt n (l.drop i) i ∧ Turn (fun _ => False) w wr) (fun x6 _ => l.length - (intOf x6).toNat)
    case atStart => exact ⟨0, rfl, Nat.zero_le _, rfl, Turn.refl _ w⟩
    case round =>
      obtain ⟨i, rfl, hi, hb, ht⟩ := hrel
      have HB := Lib.hid hb
      have HT := Lib.hid ht
      clear hb ht
      by_cases hlt : i < l.length
      · obtain ⟨f, hf⟩ : ∃ f, l[i]? = some f := ⟨_, List.getElem?_eq_getElem hlt⟩
        obtain ⟨ad, rfl, hc⟩ := fact_at6 HV.out hf
        obtain ⟨c0, c1, c2, c3, c4, c5⟩ := hc wr HT.out
        have hil : (i : Int) < l.length := by omega
        have HF := Lib.hid hf
        clear hc hf
        go_wp2_with fail
        refine (ref_check9 f n wr).mono ?_
        rintro e w2 ⟨rfl, t2⟩
        have HT2 : Hid (Turn (fun _ => False) w w2) := HT.out.trans t2 (fun _ _ f => f)
        clear t2 c0 c1 c2 c3 c4 c5
        by_cases hk : chkF f n = 0
        · have HB2 : Hid (badAt n l 0 = badAt n (l.drop (i + 1)) (i + 1)) := HB.out.trans (bad_step HF.out hk)
          rw [hk]
          go_wp2
          go_roundw
          case rel => exact ⟨i + 1, by go_num, hlt, HB2.out, HT2.out⟩
          case measure => simp [intOf]; omega
        · have HA : Hid (allV l n = .tuple #[.int .i64 (chkF f n), .int .i64 (i : Int)]) := allV_at HG.out (HB.out.trans (bad_here HF.out hk))
          have hk2 : (chkF f n == 0) = false := by simpa using hk
          clear hk
          generalize chkF f n = cf at *
          go_wp2
          go_ret2
          rw [HA.out]
          exact ⟨rfl, HT2.out⟩
      · obtain rfl : i = l.length := by omega
        have HA : Hid (allV l n = .tuple #[.int .i64 0, .int .i64 0]) := allV_at HG.out (by rw [HB.out, List.drop_length]; rfl)
        go_wp2
        go_ret2
        rw [HA.out]
        exact ⟨rfl, HT.out⟩
  · rw [allV_bad hg]
    by_cases n1 : n < 1
    · clear hg
      go_enter Try.func75, Try.ntmps75
      go_wp2_with fail
      go_ret2
      exact ⟨rfl, Turn.refl _ w⟩
    · by_cases n2 : 4 < n
      · clear hg
        go_enter Try.func75, Try.ntmps75
        go_wp2_with fail
        go_ret2
        exact ⟨rfl, Turn.refl _ w⟩
      · by_cases n3 : l.length < 1
        · have n3' : (l.length : Int) < 1 := by omega
          clear hg
          go_enter Try.func75, Try.ntmps75
          go_wp2_with fail
          go_ret2
          exact ⟨rfl, Turn.refl _ w⟩
        · have n3' : ¬ ((l.length : Int) < 1) := by omega
          have n4' : (50 : Int) < l.length := by omega
          clear hg
          go_enter Try.func75, Try.ntmps75
          go_wp2_with fail
          go_ret2
          exact ⟨rfl, Turn.refl _ w⟩

end Go.Proofs.Ytgchfckmhibeaaa

/-
  Stage 9: the document's Encode.
-/
namespace Go.Proofs.Ytgchfckmhibeaaa
open Go.RowKit

set_option maxRecDepth 100000

theorem made_behind9 {a b c : World} {v : Value} {l : List UInt8} (h : Turn (fun _ => False) a b) (g : Made b c v l) : Made a c v l :=
  ⟨g.1, h.trans g.2.1 (fun _ _ f => f), fun k hk => Nat.le_trans h.size (g.2.2 k hk)⟩
/-- Bytes put behind bytes of one's own. -/
theorem made_more9 {w wr w2 w3 : World} {A A3 : Option Addr} {n c n3 c3 : Nat} {acc m : List UInt8} (h : Made w wr (.slice A n c) acc) (ht : Turn (fun _ => False) wr w2) (hb : By w3 (.slice A3 n3 c3) (acc ++ m))
    (hg : w2.grownBy w3 (Value.slice A n c).ownBlock) (ha : (Value.slice A3 n3 c3).ownBlock = (Value.slice A n c).ownBlock ∨ (Value.slice A3 n3 c3).ownBlock = some w2.heap.size) : Made w w3 (.slice A3 n3 c3) (acc ++ m) := made_app h ht hb hg ha rfl
/-- A fact's bytes; a batch's. -/
def textB (t : List UInt8) : List UInt8 := enc t.length ++ t
def textsB (k : K9) : Nat → List UInt8
  | 0 => []
  | i + 1 => textsB k i ++ textB (k.dim i)
def factB (n : Nat) (f : F9) : List UInt8 := enc f.k.h.toNat ++ textsB f.k n ++ enc (zig f.v)
def batchB (l : List F9) (n : Nat) : List UInt8 := enc l.length ++ l.flatMap (factB n)
/-- A fact that is right. -/
structure Good9 (f : F9) : Prop where
  h0 : 0 ≤ f.k.h
  h1 : f.k.h ≤ 16777216
  v0 : -1152921504606846976 ≤ f.v
  v1 : f.v ≤ 1152921504606846976
  t : ∀ i, i < 4 → (f.k.dim i).length ≤ 16
theorem good_chk {f : F9} {n : Int} (h : chkF f n = 0) : Good9 f := by
  unfold chkF at h
  split at h
  · split at h
    · rename_i hr
      split at h
      · rename_i ht
        refine ⟨hr.1, hr.2.1, hr.2.2.2, hr.2.2.1, fun i hi => ?_⟩
        simp only [okTexts, okText, Bool.and_eq_true, decide_eq_true_iff] at ht
        match i, hi with
        | 0, _ => exact ht.1.1.1.1
        | 1, _ => exact ht.1.1.2.1
        | 2, _ => exact ht.1.2.1
        | 3, _ => exact ht.2.1
      · cases h
    · cases h
  · cases h
theorem bad_none {n : Int} : ∀ {l : List F9} {i : Nat}, (badAt n l i).1 = 0 → ∀ f ∈ l, chkF f n = 0
  | [], _, _, f, hf => by cases hf
  | g :: t, i, h, f, hf => by
    unfold badAt at h
    split at h
    · rename_i hg
      rcases List.mem_cons.1 hf with rfl | hf
      · exact hg
      · exact bad_none h f hf
    · rename_i hg
      exact absurd h hg
theorem bad_fst {n : Int} : ∀ {l : List F9} {i : Nat}, (badAt n l i).1 = 0 → badAt n l i = (0, 0)
  | [], _, _ => rfl
  | g :: t, i, h => by
    unfold badAt at h ⊢
    split
    · rename_i hg
      rw [if_pos hg] at h
      exact bad_fst h
    · rename_i hg
      rw [if_neg hg] at h
      exact absurd h hg
theorem all_good {l : List F9} {n : Int} (h : (allB l n).1 = 0) : (1 ≤ n ∧ n ≤ 4) ∧ (1 ≤ l.length ∧ l.length ≤ 50) ∧ (∀ f ∈ l, chkF f n = 0) ∧ allB l n = (0, 0) := by
  unfold allB at h ⊢
  split
  · rename_i hc
    rw [if_pos hc] at h
    obtain ⟨h1, h2, h3⟩ := hc
    unfold okDims at h1
    simp only [Bool.and_eq_true, decide_eq_true_iff] at h1
    exact ⟨h1, ⟨h2, h3⟩, bad_none h, bad_fst h⟩
  · rename_i hc
    rw [if_neg hc] at h
    cases h
theorem texts_len (f : F9) (hg : Good9 f) : ∀ k, k ≤ 4 → (textsB f.k k).length ≤ 26 * k
  | 0, _ => Nat.zero_le _
  | k + 1, hk => by
    have ih := texts_len f hg k (by omega)
    have h1 := hg.t k (by omega)
    have h2 := enc_len (f.k.dim k).length
    show (textsB f.k k ++ (enc (f.k.dim k).length ++ f.k.dim k)).length ≤ _
    rw [List.length_append, List.length_append]
    omega
theorem fact_len {f : F9} (hg : Good9 f) {n : Nat} (hn : n ≤ 4) : (factB n f).length ≤ 200 := by
  have h1 := texts_len f hg n hn
  have h2 := enc_len f.k.h.toNat
  have h3 := enc_len (zig f.v)
  unfold factB
  rw [List.length_append, List.length_append]
  omega
/-- What was laid of a batch. -/
def partB (l : List F9) (n i : Nat) : List UInt8 := enc l.length ++ (l.take i).flatMap (factB n)
theorem partB_step {l : List F9} {n i : Nat} {f : F9} (h : l[i]? = some f) : partB l n (i + 1) = partB l n i ++ factB n f := by
  obtain ⟨h0, e⟩ := List.getElem?_eq_some_iff.1 h
  unfold partB
  rw [List.take_succ_eq_append_getElem h0, e, List.flatMap_append, List.append_assoc]
  simp
theorem partB_len {l : List F9} {n : Nat} (hn : n ≤ 4) (hg : ∀ f ∈ l, Good9 f) : ∀ i, (partB l n i).length ≤ 10 + 200 * i
  | 0 => by
    unfold partB
    have := enc_len l.length
    simp
    omega
  | i + 1 => by
    have ih := partB_len hn hg i
    cases h : l[i]? with
    | none =>
      have e : partB l n (i + 1) = partB l n i := by
        unfold partB
        have := List.getElem?_eq_none_iff.1 h
        rw [List.take_of_length_le (by omega), List.take_of_length_le (by omega)]
      rw [e]
      omega
    | some f =>
      rw [partB_step h, List.length_append]
      have := fact_len (hg f (List.mem_of_getElem? h)) hn
      omega
theorem partB_all (l : List F9) (n : Nat) : partB l n l.length = batchB l n := by unfold partB batchB; rw [List.take_length]
/-- Behind Encode: the bytes, or none. -/
def Encd (w : World) (l : List F9) (n : Int) (e : Ending) (w' : World) : Prop :=
  ∃ v, e = .returned (.tuple #[v, .int .i64 (allB l n).1]) ∧ Made w w' v (if (allB l n).1 = 0 then batchB l n.toNat else [])

set_option maxHeartbeats 8000000 in
theorem ref_encode9 (v : Value) (l : List F9) (n : Int) (w : World) (hv : RdE EF w v l) (hl : l.length ≤ 1000) : Calls Try.prog 79 #[v, .int .i64 n] w fun e w' => Encd w l n e w' := by
  have HV := Lib.hid hv
  obtain ⟨A, c, rfl⟩ := hv.shape
  have HALL := Lib.hid (ref_all9 (.slice A l.length c) l n w hv (by omega))
  clear hv
  by_cases h0 : (allB l n).1 = 0
  · have hag := all_good h0
    obtain ⟨⟨n1, n4⟩, ⟨l1, l50⟩, hch, hall⟩ := hag
    obtain ⟨N, rfl⟩ := Int.eq_ofNat_of_zero_le (show 0 ≤ n by omega)
    have HG : Hid (∀ f ∈ l, Good9 f) := fun f hf => good_chk (hch f hf)
    have HEND : Hid (∀ v w', Made w w' v (batchB l N) → Encd w l (N : Int) (.returned (.tuple #[v, .int .i64 0])) w') := fun v w' hm => ⟨v, by rw [h0], by rw [if_pos h0, Int.toNat_natCast]; exact hm⟩
    unfold allV at HALL
    rw [hall] at HALL
    have hN4 : N ≤ 4 := by omega
    have HLEN := Lib.hid (partB_len (n := N) hN4 HG.out)
    have hl64 : Hid (l.length < 18446744073709551616) := by show _ < _; omega
    clear h0 hch hall
    go_enter Try.func79, Try.ntmps79
    go_wp2_with fail
    refine HALL.out.mono ?_
    rintro e w1 ⟨rfl, t1⟩
    have HT1 := Lib.hid t1
    clear t1
    go_wp2_with fail
    refine (ref_num l.length w1 hl64).mono ?_
    rintro e w2 ⟨v2, rfl, hm⟩
    have HM0 : Hid (Made w w2 v2 (partB l N 0)) := by
      unfold partB
      rw [List.take_zero, List.flatMap_nil, List.append_nil]
      exact made_behind9 HT1.out hm
    clear hm HT1 HALL
    go_wp2_with fail
    go_loopw [8, 9] (fun x8 x9 wr => ∃ i : Nat, x9 = .int .i64 (i : Int) ∧ i ≤ l.length ∧ Made w wr x8 (partB l N i)) (fun _ x9 _ => l.length - (intOf x9).toNat)
    case atStart => exact ⟨0, rfl, Nat.zero_le _, HM0.out⟩
    case round =>
      clear HM0
      obtain ⟨i, rfl, hi, hm⟩ := hrel
      have HM := Lib.hid hm
      obtain ⟨A8, c8, hv8⟩ := hm.1.shape
      subst hv8
      have hlen := HLEN.out i
      clear hm
      by_cases hlt : i < l.length
      · obtain ⟨f, hf⟩ : ∃ f, l[i]? = some f := ⟨_, List.getElem?_eq_getElem hlt⟩
        have hgf := HG.out f (List.mem_of_getElem? hf)
        obtain ⟨ad, rfl, hc⟩ := fact_at HV.out hf
        have HC := Lib.hid hc
        have HST := Lib.hid (partB_step (n := N) hf)
        have HGF := Lib.hid hgf
        have e0 := (hc _ HM.out.2.1).1
        obtain ⟨H, hH⟩ := Int.eq_ofNat_of_zero_le hgf.h0
        have hH2 : H ≤ 16777216 := by have := hgf.h1; omega
        rw [hH] at e0
        have HHH := Lib.hid hH
        have hil : (i : Int) < l.length := by omega
        have hn64 : Hid (H < 18446744073709551616) := by show _ < _; omega
        generalize hacc : partB l N i = acc at *
        clear hc hf hgf hH hacc
        go_wp2_with fail
        refine (ref_num H wr hn64).mono ?_
        rintro e w3 ⟨v3, rfl, hm3⟩
        have HY := Lib.hid hm3
        have HM3 : Hid (By w3 (.slice A8 acc.length c8) acc) := HM.out.1.turn hm3.2.1 (fun _ _ f => f)
        have hel := enc_len H
        clear hm3
        go_wp2_with (at_builtin; go_must (refine wpList_app _ rfl _ _ _ rfl _ acc rfl HM3.out _ rfl (enc H) HY.out.1.yields (by omega) ?_))
        intro A4 n4 c4 w4 hb hg ha
        have hm4 := made_more9 HM.out HY.out.2.1 hb hg ha
        have HM4 : Hid (Made w w4 (.slice A4 n4 c4) (acc ++ enc H ++ textsB f.k 0)) := by
          show Made _ _ _ (acc ++ enc H ++ [])
          rw [List.append_nil]
          exact hm4
        clear hb hg ha hm4 HM3 HY HM e0
        go_wp2_with fail
        go_loopw [8, 10] (fun x8 x10 wk => ∃ k : Nat, x10 = .int .i64 (k : Int) ∧ k ≤ N ∧ Made w wk x8 (acc ++ enc H ++ textsB f.k k)) (fun _ x10 _ => N - (intOf x10).toNat)
        case atStart => exact ⟨0, rfl, Nat.zero_le _, HM4.out⟩
        case round =>
          clear HM4
          obtain ⟨k, rfl, hk, hm⟩ := hrel
          have HM := Lib.hid hm
          obtain ⟨A8, c8, hv8⟩ := hm.1.shape
          subst hv8
          have htl := texts_len f HGF.out k (by omega)
          clear hm
          by_cases hkN : k < N
          · have e1 := (HC.out wr HM.out.2.1).2.1 k (by omega)
            have ht16 := HGF.out.t k (by omega)
            have hki : (k : Int) < N := by omega
            have HTS : Hid (textsB f.k (k + 1) = textsB f.k k ++ textB (f.k.dim k)) := rfl
            rw [← Nat.add_assoc] at e1
            unfold sv9 at e1
            have hlen2 : (acc ++ enc H ++ textsB f.k k).length ≤ 100000 := by rw [List.length_append, List.length_append]; omega
            generalize hacc : acc ++ enc H ++ textsB f.k k = acc2 at *
            have HACC := Lib.hid hacc
            generalize hT : f.k.dim k = T at *
            have hk4 : (k : Int) < 4 := by omega
            clear hacc hT
            go_wp2_with fail
            refine (ref_text ⟨T.toArray⟩ wr (by show T.toArray.size ≤ _; simp; omega)).mono ?_
            rintro e w3 ⟨v3, rfl, hm3⟩
            have hm3' : Made wr w3 v3 (textB T) := hm3
            have HY := Lib.hid hm3'
            have HM3 : Hid (By w3 (.slice A8 acc2.length c8) acc2) := HM.out.1.turn hm3.2.1 (fun _ _ f => f)
            have hel : (textB T).length ≤ 100 := by
              unfold textB
              have := enc_len T.length
              rw [List.length_append]
              omega
            clear hm3 hm3'
            go_wp2_with (at_builtin; go_must (refine wpList_app _ rfl _ _ _ rfl _ acc2 rfl HM3.out _ rfl (textB T) HY.out.1.yields (by omega) ?_))
            intro A4 n4 c4 w4 hb hg ha
            have hm4 := made_more9 HM.out HY.out.2.1 hb hg ha
            have HM4 : Hid (Made w w4 (.slice A4 n4 c4) (acc ++ enc H ++ textsB f.k (k + 1))) := by rw [HTS.out, ← List.append_assoc, HACC.out]; exact hm4
            clear hb hg ha hm4 HM3 HY HM
            go_wp2
            go_roundw
            case rel => exact ⟨k + 1, by go_num, hkN, HM4.out⟩
            case measure => simp [intOf]; omega
          · obtain rfl : k = N := by omega
            have e5 := (HC.out wr HM.out.2.1).2.2
            have hlen2 : (acc ++ enc H ++ textsB f.k k).length ≤ 100000 := by rw [List.length_append, List.length_append]; omega
            have hst2 : partB l k (i + 1) = acc ++ enc H ++ textsB f.k k ++ enc (zig f.v) := by
              rw [HST.out]
              unfold factB
              rw [HHH.out]
              simp only [Int.toNat_natCast, List.append_assoc]
            have HST2 := Lib.hid hst2
            clear hst2
            generalize hacc : acc ++ enc H ++ textsB f.k k = acc2 at *
            have hv1 : Hid (-9223372036854775808 ≤ f.v) := by have := HGF.out.v0; show _ ≤ _; omega
            have hv2 : Hid (f.v ≤ 9223372036854775807) := by have := HGF.out.v1; show _ ≤ _; omega
            clear hacc
            go_wp2_with fail
            refine (ref_int f.v wr hv1 hv2).mono ?_
            rintro e w3 ⟨v3, rfl, hm3⟩
            have HY := Lib.hid hm3
            have HM3 : Hid (By w3 (.slice A8 acc2.length c8) acc2) := HM.out.1.turn hm3.2.1 (fun _ _ f => f)
            have hel := enc_len (zig f.v)
            clear hm3
            go_wp2_with (at_builtin; go_must (refine wpList_app _ rfl _ _ _ rfl _ acc2 rfl HM3.out _ rfl (enc (zig f.v)) HY.out.1.yields (by omega) ?_))
            intro A4 n4 c4 w4 hb hg ha
            have hm4 := made_more9 HM.out HY.out.2.1 hb hg ha
            have HM4 : Hid (Made w w4 (.slice A4 n4 c4) (partB l k (i + 1))) := by rw [HST2.out]; exact hm4
            clear hb hg ha hm4 HM3 HY HM
            go_wp2
            go_roundw
            case rel => exact ⟨i + 1, by go_num, hlt, HM4.out⟩
            case measure => simp [intOf]; omega
      · obtain rfl : i = l.length := by omega
        have HM2 := HEND.out _ _ (by rw [← partB_all]; exact HM.out)
        go_wp2
        go_ret2
        exact HM2
  · have HEND : Hid (∀ w', Turn (fun _ => False) w w' → Encd w l n (.returned (.tuple #[.slice none 0 0, .int .i64 (allB l n).1])) w') := fun w' ht => ⟨_, rfl, by rw [if_neg h0]; exact ⟨By.nil w', ht, fun k hk => by simp [Value.ownBlock] at hk⟩⟩
    have hne : ((allB l n).1 == 0) = false := by simpa using h0
    unfold allV at HALL
    clear h0
    generalize (allB l n).1 = a at *
    generalize (allB l n).2 = b at *
    go_enter Try.func79, Try.ntmps79
    go_wp2_with fail
    refine HALL.out.mono ?_
    rintro e w1 ⟨rfl, t1⟩
    have HT1 := Lib.hid t1
    clear t1
    go_wp2
    go_ret2
    exact HEND.out _ HT1.out

end Go.Proofs.Ytgchfckmhibeaaa

/-
  What else the document's own reader reads.
-/
namespace Go.Proofs.Ytgchfckmhibeaaa
open Go.RowKit

/-- Behind a call on the document's reader: val, and what is left, and the fault; behind a fault nothing. -/
def XPost (q B : Nat) (m : List UInt8) (f : Nat) (w : World) (none val : Value) (t : List UInt8) (f1 : Nat) (e : Ending) (w' : World) : Prop :=
  (f = 0 → e = .returned val ∧ XM w q B w' t f1) ∧ (f ≠ 0 → e = .returned none ∧ XM w q B w' m f)

theorem XPost.ok {q B : Nat} {m : List UInt8} {w : World} {none val : Value} {t : List UInt8} {f1 : Nat} {e : Ending} {w' : World} (h1 : e = .returned val) (h : XM w q B w' t f1) : XPost q B m 0 w none val t f1 e w' :=
  ⟨fun _ => ⟨h1, h⟩, fun n => absurd rfl n⟩
theorem XPost.bad {q B : Nat} {m : List UInt8} {f : Nat} {w : World} {none val : Value} {t : List UInt8} {f1 : Nat} {e : Ending} {w' : World} (hf : f ≠ 0) (h1 : e = .returned none) (h : XM w q B w' m f) : XPost q B m f w none val t f1 e w' :=
  ⟨fun n => absurd n hf, fun _ => ⟨h1, h⟩⟩

set_option maxRecDepth 100000 in
set_option maxHeartbeats 1000000 in
theorem xnum_bad (q B : Nat) (A : Option Addr) (c : Nat) (m : List UInt8) (f : Nat) (hf : f ≠ 0) (w : World) (h : XRd w q B A c m f) :
    Calls Try.prog 51 #[.pointer (some ⟨q, 0, none⟩)] w fun e w' => e = .returned (.int .u64 0) ∧ w = w' := by
  have HX := Lib.hid (xone_bad q B A c m f hf w h)
  have c1 : w.cell? ⟨q, 1, none⟩ = some (.int .i64 f) := h.1.cell 1
  have hf2 : (((f : Int) == 0) = false) := by rw [beq_eq_false_iff_ne]; omega
  have hf3 : (((f : Int) != 0) = true) := by rw [bne_iff_ne]; omega
  clear h hf
  go_enter Try.func51, Try.ntmps51
  go_wp2
  go_loopw [3, 4, 5] (fun x3 x4 x5 wr => x5 = .int .i64 0 ∧ wr = w) (fun _ _ x5 _ => 10 - (intOf x5).toNat)
  case atStart => exact ⟨rfl, rfl⟩
  case round =>
    obtain ⟨rfl, rfl⟩ := hrel
    go_wp2_with (go_at_call 70; refine HX.out.mono ?_; rintro e w1 ⟨rfl, rfl⟩)
    go_ret
    exact ⟨rfl, rfl⟩

theorem xnum (q B : Nat) (A : Option Addr) (c : Nat) (m : List UInt8) (f : Nat) (w : World) (h : XRd w q B A c m f) :
    Calls Try.prog 51 #[.pointer (some ⟨q, 0, none⟩)] w (XPost q B m f w (.int .u64 0) (.int .u64 (rdNum m).1) (m.drop (rdNum m).2.2) (rdNum m).2.1) := by
  by_cases hf : f = 0
  · subst hf
    exact (xnum_any q B A c m w h).mono fun e w' hx => XPost.ok hx.1 hx.2
  · exact (xnum_bad q B A c m f hf w h).mono fun e w' hx => XPost.bad hf hx.1 (hx.2 ▸ XM.refl h)

theorem zag_even (n : Nat) (h : n % 2 < 1) (hn : Hid (n < 18446744073709551616)) : wrap64 (IntKind.u64.wrap ((n : Int) / 2)) = zag n := by
  have a : n < 18446744073709551616 := hn
  rw [IntKind.wrap_u64]
  unfold zag wrap64
  rw [if_pos (by omega)]
  omega
theorem zag_odd (n : Nat) (h : 1 ≤ n % 2) (hn : Hid (n < 18446744073709551616)) : wrap64 (wrap64 (-wrap64 (IntKind.u64.wrap ((n : Int) / 2))) - 1) = zag n := by
  have a : n < 18446744073709551616 := hn
  have e1 : wrap64 (IntKind.u64.wrap ((n : Int) / 2)) = (n : Int) / 2 := by rw [IntKind.wrap_u64]; unfold wrap64; omega
  have e2 : wrap64 (-((n : Int) / 2)) = -((n : Int) / 2) := by unfold wrap64; omega
  rw [e1, e2]
  unfold zag wrap64
  rw [if_neg (by omega)]
  omega

set_option maxRecDepth 100000 in
set_option maxHeartbeats 1000000 in
/-- Int, over whatever Num answers. -/
theorem xint_of (q : Nat) (n : Nat) (hn : Hid (n < 18446744073709551616)) (w : World) (K : World → Prop)
    (h : Calls Try.prog 51 #[.pointer (some ⟨q, 0, none⟩)] w fun e w' => e = .returned (.int .u64 n) ∧ K w') :
    Calls Try.prog 74 #[.pointer (some ⟨q, 0, none⟩)] w fun e w' => e = .returned (.int .i64 (zag n)) ∧ K w' := by
  have H := Lib.hid h; clear h
  by_cases hp : n % 2 < 1
  · have hz := zag_even n hp hn
    go_enter Try.func74, Try.ntmps74
    go_wp2_with (go_at_call 51; refine H.out.mono ?_; rintro e w1 ⟨rfl, hk⟩; have HK := Lib.hid hk; clear hk)
    go_ret
    exact ⟨ret_int hz, HK.out⟩
  · have hp1 : 1 ≤ n % 2 := by omega
    clear hp
    have hz := zag_odd n hp1 hn
    go_enter Try.func74, Try.ntmps74
    go_wp2_with (go_at_call 51; refine H.out.mono ?_; rintro e w1 ⟨rfl, hk⟩; have HK := Lib.hid hk; clear hk)
    go_ret
    exact ⟨ret_int hz, HK.out⟩

theorem xint (q B : Nat) (A : Option Addr) (c : Nat) (m : List UInt8) (f : Nat) (w : World) (h : XRd w q B A c m f) :
    Calls Try.prog 74 #[.pointer (some ⟨q, 0, none⟩)] w (XPost q B m f w (.int .i64 0) (.int .i64 (zag (rdNum m).1)) (m.drop (rdNum m).2.2) (rdNum m).2.1) := by
  by_cases hf : f = 0
  · subst hf
    refine (xint_of q (rdNum m).1 (rdNum_lt m) w _ ((xnum_any q B A c m w h).mono fun e w' hx => hx)).mono fun e w' hx => XPost.ok hx.1 hx.2
  · refine (xint_of q 0 (by show (0 : Nat) < 18446744073709551616; omega) w (fun w' => w = w') ((xnum_bad q B A c m f hf w h).mono fun e w' hx => hx)).mono fun e w' hx => XPost.bad hf (by rw [hx.1, zag_zero]) (hx.2 ▸ XM.refl h)

set_option maxRecDepth 100000 in
set_option maxHeartbeats 1000000 in
theorem xtext (q B : Nat) (A : Option Addr) (c : Nat) (m : List UInt8) (f : Nat) (most : Nat) (hmost : most ≤ 1000000) (w : World) (h : XRd w q B A c m f) :
    Calls Try.prog 73 #[.pointer (some ⟨q, 0, none⟩), .int .i64 most] w (XPost q B m f w (.string ⟨#[]⟩) (.string ⟨(rdText most m).1.toArray⟩) (m.drop (rdText most m).2.2) (rdText most m).2.1) := by
  by_cases hf : f = 0
  · subst hf
    have HN := xnum_any q B A c m w h
    unfold XNum at HN
    have hlen : m.length ≤ 9223372036854775807 := by have := h.2.2.2; unfold maxLen at this; omega
    clear h
    obtain ⟨⟨n, g, k⟩, hr⟩ : ∃ r, r = rdNum m := ⟨_, rfl⟩
    rw [← hr] at HN
    have hE : rdText most m = if g ≠ 0 then ([], g, k) else if most < n then ([], 4, k) else if (m.drop k).length < n then ([], 3, k) else ((m.drop k).take n, 0, k + n) := by
      unfold rdText rdCount
      rw [← hr]
      by_cases hg : g = 0
      · subst hg
        by_cases hm : most < n <;> simp [hm]
      · simp [hg]
    have HE := Lib.hid hE; clear hE hr
    have hlen2 : (m.drop k).length ≤ 9223372036854775807 := by rw [List.length_drop]; omega
    obtain ⟨t, ht⟩ : ∃ t, t = m.drop k := ⟨_, rfl⟩
    simp only [← ht] at HN HE hlen2
    have HTT := Lib.hid ht; clear ht hlen
    have HN2 := Lib.hid HN; clear HN
    by_cases hg : g = 0
    · subst hg
      by_cases hm : most < n
      · go_enter Try.func73, Try.ntmps73
        go_wp2_with (first
          | (go_at_call 51; refine HN2.out.mono ?_; rintro e w1 ⟨rfl, ⟨⟨A2, c2, hx2⟩, ht2⟩⟩; have cf : w1.cell? ⟨q, 1, none⟩ = some (.int .i64 0) := hx2.1.cell 1; have HX2 : Hid (XM w q B w1 t 0) := ⟨⟨A2, c2, hx2⟩, ht2⟩; have HX3 := Lib.hid hx2; clear hx2 ht2)
          | (go_at_call 71; refine (xbad_any q B A2 c2 t w1 HX3.out).mono ?_; rintro e w2 ⟨rfl, hb⟩; have HBD := Lib.hid hb; clear hb))
        go_ret
        rw [HE.out, if_neg (by omega), if_pos hm]
        exact XPost.ok rfl (by rw [← HTT.out]; exact HX2.out.trans HBD.out)
      · by_cases hl : t.length < n
        · go_enter Try.func73, Try.ntmps73
          go_wp2_with (go_at_call 51; refine HN2.out.mono ?_; rintro e w1 ⟨rfl, ⟨⟨A2, c2, hx2⟩, ht2⟩⟩; have cf : w1.cell? ⟨q, 1, none⟩ = some (.int .i64 0) := hx2.1.cell 1; have cg : w1.cell? ⟨q, 0, none⟩ = some (.slice A2 t.length c2) := hx2.1.cell 0; have ff : w1.frozen? ⟨q, 1, none⟩ = false := hx2.1.free 1; have HX2 : Hid (XM w q B w1 t 0) := ⟨⟨A2, c2, hx2⟩, ht2⟩; have HX3 := Lib.hid (hx2.fault 3 3 rfl); clear hx2 ht2)
          go_ret
          rw [HE.out, if_neg (by omega), if_neg hm, if_pos hl]
          exact XPost.ok rfl (by rw [← HTT.out]; exact HX2.out.trans HX3.out)
        · go_enter Try.func73, Try.ntmps73
          go_wp2_with (go_at_call 51; refine HN2.out.mono ?_; rintro e w1 ⟨rfl, ⟨⟨A2, c2, hx2⟩, ht2⟩⟩; have cf : w1.cell? ⟨q, 1, none⟩ = some (.int .i64 0) := hx2.1.cell 1; have cg : w1.cell? ⟨q, 0, none⟩ = some (.slice A2 t.length c2) := hx2.1.cell 0; have fg : w1.frozen? ⟨q, 0, none⟩ = false := hx2.1.free 0; have hc2 : t.length ≤ c2 := hx2.2.2.2.1; have hst := (hx2.front n (by omega)).string; have HX2 : Hid (XM w q B w1 t 0) := ⟨⟨A2, c2, hx2⟩, ht2⟩; have HX3 := Lib.hid (hx2.cut n (by omega) _ rfl); clear hx2 ht2)
          all_goals
            go_ret
            rw [HE.out, if_neg (by omega), if_neg hm, if_neg hl]
            refine XPost.ok rfl ?_
            have h3 := HX2.out.trans HX3.out
            have e : m.drop (k + n) = t.drop n := by rw [HTT.out, List.drop_drop]
            rw [e]
            first | simpa [‹c2 = n›] using h3 | simpa [‹¬ c2 = n›] using h3
    · have hf2 : (((g : Int) == 0) = false) := by rw [beq_eq_false_iff_ne]; omega
      have hf3 : (((g : Int) != 0) = true) := by rw [bne_iff_ne]; omega
      have HG := Lib.hid hg; clear hg
      go_enter Try.func73, Try.ntmps73
      go_wp2_with (go_at_call 51; refine HN2.out.mono ?_; rintro e w1 ⟨rfl, ⟨⟨A2, c2, hx2⟩, ht2⟩⟩; have cf : w1.cell? ⟨q, 1, none⟩ = some (.int .i64 g) := hx2.1.cell 1; have HX2 : Hid (XM w q B w1 t g) := ⟨⟨A2, c2, hx2⟩, ht2⟩; clear hx2 ht2)
      go_ret
      rw [HE.out, if_pos HG.out]
      exact XPost.ok rfl (by rw [← HTT.out]; exact HX2.out)
  · have hf2 : (((f : Int) == 0) = false) := by rw [beq_eq_false_iff_ne]; omega
    have hf3 : (((f : Int) != 0) = true) := by rw [bne_iff_ne]; omega
    have HN := Lib.hid (xnum_bad q B A c m f hf w h)
    have cf : w.cell? ⟨q, 1, none⟩ = some (.int .i64 f) := h.1.cell 1
    have HR := Lib.hid (XM.refl h)
    have HF := Lib.hid hf; clear hf h
    go_enter Try.func73, Try.ntmps73
    go_wp2_with (go_at_call 51; refine HN.out.mono ?_; rintro e w1 ⟨rfl, rfl⟩)
    go_ret
    exact XPost.bad HF.out rfl HR.out

end Go.Proofs.Ytgchfckmhibeaaa

/-
  Stage 9: the document's reader, by its state; its Count.
-/
namespace Go.Proofs.Ytgchfckmhibeaaa
open Go.RowKit

set_option maxRecDepth 100000

theorem rdF_bad : ∀ (k i acc : Nat) (l : List UInt8), (rdF k i acc l).2.1 ≠ 0 → (rdF k i acc l).1 = 0
  | 0, _, _, _, _ => rfl
  | _ + 1, _, _, [], _ => rfl
  | k + 1, i, acc, b :: l, h => by
    unfold rdF at h ⊢
    split
    · rename_i hb
      rw [if_pos hb] at h
      exact rdF_bad k _ _ l h
    · rename_i hb
      rw [if_neg hb] at h
      split
      · rfl
      · rename_i hc
        rw [if_neg hc] at h
        exact absurd rfl h
theorem rdNum_bad {l : List UInt8} (h : (rdNum l).2.1 ≠ 0) : (rdNum l).1 = 0 := rdF_bad 10 0 0 l h

set_option maxHeartbeats 2000000 in
theorem xcount (q B : Nat) (A : Option Addr) (c : Nat) (m : List UInt8) (f : Nat) (most : Nat) (hmost : most ≤ 1000000) (w : World) (h : XRd w q B A c m f) :
    Calls Try.prog 72 #[.pointer (some ⟨q, 0, none⟩), .int .i64 most] w (XPost q B m f w (.int .i64 0) (.int .i64 (rdCount most m).1) (m.drop (rdCount most m).2.2) (rdCount most m).2.1) := by
  have h0m : (0 : Int) ≤ most := by omega
  by_cases hf : f = 0
  · subst hf
    have HN := Lib.hid (xnum_any q B A c m w h)
    unfold XNum at HN
    by_cases hm : most < (rdNum m).1
    · have hg : (rdNum m).2.1 = 0 := by
        by_cases hg : (rdNum m).2.1 = 0
        · exact hg
        · have := rdNum_bad hg; omega
      have he : rdCount most m = (0, 4, (rdNum m).2.2) := by unfold rdCount; rw [if_neg (by omega), if_pos hm]
      have HE := Lib.hid he
      clear he
      rw [hg] at HN
      generalize (rdNum m).1 = n at *
      generalize (rdNum m).2.2 = k at *
      clear h hg
      go_enter Try.func72, Try.ntmps72
      go_wp2_with fail
      refine HN.out.mono ?_
      rintro e w1 ⟨rfl, ⟨⟨A2, c2, hx2⟩, ht2⟩⟩
      have HX2 := Lib.hid hx2
      have HT2 := Lib.hid ht2
      clear hx2 ht2
      go_wp2_with fail
      refine (xbad_any q B A2 c2 _ w1 HX2.out).mono ?_
      rintro e w2 ⟨rfl, hb⟩
      have HB := Lib.hid hb
      clear hb
      go_wp2
      go_ret
      rw [HE.out]
      exact XPost.ok rfl ⟨HB.out.1, HT2.out.trans HB.out.2 (fun _ _ t => t)⟩
    · have he : rdCount most m = ((rdNum m).1, (rdNum m).2.1, (rdNum m).2.2) := by
        unfold rdCount
        by_cases hg : (rdNum m).2.1 = 0
        · rw [if_neg (by omega), if_neg hm, hg]
        · rw [if_pos hg, rdNum_bad hg]
      have HE := Lib.hid he
      clear he
      have hn1 : (rdNum m).1 ≤ most := by omega
      generalize (rdNum m).1 = n at *
      generalize (rdNum m).2.2 = k at *
      generalize (rdNum m).2.1 = g at *
      clear h hm
      go_enter Try.func72, Try.ntmps72
      go_wp2_with fail
      refine HN.out.mono ?_
      rintro e w1 ⟨rfl, hx⟩
      have HX := Lib.hid hx
      clear hx
      go_wp2
      go_ret
      rw [HE.out]
      exact XPost.ok rfl HX.out
  · have HN := Lib.hid (xnum_bad q B A c m f hf w h)
    have HX := Lib.hid h
    clear h
    go_enter Try.func72, Try.ntmps72
    go_wp2_with fail
    refine HN.out.mono ?_
    rintro e w1 ⟨rfl, rfl⟩
    go_wp2
    go_ret
    exact XPost.bad hf rfl (XM.refl HX.out)

/-- A reader's state: the bytes that are left, the fault. -/
abbrev RS9 := List UInt8 × Nat
/-- The document's reader in that state. -/
def XS (w : World) (q B : Nat) (s : RS9) : Prop := ∃ A c, XRd w q B A c s.1 s.2
def sNum (s : RS9) : Nat := if s.2 = 0 then (rdNum s.1).1 else 0
def sNum' (s : RS9) : RS9 := if s.2 = 0 then (s.1.drop (rdNum s.1).2.2, (rdNum s.1).2.1) else s
def sInt (s : RS9) : Int := if s.2 = 0 then zag (rdNum s.1).1 else 0
def sText (s : RS9) : List UInt8 := if s.2 = 0 then (rdText 16 s.1).1 else []
def sText' (s : RS9) : RS9 := if s.2 = 0 then (s.1.drop (rdText 16 s.1).2.2, (rdText 16 s.1).2.1) else s
def sCount (s : RS9) : Nat := if s.2 = 0 then (rdCount 50 s.1).1 else 0
def sCount' (s : RS9) : RS9 := if s.2 = 0 then (s.1.drop (rdCount 50 s.1).2.2, (rdCount 50 s.1).2.1) else s
theorem xs_of {q B : Nat} {s : RS9} {w w' : World} {none val : Value} {t : List UInt8} {f1 : Nat} {e : Ending} (h : XPost q B s.1 s.2 w none val t f1 e w') :
    e = .returned (if s.2 = 0 then val else none) ∧ XS w' q B (if s.2 = 0 then (t, f1) else s) ∧ Turn (fun g => g = q) w w' := by
  by_cases hf : s.2 = 0
  · obtain ⟨h1, h2⟩ := h.1 hf
    rw [if_pos hf, if_pos hf]
    exact ⟨h1, h2.1, h2.2⟩
  · obtain ⟨h1, h2⟩ := h.2 hf
    rw [if_neg hf, if_neg hf]
    exact ⟨h1, h2.1, h2.2⟩
section
variable {q B : Nat} {s : RS9} {w : World}
theorem XS.turn {S : Nat → Prop} {w' : World} (h : XS w q B s) (ht : Turn S w w') (h1 : ¬ S q) (h2 : ¬ S B) : XS w' q B s := by
  obtain ⟨A, c, g1, g2, g3, g4, g5⟩ := h
  exact ⟨A, c, g1.turn ht h1, g2.turn ht (fun b hb e => h2 (g3.1 b hb ▸ e)), g3, g4, g5⟩
theorem XS.later {w' : World} (h : XS w q B s) (ht : Turn (fun _ => False) w w') : XS w' q B s := h.turn ht (fun f => f) (fun f => f)
theorem xs_num (h : XS w q B s) : Calls Try.prog 51 #[.pointer (some ⟨q, 0, none⟩)] w fun e w' => e = .returned (.int .u64 (sNum s : Int)) ∧ XS w' q B (sNum' s) ∧ Turn (fun g => g = q) w w' := by
  obtain ⟨A, c, h⟩ := h
  refine (xnum q B A c s.1 s.2 w h).mono fun e w' hx => ?_
  obtain ⟨h1, h2, h3⟩ := xs_of hx
  refine ⟨?_, h2, h3⟩
  rw [h1]
  unfold sNum
  split <;> rfl
theorem xs_int (h : XS w q B s) : Calls Try.prog 74 #[.pointer (some ⟨q, 0, none⟩)] w fun e w' => e = .returned (.int .i64 (sInt s)) ∧ XS w' q B (sNum' s) ∧ Turn (fun g => g = q) w w' := by
  obtain ⟨A, c, h⟩ := h
  refine (xint q B A c s.1 s.2 w h).mono fun e w' hx => ?_
  obtain ⟨h1, h2, h3⟩ := xs_of hx
  refine ⟨?_, h2, h3⟩
  rw [h1]
  unfold sInt
  split <;> rfl
theorem xs_text (h : XS w q B s) : Calls Try.prog 73 #[.pointer (some ⟨q, 0, none⟩), .int .i64 16] w fun e w' => e = .returned (.string ⟨(sText s).toArray⟩) ∧ XS w' q B (sText' s) ∧ Turn (fun g => g = q) w w' := by
  obtain ⟨A, c, h⟩ := h
  refine (xtext q B A c s.1 s.2 16 (by omega) w h).mono fun e w' hx => ?_
  obtain ⟨h1, h2, h3⟩ := xs_of hx
  refine ⟨?_, h2, h3⟩
  rw [h1]
  unfold sText
  split <;> rfl
theorem xs_count (h : XS w q B s) : Calls Try.prog 72 #[.pointer (some ⟨q, 0, none⟩), .int .i64 50] w fun e w' => e = .returned (.int .i64 (sCount s : Int)) ∧ XS w' q B (sCount' s) ∧ Turn (fun g => g = q) w w' := by
  obtain ⟨A, c, h⟩ := h
  refine (xcount q B A c s.1 s.2 50 (by omega) w h).mono fun e w' hx => ?_
  obtain ⟨h1, h2, h3⟩ := xs_of hx
  refine ⟨?_, h2, h3⟩
  rw [h1]
  unfold sCount
  split <;> rfl
theorem XS.fault (h : XS w q B s) : w.cell? ⟨q, 1, none⟩ = some (.int .i64 (s.2 : Int)) := by
  obtain ⟨A, c, h⟩ := h
  exact h.1.cell 1
theorem XS.left (h : XS w q B s) : ∃ A c, w.cell? ⟨q, 0, none⟩ = some (.slice A s.1.length c) := by
  obtain ⟨A, c, h⟩ := h
  exact ⟨A, c, h.1.cell 0⟩
theorem XS.new {A : Option Addr} {n c : Nat} {l : List UInt8} (h : Rd w (.slice A n c) l) (hB : ∀ g, (Value.slice A n c).ownBlock = some g → g < w.heap.size) :
    ∃ B, (l ≠ [] → B < w.heap.size) ∧ XS (w.alloc (.cells #[.slice A n c, .int .i64 0] 102)) w.heap.size B (l, 0) := by
  obtain ⟨e1, h2, h3⟩ := h.fits
  subst e1
  refine ⟨((Value.slice A l.length c).ownBlock).getD (w.heap.size + 1), fun hl => ?_, A, c, Box.new w _ _, h.later ((Turn.refl _ w).alloc _), ⟨fun g hg => by rw [hg]; rfl, ?_⟩, h2, h3⟩
  · cases hA : (Value.slice A l.length c).ownBlock with
    | none =>
      have hA' : A = none := by
        cases A with
        | none => rfl
        | some a => simp [Value.ownBlock] at hA
      subst hA'
      obtain ⟨ad, e⟩ := h.some_at (List.length_pos_iff.2 hl)
      cases e
    | some g => exact hB g hA
  · cases hA : (Value.slice A l.length c).ownBlock with
    | none => show w.heap.size + 1 ≠ w.heap.size; omega
    | some g => have := hB g hA; show g ≠ _; omega
end

end Go.Proofs.Ytgchfckmhibeaaa
