/-
  Texts laid one behind the other: Tv Em Zpl Ts Tw Sr Zd Ze.
-/
import Derived.Test.YtnnlgeldjjknmaaJocag
import Derived.Test.YtnnlgeldjjknmaaJocab
import Derived.Test.YtnnlgeldjjknmaaJocae
import Derived.Test.YtnnlgeldjjknmaaJocaa
import Derived.Shelf.SlSortCmp.NoneTotal
import Derived.Test.YtnnlgeldjjknmaaProg
import Derived.Maps.RangeWalk
import Derived.Test.YtnnlgeldjjknmaaJocaf
import Derived.Test.YtnnlgeldjjknmaaJocac

/-
  Stage 11, plain: facts gathered into a map of cells by their keys.
-/
namespace Go.Proofs.Ytnnlgeldjjknmaa
open Go.RowKit

theorem moreO_append (o : Option Cl) (a : List Cl) (c : Cl) : moreO o (a ++ [c]) = (moreO o a).bind fun p => (addO p c).map some := by
  induction a generalizing o with
  | nil =>
    show (match addO o c with | some d => moreO (some d) [] | none => none) = (addO o c).map some
    cases addO o c <;> rfl
  | cons x a ih =>
    show (match addO o x with | some d => moreO (some d) (a ++ [c]) | none => none) = ((match addO o x with | some d => moreO (some d) a | none => none) : Option (Option Cl)).bind _
    cases addO o x with
    | none => rfl
    | some d => exact ih (some d)
theorem moreO_front {o : Option Cl} {a b : List Cl} (h : moreO o a = none) : moreO o (a ++ b) = none := by
  induction a generalizing o with
  | nil => cases h
  | cons x a ih =>
    show (match addO o x with | some d => moreO (some d) (a ++ b) | none => none) = none
    have h1 : (match addO o x with | some d => moreO (some d) a | none => none) = none := h
    cases hx : addO o x with
    | none => rfl
    | some d =>
      rw [hx] at h1
      exact ih h1
theorem addO_is (o : Option Cl) (c : Cl) : addO o c = mergeC (o.getD Cl.zero) c := by
  cases o with
  | none => rfl
  | some d => rfl
/-- Behind the first i facts: each key's cell. -/
structure MapR (l : List F9) (i : Nat) (es : List R11) : Prop where
  once : OnceK es
  cells : ∀ k, moreO none (cellsOf k ((l.take i).map rowF)) = some (findR k es)
  ok : ∀ r ∈ es, okC r.c
  len : es.length ≤ i
theorem MapR.start (l : List F9) : MapR l 0 [] := ⟨List.Pairwise.nil, fun _ => rfl, (fun r h => by cases h), Nat.le_refl _⟩
theorem cells_take {l : List F9} {i : Nat} {f : F9} (h : l[i]? = some f) (k : K9) : cellsOf k ((l.take (i + 1)).map rowF) = cellsOf k ((l.take i).map rowF) ++ if f.k = k then [Cl.of f.v] else [] := by
  obtain ⟨h0, e⟩ := List.getElem?_eq_some_iff.1 h
  rw [List.take_succ_eq_append_getElem h0, e, List.map_append, cellsOf_append, List.map_singleton, cells_cons]
  show _ ++ ((if f.k = k then [Cl.of f.v] else []) ++ []) = _
  rw [List.append_nil]
theorem MapR.okat {l : List F9} {i : Nat} {es : List R11} (h : MapR l i es) (k : K9) : okC ((findR k es).getD Cl.zero) := by
  cases hf : findR k es with
  | none => exact okC_zero
  | some c => exact h.ok _ (find_mem hf)
theorem MapR.step {l : List F9} {i : Nat} {es : List R11} (h : MapR l i es) {f : F9} (hf : l[i]? = some f) {c : Cl} (hv : fit f.v = true) (hm : mergeC ((findR f.k es).getD Cl.zero) (Cl.of f.v) = some c) : MapR l (i + 1) (setR f.k c es) := by
  refine ⟨set_once c h.once, fun k => ?_, fun r hr => ?_, ?_⟩
  · rw [cells_take hf]
    by_cases e : f.k = k
    · subst e
      rw [if_pos rfl, moreO_append, h.cells, Option.bind_some, addO_is, hm, set_find]
      rfl
    · rw [if_neg e, List.append_nil, h.cells, set_other c (Ne.symm e)]
  · have key : ∀ {es : List R11}, (∀ r ∈ es, okC r.c) → okC c → ∀ r ∈ setR f.k c es, okC r.c := by
      intro es
      induction es with
      | nil => intro _ hc r hr; unfold setR at hr; rw [List.mem_singleton.1 hr]; exact hc
      | cons x t ih =>
        intro ho hc r hr
        unfold setR at hr
        split at hr
        · rcases List.mem_cons.1 hr with rfl | hr
          · exact hc
          · exact ho r (List.mem_cons_of_mem _ hr)
        · rcases List.mem_cons.1 hr with rfl | hr
          · exact ho _ (List.mem_cons_self ..)
          · exact ih (fun y hy => ho y (List.mem_cons_of_mem _ hy)) hc r hr
    exact key h.ok (okC_merge (h.okat f.k) (okC_of hv) hm) r hr
  · have h1 := set_len f.k c es
    have h2 := h.len
    omega
theorem MapR.stop {l : List F9} {i : Nat} {es : List R11} (h : MapR l i es) {f : F9} (hf : l[i]? = some f) (hm : mergeC ((findR f.k es).getD Cl.zero) (Cl.of f.v) = none) : ofR l = none := by
  refine puts_not (k := f.k) ?_
  have h1 : moreO none (cellsOf f.k ((l.take (i + 1)).map rowF)) = none := by
    rw [cells_take hf, if_pos rfl, moreO_append, h.cells, Option.bind_some, addO_is, hm]
    rfl
  have e : l.map rowF = (l.take (i + 1)).map rowF ++ (l.drop (i + 1)).map rowF := by rw [← List.map_append, List.take_append_drop]
  rw [e, cellsOf_append]
  exact moreO_front h1
theorem find_perm {s es : List R11} (hs : RiseR s) (hp : s.Perm es) (ho : OnceK es) (k : K9) : findR k s = findR k es := by
  have key : ∀ {es : List R11} {r : R11}, OnceK es → r ∈ es → findR r.k es = some r.c := by
    intro es
    induction es with
    | nil => intro r _ h; cases h
    | cons x t ih =>
      intro r ho h
      obtain ⟨h1, h2⟩ := List.pairwise_cons.1 ho
      show (if x.k = r.k then some x.c else findR r.k t) = some r.c
      rcases List.mem_cons.1 h with rfl | h
      · rw [if_pos rfl]
      · rw [if_neg (h1 r h)]
        exact ih h2 h
  cases hf : findR k es with
  | some c =>
    have hm := hp.mem_iff.2 (find_mem hf)
    exact find_of hs hm
  | none =>
    cases hg : findR k s with
    | none => rfl
    | some c =>
      have hm := hp.mem_iff.1 (find_mem hg)
      rw [key ho hm] at hf
      cases hf
theorem MapR.all {l : List F9} {es s : List R11} (h : MapR l l.length es) (hs : RiseR s) (hp : s.Perm es) : ofR l = some s :=
  puts_is hs fun k => by
    have h1 := h.cells k
    rw [List.take_length] at h1
    rw [h1, find_perm hs hp h.once]
theorem rows_ok {l : List F9} (hf : ∀ f ∈ l, fit f.v = true) : ∀ r ∈ l.map rowF, okRow r = true ∧ okC r.c := fun r hr => by
  obtain ⟨f, hfl, rfl⟩ := List.mem_map.1 hr
  refine ⟨?_, okC_of (hf f hfl)⟩
  have h := right_cell [f.v]
  rw [cellL_one] at h
  show (decide (1 ≤ (1 : Int)) && rightC (Cl.of f.v)) = true
  rw [h]
  rfl

end Go.Proofs.Ytnnlgeldjjknmaa

/-
  Rows of a call's own, of elements of any size, sorted by slices.SortFunc: from and to the shelf's words; orders. No type is named.
-/
namespace Go.Proofs.Ytnnlgeldjjknmaa
open Go.RowKit

section
variable {T : Type} [Inhabited T] {E : El T} {e : TypeId} {w : World} {L : List T}

theorem flatK_eq (E : El T) (d : Array T) : Sort.flatK E.enc E.sz d = (E.flat d.toList).toArray := by
  apply Sort.ext_get!
  · rw [Sort.size_flatK]
    show _ = (E.flat d.toList).length
    rw [E.flat_len]
    rfl
  · intro t ht
    rw [Sort.size_flatK] at ht
    have h0 : 0 < E.sz := by
      rcases Nat.eq_zero_or_pos E.sz with h | h
      · rw [h, Nat.mul_zero] at ht; exact absurd ht (Nat.not_lt_zero t)
      · exact h
    have hd : t / E.sz < d.size := (Nat.div_lt_iff_lt_mul h0).2 ht
    have hm : t % E.sz < E.sz := Nat.mod_lt _ h0
    rw [Sort.get_flatK _ _ _ _ ht]
    have hx : d.toList[t / E.sz]? = some d[t / E.sz] := by rw [Array.getElem?_toList, Array.getElem?_eq_getElem hd]
    have h1 := E.flat_at hx hm
    rw [show t / E.sz * E.sz + t % E.sz = t by rw [Nat.mul_comm]; exact Nat.div_add_mod t E.sz] at h1
    rw [getElem!_pos d _ hd]
    simp only [getElem!_def, List.getElem?_toArray, h1]

/-- A row of one's own holds its elements in the shelf's words. -/
theorem OwE.holdsK {ad : Addr} {n c : Nat} (h : OwE E e w (.slice (some ad) n c) L) : Sort.HoldsK E.enc E.sz w ad.block 0 L.toArray := by
  obtain ⟨cur, _, _, hb, _, _, _, h4⟩ := h.home
  unfold Sort.HoldsK Sort.Holds
  rw [flatK_eq]
  intro j hj
  rw [List.size_toArray] at hj
  rw [Nat.zero_add]
  refine ⟨?_, hb.free j⟩
  rw [hb.cell]
  have e1 : (E.flat L)[j]? = cur[j]? := by
    rw [← h4, List.getElem?_take, if_pos (by rw [E.flat_len] at hj; exact hj), Array.getElem?_toList]
  rw [← e1, List.getElem?_eq_getElem hj]
  simp only [id]
  rw [getElem!_pos _ j (by rw [List.size_toArray]; exact hj)]
  rfl

theorem turn_sortK (E : El T) (d : Array T) (g m : Nat) (os : Array Obj) (w : World) : Turn (fun k => k = g) w (sortWorldK E.enc E.sz w g 0 m d os) := by
  refine ⟨rfl, rfl, rfl, ?_, ?_⟩
  · show w.heap.size ≤ (_ ++ os).size
    rw [Array.size_append, Sort.putRowK, Sort.size_putRow]
    exact Nat.le_add_right _ _
  · intro k hk hg
    show (_ ++ os)[k]? = _
    rw [Array.getElem?_append_left (by rw [Sort.putRowK, Sort.size_putRow]; exact hk)]
    show (w.heap.modify g _)[k]? = _
    rw [Array.getElem?_modify, if_neg (fun e => hg e.symm)]

/-- Behind a sort: the row is one's own still, and holds what the shelf says. -/
theorem OwE.sorted {ad : Addr} {n c : Nat} (h : OwE E e w (.slice (some ad) n c) L) (d : Array T) (hd : d.size = L.length) (m : Nat) (os : Array Obj) :
    OwE E e (sortWorldK E.enc E.sz w ad.block 0 m d os) (.slice (some ad) n c) d.toList ∧ Turn (fun k => k = ad.block) w (sortWorldK E.enc E.sz w ad.block 0 m d os) := by
  refine ⟨?_, turn_sortK E d _ m os w⟩
  have hH := h.holdsK
  obtain ⟨cur, had, hn, hb, h1, h2, h3, h4⟩ := h.home
  have hlt := hb.lt
  have hdl : d.toList.length = L.length := by rw [Array.length_toList, hd]
  have hH2 : Sort.HoldsK E.enc E.sz (sortWorldK E.enc E.sz w ad.block 0 m d os) ad.block 0 d := by
    unfold sortWorldK
    refine Sort.holdsK_grow _ _ _ _ _ _ _ (by rw [Sort.putRowK, Sort.size_putRow]; exact hlt) (Sort.holdsK_putRowK _ _ _ _ _ L.toArray _ (Sort.holdsK_ahead _ _ _ _ _ _ _ hH) (by rw [List.size_toArray]; exact hd))
  have hb2 : Box (sortWorldK E.enc E.sz w ad.block 0 m d os) ad.block e (Sort.putCells id 0 (Sort.flatK E.enc E.sz d) cur) := by
    show (_ ++ os)[ad.block]? = _
    rw [Array.getElem?_append_left (by rw [Sort.putRowK, Sort.size_putRow]; exact hlt)]
    show (w.heap.modify ad.block _)[ad.block]? = _
    rw [Array.getElem?_modify, if_pos rfl, hb]
    rfl
  rw [had, hn, ← hdl]
  refine OwE.of_box hb2 (by rw [hdl]; exact h1) h2 (by rw [Sort.putCells, Array.size_mapIdx]; exact h3) ?_
  unfold Sort.HoldsK Sort.Holds at hH2
  rw [flatK_eq] at hH2
  rw [flatK_eq] at hb2 ⊢
  apply List.ext_getElem?
  intro j
  rw [List.getElem?_take]
  split
  · rename_i hj
    have hj2 : j < (E.flat d.toList).length := by rw [E.flat_len]; exact hj
    have g1 := (hH2 j (by rw [List.size_toArray]; exact hj2)).1
    rw [Nat.zero_add, hb2.cell] at g1
    rw [Array.getElem?_toList, g1, List.getElem?_eq_getElem hj2, id, getElem!_pos _ j (by rw [List.size_toArray]; exact hj2)]
    rfl
  · rename_i hj
    rw [List.getElem?_eq_none (by rw [E.flat_len]; omega)]
end

/-- An order, in the shelf's words. -/
theorem Rises.swo {A : Type} {lt : A → A → Bool} (h : Rises lt) : Sort.SWO lt where
  irrefl x := h.irr x
  trans x y z := h.tr x y z
  ntrans x y z h1 h2 := by
    cases e : lt x z with
    | false => rfl
    | true =>
      by_cases hxy : x = y
      · subst hxy
        rw [h2] at e
        cases e
      · have h3 := h.tot x y hxy h1
        rw [h.tr y x z h3 e] at h2
        cases h2
theorem Rises.one {A : Type} {lt : A → A → Bool} (h : Rises lt) (x y : A) (h1 : lt x y = false) (h2 : lt y x = false) : x = y := by
  by_cases e : x = y
  · exact e
  · rw [h.tot x y e h1] at h2
    cases h2
/-- What is in order, and has the things of a list, is that list sorted. -/
theorem sort_one {A : Type} {lt : A → A → Bool} (h : Rises lt) {l m : List A} (hp : m.Perm l) (hm : m.Pairwise fun x y => lt y x = false) : l.mergeSort (fun x y => !lt y x) = m := by
  refine List.Perm.eq_of_pairwise (le := fun x y => (!lt y x) = true) ?_ ?_ ?_ ((List.mergeSort_perm l _).trans hp.symm)
  · intro a b _ _ h1 h2
    simp only [Bool.not_eq_true'] at h1 h2
    exact h.one a b h2 h1
  · refine List.pairwise_mergeSort ?_ ?_ l
    · intro a b c h1 h2
      simp only [Bool.not_eq_true'] at *
      exact h.swo.ntrans c b a h2 h1
    · intro a b
      cases e : lt b a with
      | false => rfl
      | true =>
        cases e2 : lt a b with
        | false => rfl
        | true =>
          have h3 := h.tr a b a e2 e
          rw [h.irr a] at h3
          cases h3
  · exact hm.imp fun h => by simp [h]

end Go.Proofs.Ytnnlgeldjjknmaa

/-
  The library's functions that the program calls, at this program's numbers: each laying is a table of numbers, and a theorem: a fact a row.
-/
namespace Go.Proofs.Ytnnlgeldjjknmaa
open Go.Shelf
def Try.sortR11_ren : Go.Shelf.Ren := ⟨fun | 6 => 31 | 15 => 51 | 14 => 50 | 28 => 69 | 29 => 70 | 20 => 61 | 21 => 62 | 22 => 63 | 23 => 64 | 24 => 65 | 25 => 66 | 26 => 67 | 27 => 68 | 46 => 73 | 47 => 74 | 48 => 75 | 49 => 76 | 50 => 77 | 57 => 79 | n => n, fun | 22 => 23 | 24 => 51 | 25 => 72 | 3 => 3 | 39 => 92 | 0 => 0 | 53 => 111 | 55 => 101 | 4 => 4 | 46 => 105 | 45 => 104 | 50 => 82 | 5 => 5 | 9 => 9 | 66 => 116 | 70 => 120 | 76 => 123 | 77 => 124 | n => n, fun | n => n⟩
theorem Try.sortR11 : Go.Proofs.SlLaysF0.n6 Try.prog Try.sortR11_ren := {
  mixed := by kernel_rfl
  f6 := ⟨Try.f31.name, by decide, Try.func31.trans (congrArg some (by kernel_rfl))⟩
  f14 := ⟨Try.f50.name, by decide, Try.func50.trans (congrArg some (by kernel_rfl))⟩
  f15 := Try.func51.trans (congrArg some (by kernel_rfl))
  f20 := ⟨Try.f61.name, by decide, Try.func61.trans (congrArg some (by kernel_rfl))⟩
  f21 := ⟨Try.f62.name, by decide, Try.func62.trans (congrArg some (by kernel_rfl))⟩
  f22 := ⟨Try.f63.name, by decide, Try.func63.trans (congrArg some (by kernel_rfl))⟩
  f23 := ⟨Try.f64.name, by decide, Try.func64.trans (congrArg some (by kernel_rfl))⟩
  f24 := ⟨Try.f65.name, by decide, Try.func65.trans (congrArg some (by kernel_rfl))⟩
  f25 := ⟨Try.f66.name, by decide, Try.func66.trans (congrArg some (by kernel_rfl))⟩
  f26 := ⟨Try.f67.name, by decide, Try.func67.trans (congrArg some (by kernel_rfl))⟩
  f27 := ⟨Try.f68.name, by decide, Try.func68.trans (congrArg some (by kernel_rfl))⟩
  f28 := Try.func69.trans (congrArg some (by kernel_rfl))
  f29 := Try.func70.trans (congrArg some (by kernel_rfl))
  f46 := ⟨Try.f73.name, by decide, Try.func73.trans (congrArg some (by kernel_rfl))⟩
  f47 := Try.func74.trans (congrArg some (by kernel_rfl))
  f48 := Try.func75.trans (congrArg some (by kernel_rfl))
  f49 := ⟨Try.f76.name, by decide, Try.func76.trans (congrArg some (by kernel_rfl))⟩
  f50 := ⟨Try.f77.name, by decide, Try.func77.trans (congrArg some (by kernel_rfl))⟩
  f57 := ⟨Try.f79.name, by decide, Try.func79.trans (congrArg some (by kernel_rfl))⟩
  t0 := Try.underlying0
  a0 := Try.isAgg0
  z0 := Try.sizeOf0
  v0 := Try.zeroValue0
  t3 := Try.underlying3
  a3 := Try.isAgg3
  z3 := Try.sizeOf3
  v3 := Try.zeroValue3
  t4 := Try.underlying4
  a4 := Try.isAgg4
  z4 := Try.sizeOf4
  v4 := Try.zeroValue4
  t5 := Try.underlying5
  a5 := Try.isAgg5
  z5 := Try.sizeOf5
  v5 := Try.zeroValue5
  t9 := Try.underlying9
  a9 := Try.isAgg9
  z9 := Try.sizeOf9
  v9 := Try.zeroValue9
  t22 := Try.underlying23
  a22 := Try.isAgg23
  z22 := Try.sizeOf23
  v22 := Try.zeroValue23
  t25 := Try.underlying72
  a25 := Try.isAgg72
  z25 := Try.sizeOf72
  v25 := Try.zeroValue72
  t39 := Try.underlying92
  a39 := Try.isAgg92
  z39 := Try.sizeOf92
  v39 := Try.zeroValue92
  t45 := Try.underlying104
  a45 := Try.isAgg104
  z45 := Try.sizeOf104
  v45 := Try.zeroValue104
  t46 := Try.underlying105
  a46 := Try.isAgg105
  z46 := Try.sizeOf105
  v46 := Try.zeroValue105
  t50 := Try.underlying82
  a50 := Try.isAgg82
  z50 := Try.sizeOf82
  v50 := Try.zeroValue82
  t53 := Try.underlying111
  a53 := Try.isAgg111
  z53 := Try.sizeOf111
  v53 := Try.zeroValue111
  t55 := Try.underlying101
  a55 := Try.isAgg101
  z55 := Try.sizeOf101
  v55 := Try.zeroValue101
  t66 := Try.underlying116
  a66 := Try.isAgg116
  z66 := Try.sizeOf116
  v66 := Try.zeroValue116
  t70 := Try.underlying120
  a70 := Try.isAgg120
  z70 := Try.sizeOf120
  v70 := Try.zeroValue120
  t76 := Try.underlying123
  a76 := Try.isAgg123
  z76 := Try.sizeOf123
  v76 := Try.zeroValue123
  t77 := Try.underlying124
  a77 := Try.isAgg124
  z77 := Try.sizeOf124
  v77 := Try.zeroValue124 }
end Go.Proofs.Ytnnlgeldjjknmaa

/-
  Stage 11: slices.SortFunc of rows by the program's closure.
-/
namespace Go.Proofs.Ytnnlgeldjjknmaa
open Go.RowKit Go.ChangeShapes Go.WideShapes Go.Deep

set_option maxRecDepth 100000

def rowCmp (a b : R11) : Int := cmpK a.k b.k
theorem rowCmp_lt : ltOf rowCmp = fun a b => keyLt a.k b.k := by
  funext a b
  show decide (cmpK a.k b.k < 0) = keyLt a.k b.k
  rcases cmpK_ge (p := a.k) (q := b.k) with ⟨h, g⟩ | ⟨h, g⟩
  · rw [h, decide_eq_true g]
  · rw [h, decide_eq_false (by omega)]
theorem row_swo : Sort.SWO (fun a b : R11 => keyLt a.k b.k) where
  irrefl x := key_irr x.k
  trans _ _ _ := key_tr
  ntrans x y z h1 h2 := ge_tr (a := z.k) (b := y.k) (c := x.k) h2 h1

set_option maxHeartbeats 2000000 in
theorem sort_closure11 (a b : R11) (w : World) : Calls Try.prog 32 #[rv11 a, rv11 b] w fun e w' => e = .returned (.int .i64 (rowCmp a b)) ∧ Gr w w' := by
  unfold rv11 cells11 rowCmp
  obtain ⟨w0, hw0⟩ : ∃ w0, w0 = (w.alloc (.cells (cells11 a) 51)).alloc (.cells (cells11 b) 51) := ⟨_, rfl⟩
  have HT0 : Hid (Gr w w0) := by rw [hw0]; exact ((Gr.refl w).alloc _).alloc _
  have hb1 : Box w0 w.heap.size 51 (cells11 a) := by rw [hw0]; exact (Box.new w _ _).alloc _
  have hb2 : Box w0 (w.heap.size + 1) 51 (cells11 b) := by
    rw [hw0]
    have h := Box.new (w.alloc (.cells (cells11 a) 51)) 51 (cells11 b)
    rw [World.size_alloc] at h
    exact h
  have HC : Hid (∀ W, Calls Try.prog 33 #[kv9 a.k, kv9 b.k] W fun e w' => e = .returned (.int .i64 (cmpK a.k b.k)) ∧ Gr W w') := fun W => compare_gr9 a.k b.k W
  have HW := Lib.hid hw0
  have a0 := hb1.cell 0
  have a1 := hb1.cell 1
  have a2 := hb1.cell 2
  have a3 := hb1.cell 3
  have a4 := hb1.cell 4
  have b0 := hb2.cell 0
  have b1 := hb2.cell 1
  have b2 := hb2.cell 2
  have b3 := hb2.cell 3
  have b4 := hb2.cell 4
  generalize cmpK a.k b.k = cc at *
  clear hb1 hb2 hw0
  go_enter Try.func32, Try.ntmps32
  go_wp2_with fail
  rw [← HW.out]
  go_wp2_with fail
  refine (HC.out _).mono ?_
  rintro e w2 ⟨rfl, t2⟩
  have HT := Lib.hid (HT0.out.trans t2)
  clear t2
  go_wp2
  go_ret
  exact ⟨rfl, HT.out⟩

/-- Rows sorted. -/
def Sorted11 (w : World) (v : Value) (l : List R11) (e : Ending) (w' : World) : Prop := e = .returned (.tuple #[]) ∧ ∃ s, s.Perm l ∧ RiseR s ∧ OwE ER 51 w' v s ∧ Turn (fun k => v.ownBlock = some k) w w'
theorem sortfunc11 (v : Value) (l : List R11) (w : World) (h : OwE ER 51 w v l) (ho : OnceK l) (hl : l.length ≤ 1000000) :
    Calls Try.prog 31 #[v, .func (.func 32) #[] #[]] w fun e w' => Sorted11 w v l e w' := by
  by_cases h0 : l = []
  · subst h0
    obtain ⟨A, c, rfl⟩ := h.shape
    have hcon := AnyF.slices_SortFunc_none { Try.sortR11 with } A c (.func (.func 32) #[] #[]) w
    exact hcon.mono fun e w' ⟨he, hw⟩ => ⟨he, [], List.Perm.refl _, List.Pairwise.nil, by rw [hw]; exact h, by rw [hw]; exact Turn.refl _ w⟩
  · have hpos : 0 < l.length := List.length_pos_iff.2 h0
    obtain ⟨A, c, rfl⟩ := h.shape
    obtain ⟨ad, rfl, _⟩ := h.some_at hpos
    obtain ⟨cur, had, _, hb, _⟩ := h.home
    have hH := h.holdsK
    have eg : ∀ args w, (callFunc 32 args).run Try.prog w = .ok (.enter 32 args) w := enters_of Try.func32 (by kernel_rfl) rfl
    have hlays : CmpLays Try.prog 32 #[] ER.enc ER.sz rowCmp ad.block 0 l.toArray.size w := fun m os dk _ x y => sort_closure11 x y _
    have hcon := AnyQ.slices_SortFunc Try.sortR11 ER.sz Try.isAgg51 Try.sizeOf51 ER.enc ER.len ER.one rowCmp (by rw [rowCmp_lt]; exact row_swo) 32 #[] ad.block 0 c l.toArray w eg hlays hH hb.lt (by rw [List.size_toArray]; omega)
    rw [← had] at hcon
    refine hcon.mono fun e w' ⟨he, d', n, os, hp, hs, hw⟩ => ?_
    obtain ⟨hsz, _, hperm⟩ := hp
    have e1 : d'.extract 0 l.toArray.size = d' := by rw [← hsz]; exact Array.extract_size
    rw [e1, Array.extract_size] at hperm
    have hsd := h.sorted d' (by rw [hsz, List.size_toArray]) n os
    rw [← hw] at hsd
    have hperm2 : d'.toList.Perm l := hperm
    refine ⟨he, d'.toList, hperm2, ?_, hsd.1, hsd.2.mono fun k _ hk => by rw [hk]; rfl⟩
    refine List.pairwise_iff_getElem.2 fun i j hi hj hij => ?_
    have hi' : i < d'.size := by simpa using hi
    have hj' : j < d'.size := by simpa using hj
    have h1 := hs i j (Nat.zero_le _) hij (by rw [← hsz]; exact hj')
    rw [rowCmp_lt] at h1
    simp only [getElem!_pos d' i hi', getElem!_pos d' j hj'] at h1
    have hne : d'.toList[i].k ≠ d'.toList[j].k := by
      have hd : OnceK d'.toList := (hperm2.symm.pairwise_iff (R := fun a b : R11 => a.k ≠ b.k) (fun h => Ne.symm h)).1 ho
      exact List.pairwise_iff_getElem.1 hd i j hi hj hij
    exact rises_key.tot _ _ (Ne.symm hne) (by simpa using h1)

end Go.Proofs.Ytnnlgeldjjknmaa

/-
  Stage 11: the program's Of: facts gathered in a map, which is ranged over, and sorted.
-/
namespace Go.Proofs.Ytnnlgeldjjknmaa
open Go.RowKit

set_option maxRecDepth 100000

/-- A fact's cells, in a box. -/
abbrev cellsF (f : F9) : Array Value := #[.int .i64 f.k.h, sv9 f.k.a, sv9 f.k.b, sv9 f.k.c, sv9 f.k.d, .int .i64 f.v]

set_option maxHeartbeats 16000000 in
theorem of_any11 (v : Value) (l : List F9) (w : World) (hv : RdE EF w v l) (hf : ∀ f ∈ l, fit f.v = true) (hl : l.length ≤ 1000) : Calls Try.prog 11 #[v] w fun e w' => Seg11 w (ofR l) 6 e w' := by
  have HV := Lib.hid hv
  have HF := Lib.hid hf
  obtain ⟨A, c, rfl⟩ := hv.shape
  clear hv hf
  have hmk : ∀ W, (Instr.makeMap 67 none).run Try.prog W = .ok (.map (some W.heap.size)) (W.alloc (.map #[] 0)) := fun W => rfl
  obtain ⟨b, hb⟩ : ∃ b, b = w.heap.size := ⟨_, rfl⟩
  obtain ⟨w0, hw0⟩ : ∃ w0, w0 = w.alloc (.map #[] 0) := ⟨_, rfl⟩
  have HM0 : Hid (MapIs w0 b []) := by rw [hw0, hb]; exact MapIs.new w
  have HT0 : Hid (Turn (fun _ => False) w w0) := by rw [hw0]; exact (Turn.refl _ w).alloc _
  have HSI : Hid ((Try.prog.info? 47).map (·.size) = some 4) := by show _ = _; kernel_rfl
  have HBB := Lib.hid hb; have HW0 := Lib.hid hw0
  clear hb hw0
  go_enter Try.func11, Try.ntmps11
  go_wp2_with fail
  rw [← HW0.out, ← HBB.out]
  clear hmk
  go_loopw [15] (fun x15 wr => ∃ (i : Nat) (es : List R11), x15 = .int .i64 (i : Int) ∧ i ≤ l.length ∧ MapIs wr b es ∧ MapR l i es ∧ Turn (fun _ => False) w wr) (fun x15 _ => l.length - (intOf x15).toNat)
  case atStart => exact ⟨0, [], rfl, Nat.zero_le _, HM0.out, MapR.start l, HT0.out⟩
  case round =>
    clear HM0 HT0
    obtain ⟨i, es, rfl, hi, hm, hr, ht⟩ := hrel
    have HM := Lib.hid hm; have HR := Lib.hid hr; have HT := Lib.hid ht
    clear hm hr ht
    by_cases hlt : i < l.length
    · obtain ⟨f, hfi⟩ : ∃ f, l[i]? = some f := ⟨_, List.getElem?_eq_getElem hlt⟩
      obtain ⟨ad, rfl, hc⟩ := fact_at6 HV.out hfi
      obtain ⟨a0, a1, a2, a3, a4, a5⟩ := hc wr HT.out
      have hil : (i : Int) < l.length := by omega
      obtain ⟨g, hg⟩ : ∃ g, g = wr.heap.size := ⟨_, rfl⟩
      obtain ⟨w1, hw1⟩ : ∃ w1, w1 = wr.alloc (.cells (cellsF f) 60) := ⟨_, rfl⟩
      have HT1 : Hid (Turn (fun _ => False) wr w1) := by rw [hw1]; exact (Turn.refl _ wr).alloc _
      have HB1 : Hid (Box w1 g 60 (cellsF f)) := by rw [hw1, hg]; exact Box.new wr _ _
      have HM1 : Hid (∀ W, Turn (fun _ => False) w1 W → MapIs W b es) := fun W ht => HM.out.turn (HT1.out.trans ht (fun _ _ f => f)) (fun f => f)
      have HFV : Hid (fit f.v = true) := HF.out f (List.mem_of_getElem? hfi)
      have HLK : Hid (∀ W, Turn (fun _ => False) w1 W → (Instr.lookup 67 (.map (some b)) (kv9 f.k) false).run Try.prog W = .ok (cv ((findR f.k es).getD Cl.zero)) W) := fun W ht => lookup_run (HM1.out W ht) f.k
      have HKC := Lib.hid (HR.out.okat f.k)
      have HSO : Hid (∀ c, mergeC ((findR f.k es).getD Cl.zero) (Cl.of f.v) = some c → MapR l (i + 1) (setR f.k c es)) := fun c h => HR.out.step hfi HFV.out h
      have HNO : Hid (mergeC ((findR f.k es).getD Cl.zero) (Cl.of f.v) = none → ofR l = none) := fun h => HR.out.stop hfi h
      obtain ⟨⟨cn, cs, cl, ch⟩, hC⟩ : ∃ C, C = (findR f.k es).getD Cl.zero := ⟨_, rfl⟩
      rw [← hC] at HLK HKC HSO HNO
      unfold cv kv9 at HLK
      have HMC : Hid (∀ W, Calls Try.prog 29 #[.agg #[.int .i64 cn, .int .i64 cs, .int .i64 cl, .int .i64 ch], .agg #[.int .i64 1, .int .i64 f.v, .int .i64 f.v, .int .i64 f.v]] W fun e w' => e = .returned (outC (mergeC ⟨cn, cs, cl, ch⟩ (Cl.of f.v))) ∧ Turn (fun _ => False) W w') := fun W => merge_any cn cs cl ch 1 f.v f.v f.v W HKC (Lib.hid (okC_of HFV.out))
      have HOF : Hid (∀ W, Calls Try.prog 30 #[.int .i64 f.v] W fun e w' => e = .returned (.agg #[.int .i64 1, .int .i64 f.v, .int .i64 f.v, .int .i64 f.v]) ∧ Turn (fun _ => False) W w') := fun W => (of_any f.v W).mono fun _ _ ⟨e, hw⟩ => ⟨e, by rw [hw]; exact (Turn.refl _ W).alloc _⟩
      generalize mergeC ⟨cn, cs, cl, ch⟩ (Cl.of f.v) = o at *
      obtain ⟨n2, s2, lo2, hi2, ho2, hg2⟩ := outC_shape o
      rw [ho2] at HMC
      have HG2 := Lib.hid hg2
      obtain ⟨bb, hbb⟩ : ∃ bb, bb = o.isSome := ⟨_, rfl⟩
      rw [← hbb] at HMC
      have HBS := Lib.hid hbb
      have HW1 := Lib.hid hw1; have HGG := Lib.hid hg
      clear hc hfi ho2 hg2 hbb hw1 hg hC
      go_wp2_with fail
      rw [← HW1.out, ← HGG.out]
      refine drawn_region (fun W => Turn (fun _ => False) w1 W) [] (by kernel_rfl) ?_
      have hS0 : Turn (fun _ => False) w1 (World.drew w1) := (Turn.refl _ w1).drew
      generalize World.drew w1 = wd at *
      refine drawn_take 0 20 (.map (some b)) rfl rfl (by kernel_rfl) (by kernel_rfl) (by kernel_rfl) (by kernel_rfl) (fun _ _ _ h => h) (by rfl) (by assumption) (by intro w hSw; obtain hS1 := hSw; go_simp) ?_
      try simp only [List.setIfInBounds_toArray, List.set_cons_zero, List.set_cons_succ]
      refine drawn_take 1 21 (.pointer (some ⟨g, 0, none⟩)) rfl rfl (by kernel_rfl) (by kernel_rfl) (by kernel_rfl) (by kernel_rfl) (fun _ _ _ h => h) (by rfl) (by assumption) (by intro w hSw; obtain hS1 := hSw; go_simp) ?_
      try simp only [List.setIfInBounds_toArray, List.set_cons_zero, List.set_cons_succ]
      refine drawn_take 2 22 (.agg #[.int .i64 f.k.h, sv9 f.k.a, sv9 f.k.b, sv9 f.k.c, sv9 f.k.d]) rfl rfl (by kernel_rfl) (by kernel_rfl) (by kernel_rfl) (by kernel_rfl) (fun _ _ _ h => h) (by rfl) (by assumption) (by intro w hSw; have hb := HB1.out.turn hSw (fun f => f); have a0 := hb.cell 0; have a1 := hb.cell 1; have a2 := hb.cell 2; have a3 := hb.cell 3; have a4 := hb.cell 4; clear hSw hb; go_simp) ?_
      try simp only [List.setIfInBounds_toArray, List.set_cons_zero, List.set_cons_succ]
      refine drawn_take 3 23 (.agg #[.int .i64 cn, .int .i64 cs, .int .i64 cl, .int .i64 ch]) rfl rfl (by kernel_rfl) (by kernel_rfl) (by kernel_rfl) (by kernel_rfl) (fun _ _ _ h => h) (by rfl) (by assumption) (by intro w hSw; have hlk := HLK.out w hSw; clear hSw; go_simp) ?_
      try simp only [List.setIfInBounds_toArray, List.set_cons_zero, List.set_cons_succ]
      refine drawn_take 4 24 (.pointer (some ⟨g, 5, none⟩)) rfl rfl (by kernel_rfl) (by kernel_rfl) (by kernel_rfl) (by kernel_rfl) (fun _ _ _ h => h) (by rfl) (by assumption) (by intro w hSw; obtain hS1 := hSw; go_simp) ?_
      try simp only [List.setIfInBounds_toArray, List.set_cons_zero, List.set_cons_succ]
      refine drawn_take 5 25 (.int .i64 f.v) rfl rfl (by kernel_rfl) (by kernel_rfl) (by kernel_rfl) (by kernel_rfl) (fun _ _ _ h => h) (by rfl) (by assumption) (by intro w hSw; have a5 := (HB1.out.turn hSw (fun f => f)).cell 5; clear hSw; go_simp) ?_
      try simp only [List.setIfInBounds_toArray, List.set_cons_zero, List.set_cons_succ]
      refine drawn_any [6, 11] (by kernel_rfl) (by simp) ?_
      refine drawn_cons rfl (fun K hK => ?_) (drawn_cons rfl (fun K hK => ?_) drawn_nil)
      ·
        go_simp
        refine (HOF.out _).mono ?_
        rintro e w2 ⟨rfl, t2⟩
        have hS2 := hS0.trans t2 (fun _ _ f => f)
        refine hK.out _ _ _ hS2 ?_
        clear hK K
        try simp only [List.setIfInBounds_toArray, List.set_cons_zero, List.set_cons_succ]
        clear hS0 t2
        refine drawn_any [7, 11] (by kernel_rfl) (by simp) ?_
        refine drawn_cons rfl (fun K hK => ?_) (drawn_cons rfl (fun K hK => ?_) drawn_nil)
        ·
          go_simp
          refine (HMC.out _).mono ?_
          rintro e w3 ⟨rfl, t3⟩
          have hS3 := hS2.trans t3 (fun _ _ f => f)
          refine hK.out _ _ _ hS3 ?_
          clear hK K
          try simp only [List.setIfInBounds_toArray, List.set_cons_zero, List.set_cons_succ]
          refine drawn_take 8 19 (.tuple #[.agg #[.int .i64 n2, .int .i64 s2, .int .i64 lo2, .int .i64 hi2], .bool bb]) rfl rfl (by kernel_rfl) (by kernel_rfl) (by kernel_rfl) (by kernel_rfl) (fun _ _ _ h => h) (by rfl) (by assumption) (by intro w hSw; go_simp) ?_
          try simp only [List.setIfInBounds_toArray, List.set_cons_zero, List.set_cons_succ]
          refine drawn_take 9 28 (.agg #[.int .i64 n2, .int .i64 s2, .int .i64 lo2, .int .i64 hi2]) rfl rfl (by kernel_rfl) (by kernel_rfl) (by kernel_rfl) (by kernel_rfl) (fun _ _ _ h => h) (by rfl) (by assumption) (by intro w hSw; go_simp) ?_
          try simp only [List.setIfInBounds_toArray, List.set_cons_zero, List.set_cons_succ]
          refine drawn_take 10 29 (.bool bb) rfl rfl (by kernel_rfl) (by kernel_rfl) (by kernel_rfl) (by kernel_rfl) (fun _ _ _ h => h) (by rfl) (by assumption) (by intro w hSw; go_simp) ?_
          try simp only [List.setIfInBounds_toArray, List.set_cons_zero, List.set_cons_succ]
          clear hS2 t3
          refine drawn_any [11] (by kernel_rfl) (by simp) ?_
          refine drawn_cons rfl (fun K hK => ?_) drawn_nil
          go_simp
          obtain ⟨g6, hg6⟩ : ∃ g6, g6 = w3.heap.size := ⟨_, rfl⟩
          have hgr : w1.heap.size ≤ g6 := by rw [hg6]; exact hS3.size
          obtain ⟨w4, hw4⟩ : ∃ w4, w4 = w3.alloc (.cells #[.int .i64 0, .int .i64 0, .int .i64 0, .int .i64 0] 47) := ⟨_, rfl⟩
          have hb4 : Box w4 g6 47 #[.int .i64 0, .int .i64 0, .int .i64 0, .int .i64 0] := by rw [hw4, hg6]; exact Box.new w3 _ _
          have hS4 : Turn (fun _ => False) w1 w4 := by rw [hw4]; exact hS3.alloc _
          rw [← hw4, ← hg6]
          refine hK.out _ _ _ hS4 ?_
          clear hK K hS3 hw4 hg6
          try simp only [List.setIfInBounds_toArray, List.set_cons_zero, List.set_cons_succ]
          refine drawn_any [12] (by kernel_rfl) (by simp) ?_
          refine drawn_cons rfl (fun K hK => ?_) drawn_nil
          have HB4 : Hid (Box w4 g6 47 #[.int .i64 0, .int .i64 0, .int .i64 0, .int .i64 0]) := hb4
          have HTH : Hid (w4.there g6 0 4) := HB4.out.there (Nat.le_refl 4)
          refine put_box g6 0 (ca ⟨n2, s2, lo2, hi2⟩) HTH.out rfl rfl HSI.out (cell_one11 _) ?_
          obtain ⟨w5, hw5⟩ : ∃ w5, w5 = w4.setCells g6 0 (ca ⟨n2, s2, lo2, hi2⟩).toList := ⟨_, rfl⟩
          have HB6 : Hid (Box w5 g6 47 (ca ⟨n2, s2, lo2, hi2⟩)) := by rw [hw5]; exact HB4.out.all _ rfl
          have hS5 : Turn (fun _ => False) w1 w5 := by rw [hw5]; exact hS4.trans (turn_setCells (S := fun k => k = g6) rfl _ _ _) (fun k hk e => by have := hgr; omega)
          have e5 : w4.setCells g6 0 [.int .i64 n2, .int .i64 s2, .int .i64 lo2, .int .i64 hi2] = w5 := hw5.symm
          try rw [← hw5]
          try rw [e5]
          refine hK.out _ _ _ hS5 ?_
          clear hK K hw5 e5 HB4 HTH hb4 hS4
          try simp only [List.setIfInBounds_toArray, List.set_cons_zero, List.set_cons_succ]
          refine drawn_last1 13 8 (.bool bb) rfl rfl (by kernel_rfl) (by kernel_rfl) (by rfl) (by intro w; go_simp) hS5 ?_
          try simp only [List.setIfInBounds_toArray, List.set_cons_zero, List.set_cons_succ]
          have HFT := Lib.hid hS5
          have hbf := HB1.out.turn hS5 (fun f => f)
          have hm5 := HM1.out w5 hS5
          clear hS5
          cases o with
          | none =>
            have eb : bb = false := HBS.out
            subst eb
            have HE : Hid (ofR l = none) := HNO.out rfl
            clear hbf hm5
            go_wp2
            go_ret2
            exact ⟨_, by rw [HE.out]; rfl, by rw [HE.out]; exact SV11.nil _, (HT.out.trans HT1.out (fun _ _ f => f)).trans HFT.out (fun _ _ f => f)⟩
          | some d =>
            have eb : bb = true := HBS.out
            subst eb
            have ed2 : d = ⟨n2, s2, lo2, hi2⟩ := HG2.out
            subst ed2
            have HNX := Lib.hid (HSO.out _ rfl)
            have hst := store_run hm5 f.k ⟨n2, s2, lo2, hi2⟩
            have hsd := stored hm5 (setR f.k ⟨n2, s2, lo2, hi2⟩ es)
            obtain ⟨w6, hw6⟩ : ∃ w6, w6 = Go.ChangeMaps.setBlock w5 b (.map (entsR (setR f.k ⟨n2, s2, lo2, hi2⟩ es)) (setR f.k ⟨n2, s2, lo2, hi2⟩ es).length) := ⟨_, rfl⟩
            rw [← hw6] at hst hsd
            unfold kv9 cv at hst
            have HSD := Lib.hid hsd
            obtain ⟨⟨b0, b1, b2, b3⟩, _⟩ := box_cells HB6.out
            have k0 := hbf.cell 0
            have k1 := hbf.cell 1
            have k2 := hbf.cell 2
            have k3 := hbf.cell 3
            have k4 := hbf.cell 4
            clear hbf hm5 hsd hw6
            go_wp2
            go_roundw
            case rel => exact ⟨i + 1, _, by go_num, hlt, HSD.out.1, HNX.out, ((HT.out.trans HT1.out (fun _ _ f => f)).trans HFT.out (fun _ _ f => f)).trans HSD.out.2 (fun k hk e => by have := HBB.out; omega)⟩
            case measure => simp [intOf]; omega
        · go_simp
          obtain ⟨g6, hg6⟩ : ∃ g6, g6 = w2.heap.size := ⟨_, rfl⟩
          have hgr : w1.heap.size ≤ g6 := by rw [hg6]; exact hS2.size
          obtain ⟨wa, hwa⟩ : ∃ wa, wa = w2.alloc (.cells #[.int .i64 0, .int .i64 0, .int .i64 0, .int .i64 0] 47) := ⟨_, rfl⟩
          have HBA : Hid (True ∧ Box wa g6 47 #[.int .i64 0, .int .i64 0, .int .i64 0, .int .i64 0]) := ⟨trivial, by rw [hwa, hg6]; exact Box.new w2 _ _⟩
          have hSa : Turn (fun _ => False) w1 wa := by rw [hwa]; exact hS2.alloc _
          rw [← hwa, ← hg6]
          refine hK.out _ _ _ hSa ?_
          clear hK K hS2 hwa hg6
          try simp only [List.setIfInBounds_toArray, List.set_cons_zero, List.set_cons_succ]
          refine drawn_any [7] (by kernel_rfl) (by simp) ?_
          refine drawn_cons rfl (fun K hK => ?_) drawn_nil
          have hS2 := hSa
          clear hSa
          go_simp
          refine (HMC.out _).mono ?_
          rintro e w3 ⟨rfl, t3⟩
          have hS3 := hS2.trans t3 (fun _ _ f => f)
          refine hK.out _ _ _ hS3 ?_
          clear hK K
          try simp only [List.setIfInBounds_toArray, List.set_cons_zero, List.set_cons_succ]
          refine drawn_take 8 19 (.tuple #[.agg #[.int .i64 n2, .int .i64 s2, .int .i64 lo2, .int .i64 hi2], .bool bb]) rfl rfl (by kernel_rfl) (by kernel_rfl) (by kernel_rfl) (by kernel_rfl) (fun _ _ _ h => h) (by rfl) (by assumption) (by intro w hSw; go_simp) ?_
          try simp only [List.setIfInBounds_toArray, List.set_cons_zero, List.set_cons_succ]
          refine drawn_take 9 28 (.agg #[.int .i64 n2, .int .i64 s2, .int .i64 lo2, .int .i64 hi2]) rfl rfl (by kernel_rfl) (by kernel_rfl) (by kernel_rfl) (by kernel_rfl) (fun _ _ _ h => h) (by rfl) (by assumption) (by intro w hSw; go_simp) ?_
          try simp only [List.setIfInBounds_toArray, List.set_cons_zero, List.set_cons_succ]
          refine drawn_take 10 29 (.bool bb) rfl rfl (by kernel_rfl) (by kernel_rfl) (by kernel_rfl) (by kernel_rfl) (fun _ _ _ h => h) (by rfl) (by assumption) (by intro w hSw; go_simp) ?_
          try simp only [List.setIfInBounds_toArray, List.set_cons_zero, List.set_cons_succ]
          have hb4 := HBA.out.2.turn t3 (fun f => f)
          obtain ⟨w4, hw4⟩ : ∃ w4, w4 = w3 := ⟨_, rfl⟩
          subst hw4
          have hS4 := hS3
          clear hS2 t3 HBA hS3
          refine drawn_any [12] (by kernel_rfl) (by simp) ?_
          refine drawn_cons rfl (fun K hK => ?_) drawn_nil
          have HB4 : Hid (Box w4 g6 47 #[.int .i64 0, .int .i64 0, .int .i64 0, .int .i64 0]) := hb4
          have HTH : Hid (w4.there g6 0 4) := HB4.out.there (Nat.le_refl 4)
          refine put_box g6 0 (ca ⟨n2, s2, lo2, hi2⟩) HTH.out rfl rfl HSI.out (cell_one11 _) ?_
          obtain ⟨w5, hw5⟩ : ∃ w5, w5 = w4.setCells g6 0 (ca ⟨n2, s2, lo2, hi2⟩).toList := ⟨_, rfl⟩
          have HB6 : Hid (Box w5 g6 47 (ca ⟨n2, s2, lo2, hi2⟩)) := by rw [hw5]; exact HB4.out.all _ rfl
          have hS5 : Turn (fun _ => False) w1 w5 := by rw [hw5]; exact hS4.trans (turn_setCells (S := fun k => k = g6) rfl _ _ _) (fun k hk e => by have := hgr; omega)
          have e5 : w4.setCells g6 0 [.int .i64 n2, .int .i64 s2, .int .i64 lo2, .int .i64 hi2] = w5 := hw5.symm
          try rw [← hw5]
          try rw [e5]
          refine hK.out _ _ _ hS5 ?_
          clear hK K hw5 e5 HB4 HTH hb4 hS4
          try simp only [List.setIfInBounds_toArray, List.set_cons_zero, List.set_cons_succ]
          refine drawn_last1 13 8 (.bool bb) rfl rfl (by kernel_rfl) (by kernel_rfl) (by rfl) (by intro w; go_simp) hS5 ?_
          try simp only [List.setIfInBounds_toArray, List.set_cons_zero, List.set_cons_succ]
          have HFT := Lib.hid hS5
          have hbf := HB1.out.turn hS5 (fun f => f)
          have hm5 := HM1.out w5 hS5
          clear hS5
          cases o with
          | none =>
            have eb : bb = false := HBS.out
            subst eb
            have HE : Hid (ofR l = none) := HNO.out rfl
            clear hbf hm5
            go_wp2
            go_ret2
            exact ⟨_, by rw [HE.out]; rfl, by rw [HE.out]; exact SV11.nil _, (HT.out.trans HT1.out (fun _ _ f => f)).trans HFT.out (fun _ _ f => f)⟩
          | some d =>
            have eb : bb = true := HBS.out
            subst eb
            have ed2 : d = ⟨n2, s2, lo2, hi2⟩ := HG2.out
            subst ed2
            have HNX := Lib.hid (HSO.out _ rfl)
            have hst := store_run hm5 f.k ⟨n2, s2, lo2, hi2⟩
            have hsd := stored hm5 (setR f.k ⟨n2, s2, lo2, hi2⟩ es)
            obtain ⟨w6, hw6⟩ : ∃ w6, w6 = Go.ChangeMaps.setBlock w5 b (.map (entsR (setR f.k ⟨n2, s2, lo2, hi2⟩ es)) (setR f.k ⟨n2, s2, lo2, hi2⟩ es).length) := ⟨_, rfl⟩
            rw [← hw6] at hst hsd
            unfold kv9 cv at hst
            have HSD := Lib.hid hsd
            obtain ⟨⟨b0, b1, b2, b3⟩, _⟩ := box_cells HB6.out
            have k0 := hbf.cell 0
            have k1 := hbf.cell 1
            have k2 := hbf.cell 2
            have k3 := hbf.cell 3
            have k4 := hbf.cell 4
            clear hbf hm5 hsd hw6
            go_wp2
            go_roundw
            case rel => exact ⟨i + 1, _, by go_num, hlt, HSD.out.1, HNX.out, ((HT.out.trans HT1.out (fun _ _ f => f)).trans HFT.out (fun _ _ f => f)).trans HSD.out.2 (fun k hk e => by have := HBB.out; omega)⟩
            case measure => simp [intOf]; omega
      · go_simp
        obtain ⟨g6, hg6⟩ : ∃ g6, g6 = wd.heap.size := ⟨_, rfl⟩
        have hgr : w1.heap.size ≤ g6 := by rw [hg6]; exact hS0.size
        obtain ⟨wa, hwa⟩ : ∃ wa, wa = wd.alloc (.cells #[.int .i64 0, .int .i64 0, .int .i64 0, .int .i64 0] 47) := ⟨_, rfl⟩
        have HBA : Hid (True ∧ Box wa g6 47 #[.int .i64 0, .int .i64 0, .int .i64 0, .int .i64 0]) := ⟨trivial, by rw [hwa, hg6]; exact Box.new wd _ _⟩
        have hSa : Turn (fun _ => False) w1 wa := by rw [hwa]; exact hS0.alloc _
        rw [← hwa, ← hg6]
        refine hK.out _ _ _ hSa ?_
        clear hK K hS0 hwa hg6
        try simp only [List.setIfInBounds_toArray, List.set_cons_zero, List.set_cons_succ]
        refine drawn_any [6] (by kernel_rfl) (by simp) ?_
        refine drawn_cons rfl (fun K hK => ?_) drawn_nil
        have hS0 := hSa
        clear hSa
        go_simp
        refine (HOF.out _).mono ?_
        rintro e w2 ⟨rfl, t2⟩
        have hS2 := hS0.trans t2 (fun _ _ f => f)
        refine hK.out _ _ _ hS2 ?_
        clear hK K
        try simp only [List.setIfInBounds_toArray, List.set_cons_zero, List.set_cons_succ]
        have HBC : Hid (True ∧ Box w2 g6 47 #[.int .i64 0, .int .i64 0, .int .i64 0, .int .i64 0]) := ⟨trivial, HBA.out.2.turn t2 (fun f => f)⟩
        clear hS0 t2 HBA
        refine drawn_any [7] (by kernel_rfl) (by simp) ?_
        refine drawn_cons rfl (fun K hK => ?_) drawn_nil
        go_simp
        refine (HMC.out _).mono ?_
        rintro e w3 ⟨rfl, t3⟩
        have hS3 := hS2.trans t3 (fun _ _ f => f)
        refine hK.out _ _ _ hS3 ?_
        clear hK K
        try simp only [List.setIfInBounds_toArray, List.set_cons_zero, List.set_cons_succ]
        refine drawn_take 8 19 (.tuple #[.agg #[.int .i64 n2, .int .i64 s2, .int .i64 lo2, .int .i64 hi2], .bool bb]) rfl rfl (by kernel_rfl) (by kernel_rfl) (by kernel_rfl) (by kernel_rfl) (fun _ _ _ h => h) (by rfl) (by assumption) (by intro w hSw; go_simp) ?_
        try simp only [List.setIfInBounds_toArray, List.set_cons_zero, List.set_cons_succ]
        refine drawn_take 9 28 (.agg #[.int .i64 n2, .int .i64 s2, .int .i64 lo2, .int .i64 hi2]) rfl rfl (by kernel_rfl) (by kernel_rfl) (by kernel_rfl) (by kernel_rfl) (fun _ _ _ h => h) (by rfl) (by assumption) (by intro w hSw; go_simp) ?_
        try simp only [List.setIfInBounds_toArray, List.set_cons_zero, List.set_cons_succ]
        refine drawn_take 10 29 (.bool bb) rfl rfl (by kernel_rfl) (by kernel_rfl) (by kernel_rfl) (by kernel_rfl) (fun _ _ _ h => h) (by rfl) (by assumption) (by intro w hSw; go_simp) ?_
        try simp only [List.setIfInBounds_toArray, List.set_cons_zero, List.set_cons_succ]
        have hb4 := HBC.out.2.turn t3 (fun f => f)
        obtain ⟨w4, hw4⟩ : ∃ w4, w4 = w3 := ⟨_, rfl⟩
        subst hw4
        have hS4 := hS3
        clear hS2 t3 HBC hS3
        refine drawn_any [12] (by kernel_rfl) (by simp) ?_
        refine drawn_cons rfl (fun K hK => ?_) drawn_nil
        have HB4 : Hid (Box w4 g6 47 #[.int .i64 0, .int .i64 0, .int .i64 0, .int .i64 0]) := hb4
        have HTH : Hid (w4.there g6 0 4) := HB4.out.there (Nat.le_refl 4)
        refine put_box g6 0 (ca ⟨n2, s2, lo2, hi2⟩) HTH.out rfl rfl HSI.out (cell_one11 _) ?_
        obtain ⟨w5, hw5⟩ : ∃ w5, w5 = w4.setCells g6 0 (ca ⟨n2, s2, lo2, hi2⟩).toList := ⟨_, rfl⟩
        have HB6 : Hid (Box w5 g6 47 (ca ⟨n2, s2, lo2, hi2⟩)) := by rw [hw5]; exact HB4.out.all _ rfl
        have hS5 : Turn (fun _ => False) w1 w5 := by rw [hw5]; exact hS4.trans (turn_setCells (S := fun k => k = g6) rfl _ _ _) (fun k hk e => by have := hgr; omega)
        have e5 : w4.setCells g6 0 [.int .i64 n2, .int .i64 s2, .int .i64 lo2, .int .i64 hi2] = w5 := hw5.symm
        try rw [← hw5]
        try rw [e5]
        refine hK.out _ _ _ hS5 ?_
        clear hK K hw5 e5 HB4 HTH hb4 hS4
        try simp only [List.setIfInBounds_toArray, List.set_cons_zero, List.set_cons_succ]
        refine drawn_last1 13 8 (.bool bb) rfl rfl (by kernel_rfl) (by kernel_rfl) (by rfl) (by intro w; go_simp) hS5 ?_
        try simp only [List.setIfInBounds_toArray, List.set_cons_zero, List.set_cons_succ]
        have HFT := Lib.hid hS5
        have hbf := HB1.out.turn hS5 (fun f => f)
        have hm5 := HM1.out w5 hS5
        clear hS5
        cases o with
        | none =>
          have eb : bb = false := HBS.out
          subst eb
          have HE : Hid (ofR l = none) := HNO.out rfl
          clear hbf hm5
          go_wp2
          go_ret2
          exact ⟨_, by rw [HE.out]; rfl, by rw [HE.out]; exact SV11.nil _, (HT.out.trans HT1.out (fun _ _ f => f)).trans HFT.out (fun _ _ f => f)⟩
        | some d =>
          have eb : bb = true := HBS.out
          subst eb
          have ed2 : d = ⟨n2, s2, lo2, hi2⟩ := HG2.out
          subst ed2
          have HNX := Lib.hid (HSO.out _ rfl)
          have hst := store_run hm5 f.k ⟨n2, s2, lo2, hi2⟩
          have hsd := stored hm5 (setR f.k ⟨n2, s2, lo2, hi2⟩ es)
          obtain ⟨w6, hw6⟩ : ∃ w6, w6 = Go.ChangeMaps.setBlock w5 b (.map (entsR (setR f.k ⟨n2, s2, lo2, hi2⟩ es)) (setR f.k ⟨n2, s2, lo2, hi2⟩ es).length) := ⟨_, rfl⟩
          rw [← hw6] at hst hsd
          unfold kv9 cv at hst
          have HSD := Lib.hid hsd
          obtain ⟨⟨b0, b1, b2, b3⟩, _⟩ := box_cells HB6.out
          have k0 := hbf.cell 0
          have k1 := hbf.cell 1
          have k2 := hbf.cell 2
          have k3 := hbf.cell 3
          have k4 := hbf.cell 4
          clear hbf hm5 hsd hw6
          go_wp2
          go_roundw
          case rel => exact ⟨i + 1, _, by go_num, hlt, HSD.out.1, HNX.out, ((HT.out.trans HT1.out (fun _ _ f => f)).trans HFT.out (fun _ _ f => f)).trans HSD.out.2 (fun k hk e => by have := HBB.out; omega)⟩
          case measure => simp [intOf]; omega
    · obtain rfl : i = l.length := by omega
      have hesl := HR.out.len
      have hmk := made_rows11 es.length (by omega) wr
      have HN0 := Lib.hid (new_rows11 es.length (by omega) wr)
      have hln := fun ty => len_run HM.out ty
      have hmt := HM.out.turn ((Turn.refl (fun _ => False) wr).alloc (.cells (madeCells (Value.cells zv11) (es.length * 9)) 51)) (fun f => f)
      have hrg := range_run hmt
      obtain ⟨w2, hw2⟩ : ∃ w2, w2 = (wr.alloc (.cells (madeCells (Value.cells zv11) (es.length * 9)) 51)).alloc (.mapIter (some b) es.length #[] es.length) := ⟨_, rfl⟩
      obtain ⟨R, hR⟩ : ∃ R, R = (wr.alloc (.cells (madeCells (Value.cells zv11) (es.length * 9)) 51)).heap.size := ⟨_, rfl⟩
      have HM2 : Hid (MapIs w2 b es) := by rw [hw2]; exact hmt.turn ((Turn.refl (fun _ => False) _).alloc _) (fun f => f)
      have HI2 : Hid (IterIs w2 R b es #[]) := by rw [hw2, hR]; exact heap_alloc_new _ _
      have HN2 : Hid (NewE ER 51 wr w2 (.slice (some ⟨wr.heap.size, 0, none⟩) 0 es.length) []) := by rw [hw2]; exact HN0.out.alloc _
      have HRB : Hid (R ≠ b ∧ wr.heap.size ≤ R ∧ b < wr.heap.size) := by
        have h1 := HM.out.lt
        refine ⟨?_, ?_, h1⟩
        · rw [hR, World.size_alloc]; omega
        · rw [hR, World.size_alloc]; omega
      rw [← hw2, ← hR] at hrg
      have HRR : Hid (R = wr.heap.size + 1) := by show R = _; rw [hR, World.size_alloc]
      simp only [Value.cells] at hrg hmk
      have HES := Lib.hid hesl
      clear hmt hw2 hR
      go_wp2_with fail
      clear hmk hrg hln
      go_loopw [9] (fun x9 wz => ∃ (done : List R11) (seen : Array Nat), NewE ER 51 wr wz x9 done ∧ MapIs wz b es ∧ IterIs wz R b es seen ∧ ((leftR es seen).map (·.1) ++ done).Perm es) (fun x9 _ => es.length - vlen11 x9)
      case atStart => exact ⟨[], #[], HN2.out, HM2.out, HI2.out, by rw [left_all, List.append_nil, List.zipIdx_map_fst]⟩
      case round =>
        clear HN2 HM2 HI2 HM HN0
        obtain ⟨done, seen, hn, hm, hi, hp⟩ := hrel
        have HN := Lib.hid hn; have HM := Lib.hid hm; have HI := Lib.hid hi; have HP := Lib.hid hp
        obtain ⟨A9, c9, rfl⟩ := hn.own.shape
        have hdl : (leftR es seen).length + done.length = es.length := by have h := hp.length_eq; rw [List.length_append, List.length_map] at h; exact h
        rcases next_run hm hi 0 with ⟨h0, hnx⟩ | ⟨p, hpl, wx, hwx, hnx⟩
        · have HPE : Hid (done.Perm es) := by show List.Perm _ _; rw [h0, List.map_nil, List.nil_append] at hp; exact hp
          have hnx2 : ∀ ty, (Instr.next (.pointer (some ⟨R, 0, none⟩)) false ty).run Try.prog wr = .ok (.tuple #[.bool false]) wr := fun ty => hnx
          clear hn hm hi hp hnx h0
          have HOD : Hid (OnceK done) := (HPE.out.symm.pairwise_iff (R := fun a b : R11 => a.k ≠ b.k) (fun h => Ne.symm h)).1 HR.out.once
          have HSO := Lib.hid (sortfunc11 _ done wr HN.out.own HOD.out (by have := HES.out; omega))
          go_wp2_with fail
          refine HSO.out.mono ?_
          rintro e w5 ⟨rfl, s5, hsp, hsr, hso, hst⟩
          have HE : Hid (ofR l = some s5) := HR.out.all hsr (hsp.trans HPE.out)
          have HO5 := Lib.hid hso
          have HT5 : Hid (Turn (fun _ => False) w w5) := (HT.out.trans HN.out.turn (fun _ _ f => f)).trans hst (fun k hk e => by have h1 := HN.out.new k e; have h2 := HT.out.size; omega)
          have HRT : Hid (rightR s5 = true ∧ (∀ r ∈ s5, okC r.c) ∧ s5.length ≤ 1000) := puts_right (rows_ok HF.out) HE.out (by rw [List.length_map]; exact hl)
          have hsl : s5.length = done.length := hsp.length_eq
          clear hsp hsr hso hst HSO hnx2
          go_wp2
          go_ret2
          exact ⟨_, by rw [HE.out]; rfl, by rw [HE.out]; exact SV11.new HO5.out.rd HRT.out, HT5.out.alloc _⟩
        · have hpz : p ∈ es.zipIdx := (List.mem_filter.1 hpl).1
          obtain ⟨hI3, hT3⟩ := iterated hi hwx (seen.push p.2)
          have hperm := left_step hpl
          obtain ⟨w3, hw3⟩ : ∃ w3, w3 = Go.ChangeMaps.setBlock wx R (.mapIter (some b) es.length (seen.push p.2) es.length) := ⟨_, rfl⟩
          rw [← hw3] at hnx hI3 hT3
          have hm3 := hm.turn hT3 (fun e => HRB.out.1 e.symm)
          have hen := entry_run hm3 hpz hI3
          have HM3 := Lib.hid hm3; have HI3 := Lib.hid hI3
          have hno : ∀ k, (Value.slice A9 done.length c9).ownBlock = some k → ¬ k = R := fun k hk e => by
            rcases hn.own.form with ⟨e1, _⟩ | ⟨g, cap, cur, e1, hb, _⟩
            · rw [e1] at hk; simp [Value.ownBlock] at hk
            · rw [e1] at hk
              have : g = k := by simpa [Value.ownBlock] using hk
              rw [this, e] at hb
              have h1 : wr.heap[R]? = _ := hi
              rw [show wr.heap[R]? = _ from hb] at h1
              cases h1
          have hn3 : NewE ER 51 _ w3 (.slice A9 done.length c9) done := ⟨hn.own.turn hT3 hno, hn.new, hn.turn.trans hT3 (fun k hk e => by have := HRB.out.2.1; omega)⟩
          have HN3 := Lib.hid hn3; have HNO := Lib.hid hno
          have HPM := Lib.hid hperm
          have hll : (leftR es (seen.push p.2)).length + 1 = (leftR es seen).length := by have h := hperm.length_eq; simp only [List.length_cons] at h; omega
          obtain ⟨x, j⟩ := p
          dsimp only at hnx hen hll HPM HI3
          have hnx2 : ∀ ty, (Instr.next (.pointer (some ⟨R, 0, none⟩)) false ty).run Try.prog wr = .ok (.tuple #[.bool true, kv9 x.k, cv x.c]) w3 := fun ty => hnx
          unfold kv9 cv at hnx2 hen
          have HN4 := Lib.hid (((HN3.out.alloc (.cells #[.int .i64 x.k.h, sv9 x.k.a, sv9 x.k.b, sv9 x.k.c, sv9 x.k.d] 44)).alloc (.cells #[.int .i64 x.c.n, .int .i64 x.c.s, .int .i64 x.c.lo, .int .i64 x.c.hi] 47)).alloc (.cells (ER.enc x).toArray 51))
          have HT4 : Hid (Turn (fun _ => False) w3 (((w3.alloc (.cells #[.int .i64 x.k.h, sv9 x.k.a, sv9 x.k.b, sv9 x.k.c, sv9 x.k.d] 44)).alloc (.cells #[.int .i64 x.c.n, .int .i64 x.c.s, .int .i64 x.c.lo, .int .i64 x.c.hi] 47)).alloc (.cells (ER.enc x).toArray 51))) := (((Turn.refl _ w3).alloc _).alloc _).alloc _
          have hx0 := one_row ER 51 ((w3.alloc (.cells #[.int .i64 x.k.h, sv9 x.k.a, sv9 x.k.b, sv9 x.k.c, sv9 x.k.d] 44)).alloc (.cells #[.int .i64 x.c.n, .int .i64 x.c.s, .int .i64 x.c.lo, .int .i64 x.c.hi] 47)) x
          rw [World.size_alloc, World.size_alloc] at hx0
          have HX := Lib.hid hx0
          have hdle : done.length + 1 ≤ es.length := by omega
          clear hn hm hi hp hnx hI3 hT3 hperm hm3 hno hn3 hx0 hw3 hwx hpl hpz
          go_wp2_with (at_builtin; refine wpList_rows11 _ rfl _ _ rfl _ done rfl HN4.out.own _ rfl [x] HX.out (by have := HES.out; simp only [List.length_cons, List.length_nil]; omega) ?_; intro A5 n5 c5 w5 ho ht hn; have HN5 := Lib.hid (HN4.out.step ho ht hn); have HT5 := Lib.hid ht; have HO5 := Lib.hid ho; clear ho ht hn)
          obtain ⟨A6, c6, e6⟩ := HO5.out.shape
          injection e6 with e61 e62 e63
          subst e62
          refine ⟨⟨done ++ [x], seen.push j, HN5.out, ?_, ?_, ?_⟩, ?_⟩
          · exact (HM3.out.turn HT4.out (fun f => f)).turn HT5.out (fun e => by have h1 := HN3.out.new _ e; have h2 := HRB.out.2.2; omega)
          · exact (HI3.out.turn HT4.out (fun f => f)).turn HT5.out (fun e => HNO.out _ e rfl)
          · have h1 := (HPM.out.map (·.1)).append_right done
            rw [List.map_cons] at h1
            refine List.Perm.trans ?_ (h1.symm.trans HP.out)
            rw [← List.append_assoc]
            exact (List.perm_append_singleton x _).trans (List.Perm.refl _)
          · show es.length - (done ++ [x]).length < es.length - done.length
            rw [List.length_append, List.length_singleton]
            omega

end Go.Proofs.Ytnnlgeldjjknmaa

/-
  Stage 11: the program's contracts, together.
-/

/-
  Stage 9: the document's Check and All.
-/
namespace Go.Proofs.Ytnnlgeldjjknmaa
open Go.RowKit

set_option maxRecDepth 100000

theorem chk_dims {f : F9} {n : Int} (h : ¬ (1 ≤ n ∧ n ≤ 4)) : chkF f n = 1 := by
  unfold chkF okDims
  rw [if_neg (by simpa using h)]
theorem chk_range {f : F9} {n : Int} (hn : 1 ≤ n ∧ n ≤ 4) (h : ¬ (0 ≤ f.k.h ∧ f.k.h ≤ 16777216 ∧ f.v ≤ 1152921504606846976 ∧ -1152921504606846976 ≤ f.v)) : chkF f n = 2 := by
  unfold chkF okDims
  rw [if_pos (by simpa using hn), if_neg h]
theorem chk_text {f : F9} {n : Int} (hn : 1 ≤ n ∧ n ≤ 4) (h : 0 ≤ f.k.h ∧ f.k.h ≤ 16777216 ∧ f.v ≤ 1152921504606846976 ∧ -1152921504606846976 ≤ f.v) (ht : okTexts n f.k = false) : chkF f n = 4 := by
  unfold chkF okDims
  rw [if_pos (by simpa using hn), if_pos h, ht]
  rfl
theorem chk_ok {f : F9} {n : Int} (hn : 1 ≤ n ∧ n ≤ 4) (h : 0 ≤ f.k.h ∧ f.k.h ≤ 16777216 ∧ f.v ≤ 1152921504606846976 ∧ -1152921504606846976 ≤ f.v) (ht : okTexts n f.k = true) : chkF f n = 0 := by
  unfold chkF okDims
  rw [if_pos (by simpa using hn), if_pos h, ht]
  rfl

end Go.Proofs.Ytnnlgeldjjknmaa

/-
  Stage 9: the document's All; facts held against each other.
-/
namespace Go.Proofs.Ytnnlgeldjjknmaa
open Go.RowKit

set_option maxRecDepth 100000

/-- What All answers, as a value. -/
def allV (l : List F9) (n : Int) : Value := .tuple #[.int .i64 (allB l n).1, .int .i64 (allB l n).2]
theorem allV_bad {l : List F9} {n : Int} (h : ¬ (1 ≤ n ∧ n ≤ 4 ∧ 1 ≤ l.length ∧ l.length ≤ 50)) : allV l n = .tuple #[.int .i64 1, .int .i64 0] := by
  unfold allV allB
  rw [if_neg]
  intro ⟨h1, h2, h3⟩
  unfold okDims at h1
  simp only [Bool.and_eq_true, decide_eq_true_iff] at h1
  exact h ⟨h1.1, h1.2, h2, h3⟩
theorem allV_at {l : List F9} {n : Int} (h : 1 ≤ n ∧ n ≤ 4 ∧ 1 ≤ l.length ∧ l.length ≤ 50) {a b : Int} (e : badAt n l 0 = (a, b)) : allV l n = .tuple #[.int .i64 a, .int .i64 b] := by
  unfold allV allB
  rw [if_pos ⟨by unfold okDims; simp [h.1, h.2.1], h.2.2⟩, e]

end Go.Proofs.Ytnnlgeldjjknmaa
