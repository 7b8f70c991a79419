/-
  Texts laid one behind the other: Em Zpl Zq Zu Zg Eu Zx Zym.
-/
import Derived.Test.YtejilonhdgfkbaaJoflab
import Derived.Test.YtejilonhdgfkbaaJoflag
import Derived.Test.YtejilonhdgfkbaaJoflaa
import Derived.Shelf.SlSortCmp.NoneTotal
import Derived.Shelf.SortM.Plain
import Derived.Shelf.SortM.SortNone
import Derived.Shelf.SlicesG.CompactI
import Derived.Test.YtejilonhdgfkbaaProg
import Derived.Lib.SliceRun
import Derived.Test.YtejilonhdgfkbaaJoflaf
import Derived.Lib.SlicesCompact

/-
  Rows of a call's own, of elements of any size, sorted by slices.SortFunc: from and to the shelf's words; orders. No type is named.
-/
namespace Go.Proofs.Ytejilonhdgfkbaa
open Go.RowKit

section
variable {T : Type} [Inhabited T] {E : El T} {e : TypeId} {w : World} {L : List T}

theorem flatK_eq (E : El T) (d : Array T) : Sort.flatK E.enc E.sz d = (E.flat d.toList).toArray := by
  apply Sort.ext_get!
  · rw [Sort.size_flatK]
    show _ = (E.flat d.toList).length
    rw [E.flat_len]
    rfl
  · intro t ht
    rw [Sort.size_flatK] at ht
    have h0 : 0 < E.sz := by
      rcases Nat.eq_zero_or_pos E.sz with h | h
      · rw [h, Nat.mul_zero] at ht; exact absurd ht (Nat.not_lt_zero t)
      · exact h
    have hd : t / E.sz < d.size := (Nat.div_lt_iff_lt_mul h0).2 ht
    have hm : t % E.sz < E.sz := Nat.mod_lt _ h0
    rw [Sort.get_flatK _ _ _ _ ht]
    have hx : d.toList[t / E.sz]? = some d[t / E.sz] := by rw [Array.getElem?_toList, Array.getElem?_eq_getElem hd]
    have h1 := E.flat_at hx hm
    rw [show t / E.sz * E.sz + t % E.sz = t by rw [Nat.mul_comm]; exact Nat.div_add_mod t E.sz] at h1
    rw [getElem!_pos d _ hd]
    simp only [getElem!_def, List.getElem?_toArray, h1]

/-- A row of one's own holds its elements in the shelf's words. -/
theorem OwE.holdsK {ad : Addr} {n c : Nat} (h : OwE E e w (.slice (some ad) n c) L) : Sort.HoldsK E.enc E.sz w ad.block 0 L.toArray := by
  obtain ⟨cur, _, _, hb, _, _, _, h4⟩ := h.home
  unfold Sort.HoldsK Sort.Holds
  rw [flatK_eq]
  intro j hj
  rw [List.size_toArray] at hj
  rw [Nat.zero_add]
  refine ⟨?_, hb.free j⟩
  rw [hb.cell]
  have e1 : (E.flat L)[j]? = cur[j]? := by
    rw [← h4, List.getElem?_take, if_pos (by rw [E.flat_len] at hj; exact hj), Array.getElem?_toList]
  rw [← e1, List.getElem?_eq_getElem hj]
  simp only [id]
  rw [getElem!_pos _ j (by rw [List.size_toArray]; exact hj)]
  rfl

theorem turn_sortK (E : El T) (d : Array T) (g m : Nat) (os : Array Obj) (w : World) : Turn (fun k => k = g) w (sortWorldK E.enc E.sz w g 0 m d os) := by
  refine ⟨rfl, rfl, rfl, ?_, ?_⟩
  · show w.heap.size ≤ (_ ++ os).size
    rw [Array.size_append, Sort.putRowK, Sort.size_putRow]
    exact Nat.le_add_right _ _
  · intro k hk hg
    show (_ ++ os)[k]? = _
    rw [Array.getElem?_append_left (by rw [Sort.putRowK, Sort.size_putRow]; exact hk)]
    show (w.heap.modify g _)[k]? = _
    rw [Array.getElem?_modify, if_neg (fun e => hg e.symm)]

/-- Behind a sort: the row is one's own still, and holds what the shelf says. -/
theorem OwE.sorted {ad : Addr} {n c : Nat} (h : OwE E e w (.slice (some ad) n c) L) (d : Array T) (hd : d.size = L.length) (m : Nat) (os : Array Obj) :
    OwE E e (sortWorldK E.enc E.sz w ad.block 0 m d os) (.slice (some ad) n c) d.toList ∧ Turn (fun k => k = ad.block) w (sortWorldK E.enc E.sz w ad.block 0 m d os) := by
  refine ⟨?_, turn_sortK E d _ m os w⟩
  have hH := h.holdsK
  obtain ⟨cur, had, hn, hb, h1, h2, h3, h4⟩ := h.home
  have hlt := hb.lt
  have hdl : d.toList.length = L.length := by rw [Array.length_toList, hd]
  have hH2 : Sort.HoldsK E.enc E.sz (sortWorldK E.enc E.sz w ad.block 0 m d os) ad.block 0 d := by
    unfold sortWorldK
    refine Sort.holdsK_grow _ _ _ _ _ _ _ (by rw [Sort.putRowK, Sort.size_putRow]; exact hlt) (Sort.holdsK_putRowK _ _ _ _ _ L.toArray _ (Sort.holdsK_ahead _ _ _ _ _ _ _ hH) (by rw [List.size_toArray]; exact hd))
  have hb2 : Box (sortWorldK E.enc E.sz w ad.block 0 m d os) ad.block e (Sort.putCells id 0 (Sort.flatK E.enc E.sz d) cur) := by
    show (_ ++ os)[ad.block]? = _
    rw [Array.getElem?_append_left (by rw [Sort.putRowK, Sort.size_putRow]; exact hlt)]
    show (w.heap.modify ad.block _)[ad.block]? = _
    rw [Array.getElem?_modify, if_pos rfl, hb]
    rfl
  rw [had, hn, ← hdl]
  refine OwE.of_box hb2 (by rw [hdl]; exact h1) h2 (by rw [Sort.putCells, Array.size_mapIdx]; exact h3) ?_
  unfold Sort.HoldsK Sort.Holds at hH2
  rw [flatK_eq] at hH2
  rw [flatK_eq] at hb2 ⊢
  apply List.ext_getElem?
  intro j
  rw [List.getElem?_take]
  split
  · rename_i hj
    have hj2 : j < (E.flat d.toList).length := by rw [E.flat_len]; exact hj
    have g1 := (hH2 j (by rw [List.size_toArray]; exact hj2)).1
    rw [Nat.zero_add, hb2.cell] at g1
    rw [Array.getElem?_toList, g1, List.getElem?_eq_getElem hj2, id, getElem!_pos _ j (by rw [List.size_toArray]; exact hj2)]
    rfl
  · rename_i hj
    rw [List.getElem?_eq_none (by rw [E.flat_len]; omega)]
end

/-- An order, in the shelf's words. -/
theorem Rises.swo {A : Type} {lt : A → A → Bool} (h : Rises lt) : Sort.SWO lt where
  irrefl x := h.irr x
  trans x y z := h.tr x y z
  ntrans x y z h1 h2 := by
    cases e : lt x z with
    | false => rfl
    | true =>
      by_cases hxy : x = y
      · subst hxy
        rw [h2] at e
        cases e
      · have h3 := h.tot x y hxy h1
        rw [h.tr y x z h3 e] at h2
        cases h2
theorem Rises.one {A : Type} {lt : A → A → Bool} (h : Rises lt) (x y : A) (h1 : lt x y = false) (h2 : lt y x = false) : x = y := by
  by_cases e : x = y
  · exact e
  · rw [h.tot x y e h1] at h2
    cases h2
/-- What is in order, and has the things of a list, is that list sorted. -/
theorem sort_one {A : Type} {lt : A → A → Bool} (h : Rises lt) {l m : List A} (hp : m.Perm l) (hm : m.Pairwise fun x y => lt y x = false) : l.mergeSort (fun x y => !lt y x) = m := by
  refine List.Perm.eq_of_pairwise (le := fun x y => (!lt y x) = true) ?_ ?_ ?_ ((List.mergeSort_perm l _).trans hp.symm)
  · intro a b _ _ h1 h2
    simp only [Bool.not_eq_true'] at h1 h2
    exact h.one a b h2 h1
  · refine List.pairwise_mergeSort ?_ ?_ l
    · intro a b c h1 h2
      simp only [Bool.not_eq_true'] at *
      exact h.swo.ntrans c b a h2 h1
    · intro a b
      cases e : lt b a with
      | false => rfl
      | true =>
        cases e2 : lt a b with
        | false => rfl
        | true =>
          have h3 := h.tr a b a e2 e
          rw [h.irr a] at h3
          cases h3
  · exact hm.imp fun h => by simp [h]

end Go.Proofs.Ytejilonhdgfkbaa

/-
  The library's functions that the program calls, at this program's numbers: each laying is a table of numbers, and a theorem: a fact a row.
-/
namespace Go.Proofs.Ytejilonhdgfkbaa
open Go.Shelf
def Try.sortF9_ren : Go.Shelf.Ren := ⟨fun | 6 => 39 | 15 => 61 | 14 => 62 | 28 => 80 | 29 => 81 | 20 => 82 | 21 => 83 | 22 => 84 | 23 => 85 | 24 => 86 | 25 => 87 | 26 => 88 | 27 => 89 | 46 => 101 | 47 => 97 | 48 => 98 | 49 => 102 | 50 => 103 | 57 => 111 | n => n, fun | 22 => 28 | 24 => 33 | 25 => 61 | 3 => 3 | 39 => 92 | 0 => 0 | 53 => 111 | 55 => 69 | 4 => 4 | 46 => 103 | 45 => 102 | 50 => 108 | 5 => 5 | 9 => 9 | 66 => 124 | 70 => 127 | 76 => 137 | 77 => 138 | n => n, fun | n => n⟩
theorem Try.sortF9 : Go.Proofs.SlLaysF0.n6 Try.prog Try.sortF9_ren := {
  mixed := by kernel_rfl
  f6 := ⟨Try.f39.name, by decide, Try.func39.trans (congrArg some (by kernel_rfl))⟩
  f14 := ⟨Try.f62.name, by decide, Try.func62.trans (congrArg some (by kernel_rfl))⟩
  f15 := Try.func61.trans (congrArg some (by kernel_rfl))
  f20 := ⟨Try.f82.name, by decide, Try.func82.trans (congrArg some (by kernel_rfl))⟩
  f21 := ⟨Try.f83.name, by decide, Try.func83.trans (congrArg some (by kernel_rfl))⟩
  f22 := ⟨Try.f84.name, by decide, Try.func84.trans (congrArg some (by kernel_rfl))⟩
  f23 := ⟨Try.f85.name, by decide, Try.func85.trans (congrArg some (by kernel_rfl))⟩
  f24 := ⟨Try.f86.name, by decide, Try.func86.trans (congrArg some (by kernel_rfl))⟩
  f25 := ⟨Try.f87.name, by decide, Try.func87.trans (congrArg some (by kernel_rfl))⟩
  f26 := ⟨Try.f88.name, by decide, Try.func88.trans (congrArg some (by kernel_rfl))⟩
  f27 := ⟨Try.f89.name, by decide, Try.func89.trans (congrArg some (by kernel_rfl))⟩
  f28 := Try.func80.trans (congrArg some (by kernel_rfl))
  f29 := Try.func81.trans (congrArg some (by kernel_rfl))
  f46 := ⟨Try.f101.name, by decide, Try.func101.trans (congrArg some (by kernel_rfl))⟩
  f47 := Try.func97.trans (congrArg some (by kernel_rfl))
  f48 := Try.func98.trans (congrArg some (by kernel_rfl))
  f49 := ⟨Try.f102.name, by decide, Try.func102.trans (congrArg some (by kernel_rfl))⟩
  f50 := ⟨Try.f103.name, by decide, Try.func103.trans (congrArg some (by kernel_rfl))⟩
  f57 := ⟨Try.f111.name, by decide, Try.func111.trans (congrArg some (by kernel_rfl))⟩
  t0 := Try.underlying0
  a0 := Try.isAgg0
  z0 := Try.sizeOf0
  v0 := Try.zeroValue0
  t3 := Try.underlying3
  a3 := Try.isAgg3
  z3 := Try.sizeOf3
  v3 := Try.zeroValue3
  t4 := Try.underlying4
  a4 := Try.isAgg4
  z4 := Try.sizeOf4
  v4 := Try.zeroValue4
  t5 := Try.underlying5
  a5 := Try.isAgg5
  z5 := Try.sizeOf5
  v5 := Try.zeroValue5
  t9 := Try.underlying9
  a9 := Try.isAgg9
  z9 := Try.sizeOf9
  v9 := Try.zeroValue9
  t22 := Try.underlying28
  a22 := Try.isAgg28
  z22 := Try.sizeOf28
  v22 := Try.zeroValue28
  t25 := Try.underlying61
  a25 := Try.isAgg61
  z25 := Try.sizeOf61
  v25 := Try.zeroValue61
  t39 := Try.underlying92
  a39 := Try.isAgg92
  z39 := Try.sizeOf92
  v39 := Try.zeroValue92
  t45 := Try.underlying102
  a45 := Try.isAgg102
  z45 := Try.sizeOf102
  v45 := Try.zeroValue102
  t46 := Try.underlying103
  a46 := Try.isAgg103
  z46 := Try.sizeOf103
  v46 := Try.zeroValue103
  t50 := Try.underlying108
  a50 := Try.isAgg108
  z50 := Try.sizeOf108
  v50 := Try.zeroValue108
  t53 := Try.underlying111
  a53 := Try.isAgg111
  z53 := Try.sizeOf111
  v53 := Try.zeroValue111
  t55 := Try.underlying69
  a55 := Try.isAgg69
  z55 := Try.sizeOf69
  v55 := Try.zeroValue69
  t66 := Try.underlying124
  a66 := Try.isAgg124
  z66 := Try.sizeOf124
  v66 := Try.zeroValue124
  t70 := Try.underlying127
  a70 := Try.isAgg127
  z70 := Try.sizeOf127
  v70 := Try.zeroValue127
  t76 := Try.underlying137
  a76 := Try.isAgg137
  z76 := Try.sizeOf137
  v76 := Try.zeroValue137
  t77 := Try.underlying138
  a77 := Try.isAgg138
  z77 := Try.sizeOf138
  v77 := Try.zeroValue138 }
def Try.sortN9_ren : Go.Shelf.Ren := ⟨fun | 5 => 36 | 8 => 61 | 7 => 60 | 19 => 80 | 20 => 81 | 10 => 71 | 11 => 72 | 12 => 73 | 13 => 74 | 14 => 75 | 15 => 76 | 16 => 77 | 17 => 78 | 18 => 79 | 30 => 96 | 31 => 97 | 32 => 98 | 33 => 99 | 34 => 100 | 35 => 56 | 40 => 110 | n => n, fun | 23 => 40 | 25 => 2 | 3 => 3 | 32 => 92 | 22 => 40 | 0 => 0 | 44 => 111 | 46 => 69 | 4 => 4 | 36 => 103 | 35 => 102 | 41 => 108 | 5 => 5 | 9 => 9 | 53 => 124 | 57 => 127 | 63 => 137 | 64 => 138 | n => n, fun | n => n⟩
theorem Try.sortN9 : Go.Proofs.SlLaysM.n5 Try.prog Try.sortN9_ren := {
  mixed := by kernel_rfl
  f5 := ⟨Try.f36.name, by decide, Try.func36.trans (congrArg some (by kernel_rfl))⟩
  f7 := ⟨Try.f60.name, by decide, Try.func60.trans (congrArg some (by kernel_rfl))⟩
  f8 := Try.func61.trans (congrArg some (by kernel_rfl))
  f10 := ⟨Try.f71.name, by decide, Try.func71.trans (congrArg some (by kernel_rfl))⟩
  f11 := ⟨Try.f72.name, by decide, Try.func72.trans (congrArg some (by kernel_rfl))⟩
  f12 := ⟨Try.f73.name, by decide, Try.func73.trans (congrArg some (by kernel_rfl))⟩
  f13 := ⟨Try.f74.name, by decide, Try.func74.trans (congrArg some (by kernel_rfl))⟩
  f14 := ⟨Try.f75.name, by decide, Try.func75.trans (congrArg some (by kernel_rfl))⟩
  f15 := ⟨Try.f76.name, by decide, Try.func76.trans (congrArg some (by kernel_rfl))⟩
  f16 := ⟨Try.f77.name, by decide, Try.func77.trans (congrArg some (by kernel_rfl))⟩
  f17 := ⟨Try.f78.name, by decide, Try.func78.trans (congrArg some (by kernel_rfl))⟩
  f18 := ⟨Try.f79.name, by decide, Try.func79.trans (congrArg some (by kernel_rfl))⟩
  f19 := Try.func80.trans (congrArg some (by kernel_rfl))
  f20 := Try.func81.trans (congrArg some (by kernel_rfl))
  f30 := ⟨Try.f96.name, by decide, Try.func96.trans (congrArg some (by kernel_rfl))⟩
  f31 := Try.func97.trans (congrArg some (by kernel_rfl))
  f32 := Try.func98.trans (congrArg some (by kernel_rfl))
  f33 := ⟨Try.f99.name, by decide, Try.func99.trans (congrArg some (by kernel_rfl))⟩
  f34 := ⟨Try.f100.name, by decide, Try.func100.trans (congrArg some (by kernel_rfl))⟩
  f35 := ⟨Try.f56.name, by decide, Try.func56.trans (congrArg some (by kernel_rfl))⟩
  f40 := ⟨Try.f110.name, by decide, Try.func110.trans (congrArg some (by kernel_rfl))⟩
  t0 := Try.underlying0
  a0 := Try.isAgg0
  z0 := Try.sizeOf0
  v0 := Try.zeroValue0
  t3 := Try.underlying3
  a3 := Try.isAgg3
  z3 := Try.sizeOf3
  v3 := Try.zeroValue3
  t4 := Try.underlying4
  a4 := Try.isAgg4
  z4 := Try.sizeOf4
  v4 := Try.zeroValue4
  t5 := Try.underlying5
  a5 := Try.isAgg5
  z5 := Try.sizeOf5
  v5 := Try.zeroValue5
  t9 := Try.underlying9
  a9 := Try.isAgg9
  z9 := Try.sizeOf9
  v9 := Try.zeroValue9
  t22 := Try.underlying40
  a22 := Try.isAgg40
  z22 := Try.sizeOf40
  v22 := Try.zeroValue40
  t23 := Try.underlying40
  a23 := Try.isAgg40
  z23 := Try.sizeOf40
  v23 := Try.zeroValue40
  t25 := Try.underlying2
  a25 := Try.isAgg2
  z25 := Try.sizeOf2
  v25 := Try.zeroValue2
  t32 := Try.underlying92
  a32 := Try.isAgg92
  z32 := Try.sizeOf92
  v32 := Try.zeroValue92
  t35 := Try.underlying102
  a35 := Try.isAgg102
  z35 := Try.sizeOf102
  v35 := Try.zeroValue102
  t36 := Try.underlying103
  a36 := Try.isAgg103
  z36 := Try.sizeOf103
  v36 := Try.zeroValue103
  t41 := Try.underlying108
  a41 := Try.isAgg108
  z41 := Try.sizeOf108
  v41 := Try.zeroValue108
  t44 := Try.underlying111
  a44 := Try.isAgg111
  z44 := Try.sizeOf111
  v44 := Try.zeroValue111
  t46 := Try.underlying69
  a46 := Try.isAgg69
  z46 := Try.sizeOf69
  v46 := Try.zeroValue69
  t53 := Try.underlying124
  a53 := Try.isAgg124
  z53 := Try.sizeOf124
  v53 := Try.zeroValue124
  t57 := Try.underlying127
  a57 := Try.isAgg127
  z57 := Try.sizeOf127
  v57 := Try.zeroValue127
  t63 := Try.underlying137
  a63 := Try.isAgg137
  z63 := Try.sizeOf137
  v63 := Try.zeroValue137
  t64 := Try.underlying138
  a64 := Try.isAgg138
  z64 := Try.sizeOf138
  v64 := Try.zeroValue138 }
def Try.compactN9_ren : Go.Shelf.Ren := ⟨fun | 43 => 37 | n => n, fun | 22 => 40 | 23 => 2 | 3 => 3 | 4 => 4 | 0 => 0 | n => n, fun | n => n⟩
theorem Try.compactN9 : Go.Proofs.SlLaysN.n43 Try.prog Try.compactN9_ren := {
  mixed := by kernel_rfl
  f43 := ⟨Try.f37.name, by decide, Try.func37.trans (congrArg some (by kernel_rfl))⟩
  t0 := Try.underlying0
  a0 := Try.isAgg0
  z0 := Try.sizeOf0
  v0 := Try.zeroValue0
  t3 := Try.underlying3
  a3 := Try.isAgg3
  z3 := Try.sizeOf3
  v3 := Try.zeroValue3
  t4 := Try.underlying4
  a4 := Try.isAgg4
  z4 := Try.sizeOf4
  v4 := Try.zeroValue4
  t22 := Try.underlying40
  a22 := Try.isAgg40
  z22 := Try.sizeOf40
  v22 := Try.zeroValue40
  t23 := Try.underlying2
  a23 := Try.isAgg2
  z23 := Try.sizeOf2
  v23 := Try.zeroValue2
  i23 := by kernel_rfl }
end Go.Proofs.Ytejilonhdgfkbaa

/-
  Stage 9: the program's Sort: a row copied, and sorted by a closure; one answer with the document's.
-/
namespace Go.Proofs.Ytejilonhdgfkbaa
open Go.RowKit

set_option maxRecDepth 100000

/-- The document's list, in order: the same things. -/
theorem downF_spec (f : F9) (l : List F9) : ∀ k, k ≤ l.length → (∀ (j : Nat) (y : F9), downF f l k ≤ j → j < k → l[j]? = some y → factLt f y = true) ∧ (∀ y, 0 < downF f l k → l[downF f l k - 1]? = some y → factLt f y = false)
  | 0, _ => ⟨fun j y _ hj => absurd hj (Nat.not_lt_zero j), fun y h => absurd h (Nat.not_lt_zero 0)⟩
  | k + 1, hk => by
    have ih := downF_spec f l k (by omega)
    obtain ⟨x, hx⟩ : ∃ x, l[k]? = some x := ⟨_, List.getElem?_eq_getElem (by omega)⟩
    unfold downF
    rw [hx]
    simp only
    by_cases h : factLt f x = true
    · rw [if_pos h]
      refine ⟨fun j y h1 h2 h3 => ?_, ih.2⟩
      by_cases e : j = k
      · subst e
        rw [hx] at h3
        cases h3
        exact h
      · exact ih.1 j y h1 (by omega) h3
    · rw [if_neg h]
      refine ⟨fun j y h1 h2 => absurd h1 (by omega), fun y _ h3 => ?_⟩
      rw [Nat.add_sub_cancel, hx] at h3
      cases h3
      simpa using h
theorem put_perm (f : F9) (l : List F9) : (putF9 f l).Perm (f :: l) := by
  unfold putF9
  refine List.perm_middle.trans ?_
  rw [List.take_append_drop]
theorem fact_le_tr {x y z : F9} (h1 : factLt y x = false) (h2 : factLt z y = false) : factLt z x = false := rises_fact.swo.ntrans z y x h2 h1
theorem put_sorted (f : F9) (l : List F9) (h : l.Pairwise fun x y => factLt y x = false) : (putF9 f l).Pairwise fun x y => factLt y x = false := by
  unfold putF9
  obtain ⟨g1, g2⟩ := downF_spec f l l.length (Nat.le_refl _)
  have gle := downF_le f l l.length
  generalize downF f l l.length = d at *
  have hd : (l.drop d).Pairwise fun x y => factLt y x = false := h.sublist (List.drop_sublist _ _)
  have ht : (l.take d).Pairwise fun x y => factLt y x = false := h.sublist (List.take_sublist _ _)
  have ha : ∀ y ∈ l.drop d, factLt y f = false := fun y hy => by
    obtain ⟨i, hi, e⟩ := List.getElem_of_mem hy
    have hi2 : d + i < l.length := by rw [List.length_drop] at hi; omega
    rw [List.getElem_drop] at e
    exact rises_fact.asym (g1 (d + i) y (by omega) hi2 (by rw [List.getElem?_eq_getElem hi2, e]))
  have hb : ∀ x ∈ l.take d, factLt f x = false := fun x hx => by
    obtain ⟨i, hi, e⟩ := List.getElem_of_mem hx
    have hi2 : i < d := by rw [List.length_take] at hi; omega
    rw [List.getElem_take] at e
    have hlast : d - 1 < l.length := by omega
    have h3 := g2 l[d - 1] (by omega) (List.getElem?_eq_getElem hlast)
    by_cases ei : i = d - 1
    · subst ei
      rw [← e]
      exact h3
    · have h4 := List.pairwise_iff_getElem.1 h i (d - 1) (by omega) hlast (by omega)
      rw [e] at h4
      exact fact_le_tr h4 h3
  rw [List.pairwise_append]
  refine ⟨ht, List.pairwise_cons.2 ⟨ha, hd⟩, fun x hx y hy => ?_⟩
  rcases List.mem_cons.1 hy with rfl | hy
  · exact hb x hx
  · exact fact_le_tr (hb x hx) (ha y hy)
theorem sortL_is (l : List F9) : (sortL l).Perm l ∧ (sortL l).Pairwise fun x y => factLt y x = false := by
  have key : ∀ (m acc : List F9), (acc.Pairwise fun x y => factLt y x = false) → (m.foldl (fun out f => putF9 f out) acc).Perm (m ++ acc) ∧ (m.foldl (fun out f => putF9 f out) acc).Pairwise fun x y => factLt y x = false := by
    intro m
    induction m with
    | nil => intro acc h; exact ⟨List.Perm.refl _, h⟩
    | cons f m ih =>
      intro acc h
      obtain ⟨h1, h2⟩ := ih (putF9 f acc) (put_sorted f acc h)
      refine ⟨?_, h2⟩
      refine h1.trans ?_
      rw [List.cons_append]
      exact (List.Perm.append_left m (put_perm f acc)).trans List.perm_middle
  have h := key l [] List.Pairwise.nil
  rwa [List.append_nil] at h
theorem sortL_merge (l : List F9) : l.mergeSort (fun x y => !factLt y x) = sortL l := sort_one rises_fact (sortL_is l).1 (sortL_is l).2


theorem factCmp_lt : (fun f g => ltOf factCmp f g) = factLt := by
  funext f g
  unfold ltOf factCmp
  rw [factLt_iff]
  rcases cmpK_cases f.k g.k with ⟨h, e, _⟩ | ⟨h, e, _⟩ | ⟨h, e⟩
  · rw [e]; rfl
  · rw [e]; rfl
  · rw [e]
    unfold cmpI
    by_cases h1 : f.v < g.v
    · simp [h1]
    · by_cases h2 : g.v < f.v <;> simp [h1, h2]


end Go.Proofs.Ytejilonhdgfkbaa

/-
  Stage 9: a row of facts copied; the program's Sort.
-/
namespace Go.Proofs.Ytejilonhdgfkbaa
open Go.RowKit Go.ChangeShapes Go.WideShapes Go.Deep

set_option maxRecDepth 100000

/-- Behind a row that was copied. -/
def Copied9 (w : World) (l : List F9) (e : Ending) (w' : World) : Prop := ∃ v, e = .returned v ∧ NewE EF 33 w w' v l

set_option maxHeartbeats 2000000 in
theorem clone9 (sv : Value) (l : List F9) (w : World) (h : RdE EF w sv l) (hl : l.length ≤ 1000000) :
    Calls Try.prog 38 #[sv] w fun e w' => Copied9 w l e w' := by
  have HH := Lib.hid h
  obtain ⟨A, c, rfl⟩ := h.shape
  have hf := h.fits
  clear h
  cases A with
  | none =>
    obtain ⟨rfl, rfl⟩ := hf.2.2.2 rfl
    clear hf
    simp only [List.length_nil] at HH ⊢
    go_enter Try.func38, Try.ntmps38
    have hrun : ∀ W, Sem.run Try.prog (binOp .eql 28 (.slice none 0 0) (.slice none 0 0)) W = .ok (.bool true) W := fun W => Lib.run_eql_slice_nil W _ _ none 0 0 0 0 Try.underlying28
    go_wp2
    go_ret
    exact ⟨_, rfl, OwE.nil _, (fun k e => by simp [Value.ownBlock] at e), Turn.refl _ w⟩
  | some ad =>
    clear hf
    have HN0 := Lib.hid (NewE.empty (E := EF) (e := 33) w w (Turn.refl _ w))
    have HS := Lib.hid (HH.out.later HN0.out.turn)
    go_enter Try.func38, Try.ntmps38
    have hrun : ∀ W, Sem.run Try.prog (binOp .eql 28 (.slice (some ad) l.length c) (.slice none 0 0)) W = .ok (.bool false) W := fun W => Lib.run_eql_slice_nil W _ _ (some ad) l.length c 0 0 Try.underlying28
    go_wp2_with (at_builtin; refine wpList_facts9 _ rfl _ _ rfl _ [] rfl HN0.out.own _ rfl l HS.out (by simp only [List.length_nil]; omega) ?_; intro A3 n3 c3 w3 ho ht hn; have HN3 := Lib.hid (HN0.out.step ho ht hn); clear ho ht hn)
    go_ret
    exact ⟨_, rfl, HN3.out⟩

/-- slices.SortFunc of a row of one's own, by the program's closure. -/
def Sorted9 (w : World) (v : Value) (l : List F9) (e : Ending) (w' : World) : Prop := e = .returned (.tuple #[]) ∧ OwE EF 33 w' v (sortL l) ∧ Turn (fun k => v.ownBlock = some k) w w'
theorem sortfunc9 (v : Value) (l : List F9) (w : World) (h : OwE EF 33 w v l) (hl : l.length ≤ 1000000) :
    Calls Try.prog 39 #[v, .func (.func 40) #[] #[]] w fun e w' => Sorted9 w v l e w' := by
  by_cases h0 : l = []
  · subst h0
    obtain ⟨A, c, rfl⟩ := h.shape
    have hcon := AnyF.slices_SortFunc_none { Try.sortF9 with } A c (.func (.func 40) #[] #[]) w
    exact hcon.mono fun e w' ⟨he, hw⟩ => ⟨he, by rw [hw]; exact h, by rw [hw]; exact Turn.refl _ w⟩
  · have hpos : 0 < l.length := List.length_pos_iff.2 h0
    obtain ⟨A, c, rfl⟩ := h.shape
    obtain ⟨ad, rfl, _⟩ := h.some_at hpos
    obtain ⟨cur, had, _, hb, _⟩ := h.home
    have hH := h.holdsK
    have eg : ∀ args w, (callFunc 40 args).run Try.prog w = .ok (.enter 40 args) w := enters_of Try.func40 (by kernel_rfl) rfl
    have hlays : CmpLays Try.prog 40 #[] EF.enc EF.sz factCmp ad.block 0 l.toArray.size w := fun m os dk _ x y => closure9 x y _
    have hlt : ltOf factCmp = factLt := factCmp_lt
    have hcon := AnyQ.slices_SortFunc_total Try.sortF9 EF.sz Try.isAgg33 Try.sizeOf33 EF.enc EF.len EF.one factCmp (by rw [hlt]; exact rises_fact.swo) 40 #[] ad.block 0 c l.toArray w eg hlays hH hb.lt (by rw [List.size_toArray]; omega) (by rw [hlt]; exact rises_fact.one)
    rw [hlt, ← had] at hcon
    refine hcon.mono fun e w' ⟨he, n, os, hw⟩ => ?_
    have hperm : (l.toArray.toList.mergeSort fun x y => !factLt y x) = sortL l := sortL_merge l
    rw [hperm] at hw
    have hs := h.sorted (sortL l).toArray (by rw [List.size_toArray]; exact (sortL_is l).1.length_eq) n os
    rw [← hw] at hs
    exact ⟨he, hs.1, hs.2.mono fun k _ hk => by rw [hk]; rfl⟩

set_option maxHeartbeats 2000000 in
theorem sort_any9 (v : Value) (l : List F9) (w : World) (hv : RdE EF w v l) (hl : l.length ≤ 1000) : Calls Try.prog 22 #[v] w fun e w' => Facts9 w (sortL l) e w' := by
  have HC := Lib.hid (clone9 v l w hv (by omega))
  clear hv
  go_enter Try.func22, Try.ntmps22
  go_wp2_with fail
  refine HC.out.mono ?_
  rintro e w1 ⟨v1, rfl, hn⟩
  have HN := Lib.hid hn
  clear hn HC
  go_wp2_with fail
  refine (sortfunc9 v1 l w1 HN.out.own (by omega)).mono ?_
  rintro e w2 ⟨rfl, ho, ht⟩
  have HO := Lib.hid ho
  have HT : Hid (Turn (fun _ => False) w w2) := HN.out.turn.trans ht (fun k hk e => by have := HN.out.new k e; omega)
  clear ho ht
  go_wp2
  go_ret
  exact ⟨_, rfl, HO.out.rd, HT.out⟩

end Go.Proofs.Ytejilonhdgfkbaa

/-
  Stage 9: the document's Hours.
-/
namespace Go.Proofs.Ytejilonhdgfkbaa
open Go.RowKit

set_option maxRecDepth 100000

/-- How many stand below h at the head. -/
def posH (h : Int) : List Int → Nat
  | [] => 0
  | x :: t => if x < h then posH h t + 1 else 0
/-- An hour put where it belongs, once. -/
def insH (h : Int) (l : List Int) : List Int := if l[posH h l]? = some h then l else l.take (posH h l) ++ h :: l.drop (posH h l)
def hoursL (l : List F9) : List Int := l.foldl (fun out f => insH f.k.h out) []
theorem posH_le (h : Int) : ∀ l, posH h l ≤ l.length
  | [] => Nat.le_refl _
  | x :: t => by
    unfold posH
    split
    · have := posH_le h t
      simp only [List.length_cons]
      omega
    · exact Nat.zero_le _
theorem posH_at (h : Int) : ∀ (l : List Int) (i : Nat) (y : Int), l[i]? = some y → i < posH h l → y < h
  | [], i, y, hy, _ => by simp at hy
  | x :: t, i, y, hy, hi => by
    unfold posH at hi
    split at hi
    · rename_i hx
      cases i with
      | zero =>
        have : x = y := by simpa using hy
        omega
      | succ i => exact posH_at h t i y (by simpa using hy) (by omega)
    · omega
theorem posH_end (h : Int) : ∀ (l : List Int) (y : Int), l[posH h l]? = some y → ¬ y < h
  | [], y, hy => by simp [posH] at hy
  | x :: t, y, hy => by
    unfold posH at hy
    split at hy
    · exact posH_end h t y (by simpa using hy)
    · rename_i hx
      have : x = y := by simpa using hy
      omega
theorem insH_len (h : Int) (l : List Int) : (insH h l).length ≤ l.length + 1 := by
  unfold insH
  split
  · omega
  · rw [List.length_append, List.length_cons, List.length_take, List.length_drop]
    have := posH_le h l
    omega
theorem hours_snoc (l : List F9) (f : F9) : hoursL (l ++ [f]) = insH f.k.h (hoursL l) := by
  unfold hoursL
  rw [List.foldl_append]
  rfl
theorem hours_take {l : List F9} {i : Nat} {f : F9} (h : l[i]? = some f) : hoursL (l.take (i + 1)) = insH f.k.h (hoursL (l.take i)) := by
  obtain ⟨h0, e⟩ := List.getElem?_eq_some_iff.1 h
  rw [List.take_succ_eq_append_getElem h0, e, hours_snoc]
theorem hours_len (l : List F9) : ∀ i, (hoursL (l.take i)).length ≤ i
  | 0 => by simp [hoursL]
  | i + 1 => by
    have ih := hours_len l i
    cases h : l[i]? with
    | none => rw [List.take_of_length_le (by have := List.getElem?_eq_none_iff.1 h; omega)]; rw [List.take_of_length_le (by have := List.getElem?_eq_none_iff.1 h; omega)] at ih; omega
    | some f =>
      rw [hours_take h]
      have := insH_len f.k.h (hoursL (l.take i))
      omega

/-- Behind a list laid in new memory. -/
def Listed9 (w : World) (l : List Int) (e : Ending) (w' : World) : Prop := ∃ v, e = .returned v ∧ RdE EN9 w' v l ∧ Turn (fun _ => False) w w'

set_option maxHeartbeats 4000000 in
theorem ref_hours9 (v : Value) (l : List F9) (w : World) (hv : RdE EF w v l) (hl : l.length ≤ 1000) : Calls Try.prog 20 #[v] w fun e w' => Listed9 w (hoursL l) e w' := by
  have HV := Lib.hid hv
  obtain ⟨A, c, rfl⟩ := hv.shape
  clear hv
  have HN0 : Hid (RdE EN9 w (.slice none 0 0) (hoursL (l.take 0)) ∧ Turn (fun _ => False) w w) := ⟨RdE.nil w, Turn.refl _ w⟩
  have hE : ∀ W, (Instr.buildSlice 40 0 #[]).run Try.prog W = .ok (.slice (some ⟨W.heap.size, 0, none⟩) 0 0) (W.alloc (.cells #[] 2)) := fun W => by go_simp
  have hX : ∀ (h : Int) W, (Instr.buildSlice 40 1 #[(0, .int .i64 h)]).run Try.prog W = .ok (.slice (some ⟨W.heap.size, 0, none⟩) 1 1) (W.alloc (.cells (EN9.enc h).toArray 2)) := fun h W => by go_simp; rfl
  have HE := Lib.hid hE
  have HX := Lib.hid hX
  have hz : (Try.prog.info? 2).map (·.size) = some EN9.sz := by kernel_rfl
  have HZ := Lib.hid hz
  clear hE hX hz
  go_enter Try.func20, Try.ntmps20
  go_wp2_with fail
  go_loopw [3, 4] (fun x3 x4 wr => ∃ i : Nat, x4 = .int .i64 (i : Int) ∧ i ≤ l.length ∧ RdE EN9 wr x3 (hoursL (l.take i)) ∧ Turn (fun _ => False) w wr) (fun _ x4 _ => l.length - (intOf x4).toNat)
  case atStart => exact ⟨0, rfl, Nat.zero_le _, HN0.out⟩
  case round =>
    obtain ⟨i, rfl, hi, hm, ht⟩ := hrel
    have HM := Lib.hid hm
    have HT := Lib.hid ht
    have hln := hours_len l i
    by_cases hlt : i < l.length
    · obtain ⟨f, hf⟩ : ∃ f, l[i]? = some f := ⟨_, List.getElem?_eq_getElem hlt⟩
      obtain ⟨ad, rfl, hc⟩ := fact_at HV.out hf
      have e0 := (hc wr ht).1
      have hil : (i : Int) < l.length := by omega
      have HTK := Lib.hid (hours_take hf)
      generalize f.k.h = h at *
      generalize hO : hoursL (l.take i) = O at *
      obtain ⟨B, d, hv⟩ := hm.shape
      subst hv
      have hfit := hm.fits
      have hp1 : Hid (∀ i y, O[i]? = some y → i < posH h O → y < h) := posH_at h O
      have hp2 : Hid (∀ y, O[posH h O]? = some y → ¬ y < h) := posH_end h O
      have hple := posH_le h O
      have HIN : Hid (insH h O = if O[posH h O]? = some h then O else O.take (posH h O) ++ h :: O.drop (posH h O)) := rfl
      generalize hP : posH h O = p at *
      clear hc hf hm ht hO hP
      go_wp2_with fail
      go_loopw [6] (fun x6 wk => wk = wr ∧ ∃ k : Nat, x6 = .int .i64 (k : Int) ∧ k ≤ p) (fun x6 _ => p - (intOf x6).toNat)
      case atStart => exact ⟨rfl, 0, rfl, Nat.zero_le _⟩
      case round =>
        obtain ⟨rfl, k, rfl, hk⟩ := hrel
        by_cases hkp : k < p
        · obtain ⟨y, hy⟩ : ∃ y, O[k]? = some y := ⟨_, List.getElem?_eq_getElem (by omega)⟩
          obtain ⟨bd, rfl, hc⟩ := num_at9 HM.out hy
          have e1 := hc _ (Turn.refl _ _)
          have hyh := hp1.out k y hy hkp
          have hkO : (k : Int) < O.length := by omega
          clear hc hy
          go_wp2_with fail
          go_roundw
          case rel => exact ⟨trivial, k + 1, by go_num, hkp⟩
          case measure => simp [intOf]; omega
        · obtain rfl : k = p := by omega
          have hkc : k ≤ d := by omega
          by_cases hpl : k < O.length
          · obtain ⟨y, hy⟩ : ∃ y, O[k]? = some y := ⟨_, List.getElem?_eq_getElem hpl⟩
            obtain ⟨bd, rfl, hc⟩ := num_at9 HM.out hy
            have e1 := hc _ (Turn.refl _ _)
            have hyh := hp2.out y hy
            have hkO : (k : Int) < O.length := by omega
            have hke : ((k : Int) == (O.length : Int)) = false := by simp; omega
            clear hc
            by_cases hyy : y = h
            · have HR3 : Hid (RdE EN9 wr (.slice (some bd) O.length d) (hoursL (l.take (i + 1))) ∧ Turn (fun _ => False) w wr) := ⟨by rw [HTK.out, HIN.out, if_pos (by rw [hy, hyy])]; exact HM.out, HT.out⟩
              clear hy
              subst hyy
              go_wp2_with fail
              go_roundw
              case rel => exact ⟨i + 1, by go_num, hlt, HR3.out⟩
              case measure => simp [intOf]; omega
            · have HNE : Hid (¬ O[k]? = some h) := by rw [hy]; exact fun e => hyy (Option.some.inj e)
              have hyb : (y == h) = false := by simpa using hyy
              clear hy hyy
              obtain ⟨B, hB⟩ : ∃ B, B = some bd := ⟨_, rfl⟩
              rw [← hB] at HM ⊢
              go_wp2_with fail
              refine drawn_region (fun W => Turn (fun _ => False) wr W) [] (by kernel_rfl) ?_
              have ht0 : Turn (fun _ => False) wr (World.drew wr) := (Turn.refl _ wr).drew
              generalize World.drew wr = wd at *
              have hS0 := ht0
              refine drawn_take 1 46 (.slice B O.length d) rfl rfl (by kernel_rfl) (by kernel_rfl) (by kernel_rfl) (by kernel_rfl) (fun _ _ _ h => h) (by rfl) (by assumption) (by intro w hSw; obtain hS1 := hSw; go_simp) ?_
              try simp only [List.setIfInBounds_toArray, List.set_cons_zero, List.set_cons_succ]
              refine drawn_take 2 47 (.int .i64 (k : Int)) rfl rfl (by kernel_rfl) (by kernel_rfl) (by kernel_rfl) (by kernel_rfl) (fun _ _ _ h => h) (by rfl) (by assumption) (by intro w hSw; obtain hS1 := hSw; go_simp) ?_
              try simp only [List.setIfInBounds_toArray, List.set_cons_zero, List.set_cons_succ]
              refine drawn_take 3 48 (.slice B k d) rfl rfl (by kernel_rfl) (by kernel_rfl) (by kernel_rfl) (by kernel_rfl) (fun _ _ _ h => h) (by rfl) (by assumption) (fun w _ => exec_front (E := EN9) rfl rfl rfl Try.underlying40 HZ.out hkc w) ?_
              try simp only [List.setIfInBounds_toArray, List.set_cons_zero, List.set_cons_succ]
              refine drawn_take 5 50 (.int .i64 h) rfl rfl (by kernel_rfl) (by kernel_rfl) (by kernel_rfl) (by kernel_rfl) (fun _ _ _ h => h) (by rfl) (by assumption) (by intro w hSw; obtain hS1 := hSw; go_simp) ?_
              try simp only [List.setIfInBounds_toArray, List.set_cons_zero, List.set_cons_succ]
              refine drawn_take 8 53 (.slice B O.length d) rfl rfl (by kernel_rfl) (by kernel_rfl) (by kernel_rfl) (by kernel_rfl) (fun _ _ _ h => h) (by rfl) (by assumption) (by intro w hSw; obtain hS1 := hSw; go_simp) ?_
              try simp only [List.setIfInBounds_toArray, List.set_cons_zero, List.set_cons_succ]
              refine drawn_take 9 54 (.int .i64 (k : Int)) rfl rfl (by kernel_rfl) (by kernel_rfl) (by kernel_rfl) (by kernel_rfl) (fun _ _ _ h => h) (by rfl) (by assumption) (by intro w hSw; obtain hS1 := hSw; go_simp) ?_
              try simp only [List.setIfInBounds_toArray, List.set_cons_zero, List.set_cons_succ]
              refine drawn_take 10 55 (tailV EN9 B O.length d k) rfl rfl (by kernel_rfl) (by kernel_rfl) (by kernel_rfl) (by kernel_rfl) (fun _ _ _ h => h) (by rfl) (by assumption) (fun w _ => exec_tail (E := EN9) rfl rfl rfl Try.underlying40 HZ.out hple w) ?_
              try simp only [List.setIfInBounds_toArray, List.set_cons_zero, List.set_cons_succ]
              refine drawn_ins (E := EN9) (l1 := O.take k) (l3 := O.drop k) (x := h) Try.underlying40 num_info9 num_zero9 (by omega) (fun W h => h) 0 4 6 7 11 45 49 51 52 56 48 50 55 rfl rfl rfl rfl rfl rfl rfl rfl rfl rfl rfl rfl rfl rfl rfl rfl rfl rfl rfl rfl
                (by kernel_rfl) (by kernel_rfl) (by kernel_rfl) (by kernel_rfl) (by kernel_rfl) (by kernel_rfl) (by kernel_rfl) (by simp) rfl rfl rfl (fun W ht => (HM.out.later ht).front k hple) (fun W ht => rd_tailV (HM.out.later ht) hple) (by simp; omega) HE.out (HX.out h) hS0 ?_
              intro W v a b c d hn
              try simp only [List.setIfInBounds_toArray, List.set_cons_zero, List.set_cons_succ]
              refine drawn_last1 12 3 v rfl rfl (by kernel_rfl) (by kernel_rfl) (by rfl) (by intro w; go_simp) hn.turn ?_
              try simp only [List.setIfInBounds_toArray, List.set_cons_zero, List.set_cons_succ]
              have HR3 : Hid (RdE EN9 W v (hoursL (l.take (i + 1))) ∧ Turn (fun _ => False) w W) := ⟨by rw [HTK.out, HIN.out, if_neg HNE.out]; exact hn.own.rd, HT.out.trans hn.turn (fun _ _ f => f)⟩
              clear hn hS0 ht0
              go_wp2
              go_roundw
              case rel => exact ⟨i + 1, by go_num, hlt, HR3.out⟩
              case measure => simp [intOf]; omega
          · have hkO : ¬ ((k : Int) < O.length) := by omega
            have HNE : Hid (¬ O[k]? = some h) := by rw [List.getElem?_eq_none (by omega)]; exact fun e => by cases e
            have hkl : (k : Int) = O.length := by omega
            go_wp2_with fail
            refine drawn_region (fun W => Turn (fun _ => False) wr W) [] (by kernel_rfl) ?_
            have ht0 : Turn (fun _ => False) wr (World.drew wr) := (Turn.refl _ wr).drew
            generalize World.drew wr = wd at *
            have hS0 := ht0
            refine drawn_take 1 46 (.slice B O.length d) rfl rfl (by kernel_rfl) (by kernel_rfl) (by kernel_rfl) (by kernel_rfl) (fun _ _ _ h => h) (by rfl) (by assumption) (by intro w hSw; obtain hS1 := hSw; go_simp) ?_
            try simp only [List.setIfInBounds_toArray, List.set_cons_zero, List.set_cons_succ]
            refine drawn_take 2 47 (.int .i64 (k : Int)) rfl rfl (by kernel_rfl) (by kernel_rfl) (by kernel_rfl) (by kernel_rfl) (fun _ _ _ h => h) (by rfl) (by assumption) (by intro w hSw; obtain hS1 := hSw; go_simp) ?_
            try simp only [List.setIfInBounds_toArray, List.set_cons_zero, List.set_cons_succ]
            refine drawn_take 3 48 (.slice B k d) rfl rfl (by kernel_rfl) (by kernel_rfl) (by kernel_rfl) (by kernel_rfl) (fun _ _ _ h => h) (by rfl) (by assumption) (fun w _ => exec_front (E := EN9) rfl rfl rfl Try.underlying40 HZ.out hkc w) ?_
            try simp only [List.setIfInBounds_toArray, List.set_cons_zero, List.set_cons_succ]
            refine drawn_take 5 50 (.int .i64 h) rfl rfl (by kernel_rfl) (by kernel_rfl) (by kernel_rfl) (by kernel_rfl) (fun _ _ _ h => h) (by rfl) (by assumption) (by intro w hSw; obtain hS1 := hSw; go_simp) ?_
            try simp only [List.setIfInBounds_toArray, List.set_cons_zero, List.set_cons_succ]
            refine drawn_take 8 53 (.slice B O.length d) rfl rfl (by kernel_rfl) (by kernel_rfl) (by kernel_rfl) (by kernel_rfl) (fun _ _ _ h => h) (by rfl) (by assumption) (by intro w hSw; obtain hS1 := hSw; go_simp) ?_
            try simp only [List.setIfInBounds_toArray, List.set_cons_zero, List.set_cons_succ]
            refine drawn_take 9 54 (.int .i64 (k : Int)) rfl rfl (by kernel_rfl) (by kernel_rfl) (by kernel_rfl) (by kernel_rfl) (fun _ _ _ h => h) (by rfl) (by assumption) (by intro w hSw; obtain hS1 := hSw; go_simp) ?_
            try simp only [List.setIfInBounds_toArray, List.set_cons_zero, List.set_cons_succ]
            refine drawn_take 10 55 (tailV EN9 B O.length d k) rfl rfl (by kernel_rfl) (by kernel_rfl) (by kernel_rfl) (by kernel_rfl) (fun _ _ _ h => h) (by rfl) (by assumption) (fun w _ => exec_tail (E := EN9) rfl rfl rfl Try.underlying40 HZ.out hple w) ?_
            try simp only [List.setIfInBounds_toArray, List.set_cons_zero, List.set_cons_succ]
            refine drawn_ins (E := EN9) (l1 := O.take k) (l3 := O.drop k) (x := h) Try.underlying40 num_info9 num_zero9 (by omega) (fun W h => h) 0 4 6 7 11 45 49 51 52 56 48 50 55 rfl rfl rfl rfl rfl rfl rfl rfl rfl rfl rfl rfl rfl rfl rfl rfl rfl rfl rfl rfl
              (by kernel_rfl) (by kernel_rfl) (by kernel_rfl) (by kernel_rfl) (by kernel_rfl) (by kernel_rfl) (by kernel_rfl) (by simp) rfl rfl rfl (fun W ht => (HM.out.later ht).front k hple) (fun W ht => rd_tailV (HM.out.later ht) hple) (by simp; omega) HE.out (HX.out h) hS0 ?_
            intro W v a b c d hn
            try simp only [List.setIfInBounds_toArray, List.set_cons_zero, List.set_cons_succ]
            refine drawn_last1 12 3 v rfl rfl (by kernel_rfl) (by kernel_rfl) (by rfl) (by intro w; go_simp) hn.turn ?_
            try simp only [List.setIfInBounds_toArray, List.set_cons_zero, List.set_cons_succ]
            have HR3 : Hid (RdE EN9 W v (hoursL (l.take (i + 1))) ∧ Turn (fun _ => False) w W) := ⟨by rw [HTK.out, HIN.out, if_neg HNE.out]; exact hn.own.rd, HT.out.trans hn.turn (fun _ _ f => f)⟩
            clear hn hS0 ht0
            go_wp2
            go_roundw
            case rel => exact ⟨i + 1, by go_num, hlt, HR3.out⟩
            case measure => simp [intOf]; omega
    · obtain rfl : i = l.length := by omega
      have HM2 := HM.out
      rw [List.take_length] at HM2
      go_wp2
      go_ret
      exact ⟨_, rfl, HM2, HT.out⟩

end Go.Proofs.Ytejilonhdgfkbaa

/-
  Rows of numbers of one cell, sorted and made one of each: from and to the shelf's words; lists that rise. No type is named.
-/
namespace Go.Proofs.Ytejilonhdgfkbaa
open Go.RowKit

/-- Two lists that rise, with the same things, are one. -/
theorem rising_one {A : Type} {lt : A → A → Bool} (h : Rises lt) : ∀ {l m : List A}, (l.Pairwise fun x y => lt x y = true) → (m.Pairwise fun x y => lt x y = true) → (∀ x, x ∈ l ↔ x ∈ m) → l = m
  | [], [], _, _, _ => rfl
  | [], y :: m, _, _, he => by have := (he y).2 (List.mem_cons_self ..); cases this
  | x :: l, [], _, _, he => by have := (he x).1 (List.mem_cons_self ..); cases this
  | x :: l, y :: m, hl, hm, he => by
    rw [List.pairwise_cons] at hl hm
    have hxy : x = y := by
      rcases List.mem_cons.1 ((he x).1 (List.mem_cons_self ..)) with e | e
      · exact e
      · rcases List.mem_cons.1 ((he y).2 (List.mem_cons_self ..)) with e2 | e2
        · exact e2.symm
        · have h1 := h.tr x y x (hl.1 y e2) (hm.1 x e)
          rw [h.irr x] at h1
          cases h1
    subst hxy
    have hlm : l = m := by
      refine rising_one h hl.2 hm.2 fun z => ⟨fun hz => ?_, fun hz => ?_⟩
      · rcases List.mem_cons.1 ((he z).1 (List.mem_cons_of_mem _ hz)) with e | e
        · subst e
          have h1 := hl.1 z hz
          rw [h.irr z] at h1
          cases h1
        · exact e
      · rcases List.mem_cons.1 ((he z).2 (List.mem_cons_of_mem _ hz)) with e | e
        · subst e
          have h1 := hm.1 z hz
          rw [h.irr z] at h1
          cases h1
        · exact e
    rw [hlm]

/-- What slices.Compact leaves of numbers in order: each once, in order. -/
theorem compact_mem (zs : List Int) (x : Int) : x ∈ Lib.compact zs ↔ x ∈ zs := by
  unfold Lib.compact Lib.compactUpTo
  simp only [List.mem_map, List.mem_filter, List.mem_range]
  constructor
  · rintro ⟨i, ⟨hi, _⟩, rfl⟩
    rw [getElem!_pos zs.toArray i (by rw [List.size_toArray]; exact hi)]
    simp
  · intro hx
    obtain ⟨i, hi, e⟩ := List.getElem_of_mem hx
    have key : ∀ i, i < zs.length → zs.toArray[i]! = x → ∃ a, (a < zs.length ∧ Lib.keeps zs.toArray a = true) ∧ zs.toArray[a]! = x := by
      intro i
      induction i with
      | zero => intro hi e; exact ⟨0, ⟨hi, by simp [Lib.keeps]⟩, e⟩
      | succ i ih =>
        intro hi e
        by_cases hk : Lib.keeps zs.toArray (i + 1) = true
        · exact ⟨i + 1, ⟨hi, hk⟩, e⟩
        · have h2 : zs.toArray[i + 1]! = zs.toArray[i]! := by
            simp only [Lib.keeps, decide_eq_true_iff, not_or, Classical.not_not] at hk
            exact hk.2
          exact ih (by omega) (by rw [← h2]; exact e)
    exact key i hi (by rw [getElem!_pos zs.toArray i (by rw [List.size_toArray]; exact hi)]; simpa using e)
theorem compact_rises (zs : List Int) (h : zs.Pairwise fun x y => x ≤ y) : (Lib.compact zs).Pairwise fun x y => decide (x < y) = true := by
  unfold Lib.compact Lib.compactUpTo
  rw [List.pairwise_map]
  have hr : ((List.range zs.length).filter (Lib.keeps zs.toArray)).Pairwise fun a b => a < b := List.pairwise_lt_range.filter _
  refine hr.imp_of_mem fun {a b} ha hb hab => ?_
  rw [List.mem_filter, List.mem_range] at ha hb
  have hs : ∀ i, i < zs.length → ∃ (hi : i < zs.length), zs.toArray[i]! = zs[i] := fun i hi => ⟨hi, by rw [getElem!_pos zs.toArray i (by rw [List.size_toArray]; exact hi)]; simp⟩
  obtain ⟨ha1, ea⟩ := hs a ha.1
  obtain ⟨hb1, eb⟩ := hs b hb.1
  obtain ⟨hc1, ec⟩ := hs (b - 1) (by omega)
  have hk := hb.2
  simp only [Lib.keeps, decide_eq_true_iff] at hk
  have hne : zs.toArray[b]! ≠ zs.toArray[b - 1]! := hk.resolve_left (by omega)
  rw [eb, ec] at hne
  have h1 : zs[b - 1] ≤ zs[b] := List.pairwise_iff_getElem.1 h (b - 1) b hc1 hb1 (by omega)
  have h2 : zs[a] ≤ zs[b - 1] := by
    by_cases e : a = b - 1
    · subst e; exact Int.le_refl _
    · exact List.pairwise_iff_getElem.1 h a (b - 1) ha1 hc1 (by omega)
  rw [ea, eb, decide_eq_true_iff]
  omega
theorem nums_sorted (zs : List Int) : (zs.mergeSort fun x y => decide (x ≤ y)).Pairwise fun x y => x ≤ y := by
  have h := List.pairwise_mergeSort (le := fun x y : Int => decide (x ≤ y)) (by intro a b c h1 h2; simp only [decide_eq_true_iff] at *; omega) (by intro a b; simp only [Bool.or_eq_true, decide_eq_true_iff]; omega) zs
  exact h.imp fun h => by simpa using h

section
variable {E : El Int} {e : TypeId} {w : World} {L : List Int}
theorem flat_map1 {T : Type} {E : El T} {f : T → Value} (he : ∀ x, E.enc x = [f x]) (l : List T) : E.flat l = l.map f := by
  induction l with
  | nil => rfl
  | cons x l ih => rw [El.flat_cons, he, ih]; rfl
/-- The row with other numbers, as many. -/
theorem OwE.row {T : Type} [Inhabited T] {E : El T} {L : List T} {ad : Addr} {n c : Nat} (h : OwE E e w (.slice (some ad) n c) L) {f : T → Value} (he : ∀ x, E.enc x = [f x]) (d : List T) (hd : d.length = L.length) (m : Nat) (os : Array Obj) :
    OwE E e (Sort.grow (Sort.putRow f (Sort.ahead w m) ad.block 0 d.toArray) os) (.slice (some ad) n c) d ∧ Turn (fun k => k = ad.block) w (Sort.grow (Sort.putRow f (Sort.ahead w m) ad.block 0 d.toArray) os) := by
  have h1 := h.sorted d.toArray (by rw [List.size_toArray]; exact hd) m os
  have e1 : sortWorldK E.enc E.sz w ad.block 0 m d.toArray os = Sort.grow (Sort.putRow f (Sort.ahead w m) ad.block 0 d.toArray) os := by
    unfold sortWorldK Sort.putRowK
    congr 1
    unfold Sort.putRow
    refine Sort.mapBlock_congr _ _ _ _ fun cs _ _ _ => ?_
    unfold Sort.putCells
    rw [flatK_eq, flat_map1 he]
    simp only [List.size_toArray, List.length_map]
    congr 1
    funext k x
    split
    · rename_i hk
      have hk2 : k - 0 < d.length := by omega
      rw [getElem!_pos _ (k - 0) (by rw [List.size_toArray, List.length_map]; exact hk2), getElem!_pos _ (k - 0) (by rw [List.size_toArray]; exact hk2)]
      simp
    · rfl
  rw [e1] at h1
  exact h1
theorem OwE.holds1 {T : Type} [Inhabited T] {E : El T} {L : List T} {ad : Addr} {n c : Nat} (h : OwE E e w (.slice (some ad) n c) L) {f : T → Value} (he : ∀ x, E.enc x = [f x]) : Sort.Holds f w ad.block 0 L.toArray := by
  have h1 := h.holdsK
  unfold Sort.HoldsK at h1
  rw [flatK_eq, flat_map1 he] at h1
  intro j hj
  have h2 := h1 j (by rw [List.size_toArray, List.length_map]; rw [List.size_toArray] at hj; exact hj)
  refine ⟨?_, h2.2⟩
  rw [h2.1]
  rw [List.size_toArray] at hj
  rw [getElem!_pos _ j (by rw [List.size_toArray, List.length_map]; exact hj), getElem!_pos _ j (by rw [List.size_toArray]; exact hj)]
  simp
end

end Go.Proofs.Ytejilonhdgfkbaa

/-
  Stage 9: numbers sorted, made one of each (slices.Sort, slices.Compact at int64); the hours of facts so.
-/
namespace Go.Proofs.Ytejilonhdgfkbaa
open Go.RowKit

set_option maxRecDepth 100000

theorem enc_num9 (x : Int) : EN9.enc x = [Value.int .i64 x] := rfl
/-- Behind slices.Sort of a row of one's own. -/
def NumsSorted9 (w : World) (v : Value) (l : List Int) (e : Ending) (w' : World) : Prop := e = .returned (.tuple #[]) ∧ OwE EN9 2 w' v (l.mergeSort fun x y => decide (x ≤ y)) ∧ Turn (fun k => v.ownBlock = some k) w w'
theorem sortnums9 (v : Value) (l : List Int) (w : World) (h : OwE EN9 2 w v l) (hl : l.length ≤ 1000000) :
    Calls Try.prog 36 #[v] w fun e w' => NumsSorted9 w v l e w' := by
  by_cases h0 : l = []
  · subst h0
    obtain ⟨A, c, rfl⟩ := h.shape
    have hcon := AnyM.slices_Sort_int_none Try.sortN9 A c w
    exact hcon.mono fun e w' ⟨he, hw⟩ => ⟨he, by rw [hw, List.mergeSort_nil]; exact h, by rw [hw]; exact Turn.refl _ w⟩
  · have hpos : 0 < l.length := List.length_pos_iff.2 h0
    obtain ⟨A, c, rfl⟩ := h.shape
    obtain ⟨ad, rfl, _⟩ := h.some_at hpos
    obtain ⟨cur, had, _, hb, _⟩ := h.home
    have hcon := AnyM.slices_Sort_int Try.sortN9 ad.block 0 c l w (h.holds1 enc_num9) hb.lt (by omega)
    rw [← had] at hcon
    refine hcon.mono fun e w' ⟨he, n, os, hw⟩ => ?_
    have hs := h.row enc_num9 (l.mergeSort fun x y => decide (x ≤ y)) (List.mergeSort_perm l _).length_eq n os
    rw [← hw] at hs
    exact ⟨he, hs.1, hs.2.mono fun k _ hk => by rw [hk]; rfl⟩
/-- Behind slices.Compact of a row of one's own. -/
def Compacted9 (w : World) (v : Value) (l : List Int) (e : Ending) (w' : World) : Prop := ∃ v', e = .returned v' ∧ OwE EN9 2 w' v' (Lib.compact l) ∧ v'.ownBlock = v.ownBlock ∧ Turn (fun k => v.ownBlock = some k) w w'
theorem compact_len9 (l : List Int) : (Lib.compact l).length ≤ l.length := by
  unfold Lib.compact Lib.compactUpTo
  rw [List.length_map]
  refine Nat.le_trans (List.length_filter_le _ _) ?_
  rw [List.length_range]
  exact Nat.le_refl _
theorem compactnums9 (v : Value) (l : List Int) (w : World) (h : OwE EN9 2 w v l) (hl : l.length ≤ 1000000) :
    Calls Try.prog 37 #[v] w fun e w' => Compacted9 w v l e w' := by
  by_cases h0 : l = []
  · subst h0
    obtain ⟨A, c, rfl⟩ := h.shape
    have hcon := AnyG.slices_Compact_int_empty Try.compactN9 A c w
    exact hcon.mono fun e w' ⟨he, hw⟩ => ⟨_, he, by rw [hw]; exact h, rfl, by rw [hw]; exact Turn.refl _ w⟩
  · have hpos : 0 < l.length := List.length_pos_iff.2 h0
    obtain ⟨A, c, rfl⟩ := h.shape
    obtain ⟨ad, rfl, _⟩ := h.some_at hpos
    obtain ⟨cur, had, _, hb, hcap, _⟩ := h.home
    have hcl := compact_len9 l
    have hcon := AnyG.slices_Compact_int Try.compactN9 ad.block 0 c l w (h.holds1 enc_num9) (by omega) hcap
    rw [← had] at hcon
    refine hcon.mono fun e w' ⟨he, n, hw⟩ => ?_
    have hs := h.row enc_num9 (Lib.compact l ++ List.replicate (l.length - (Lib.compact l).length) 0) (by rw [List.length_append, List.length_replicate]; omega) n #[]
    rw [Sort.grow_empty, ← hw] at hs
    have hc2 := hs.1.cut (m := (Lib.compact l).length) (by rw [List.length_append]; omega)
    rw [List.take_left] at hc2
    exact ⟨_, he, hc2, rfl, hs.2.mono fun k _ hk => by rw [hk]; rfl⟩

/-- The hours of facts, rising, each once. -/
theorem ins_mem (h : Int) (l : List Int) (x : Int) : x ∈ insH h l ↔ x = h ∨ x ∈ l := by
  unfold insH
  split
  · rename_i hp
    exact ⟨fun hx => .inr hx, fun hx => hx.elim (fun e => by rw [e]; exact List.mem_of_getElem? hp) id⟩
  · constructor
    · intro hx
      rcases List.mem_append.1 hx with hx | hx
      · exact .inr (List.mem_of_mem_take hx)
      · rcases List.mem_cons.1 hx with hx | hx
        · exact .inl hx
        · exact .inr (List.mem_of_mem_drop hx)
    · intro hx
      rcases hx with rfl | hx
      · exact List.mem_append_right _ (List.mem_cons_self ..)
      · rw [← List.take_append_drop (posH h l) l] at hx
        rcases List.mem_append.1 hx with hx | hx
        · exact List.mem_append_left _ hx
        · exact List.mem_append_right _ (List.mem_cons_of_mem _ hx)
theorem ins_rises (h : Int) (l : List Int) (hl : l.Pairwise fun x y => decide (x < y) = true) : (insH h l).Pairwise fun x y => decide (x < y) = true := by
  unfold insH
  split
  · exact hl
  · rename_i hp
    have ple := posH_le h l
    have pat := posH_at h l
    have pend := posH_end h l
    generalize posH h l = p at *
    rw [List.pairwise_append, List.pairwise_cons]
    have ha : ∀ y ∈ l.drop p, h < y := fun y hy => by
      obtain ⟨i, hi, e⟩ := List.getElem_of_mem hy
      have hi2 : p + i < l.length := by rw [List.length_drop] at hi; omega
      rw [List.getElem_drop] at e
      have hpl : p < l.length := by omega
      have h1 := pend l[p] (List.getElem?_eq_getElem hpl)
      have h2 : l[p] ≠ h := fun e => hp (by rw [List.getElem?_eq_getElem hpl, e])
      by_cases ei : i = 0
      · subst ei
        rw [← e]
        show h < l[p]
        omega
      · have h4 := List.pairwise_iff_getElem.1 hl p (p + i) hpl hi2 (by omega)
        rw [e, decide_eq_true_iff] at h4
        omega
    have hb : ∀ x ∈ l.take p, x < h := fun x hx => by
      obtain ⟨i, hi, e⟩ := List.getElem_of_mem hx
      have hi2 : i < p := by rw [List.length_take] at hi; omega
      rw [List.getElem_take] at e
      exact pat i x (by rw [List.getElem?_eq_getElem (by omega), e]) hi2
    refine ⟨hl.sublist (List.take_sublist _ _), ⟨fun y hy => decide_eq_true (ha y hy), hl.sublist (List.drop_sublist _ _)⟩, fun x hx y hy => ?_⟩
    rcases List.mem_cons.1 hy with rfl | hy
    · exact decide_eq_true (hb x hx)
    · exact decide_eq_true (by have := hb x hx; have := ha y hy; omega)
theorem hoursL_is (l : List F9) : ((hoursL l).Pairwise fun x y => decide (x < y) = true) ∧ ∀ x, x ∈ hoursL l ↔ x ∈ l.map (·.k.h) := by
  have key : ∀ (m : List F9) (acc : List Int), (acc.Pairwise fun x y => decide (x < y) = true) → ((m.foldl (fun out f => insH f.k.h out) acc).Pairwise fun x y => decide (x < y) = true) ∧ ∀ x, x ∈ m.foldl (fun out f => insH f.k.h out) acc ↔ x ∈ m.map (·.k.h) ∨ x ∈ acc := by
    intro m
    induction m with
    | nil => intro acc h; exact ⟨h, fun x => by simp⟩
    | cons f m ih =>
      intro acc h
      obtain ⟨h1, h2⟩ := ih (insH f.k.h acc) (ins_rises _ _ h)
      refine ⟨h1, fun x => ?_⟩
      rw [List.foldl_cons, h2 x, ins_mem, List.map_cons, List.mem_cons]
      constructor
      · rintro (h | h | h)
        · exact .inl (.inr h)
        · exact .inl (.inl h)
        · exact .inr h
      · rintro ((h | h) | h)
        · exact .inr (.inl h)
        · exact .inl h
        · exact .inr (.inr h)
  obtain ⟨h1, h2⟩ := key l [] List.Pairwise.nil
  exact ⟨h1, fun x => by unfold hoursL; rw [h2 x]; simp⟩
theorem hours_sorted (l : List F9) : Lib.compact ((l.map (·.k.h)).mergeSort fun x y => decide (x ≤ y)) = hoursL l := by
  obtain ⟨h1, h2⟩ := hoursL_is l
  refine rising_one rises_int9 (compact_rises _ (nums_sorted _)) h1 fun x => ?_
  rw [compact_mem, h2 x, (List.mergeSort_perm _ _).mem_iff]

end Go.Proofs.Ytejilonhdgfkbaa

/-
  Stage 9: a row of numbers, made.
-/
namespace Go.Proofs.Ytejilonhdgfkbaa
open Go.RowKit Go.ChangeShapes Go.WideShapes Go.Deep

set_option maxRecDepth 100000

theorem made_nums9 (N : Nat) (hN : N ≤ 1000000) (w : World) : (Instr.makeSlice 40 (.int .i64 (N : Int)) (.int .i64 (N : Int))).run Try.prog w = .ok (.slice (some ⟨w.heap.size, 0, none⟩) N N) (w.alloc (.cells (madeCells (Value.cells (.int .i64 0)) N) 2)) := by
  obtain ⟨i, hi, hz, h1, h2⟩ := info_parts num_info9
  have h := run_make (P := Try.prog) w 40 2 i _ Try.underlying40 hi hz .i64 .i64 (N : Int) (N : Int) (by omega) (by omega) (by rw [h2]; omega) (by omega)
  rw [h1, show ((N : Int)).toNat = N from Int.toNat_natCast N] at h
  rw [show N * EN9.sz = N from Nat.mul_one N] at h
  exact h
theorem own_nums9 (N : Nat) (hN : N ≤ 1000000) (w : World) : OwE EN9 2 (w.alloc (.cells (madeCells (Value.cells (.int .i64 0)) N) 2)) (.slice (some ⟨w.heap.size, 0, none⟩) N N) (List.replicate N 0) := by
  have h := OwE.of_box (E := EN9) (L := List.replicate N (0 : Int)) (c := N) (Box.new w 2 (madeCells (Value.cells (.int .i64 0)) N)) (by rw [List.length_replicate]; exact Nat.le_refl _) (by simp only [maxLen]; omega) (by rw [size_madeCells]; exact (Nat.mul_one N).symm) (by
    rw [List.length_replicate, flat_num9]
    show (madeCells #[Value.int .i64 0] N).toList.take (N * 1) = _
    rw [toList_madeCells_one, Nat.mul_one, List.take_of_length_le (by rw [List.length_replicate]; exact Nat.le_refl _), List.map_replicate])
  rw [List.length_replicate] at h
  exact h

end Go.Proofs.Ytejilonhdgfkbaa
