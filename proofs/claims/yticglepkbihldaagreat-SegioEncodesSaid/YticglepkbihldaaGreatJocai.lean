/-
  Texts laid one behind the other: Zpl Ae Ew Ha Hp Dpa Gb Hbs.
-/
import Derived.Shelf.SortM.Plain
import Derived.Shelf.SortM.SortNone
import Derived.Shelf.SlicesG.CompactS
import Derived.Test.YticglepkbihldaaGreatProg
import Derived.Test.YticglepkbihldaaGreatJocah
import Derived.Test.YticglepkbihldaaGreatJocaa
import Derived.Test.YticglepkbihldaaGreatJocae
import Derived.Test.YticglepkbihldaaGreatJocag
import Derived.BigQuiet
import Derived.Deep.RegionHeld3

/-
  The library's functions that the program calls, at this program's numbers: each laying is a table of numbers, and a theorem: a fact a row.
-/
namespace Go.Proofs.YticglepkbihldaaGreat
open Go.Shelf
def Tryz.sortT12_ren : Go.Shelf.Ren := ⟨fun | 6 => 25 | 8 => 49 | 9 => 48 | 19 => 87 | 20 => 88 | 21 => 78 | 22 => 79 | 23 => 80 | 24 => 81 | 25 => 82 | 26 => 83 | 27 => 84 | 28 => 85 | 29 => 86 | 36 => 110 | 31 => 111 | 32 => 112 | 37 => 113 | 38 => 114 | 39 => 115 | 41 => 131 | n => n, fun | 27 => 31 | 29 => 9 | 3 => 3 | 32 => 92 | 26 => 31 | 0 => 0 | 44 => 132 | 46 => 68 | 4 => 4 | 36 => 125 | 35 => 124 | 41 => 95 | 5 => 5 | 9 => 9 | 53 => 159 | 57 => 162 | 63 => 185 | 64 => 186 | n => n, fun | n => n⟩
theorem Tryz.sortT12 : Go.Proofs.SlLaysM.n6 Tryz.prog Tryz.sortT12_ren := {
  mixed := by kernel_rfl
  f6 := ⟨Tryz.f25.name, by decide, Tryz.func25.trans (congrArg some (by kernel_rfl))⟩
  f8 := Tryz.func49.trans (congrArg some (by kernel_rfl))
  f9 := ⟨Tryz.f48.name, by decide, Tryz.func48.trans (congrArg some (by kernel_rfl))⟩
  f19 := Tryz.func87.trans (congrArg some (by kernel_rfl))
  f20 := Tryz.func88.trans (congrArg some (by kernel_rfl))
  f21 := ⟨Tryz.f78.name, by decide, Tryz.func78.trans (congrArg some (by kernel_rfl))⟩
  f22 := ⟨Tryz.f79.name, by decide, Tryz.func79.trans (congrArg some (by kernel_rfl))⟩
  f23 := ⟨Tryz.f80.name, by decide, Tryz.func80.trans (congrArg some (by kernel_rfl))⟩
  f24 := ⟨Tryz.f81.name, by decide, Tryz.func81.trans (congrArg some (by kernel_rfl))⟩
  f25 := ⟨Tryz.f82.name, by decide, Tryz.func82.trans (congrArg some (by kernel_rfl))⟩
  f26 := ⟨Tryz.f83.name, by decide, Tryz.func83.trans (congrArg some (by kernel_rfl))⟩
  f27 := ⟨Tryz.f84.name, by decide, Tryz.func84.trans (congrArg some (by kernel_rfl))⟩
  f28 := ⟨Tryz.f85.name, by decide, Tryz.func85.trans (congrArg some (by kernel_rfl))⟩
  f29 := ⟨Tryz.f86.name, by decide, Tryz.func86.trans (congrArg some (by kernel_rfl))⟩
  f31 := Tryz.func111.trans (congrArg some (by kernel_rfl))
  f32 := Tryz.func112.trans (congrArg some (by kernel_rfl))
  f36 := ⟨Tryz.f110.name, by decide, Tryz.func110.trans (congrArg some (by kernel_rfl))⟩
  f37 := ⟨Tryz.f113.name, by decide, Tryz.func113.trans (congrArg some (by kernel_rfl))⟩
  f38 := ⟨Tryz.f114.name, by decide, Tryz.func114.trans (congrArg some (by kernel_rfl))⟩
  f39 := ⟨Tryz.f115.name, by decide, Tryz.func115.trans (congrArg some (by kernel_rfl))⟩
  f41 := ⟨Tryz.f131.name, by decide, Tryz.func131.trans (congrArg some (by kernel_rfl))⟩
  t0 := Tryz.underlying0
  a0 := Tryz.isAgg0
  z0 := Tryz.sizeOf0
  v0 := Tryz.zeroValue0
  t3 := Tryz.underlying3
  a3 := Tryz.isAgg3
  z3 := Tryz.sizeOf3
  v3 := Tryz.zeroValue3
  t4 := Tryz.underlying4
  a4 := Tryz.isAgg4
  z4 := Tryz.sizeOf4
  v4 := Tryz.zeroValue4
  t5 := Tryz.underlying5
  a5 := Tryz.isAgg5
  z5 := Tryz.sizeOf5
  v5 := Tryz.zeroValue5
  t9 := Tryz.underlying9
  a9 := Tryz.isAgg9
  z9 := Tryz.sizeOf9
  v9 := Tryz.zeroValue9
  t26 := Tryz.underlying31
  a26 := Tryz.isAgg31
  z26 := Tryz.sizeOf31
  v26 := Tryz.zeroValue31
  t27 := Tryz.underlying31
  a27 := Tryz.isAgg31
  z27 := Tryz.sizeOf31
  v27 := Tryz.zeroValue31
  t29 := Tryz.underlying9
  a29 := Tryz.isAgg9
  z29 := Tryz.sizeOf9
  v29 := Tryz.zeroValue9
  t32 := Tryz.underlying92
  a32 := Tryz.isAgg92
  z32 := Tryz.sizeOf92
  v32 := Tryz.zeroValue92
  t35 := Tryz.underlying124
  a35 := Tryz.isAgg124
  z35 := Tryz.sizeOf124
  v35 := Tryz.zeroValue124
  t36 := Tryz.underlying125
  a36 := Tryz.isAgg125
  z36 := Tryz.sizeOf125
  v36 := Tryz.zeroValue125
  t41 := Tryz.underlying95
  a41 := Tryz.isAgg95
  z41 := Tryz.sizeOf95
  v41 := Tryz.zeroValue95
  t44 := Tryz.underlying132
  a44 := Tryz.isAgg132
  z44 := Tryz.sizeOf132
  v44 := Tryz.zeroValue132
  t46 := Tryz.underlying68
  a46 := Tryz.isAgg68
  z46 := Tryz.sizeOf68
  v46 := Tryz.zeroValue68
  t53 := Tryz.underlying159
  a53 := Tryz.isAgg159
  z53 := Tryz.sizeOf159
  v53 := Tryz.zeroValue159
  t57 := Tryz.underlying162
  a57 := Tryz.isAgg162
  z57 := Tryz.sizeOf162
  v57 := Tryz.zeroValue162
  t63 := Tryz.underlying185
  a63 := Tryz.isAgg185
  z63 := Tryz.sizeOf185
  v63 := Tryz.zeroValue185
  t64 := Tryz.underlying186
  a64 := Tryz.isAgg186
  z64 := Tryz.sizeOf186
  v64 := Tryz.zeroValue186 }
def Tryz.compactT12_ren : Go.Shelf.Ren := ⟨fun | 44 => 26 | n => n, fun | 25 => 31 | 26 => 9 | 3 => 3 | 4 => 4 | 0 => 0 | n => n, fun | n => n⟩
theorem Tryz.compactT12 : Go.Proofs.SlLaysN.n44 Tryz.prog Tryz.compactT12_ren := {
  mixed := by kernel_rfl
  f44 := ⟨Tryz.f26.name, by decide, Tryz.func26.trans (congrArg some (by kernel_rfl))⟩
  t0 := Tryz.underlying0
  a0 := Tryz.isAgg0
  z0 := Tryz.sizeOf0
  v0 := Tryz.zeroValue0
  t3 := Tryz.underlying3
  a3 := Tryz.isAgg3
  z3 := Tryz.sizeOf3
  v3 := Tryz.zeroValue3
  t4 := Tryz.underlying4
  a4 := Tryz.isAgg4
  z4 := Tryz.sizeOf4
  v4 := Tryz.zeroValue4
  t25 := Tryz.underlying31
  a25 := Tryz.isAgg31
  z25 := Tryz.sizeOf31
  v25 := Tryz.zeroValue31
  t26 := Tryz.underlying9
  a26 := Tryz.isAgg9
  z26 := Tryz.sizeOf9
  v26 := Tryz.zeroValue9
  i26 := by kernel_rfl }
end Go.Proofs.YticglepkbihldaaGreat

/-
  Stage 12: texts sorted, made one of each (slices.Sort, slices.Compact at string).
-/
namespace Go.Proofs.YticglepkbihldaaGreat
open Go.RowKit

set_option maxRecDepth 100000

theorem enc_text12 (x : List UInt8) : ET10.enc x = [encStr x] := rfl
/-- What slices.Compact leaves of things in order: each once, in order. -/
theorem compact_in12 {T : Type} [Inhabited T] [DecidableEq T] (zs : List T) (x : T) : x ∈ Lib.compact zs ↔ x ∈ zs := by
  unfold Lib.compact Lib.compactUpTo
  simp only [List.mem_map, List.mem_filter, List.mem_range]
  constructor
  · rintro ⟨i, ⟨hi, _⟩, rfl⟩
    rw [getElem!_pos zs.toArray i (by rw [List.size_toArray]; exact hi)]
    simp
  · intro hx
    obtain ⟨i, hi, e⟩ := List.getElem_of_mem hx
    have key : ∀ i, i < zs.length → zs.toArray[i]! = x → ∃ a, (a < zs.length ∧ Lib.keeps zs.toArray a = true) ∧ zs.toArray[a]! = x := by
      intro i
      induction i with
      | zero => intro hi e; exact ⟨0, ⟨hi, by simp [Lib.keeps]⟩, e⟩
      | succ i ih =>
        intro hi e
        by_cases hk : Lib.keeps zs.toArray (i + 1) = true
        · exact ⟨i + 1, ⟨hi, hk⟩, e⟩
        · have h2 : zs.toArray[i + 1]! = zs.toArray[i]! := by
            simp only [Lib.keeps, decide_eq_true_iff, not_or, Classical.not_not] at hk
            exact hk.2
          exact ih (by omega) (by rw [← h2]; exact e)
    exact key i hi (by rw [getElem!_pos zs.toArray i (by rw [List.size_toArray]; exact hi)]; simpa using e)
theorem compact_up12 {T : Type} [Inhabited T] [DecidableEq T] {lt : T → T → Bool} (hlt : Rises lt) (zs : List T) (h : zs.Pairwise fun x y => lt y x = false) : (Lib.compact zs).Pairwise fun x y => lt x y = true := by
  unfold Lib.compact Lib.compactUpTo
  rw [List.pairwise_map]
  have hr : ((List.range zs.length).filter (Lib.keeps zs.toArray)).Pairwise fun a b => a < b := List.pairwise_lt_range.filter _
  refine hr.imp_of_mem fun {a b} ha hb hab => ?_
  rw [List.mem_filter, List.mem_range] at ha hb
  have hs : ∀ i, i < zs.length → ∃ (hi : i < zs.length), zs.toArray[i]! = zs[i] := fun i hi => ⟨hi, by rw [getElem!_pos zs.toArray i (by rw [List.size_toArray]; exact hi)]; simp⟩
  obtain ⟨ha1, ea⟩ := hs a ha.1
  obtain ⟨hb1, eb⟩ := hs b hb.1
  obtain ⟨hc1, ec⟩ := hs (b - 1) (by omega)
  have hk := hb.2
  simp only [Lib.keeps, decide_eq_true_iff] at hk
  have hne : zs.toArray[b]! ≠ zs.toArray[b - 1]! := hk.resolve_left (by omega)
  rw [eb, ec] at hne
  have h1 : lt zs[b] zs[b - 1] = false := List.pairwise_iff_getElem.1 h (b - 1) b hc1 hb1 (by omega)
  have h3 : lt zs[b - 1] zs[b] = true := hlt.tot _ _ hne h1
  rw [ea, eb]
  by_cases e : a = b - 1
  · subst e; exact h3
  · have h2 : lt zs[b - 1] zs[a] = false := List.pairwise_iff_getElem.1 h a (b - 1) ha1 hc1 (by omega)
    by_cases e2 : zs[a] = zs[b - 1]
    · rw [e2]; exact h3
    · exact hlt.tr _ _ _ (hlt.tot _ _ (fun e3 => e2 e3.symm) h2) h3
theorem compact_len12 {T : Type} [Inhabited T] [DecidableEq T] (l : List T) : (Lib.compact l).length ≤ l.length := by
  unfold Lib.compact Lib.compactUpTo
  rw [List.length_map]
  refine Nat.le_trans (List.length_filter_le _ _) ?_
  rw [List.length_range]
  exact Nat.le_refl _
theorem sort_up12 (l : List (List UInt8)) : (l.mergeSort fun x y => decide (x ≤ y)).Pairwise fun x y => Op.bytesLess y x = false := by
  have h := List.pairwise_mergeSort (le := fun x y : List UInt8 => decide (x ≤ y)) (by intro a b c h1 h2; simp only [decide_eq_true_iff] at *; exact List.le_trans h1 h2) (by intro a b; simp only [Bool.or_eq_true, decide_eq_true_iff]; exact List.le_total a b) l
  refine h.imp fun {x y} hxy => ?_
  rw [bytesLess_eq, decide_eq_false_iff_not]
  exact of_decide_eq_true hxy
/-- Sorted, and each once: the texts of the list. -/
theorem sort_set12 (l : List (List UInt8)) : Lib.compact (l.mergeSort fun x y => decide (x ≤ y)) = ofT l := by
  obtain ⟨h1, h2⟩ := setG_is Op.bytesLess rises_bytes l
  refine rising_one rises_bytes (compact_up12 rises_bytes _ (sort_up12 l)) h1 fun x => ?_
  rw [compact_in12, (List.mergeSort_perm _ _).mem_iff]
  exact (h2 x).symm

/-- Texts in a row of texts. -/
structure TxR12 (w : World) (v : Value) (T : List (List UInt8)) : Prop where
  rd : RdE ET10 w v T
  typ : ∀ k, v.ownBlock = some k → ∃ cs, Box w k 9 cs
theorem TxR12.nil (w : World) : TxR12 w (.slice none 0 0) [] := ⟨RdE.nil _, fun k h => by cases h⟩
theorem TxR12.own {w : World} {v : Value} {T : List (List UInt8)} (h : OwE ET10 9 w v T) : TxR12 w v T := ⟨h.rd, fun k hk => by
  rcases h.form with ⟨e1, _⟩ | ⟨g', cap, cur, e1, hb', _⟩
  · rw [e1] at hk; cases hk
  · rw [e1] at hk
    simp only [Value.ownBlock, Option.some.injEq] at hk
    subst hk
    exact ⟨_, hb'⟩⟩
theorem TxR12.kept {w w' : World} {v : Value} {T : List (List UInt8)} {S : Nat → Prop} (h : TxR12 w v T) (ht : Turn S w w') (hS : ∀ k cs, S k → ¬ Box w k 9 cs) : TxR12 w' v T :=
  ⟨h.rd.turn ht fun k hk e => by
    obtain ⟨cs, hc⟩ := h.typ k hk
    exact hS k cs e hc, fun k hk => (h.typ k hk).imp fun cs hc => hc.turn ht (fun e => hS k cs e hc)⟩
theorem TxR12.later {w w' : World} {v : Value} {T : List (List UInt8)} (h : TxR12 w v T) (ht : Turn (fun _ => False) w w') : TxR12 w' v T := h.kept ht fun _ _ f => f.elim

/-- Behind slices.Sort of a row of one's own. -/
def TextsSorted12 (w : World) (v : Value) (l : List (List UInt8)) (e : Ending) (w' : World) : Prop := e = .returned (.tuple #[]) ∧ OwE ET10 9 w' v (l.mergeSort fun x y => decide (x ≤ y)) ∧ Turn (fun k => v.ownBlock = some k) w w'
theorem sorttexts12 (v : Value) (l : List (List UInt8)) (w : World) (h : OwE ET10 9 w v l) (hl : l.length ≤ 1000000) :
    Calls Tryz.prog 25 #[v] w fun e w' => TextsSorted12 w v l e w' := by
  by_cases h0 : l = []
  · subst h0
    obtain ⟨A, c, rfl⟩ := h.shape
    have hcon := AnyM.slices_Sort_string_none Tryz.sortT12 A c w
    exact hcon.mono fun e w' ⟨he, hw⟩ => ⟨he, by rw [hw, List.mergeSort_nil]; exact h, by rw [hw]; exact Turn.refl _ w⟩
  · have hpos : 0 < l.length := List.length_pos_iff.2 h0
    obtain ⟨A, c, rfl⟩ := h.shape
    obtain ⟨ad, rfl, _⟩ := h.some_at hpos
    obtain ⟨cur, had, _, hb, _⟩ := h.home
    have hcon := AnyM.slices_Sort_string Tryz.sortT12 ad.block 0 c l w (h.holds1 enc_text12) hb.lt (by omega)
    rw [← had] at hcon
    refine hcon.mono fun e w' ⟨he, n, os, hw⟩ => ?_
    have hs := h.row enc_text12 (l.mergeSort fun x y => decide (x ≤ y)) (List.mergeSort_perm l _).length_eq n os
    rw [← hw] at hs
    exact ⟨he, hs.1, hs.2.mono fun k _ hk => by rw [hk]; rfl⟩
/-- Behind slices.Compact of a row of one's own. -/
def TextsOnce12 (w : World) (v : Value) (l : List (List UInt8)) (e : Ending) (w' : World) : Prop := ∃ v', e = .returned v' ∧ OwE ET10 9 w' v' (Lib.compact l) ∧ v'.ownBlock = v.ownBlock ∧ Turn (fun k => v.ownBlock = some k) w w'
theorem compacttexts12 (v : Value) (l : List (List UInt8)) (w : World) (h : OwE ET10 9 w v l) (hl : l.length ≤ 1000000) :
    Calls Tryz.prog 26 #[v] w fun e w' => TextsOnce12 w v l e w' := by
  by_cases h0 : l = []
  · subst h0
    obtain ⟨A, c, rfl⟩ := h.shape
    have hcon := AnyG.slices_Compact_string_empty Tryz.compactT12 A c w
    exact hcon.mono fun e w' ⟨he, hw⟩ => ⟨_, he, by rw [hw]; exact h, rfl, by rw [hw]; exact Turn.refl _ w⟩
  · have hpos : 0 < l.length := List.length_pos_iff.2 h0
    obtain ⟨A, c, rfl⟩ := h.shape
    obtain ⟨ad, rfl, _⟩ := h.some_at hpos
    obtain ⟨cur, had, _, hb, hcap, _⟩ := h.home
    have hcl := compact_len12 l
    have hcon := AnyG.slices_Compact_string Tryz.compactT12 ad.block 0 c l w (h.holds1 enc_text12) (by omega) hcap
    rw [← had] at hcon
    refine hcon.mono fun e w' ⟨he, n, hw⟩ => ?_
    have hs := h.row enc_text12 (Lib.compact l ++ List.replicate (l.length - (Lib.compact l).length) []) (by rw [List.length_append, List.length_replicate]; omega) n #[]
    rw [Sort.grow_empty, ← hw] at hs
    have hc2 := hs.1.cut (m := (Lib.compact l).length) (by rw [List.length_append]; omega)
    rw [List.take_left] at hc2
    exact ⟨_, he, hc2, rfl, hs.2.mono fun k _ hk => by rw [hk]; rfl⟩

end Go.Proofs.YticglepkbihldaaGreat

/-
  A writer of pack (the program's) that is new since a world: one contract a call. For every stage whose code puts bytes so.
-/
namespace Go.Proofs.YticglepkbihldaaGreat
open Go.RowKit

/-- A writer at p, new since w, that has bytes l. -/
def Wt (w : World) (p : Nat) (wr : World) (l : List UInt8) : Prop := w.heap.size ≤ p ∧ ∃ u, Wr wr p u l ∧ (∀ k, u.ownBlock = some k → w.heap.size ≤ k) ∧ Turn (fun _ => False) w wr
section
variable {w wr w' : World} {p : Nat} {l l' : List UInt8}
theorem Wt.turn (h : Wt w p wr l) : Turn (fun _ => False) w wr := by
  obtain ⟨_, u, _, _, h⟩ := h
  exact h
theorem Wt.later (h : Wt w p wr l) (ht : Turn (fun _ => False) wr w') : Wt w p w' l := by
  obtain ⟨h0, u, ⟨h1, h2⟩, h3, h4⟩ := h
  exact ⟨h0, u, ⟨h1.turn ht (fun f => f), h2.turn ht (fun _ _ f => f)⟩, h3, h4.trans ht (fun _ _ f => f)⟩
theorem Wt.put {u u' : Value} (h0 : w.heap.size ≤ p) (h3 : ∀ k, u.ownBlock = some k → w.heap.size ≤ k) (h4 : Turn (fun _ => False) w wr) (hp : Put wr p u w' u' l') : Wt w p w' l' := by
  obtain ⟨g1, g2, g3⟩ := hp
  refine ⟨h0, u', g1, fun k hk => ?_, h4.trans g2 (fun k hk e => ?_)⟩
  · rcases g3 with e | e
    · exact h3 k (by rw [← e]; exact hk)
    · exact Nat.le_trans h4.size (e k hk)
  · rcases e with e | e
    · omega
    · have := h3 k e; omega
/-- Boxes of other types than a writer's, and a byte's rows, are as they were. -/
def KeepB (w w' : World) : Prop := ∀ g t cs, t ≠ 62 → t ≠ 5 → Box w g t cs → Box w' g t cs
theorem KeepB.of {u u' : Value} (hw : Wr wr p u l) (hp : Put wr p u w' u' l') : KeepB wr w' := by
  intro g t cs h1 h2 hb
  refine hb.turn hp.2.1 (fun e => ?_)
  rcases e with e | e
  · subst e
    have e2 := hw.1.symm.trans hb
    injection e2 with e2
    injection e2 with _ e3
    exact h1 e3.symm
  · exact hw.2.ne_box hb (fun e => h2 e.symm) e
theorem KeepB.trans {a b c : World} (h : KeepB a b) (g : KeepB b c) : KeepB a c := fun k t cs h1 h2 hb => g k t cs h1 h2 (h k t cs h1 h2 hb)
theorem KeepB.refl (w : World) : KeepB w w := fun _ _ _ _ _ h => h
/-- A writer that was just laid. -/
theorem Wt.new (w : World) (hw : Turn (fun _ => False) w wr) : Wt w wr.heap.size (wr.alloc (.cells #[.slice none 0 0] 62)) [] :=
  ⟨hw.size, _, ⟨Box.new wr _ _, By.nil _⟩, (fun k e => by simp [Value.ownBlock] at e), hw.alloc _⟩
theorem wt_num (h : Wt w p wr l) (n : Nat) (hn : Hid (n < 18446744073709551616)) (hl : l.length ≤ 1000000) :
    Calls Tryz.prog 28 #[.pointer (some ⟨p, 0, none⟩), .int .u64 n] wr fun e w' => e = .returned (.pointer (some ⟨p, 0, none⟩)) ∧ Wt w p w' (l ++ enc n) ∧ KeepB wr w' := by
  obtain ⟨h0, u, h1, h3, h4⟩ := h
  exact (num_put p u l n wr h1 hn hl).mono fun e w' ⟨he, v', hp⟩ => ⟨he, Wt.put h0 h3 h4 hp, KeepB.of h1 hp⟩
theorem wt_int (h : Wt w p wr l) (n : Int) (g1 : Hid (-9223372036854775808 ≤ n)) (g2 : Hid (n ≤ 9223372036854775807)) (hl : l.length ≤ 1000000) :
    Calls Tryz.prog 53 #[.pointer (some ⟨p, 0, none⟩), .int .i64 n] wr fun e w' => e = .returned (.pointer (some ⟨p, 0, none⟩)) ∧ Wt w p w' (l ++ enc (zig n)) ∧ KeepB wr w' := by
  obtain ⟨h0, u, h1, h3, h4⟩ := h
  exact (int_put p u l n wr h1 g1 g2 hl).mono fun e w' ⟨he, v', hp⟩ => ⟨he, Wt.put h0 h3 h4 hp, KeepB.of h1 hp⟩
theorem wt_text (h : Wt w p wr l) (t : List UInt8) (ht : t.length ≤ 900000) (hl : l.length ≤ 900000) :
    Calls Tryz.prog 50 #[.pointer (some ⟨p, 0, none⟩), .string ⟨t.toArray⟩] wr fun e w' => e = .returned (.pointer (some ⟨p, 0, none⟩)) ∧ Wt w p w' (l ++ (enc t.length ++ t)) ∧ KeepB wr w' := by
  obtain ⟨h0, u, h1, h3, h4⟩ := h
  exact (text_put p u l ⟨t.toArray⟩ wr h1 (by show t.toArray.size ≤ _; simpa using ht) hl).mono fun e w' ⟨he, v', hp⟩ => ⟨he, Wt.put h0 h3 h4 hp, KeepB.of h1 hp⟩
theorem wt_bytes (h : Wt w p wr l) (hl : l.length ≤ 1000000) :
    Calls Tryz.prog 33 #[.pointer (some ⟨p, 0, none⟩)] wr fun e w' => ∃ v', e = .returned v' ∧ Made w w' v' l := by
  obtain ⟨h0, u, h1, h3, h4⟩ := h
  exact (bytes_any p u l wr h1 hl).mono fun e w' ⟨v', he, hb, ht, hk⟩ => ⟨v', he, hb, h4.trans ht (fun _ _ f => f), fun k e => Nat.le_trans h4.size (hk k e)⟩
end

end Go.Proofs.YticglepkbihldaaGreat

/-
  Lists of pairs whose keys rise, plain, in two parts about a key: what is put, dropped, the floor; trees, plain, and in memory.
-/
namespace Go.Proofs.YticglepkbihldaaGreat
open Go.RowKit
set_option linter.unusedSectionVars false

section
variable {K V : Type} [DecidableEq K] {lt : K → K → Bool}
theorem plc_cons (p : K × V) (l : List (K × V)) (k : K) : plc lt (p :: l) k = if lt p.1 k then plc lt l k + 1 else 0 := rfl
theorem hasK_nil (k : K) : hasK lt ([] : List (K × V)) k = false := rfl
theorem hasK_cons (p : K × V) (l : List (K × V)) (k : K) : hasK lt (p :: l) k = if lt p.1 k then hasK lt l k else decide (p.1 = k) := by
  unfold hasK
  rw [plc_cons]
  by_cases h : lt p.1 k = true
  · simp only [h, if_true, List.getElem?_cons_succ]
  · simp only [h, if_false, List.getElem?_cons_zero, Bool.false_eq_true]
theorem getK_cons (p : K × V) (l : List (K × V)) (k : K) : getK lt (p :: l) k = if lt p.1 k then getK lt l k else if p.1 = k then some p.2 else none := by
  unfold getK
  rw [plc_cons]
  by_cases h : lt p.1 k = true
  · simp only [h, if_true, List.getElem?_cons_succ]
  · simp only [h, if_false, List.getElem?_cons_zero, Bool.false_eq_true]
theorem upK_cons (p : K × V) (l : List (K × V)) (k : K) : upK lt (p :: l) k = if lt p.1 k then upK lt l k + 1 else if p.1 = k then 1 else 0 := by
  unfold upK
  rw [plc_cons, hasK_cons]
  by_cases h : lt p.1 k = true
  · rw [if_pos h, if_pos h, if_pos h]
    split <;> rfl
  · rw [if_neg h, if_neg h, if_neg h]
    by_cases e : p.1 = k
    · rw [if_pos e, decide_eq_true e]; rfl
    · rw [if_neg e, decide_eq_false e]; rfl
theorem putK_nil (k : K) (v : V) : putK lt [] k v = [(k, v)] := rfl
theorem putK_cons (p : K × V) (l : List (K × V)) (k : K) (v : V) : putK lt (p :: l) k v = if lt p.1 k then p :: putK lt l k v else if p.1 = k then (k, v) :: l else (k, v) :: p :: l := by
  unfold putK
  rw [plc_cons, upK_cons]
  by_cases h : lt p.1 k = true
  · rw [if_pos h, if_pos h, if_pos h]; rfl
  · rw [if_neg h, if_neg h, if_neg h]
    by_cases e : p.1 = k
    · rw [if_pos e, if_pos e]; rfl
    · rw [if_neg e, if_neg e]; rfl
theorem dropK_nil (k : K) : dropK lt ([] : List (K × V)) k = [] := rfl
theorem dropK_cons (p : K × V) (l : List (K × V)) (k : K) : dropK lt (p :: l) k = if lt p.1 k then p :: dropK lt l k else if p.1 = k then l else p :: l := by
  unfold dropK
  rw [plc_cons, upK_cons]
  by_cases h : lt p.1 k = true
  · rw [if_pos h, if_pos h, if_pos h]; rfl
  · rw [if_neg h, if_neg h, if_neg h]
    by_cases e : p.1 = k
    · rw [if_pos e, if_pos e]; rfl
    · rw [if_neg e, if_neg e]; rfl
theorem floorK_nil (k : K) : floorK lt ([] : List (K × V)) k = none := rfl
theorem floorK_cons (p : K × V) (l : List (K × V)) (k : K) : floorK lt (p :: l) k = if lt p.1 k then some ((floorK lt l k).getD p) else if p.1 = k then some p else none := by
  unfold floorK
  rw [upK_cons]
  by_cases h : lt p.1 k = true
  · rw [if_pos h, if_pos h, if_neg (by omega), Nat.add_sub_cancel]
    by_cases e : upK lt l k = 0
    · rw [if_pos e, e]; rfl
    · rw [if_neg e]
      have hl := upK_le (lt := lt) l k
      obtain ⟨n, hn⟩ : ∃ n, upK lt l k = n + 1 := ⟨upK lt l k - 1, by omega⟩
      rw [hn, List.getElem?_cons_succ, Nat.add_sub_cancel, List.getElem?_eq_getElem (by omega)]
      rfl
  · rw [if_neg h, if_neg h]
    by_cases e : p.1 = k
    · rw [if_pos e, if_pos e]; rfl
    · rw [if_neg e, if_neg e]; rfl

/-- All keys of l are below k. -/
def Below' (lt : K → K → Bool) (l : List (K × V)) (k : K) : Prop := ∀ p ∈ l, lt p.1 k = true
theorem up_parts {L R : List (K × V)} {p : K × V} (h : Up lt (L ++ p :: R)) : Up lt L ∧ Up lt R ∧ Below' lt L p.1 := by
  obtain ⟨h1, h2, h3⟩ := up_append.1 h
  obtain ⟨_, h5⟩ := up_cons.1 h2
  refine ⟨h1, h5, fun q hq => ?_⟩
  obtain ⟨i, hi, e⟩ := List.mem_iff_getElem.1 hq
  exact h3 i 0 q p (by rw [List.getElem?_eq_getElem hi, e]) rfl
theorem Below'.tr (hr : Rises lt) {l : List (K × V)} {a b : K} (h : Below' lt l a) (hab : lt a b = true) : Below' lt l b := fun p hp => hr.tr _ _ _ (h p hp) hab
theorem not_lt_of (hr : Rises lt) {a b : K} (h : lt a b = true) : lt b a = false := by
  cases h2 : lt b a with
  | false => rfl
  | true => have := hr.tr _ _ _ h h2; rw [hr.irr] at this; cases this
theorem ne_of_lt (hr : Rises lt) {a b : K} (h : lt a b = true) : b ≠ a := fun e => by rw [e, hr.irr] at h; cases h
theorem put_left (hr : Rises lt) {p : K × V} {k : K} (h : lt k p.1 = true) (v : V) (R : List (K × V)) : ∀ L : List (K × V), putK lt (L ++ p :: R) k v = putK lt L k v ++ p :: R
  | [] => by rw [List.nil_append, putK_cons, if_neg (by rw [not_lt_of hr h]; simp), if_neg (ne_of_lt hr h)]; rfl
  | q :: L => by
    rw [List.cons_append, putK_cons, putK_cons, put_left hr h v R L]
    split
    · rfl
    · split <;> rfl
theorem put_right {p : K × V} {k : K} (h : lt p.1 k = true) (v : V) (R : List (K × V)) : ∀ L : List (K × V), Below' lt L k → putK lt (L ++ p :: R) k v = L ++ p :: putK lt R k v
  | [], _ => by rw [List.nil_append, putK_cons, if_pos h]; rfl
  | q :: L, hb => by
    rw [List.cons_append, putK_cons, if_pos (hb q (by simp)), put_right h v R L (fun x hx => hb x (by simp [hx]))]
    rfl
theorem put_same (hr : Rises lt) {p : K × V} (v : V) (R : List (K × V)) : ∀ L : List (K × V), Below' lt L p.1 → putK lt (L ++ p :: R) p.1 v = L ++ (p.1, v) :: R
  | [], _ => by rw [List.nil_append, putK_cons, if_neg (by rw [hr.irr]; simp), if_pos rfl]; rfl
  | q :: L, hb => by
    rw [List.cons_append, putK_cons, if_pos (hb q (by simp)), put_same hr v R L (fun x hx => hb x (by simp [hx]))]
    rfl
theorem drop_left (hr : Rises lt) {p : K × V} {k : K} (h : lt k p.1 = true) (R : List (K × V)) : ∀ L : List (K × V), dropK lt (L ++ p :: R) k = dropK lt L k ++ p :: R
  | [] => by rw [List.nil_append, dropK_cons, if_neg (by rw [not_lt_of hr h]; simp), if_neg (ne_of_lt hr h)]; rfl
  | q :: L => by
    rw [List.cons_append, dropK_cons, dropK_cons, drop_left hr h R L]
    split
    · rfl
    · split <;> rfl
theorem drop_right {p : K × V} {k : K} (h : lt p.1 k = true) (R : List (K × V)) : ∀ L : List (K × V), Below' lt L k → dropK lt (L ++ p :: R) k = L ++ p :: dropK lt R k
  | [], _ => by rw [List.nil_append, dropK_cons, if_pos h]; rfl
  | q :: L, hb => by
    rw [List.cons_append, dropK_cons, if_pos (hb q (by simp)), drop_right h R L (fun x hx => hb x (by simp [hx]))]
    rfl
theorem drop_same (hr : Rises lt) {p : K × V} (R : List (K × V)) : ∀ L : List (K × V), Below' lt L p.1 → dropK lt (L ++ p :: R) p.1 = L ++ R
  | [], _ => by rw [List.nil_append, dropK_cons, if_neg (by rw [hr.irr]; simp), if_pos rfl]; rfl
  | q :: L, hb => by
    rw [List.cons_append, dropK_cons, if_pos (hb q (by simp)), drop_same hr R L (fun x hx => hb x (by simp [hx]))]
    rfl
theorem drop_first (hr : Rises lt) (p : K × V) (R : List (K × V)) : dropK lt (p :: R) p.1 = R := drop_same hr R [] (fun _ h => by cases h)
/-- What a search finds: in the part l, else what was found ahead. -/
def Fl (lt : K → K → Bool) (l : List (K × V)) (k : K) (f : Option (K × V)) : Option (K × V) := match floorK lt l k with
  | some p => some p
  | none => f
theorem fl_above (hr : Rises lt) {p : K × V} {k : K} (h : lt k p.1 = true) (R : List (K × V)) : ∀ L : List (K × V), floorK lt (L ++ p :: R) k = floorK lt L k
  | [] => by rw [List.nil_append, floorK_cons, if_neg (by rw [not_lt_of hr h]; simp), if_neg (ne_of_lt hr h)]; rfl
  | q :: L => by
    rw [List.cons_append, floorK_cons, floorK_cons, fl_above hr h R L]
theorem fl_below (hr : Rises lt) {p : K × V} {k : K} (h : lt k p.1 = false) (R : List (K × V)) (hu : ∀ q ∈ R, lt p.1 q.1 = true) : ∀ L : List (K × V), Below' lt L p.1 → floorK lt (L ++ p :: R) k = some ((floorK lt R k).getD p)
  | [], _ => by
    rw [List.nil_append, floorK_cons]
    by_cases e : p.1 = k
    · rw [if_neg (by rw [e, hr.irr]; simp), if_pos e]
      cases R with
      | nil => rfl
      | cons q R =>
        have h2 := hu q (by simp)
        rw [e] at h2
        rw [floorK_cons, if_neg (by rw [not_lt_of hr h2]; simp), if_neg (ne_of_lt hr h2)]
        rfl
    · rw [if_pos (hr.tot _ _ (fun e2 => e e2.symm) h)]
  | q :: L, hb => by
    have h1 : lt q.1 k = true := by
      have h2 := hb q (by simp)
      by_cases e : p.1 = k
      · rw [← e]; exact h2
      · exact hr.tr _ _ _ h2 (hr.tot _ _ (fun e2 => e e2.symm) h)
    rw [List.cons_append, floorK_cons, if_pos h1, fl_below hr h R hu L (fun x hx => hb x (by simp [hx]))]
    rfl
theorem get_floor (hr : Rises lt) : ∀ {l : List (K × V)} (_ : Up lt l) (k : K), getK lt l k = match floorK lt l k with
    | some p => if lt p.1 k then none else some p.2
    | none => none
  | [], _, _ => rfl
  | p :: l, hu, k => by
    have ih := get_floor hr (up_cons.1 hu).2 k
    rw [getK_cons, floorK_cons, ih]
    by_cases h : lt p.1 k = true
    · rw [if_pos h, if_pos h]
      cases hf : floorK lt l k with
      | none => simp [h]
      | some q => rfl
    · rw [if_neg h, if_neg h]
      by_cases e : p.1 = k
      · rw [if_pos e, if_pos e]; simp [e, hr.irr]
      · rw [if_neg e, if_neg e]
theorem has_get (l : List (K × V)) (k : K) : hasK lt l k = (getK lt l k).isSome := by
  induction l with
  | nil => rfl
  | cons p l ih =>
    rw [hasK_cons, getK_cons, ih]
    split
    · rfl
    · by_cases e : p.1 = k
      · rw [if_pos e, decide_eq_true e]; rfl
      · rw [if_neg e, decide_eq_false e]; rfl
theorem put_size (l : List (K × V)) (k : K) (v : V) : (putK lt l k v).length = l.length + if hasK lt l k then 0 else 1 := by
  induction l with
  | nil => rfl
  | cons p l ih =>
    rw [putK_cons, hasK_cons]
    by_cases h : lt p.1 k = true
    · rw [if_pos h, if_pos h, List.length_cons, ih, List.length_cons]; omega
    · rw [if_neg h, if_neg h]
      by_cases e : p.1 = k
      · rw [if_pos e, decide_eq_true e]; rfl
      · rw [if_neg e, decide_eq_false e]; rfl
theorem drop_size (l : List (K × V)) (k : K) : (dropK lt l k).length + (if hasK lt l k then 1 else 0) = l.length := by
  induction l with
  | nil => rfl
  | cons p l ih =>
    rw [dropK_cons, hasK_cons]
    by_cases h : lt p.1 k = true
    · rw [if_pos h, if_pos h, List.length_cons, List.length_cons, ← ih]; omega
    · rw [if_neg h, if_neg h]
      by_cases e : p.1 = k
      · rw [if_pos e, decide_eq_true e]; rfl
      · rw [if_neg e, decide_eq_false e]; rfl
end

/-- A tree. -/
inductive Tr (K V : Type) where
  | nil : Tr K V
  | node (l : Tr K V) (k : K) (v : V) (r : Tr K V) : Tr K V
section
variable {K V : Type}
def Tr.flat : Tr K V → List (K × V)
  | .nil => []
  | .node l k v r => l.flat ++ (k, v) :: r.flat
def Tr.cnt : Tr K V → Nat
  | .nil => 0
  | .node l _ _ r => l.cnt + r.cnt + 1
theorem Tr.cnt_flat : ∀ t : Tr K V, t.flat.length = t.cnt
  | .nil => rfl
  | .node l k v r => by
    show (l.flat ++ (k, v) :: r.flat).length = l.cnt + r.cnt + 1
    rw [List.length_append, List.length_cons, l.cnt_flat, r.cnt_flat]
    omega
/-- The tree x lies in memory at the pointer p, its nodes of type t. -/
def TreeAt (t : TypeId) (eK : K → Value) (eV : V → Value) (w : World) : Tr K V → Value → Prop
  | .nil, p => p = .pointer none
  | .node l k v r, p => ∃ g pl pr, p = .pointer (some ⟨g, 0, none⟩) ∧ Box w g t #[eK k, eV v, pl, pr, .int .i64 ((l.cnt + r.cnt + 1 : Nat) : Int)] ∧ TreeAt t eK eV w l pl ∧ TreeAt t eK eV w r pr
theorem TreeAt.turn {t : TypeId} {eK : K → Value} {eV : V → Value} {w w' : World} {S : Nat → Prop} (ht : Turn S w w') (hS : ∀ g cs, Box w g t cs → ¬ S g) : ∀ {x : Tr K V} {p : Value}, TreeAt t eK eV w x p → TreeAt t eK eV w' x p
  | .nil, _, h => h
  | .node _ _ _ _, _, ⟨g, pl, pr, e, hb, hl, hr⟩ => ⟨g, pl, pr, e, hb.turn ht (hS _ _ hb), TreeAt.turn ht hS hl, TreeAt.turn ht hS hr⟩
theorem TreeAt.later {t : TypeId} {eK : K → Value} {eV : V → Value} {w w' : World} {x : Tr K V} {p : Value} (h : TreeAt t eK eV w x p) (ht : Turn (fun _ => False) w w') : TreeAt t eK eV w' x p := h.turn ht (fun _ _ _ f => f)
theorem TreeAt.shape {t : TypeId} {eK : K → Value} {eV : V → Value} {w : World} : ∀ {x : Tr K V} {p : Value}, TreeAt t eK eV w x p → ∃ A, p = .pointer A
  | .nil, _, h => ⟨none, h⟩
  | .node _ _ _ _, _, ⟨g, _, _, e, _⟩ => ⟨some ⟨g, 0, none⟩, e⟩
theorem TreeAt.of_none {t : TypeId} {eK : K → Value} {eV : V → Value} {w : World} {x : Tr K V} (h : TreeAt t eK eV w x (.pointer none)) : x = .nil := by
  cases x with
  | nil => rfl
  | node l k v r => obtain ⟨g, pl, pr, e, _⟩ := h; cases e
end

end Go.Proofs.YticglepkbihldaaGreat

/-
  Plain: what is in a list of pairs behind a put; whether a key is there. No type is named here.
-/
namespace Go.Proofs.YticglepkbihldaaGreat
open Go.RowKit

section
variable {K V : Type} [DecidableEq K] {lt : K → K → Bool}
theorem put_mem (hr : Rises lt) {k : K} {v : V} {p : K × V} : ∀ {L : List (K × V)} (_ : Up lt L), p ∈ putK lt L k v ↔ p = (k, v) ∨ (p ∈ L ∧ p.1 ≠ k)
  | [], _ => by rw [putK_nil]; simp
  | q :: L, hu => by
    have hu2 := up_cons.1 hu
    have ih := put_mem hr (k := k) (v := v) (p := p) hu2.2
    have habove : ∀ a, a ∈ L → lt q.1 a.1 = true := fun a ha => by
      obtain ⟨i, hi, e⟩ := List.mem_iff_getElem.1 ha
      exact hu2.1 i a (by rw [List.getElem?_eq_getElem hi, e])
    rw [putK_cons]
    by_cases h : lt q.1 k = true
    · rw [if_pos h, List.mem_cons, ih, List.mem_cons]
      constructor
      · rintro (e | e | ⟨h1, h2⟩)
        · subst e; exact .inr ⟨.inl rfl, fun e => by rw [e, hr.irr] at h; cases h⟩
        · exact .inl e
        · exact .inr ⟨.inr h1, h2⟩
      · rintro (e | ⟨e | h1, h2⟩)
        · exact .inr (.inl e)
        · exact .inl e
        · exact .inr (.inr ⟨h1, h2⟩)
    · rw [if_neg h]
      by_cases e : q.1 = k
      · rw [if_pos e, List.mem_cons, List.mem_cons]
        constructor
        · rintro (h1 | h1)
          · exact .inl h1
          · refine .inr ⟨.inr h1, fun e2 => ?_⟩
            have := habove p h1
            rw [e2, e, hr.irr] at this
            cases this
        · rintro (h1 | ⟨h1 | h1, h2⟩)
          · exact .inl h1
          · subst h1; exact absurd e h2
          · exact .inr h1
      · rw [if_neg e, List.mem_cons]
        have hk : lt k q.1 = true := hr.tot _ _ e (by simpa using h)
        constructor
        · rintro (h1 | h1)
          · exact .inl h1
          · refine .inr ⟨h1, fun e2 => ?_⟩
            rcases List.mem_cons.1 h1 with h3 | h3
            · subst h3; exact e e2
            · have := hr.tr _ _ _ hk (habove p h3)
              rw [e2, hr.irr] at this
              cases this
        · rintro (h1 | ⟨h1, _⟩)
          · exact .inl h1
          · exact .inr h1
theorem has_iff (hr : Rises lt) {L : List (K × V)} (hu : Up lt L) (k : K) : hasK lt L k = true ↔ ∃ p ∈ L, p.1 = k := by
  rw [hasK_mem hr hu]
  constructor
  · rintro ⟨i, p, h1, h2⟩
    exact ⟨p, List.mem_of_getElem? h1, h2⟩
  · rintro ⟨p, h1, h2⟩
    obtain ⟨i, hi, e⟩ := List.mem_iff_getElem.1 h1
    exact ⟨i, p, by rw [List.getElem?_eq_getElem hi, e], h2⟩
end

end Go.Proofs.YticglepkbihldaaGreat

/-
  Plain: what putting all things of a list comes to, each with a number: all of them, rising, each with its place. No type is named here.
-/
namespace Go.Proofs.YticglepkbihldaaGreat
open Go.RowKit

/-- Two lists that rise, with the same things, are one. -/
theorem rising_same {A : Type} {lt : A → A → Bool} (h : Rises lt) : ∀ {l m : List A}, (l.Pairwise fun x y => lt x y = true) → (m.Pairwise fun x y => lt x y = true) → (∀ x, x ∈ l ↔ x ∈ m) → l = m
  | [], [], _, _, _ => rfl
  | [], y :: m, _, _, he => by have := (he y).2 (List.mem_cons_self ..); cases this
  | x :: l, [], _, _, he => by have := (he x).1 (List.mem_cons_self ..); cases this
  | x :: l, y :: m, hl, hm, he => by
    rw [List.pairwise_cons] at hl hm
    have hxy : x = y := by
      rcases List.mem_cons.1 ((he x).1 (List.mem_cons_self ..)) with e | e
      · exact e
      · rcases List.mem_cons.1 ((he y).2 (List.mem_cons_self ..)) with e2 | e2
        · exact e2.symm
        · have h1 := h.tr x y x (hl.1 y e2) (hm.1 x e)
          rw [h.irr x] at h1
          cases h1
    subst hxy
    have hlm : l = m := by
      refine rising_same h hl.2 hm.2 fun z => ⟨fun hz => ?_, fun hz => ?_⟩
      · rcases List.mem_cons.1 ((he z).1 (List.mem_cons_of_mem _ hz)) with e | e
        · subst e
          have h1 := hl.1 z hz
          rw [h.irr z] at h1
          cases h1
        · exact e
      · rcases List.mem_cons.1 ((he z).2 (List.mem_cons_of_mem _ hz)) with e | e
        · subst e
          have h1 := hm.1 z hz
          rw [h.irr z] at h1
          cases h1
        · exact e
    rw [hlm]

section
variable {K V : Type} [DecidableEq K] {lt : K → K → Bool}
omit [DecidableEq K] in
theorem up_keys {M : List (K × V)} (h : Up lt M) : (M.map (·.1)).Pairwise fun x y => lt x y = true := by
  rw [List.pairwise_map, List.pairwise_iff_getElem]
  intro i j hi hj hij
  exact h i j _ _ hij (List.getElem?_eq_getElem hi) (List.getElem?_eq_getElem hj)
/-- Behind i things put: all that came, and no others. -/
structure AllPut (lt : K → K → Bool) (l : List K) (i : Nat) (M : List (K × V)) : Prop where
  up : Up lt M
  mem : ∀ x, (∃ p ∈ M, p.1 = x) ↔ x ∈ l.take i
  len : M.length ≤ i
omit [DecidableEq K] in
theorem AllPut.start (l : List K) : AllPut (V := V) lt l 0 [] := ⟨up_nil, fun x => by simp, Nat.le_refl _⟩
theorem AllPut.step (hr : Rises lt) {l : List K} {i : Nat} {M : List (K × V)} (h : AllPut lt l i M) {x : K} (hx : l[i]? = some x) (v : V) : AllPut lt l (i + 1) (putK lt M x v) := by
  refine ⟨put_up hr h.up _ _, fun y => ?_, by have := put_len (lt := lt) M x v; have := h.len; omega⟩
  obtain ⟨h0, e⟩ := List.getElem?_eq_some_iff.1 hx
  rw [List.take_succ_eq_append_getElem h0, e, List.mem_append, List.mem_singleton, ← h.mem y]
  constructor
  · rintro ⟨p, hp, rfl⟩
    rcases (put_mem hr h.up).1 hp with rfl | ⟨h1, h2⟩
    · exact .inr rfl
    · exact .inl ⟨p, h1, rfl⟩
  · rintro (⟨p, hp, rfl⟩ | rfl)
    · by_cases e2 : p.1 = x
      · exact ⟨(x, v), (put_mem hr h.up).2 (.inl rfl), e2.symm⟩
      · exact ⟨p, (put_mem hr h.up).2 (.inr ⟨hp, e2⟩), rfl⟩
    · exact ⟨(y, v), (put_mem hr h.up).2 (.inl rfl), rfl⟩
theorem AllPut.keys (hr : Rises lt) {l : List K} {M : List (K × V)} (h : AllPut lt l l.length M) : M.map (·.1) = setG lt l := by
  obtain ⟨h1, h2⟩ := setG_is lt hr l
  refine rising_same hr (up_keys h.up) h1 fun x => ?_
  rw [h2 x]
  have := h.mem x
  rw [List.take_length] at this
  rw [← this, List.mem_map]

/-- Things, each with a number, from n on. -/
def numFrom (n : Int) : List K → List (K × Int)
  | [] => []
  | x :: t => (x, n) :: numFrom (n + 1) t
omit [DecidableEq K] in
theorem numFrom_snoc (x : K) : ∀ (l : List K) (n : Int), numFrom n (l ++ [x]) = numFrom n l ++ [(x, n + (l.length : Int))]
  | [], n => by simp [numFrom]
  | y :: l, n => by
    rw [List.cons_append, numFrom, numFrom, numFrom_snoc x l, List.cons_append, List.length_cons]
    congr 4
    omega
omit [DecidableEq K] in
theorem numFrom_len : ∀ (l : List K) (n : Int), (numFrom n l).length = l.length
  | [], _ => rfl
  | x :: l, n => by rw [numFrom, List.length_cons, numFrom_len l, List.length_cons]
/-- The number of a thing that has one, and of no other. -/
theorem numFrom_get (hr : Rises lt) (x : K) : ∀ {l : List K} (n : Int), (l.Pairwise fun x y => lt x y = true) → getK lt (numFrom n l) x = if idxG x l < l.length then some (n + (idxG x l : Int)) else none
  | [], n, _ => by simp [numFrom, idxG, getK]
  | y :: l, n, h => by
    rw [List.pairwise_cons] at h
    rw [numFrom, getK_cons]
    dsimp only
    have ih := numFrom_get hr x (n + 1) h.2
    by_cases h1 : lt y x = true
    · have hne : y ≠ x := fun e => by rw [e, hr.irr] at h1; cases h1
      rw [if_pos h1, ih, idxG, if_neg hne, List.length_cons]
      by_cases h2 : idxG x l < l.length
      · rw [if_pos h2, if_pos (by omega)]
        congr 1
        omega
      · rw [if_neg h2, if_neg (by omega)]
    · rw [if_neg h1]
      by_cases h2 : y = x
      · rw [if_pos h2, idxG, if_pos h2, List.length_cons, if_pos (by omega)]
        simp
      · rw [if_neg h2, idxG, if_neg h2, List.length_cons]
        have h3 := hr.tot y x h2 (by simpa using h1)
        have h4 : ¬ idxG x l < l.length := fun h5 => by
          have h6 := hr.tr _ _ _ h3 (h.1 x (idxG_mem.1 h5))
          rw [hr.irr] at h6
          cases h6
        rw [if_neg (by omega)]
/-- Behind j numbers put: those j have theirs. -/
def Numbered (L : List K) (M0 : List (K × Int)) (j : Nat) : List (K × Int) := numFrom 0 (L.take j) ++ M0.drop j
theorem numbered_step (hr : Rises lt) {L : List K} {M0 : List (K × Int)} (hk : M0.map (·.1) = L) {j : Nat} {x : K} (hx : L[j]? = some x) (hu : Up lt (Numbered L M0 j)) : putK lt (Numbered L M0 j) x (j : Int) = Numbered L M0 (j + 1) := by
  obtain ⟨h0, e⟩ := List.getElem?_eq_some_iff.1 hx
  have hm : M0.length = L.length := by rw [← hk, List.length_map]
  have h1 : j < M0.length := by omega
  have e1 : M0.drop j = M0[j] :: M0.drop (j + 1) := List.drop_eq_getElem_cons h1
  have e2 : (M0[j]).1 = x := by
    subst hk
    rw [List.getElem_map] at e
    exact e
  unfold Numbered at hu ⊢
  rw [e1] at hu ⊢
  have hb := (up_parts hu).2.2
  have h3 := put_same hr (j : Int) (M0.drop (j + 1)) (numFrom 0 (L.take j)) hb
  rw [e2] at h3
  rw [h3, List.take_succ_eq_append_getElem h0, e, numFrom_snoc, List.append_assoc, List.length_take, Nat.min_eq_left (Nat.le_of_lt h0)]
  simp
omit [DecidableEq K] in
theorem numbered_start (L : List K) (M0 : List (K × Int)) : Numbered L M0 0 = M0 := by simp [Numbered, numFrom]
omit [DecidableEq K] in
theorem numbered_end {L : List K} {M0 : List (K × Int)} (hk : M0.map (·.1) = L) : Numbered L M0 L.length = numFrom 0 L := by
  have hm : M0.length = L.length := by rw [← hk, List.length_map]
  unfold Numbered
  rw [List.take_length, List.drop_of_length_le (by omega), List.append_nil]
omit [DecidableEq K] in
theorem numbered_len {L : List K} {M0 : List (K × Int)} (hk : M0.map (·.1) = L) (j : Nat) : (Numbered L M0 j).length = L.length := by
  have hm : M0.length = L.length := by rw [← hk, List.length_map]
  unfold Numbered
  rw [List.length_append, numFrom_len, List.length_take, List.length_drop]
  omega
end

end Go.Proofs.YticglepkbihldaaGreat

/-
  The document's map of numbers and texts, in memory.
-/
namespace Go.Proofs.YticglepkbihldaaGreat
open Go.RowKit

/-- A number and a text, as a pair's cells. -/
def EP : El (Int × List UInt8) where
  sz := 2
  enc p := [.int .i64 p.1, .string ⟨p.2.toArray⟩]
  len _ := rfl
  one p u hu := by
    rcases List.mem_cons.1 hu with rfl | hu
    · rfl
    · rw [List.mem_singleton.1 hu]; rfl
def ltI (a b : Int) : Bool := decide (a < b)
theorem rises_ltI : Rises ltI := rises_int
theorem has_at {L : List (Int × List UInt8)} {k : Int} {i : Nat} {p : Int × List UInt8} (h : plc ltI L k = i) (hp : L[i]? = some p) : hasK ltI L k = decide (p.1 = k) := by
  unfold hasK
  rw [h, hp]
theorem has_not {L : List (Int × List UInt8)} {k : Int} {i : Nat} (h : plc ltI L k = i) (hi : L.length ≤ i) : hasK ltI L k = false := by
  unfold hasK
  rw [h, List.getElem?_eq_none hi]

end Go.Proofs.YticglepkbihldaaGreat

/-
  Nodes of a tree: their order, their count, a node over two trees (keys string, values int).
-/
namespace Go.Proofs.YticglepkbihldaaGreat.oms
open Go.RowKit

def eK (k : (List UInt8)) : Value := (.string ⟨k.toArray⟩)
def eV (v : Int) : Value := (.int .i64 v)
/-- The tree x lies at p. -/
abbrev Nd (w : World) (x : Tr (List UInt8) Int) (p : Value) : Prop := TreeAt 189 eK eV w x p
/-- A node's own cells. -/
def One (w : World) (g : Nat) (k : (List UInt8)) (v : Int) (pl pr : Value) (n : Nat) : Prop := Box w g 189 #[(.string ⟨k.toArray⟩), (.int .i64 v), pl, pr, .int .i64 (n : Int)]
theorem One.later {w w' : World} {g : Nat} {k : (List UInt8)} {v : Int} {pl pr : Value} {n : Nat} (h : One w g k v pl pr n) (ht : Turn (fun _ => False) w w') : One w' g k v pl pr n := Box.turn h ht (fun f => f)
theorem One.cells {w : World} {g : Nat} {k : (List UInt8)} {v : Int} {pl pr : Value} {n : Nat} (h : One w g k v pl pr n) :
    w.cell? ⟨g, 0, none⟩ = some (.string ⟨k.toArray⟩) ∧ w.cell? ⟨g, 1, none⟩ = some (.int .i64 v) ∧ w.cell? ⟨g, 2, none⟩ = some pl ∧ w.cell? ⟨g, 3, none⟩ = some pr ∧ w.cell? ⟨g, 4, none⟩ = some (.int .i64 (n : Int)) :=
  ⟨Box.cell h 0, Box.cell h 1, Box.cell h 2, Box.cell h 3, Box.cell h 4⟩
theorem nd_node {w : World} {l r : Tr (List UInt8) Int} {k : (List UInt8)} {v : Int} {p : Value} (h : Nd w (.node l k v r) p) : ∃ g pl pr, p = .pointer (some ⟨g, 0, none⟩) ∧ One w g k v pl pr (l.cnt + r.cnt + 1) ∧ Nd w l pl ∧ Nd w r pr := h

set_option maxRecDepth 100000 in
theorem nan_any (a : (List UInt8)) (w : World) : Calls Tryz.prog 115 #[(.string ⟨a.toArray⟩)] w fun e w' => e = .returned (.bool false) ∧ w = w' := by
  go_enter Tryz.func115, Tryz.ntmps115
  go_wp2
  go_ret
  exact ⟨by simp, rfl⟩

set_option maxRecDepth 100000 in
theorem less_any (a b : (List UInt8)) (w : World) : Calls Tryz.prog 84 #[(.string ⟨a.toArray⟩), (.string ⟨b.toArray⟩)] w fun e w' => e = .returned (.bool (Op.bytesLess a b)) ∧ w = w' := by
  go_enter Tryz.func84, Tryz.ntmps84
  go_wp2_with (go_at_call 115; refine (nan_any _ _).mono ?_; rintro e w' ⟨rfl, rfl⟩)
  go_ret
  exact ⟨by first | rfl | simp [ltI], rfl⟩

/-- What Compare answers. -/
def ord (a b : (List UInt8)) : Int := if Op.bytesLess a b then -1 else if Op.bytesLess b a then 1 else 0
theorem ord_lt {a b : (List UInt8)} (h : Op.bytesLess a b = true) : ord a b = -1 := if_pos h
theorem ord_gt {a b : (List UInt8)} (h : Op.bytesLess b a = true) : ord a b = 1 := by unfold ord; rw [if_neg (by rw [not_lt_of rises_bytes h]; simp), if_pos h]
theorem ord_eq (a : (List UInt8)) : ord a a = 0 := by unfold ord; rw [if_neg (by rw [rises_bytes.irr]; simp), if_neg (by rw [rises_bytes.irr]; simp)]

set_option maxRecDepth 100000 in
theorem compare_any (a b : (List UInt8)) (w : World) : Calls Tryz.prog 109 #[(.string ⟨a.toArray⟩), (.string ⟨b.toArray⟩)] w fun e w' => e = .returned (.int .i64 (ord a b)) ∧ w = w' := by
  by_cases h1 : Op.bytesLess a b = true
  · rw [ord_lt h1]
    go_enter Tryz.func109, Tryz.ntmps109
    go_wp2_with (go_at_call 115; refine (nan_any _ _).mono ?_; rintro e w' ⟨rfl, rfl⟩)
    all_goals go_ret
    exact ⟨rfl, rfl⟩
  · have h1 : Op.bytesLess a b = false := by simpa using h1
    by_cases h2 : a = b
    · subst h2
      rw [ord_eq]
      have h2 : (a == a) = true := by simp
      go_enter Tryz.func109, Tryz.ntmps109
      go_wp2_with (go_at_call 115; refine (nan_any _ _).mono ?_; rintro e w' ⟨rfl, rfl⟩)
      all_goals go_ret
      exact ⟨rfl, rfl⟩
    · rw [ord_gt (rises_bytes.tot _ _ h2 h1)]
      have h3 : (a == b) = false := beq_eq_false_iff_ne.2 h2
      go_enter Tryz.func109, Tryz.ntmps109
      go_wp2_with (go_at_call 115; refine (nan_any _ _).mono ?_; rintro e w' ⟨rfl, rfl⟩)
      all_goals go_ret
      exact ⟨rfl, rfl⟩

set_option maxRecDepth 100000 in
theorem count_any {x : Tr (List UInt8) Int} {w : World} {p : Value} (h : Nd w x p) : Calls Tryz.prog 117 #[p] w fun e w' => e = .returned (.int .i64 (x.cnt : Int)) ∧ w = w' := by
  cases x with
  | nil =>
    obtain rfl : p = .pointer none := h
    go_enter Tryz.func117, Tryz.ntmps117
    go_wp2
    go_ret
    exact ⟨rfl, rfl⟩
  | node l k v r =>
    obtain ⟨g, pl, pr, rfl, hb, hl, hr⟩ := nd_node h
    have hc := hb.cells.2.2.2.2
    show Calls _ _ _ _ fun e w' => e = .returned (.int .i64 ((l.cnt + r.cnt + 1 : Nat) : Int)) ∧ w = w'
    generalize l.cnt + r.cnt + 1 = n at *
    clear h hb hl hr
    go_enter Tryz.func117, Tryz.ntmps117
    go_wp2
    go_ret
    exact ⟨rfl, rfl⟩

/-- The behaviour of what answers a tree, new since w, whose list is L. -/
def Tree (w w' : World) (e : Ending) (x : Tr (List UInt8) Int) : Prop := ∃ g, e = .returned (.pointer (some ⟨g, 0, none⟩)) ∧ Nd w' x (.pointer (some ⟨g, 0, none⟩)) ∧ Turn (fun _ => False) w w'

set_option maxRecDepth 100000 in
set_option maxHeartbeats 1000000 in
theorem over_any {l r : Tr (List UInt8) Int} {w : World} {g : Nat} {k : (List UInt8)} {v : Int} {ql qr pl pr : Value} {n : Nat} (h : One w g k v ql qr n) (hl : Nd w l pl) (hr : Nd w r pr) (hs : l.cnt + r.cnt ≤ 1000000000) :
    Calls Tryz.prog 132 #[.pointer (some ⟨g, 0, none⟩), pl, pr] w fun e w' => Tree w w' e (.node l k v r) := by
  have HL := Lib.hid hl
  have HR := Lib.hid hr
  obtain ⟨hc0, hc1, -, -, -⟩ := (h.later (Turn.refl _ w).drew).cells
  obtain ⟨pl, rfl⟩ := hl.shape
  obtain ⟨pr, rfl⟩ := hr.shape
  have hw1 : IntKind.i64.wrap ((l.cnt : Int) + (r.cnt : Int)) = (l.cnt : Int) + (r.cnt : Int) := IntWalk.i64_in _ (by omega)
  have hw2 : IntKind.i64.wrap ((l.cnt : Int) + (r.cnt : Int) + 1) = (l.cnt : Int) + (r.cnt : Int) + 1 := IntWalk.i64_in _ (by omega)
  clear hl hr
  go_enter Tryz.func132, Tryz.ntmps132
  go_wp2_with fail
  have HO := Lib.hid h; clear h
  have hc0' := hc0; have hc1' := hc1
  go_region_held3 (fun W => W.cell? ⟨g, 0, none⟩ = some (.string ⟨k.toArray⟩) ∧ W.cell? ⟨g, 1, none⟩ = some (.int .i64 v)) (first | exact ⟨hc0, hc1⟩ | exact ⟨((HO.out.later (Turn.refl _ w).drew).later ((Turn.refl _ _).alloc _)).cells.1, ((HO.out.later (Turn.refl _ w).drew).later ((Turn.refl _ _).alloc _)).cells.2.1⟩)
    (first
      | (go_at_call 117; with_reducible refine (count_any (p := .pointer pl) (HL.out.later (Turn.refl _ w).drew)).mono ?_; rintro e w' ⟨rfl, rfl⟩)
      | (go_at_call 117; with_reducible refine (count_any (p := .pointer pr) (HR.out.later (Turn.refl _ w).drew)).mono ?_; rintro e w' ⟨rfl, rfl⟩)
      | fail)
  all_goals go_wp2
  all_goals go_ret
  all_goals exact ⟨w.heap.size, rfl, ⟨w.heap.size, .pointer pl, .pointer pr, rfl, by have := Box.new w.drew 189 #[(.string ⟨k.toArray⟩), (.int .i64 v), .pointer pl, .pointer pr, .int .i64 ((l.cnt : Int) + (r.cnt : Int) + 1)]; exact this, HL.out.later ((Turn.refl _ w).drew.alloc _), HR.out.later ((Turn.refl _ w).drew.alloc _)⟩, (Turn.refl _ w).drew.alloc _⟩

end Go.Proofs.YticglepkbihldaaGreat.oms
