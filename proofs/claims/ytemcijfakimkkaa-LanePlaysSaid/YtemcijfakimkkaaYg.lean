
/-
  Stage 8: the document's lanes, in memory: New, Has, Put.
-/
import Derived.Test.YtemcijfakimkkaaYa
import Derived.Test.YtemcijfakimkkaaEa
import Derived.BigQuiet
import Derived.Laws.ResultCell
namespace Go.Proofs.Ytemcijfakimkkaa
open Go.RowKit Go.ChangeShapes Go.WideShapes Go.Deep

set_option maxRecDepth 100000

/-- The document's lanes in memory: the object at block g, its row at ar, what is in each. -/
def LR (w : World) (g ar room : Nat) (LL : List (List Int)) : Prop :=
  ∃ vs : List Value, Box w g 38 #[.int .i64 (room : Int), .slice (some ⟨ar, 0, none⟩) vs.length vs.length] ∧ Box w ar 35 vs.toArray ∧ LL.length = vs.length ∧ vs.length ≤ 8 ∧ room ≤ 64 ∧ (∀ l ∈ LL, l.length ≤ room) ∧
    ∀ (j : Nat) (v : Value) (l : List Int), vs[j]? = some v → LL[j]? = some l → RdE E8 w v l
section
variable {S : Nat → Prop} {w w' : World} {g ar room : Nat} {LL : List (List Int)}
theorem LR.turn (h : LR w g ar room LL) (ht : Turn S w w') (hg : ¬ S g) (ha : ¬ S ar) (hn : NoNum S w) : LR w' g ar room LL := by
  obtain ⟨vs, h1, h2, h3, h4, h5, h6, h7⟩ := h
  exact ⟨vs, h1.turn ht hg, h2.turn ht ha, h3, h4, h5, h6, fun j v l e1 e2 => rd_keeps (h7 j v l e1 e2) ht hn⟩
theorem LR.later (h : LR w g ar room LL) (ht : Turn (fun _ => False) w w') : LR w' g ar room LL := h.turn ht (fun f => f) (fun f => f) (noNum_none w)
theorem LR.noNum (h : LR w g ar room LL) : NoNum (fun k => k = ar) w := by
  obtain ⟨vs, h1, h2, h3, h4, h5, h6, h7⟩ := h
  refine noNum_box h2 (fun i x e => ?_)
  rw [List.getElem?_toArray] at e
  have hi : i < LL.length := by rw [h3]; exact (List.getElem?_eq_some_iff.1 e).1
  obtain ⟨A, c, e2⟩ := (h7 i _ LL[i] e (List.getElem?_eq_getElem hi)).shape
  cases e2
theorem LR.apart (h : LR w g ar room LL) : g ≠ ar := fun e => by
  obtain ⟨vs, h1, h2, -⟩ := h
  have e1 := h1.symm.trans (e ▸ h2)
  injection e1 with e1
  injection e1 with _ e2
  revert e2
  decide
theorem LR.len (h : LR w g ar room LL) : LL.length ≤ 8 := by
  obtain ⟨vs, h1, h2, h3, h4, -⟩ := h
  omega
/-- One lane has turned. -/
theorem LR.set (h : LR w g ar room LL) {j : Nat} {v : Value} {l : List Int} (hj : j < LL.length) (hv : RdE E8 w v l) (hl : l.length ≤ room) : LR (w.setCell ⟨ar, j, none⟩ v) g ar room (LL.set j l) := by
  have hn := h.noNum
  have hga := h.apart
  obtain ⟨vs, h1, h2, h3, h4, h5, h6, h7⟩ := h
  have ht : Turn (fun k => k = ar) w (w.setCell ⟨ar, j, none⟩ v) := Turn.setCell (S := fun k => k = ar) (p := ⟨ar, j, none⟩) (Turn.refl _ w) (fun _ => rfl) v
  refine ⟨vs.set j v, by rw [List.length_set]; exact h1.turn ht hga, ?_, by rw [List.length_set, List.length_set, h3], by rw [List.length_set]; exact h4, h5, fun m hm => ?_, fun i u m e1 e2 => ?_⟩
  · have hb := h2.set j v
    rw [List.setIfInBounds_toArray] at hb
    exact hb
  · rcases List.mem_or_eq_of_mem_set hm with h | h
    · exact h6 m h
    · rw [h]; exact hl
  · by_cases e : j = i
    · subst e
      rw [List.getElem?_set_self hj] at e2
      rw [List.getElem?_set_self (by omega)] at e1
      cases e1; cases e2
      exact rd_keeps hv ht hn
    · rw [List.getElem?_set_ne e] at e1 e2
      exact rd_keeps (h7 i u m e1 e2) ht hn
/-- A lane. -/
theorem LR.lane (h : LR w g ar room LL) {j : Nat} {l : List Int} (hj : LL[j]? = some l) : ∃ (A : Option Addr) (c n : Nat), j < n ∧ n ≤ 8 ∧ l.length ≤ room ∧ room ≤ 64 ∧
    ∀ W, Turn (fun _ => False) w W → (W.cell? ⟨g, 0, none⟩ = some (.int .i64 (room : Int)) ∧ W.cell? ⟨g, 1, none⟩ = some (.slice (some ⟨ar, 0, none⟩) n n) ∧ W.cell? ⟨ar, j, none⟩ = some (.slice A l.length c)) ∧ W.frozen? ⟨ar, j, none⟩ = false ∧ RdE E8 W (.slice A l.length c) l := by
  obtain ⟨vs, h1, h2, h3, h4, h5, h6, h7⟩ := h
  have hjl : j < vs.length := by rw [← h3]; exact (List.getElem?_eq_some_iff.1 hj).1
  have hv : vs[j]? = some vs[j] := List.getElem?_eq_getElem hjl
  have hr := h7 j _ l hv hj
  obtain ⟨A, c, e⟩ := hr.shape
  rw [e] at hr hv
  refine ⟨A, c, vs.length, hjl, h4, h6 l (List.mem_of_getElem? hj), h5, fun W ht => ⟨⟨(h1.turn ht (fun f => f)).cell 0, (h1.turn ht (fun f => f)).cell 1, ?_⟩, (h2.turn ht (fun f => f)).free j, hr.later ht⟩⟩
  rw [(h2.turn ht (fun f => f)).cell, List.getElem?_toArray]
  exact hv
theorem LR.head (h : LR w g ar room LL) : w.cell? ⟨g, 1, none⟩ = some (.slice (some ⟨ar, 0, none⟩) LL.length LL.length) := by
  obtain ⟨vs, h1, h2, h3, h4, h5, h6, h7⟩ := h
  rw [h3]
  exact h1.cell 1
end

theorem rhas_yes (g : Nat) (A : Option Addr) (n c j : Nat) (w : World) (h : w.cell? ⟨g, 1, none⟩ = some (.slice A n c)) (hj : j < n) :
    Calls Try.prog 10 #[.pointer (some ⟨g, 0, none⟩), .int .i64 (j : Int)] w fun e w' => e = .returned (.bool true) ∧ w = w' := by
  have hji : (j : Int) < n := by omega
  have h0 : (0 : Int) ≤ j := by omega
  go_enter Try.func10, Try.ntmps10
  go_wp2
  go_ret
  exact ⟨rfl, rfl⟩
theorem rhas_no (g : Nat) (A : Option Addr) (n c : Nat) (i : Int) (w : World) (h : w.cell? ⟨g, 1, none⟩ = some (.slice A n c)) (hi : ¬ (0 ≤ i ∧ i < n)) :
    Calls Try.prog 10 #[.pointer (some ⟨g, 0, none⟩), .int .i64 i] w fun e w' => e = .returned (.bool false) ∧ w = w' := by
  by_cases h0 : 0 ≤ i
  · have hin : ¬ (i < (n : Int)) := fun e => hi ⟨h0, e⟩
    clear hi
    go_enter Try.func10, Try.ntmps10
    go_wp2
    go_ret
    exact ⟨rfl, rfl⟩
  · clear hi
    go_enter Try.func10, Try.ntmps10
    go_wp2
    go_ret
    exact ⟨rfl, rfl⟩

/-- A lane's list stored. -/
def RSet (w : World) (ar j : Nat) (l : List Int) (w' : World) : Prop := ∃ W v, Turn (fun _ => False) w W ∧ RdE E8 W v l ∧ w' = W.setCell ⟨ar, j, none⟩ v
theorem LR.stored {w w' : World} {g ar room j : Nat} {LL : List (List Int)} {l : List Int} (h : LR w g ar room LL) (hs : RSet w ar j l w') (hj : j < LL.length) (hl : l.length ≤ room) : LR w' g ar room (LL.set j l) ∧ Turn (fun k => k = ar) w w' := by
  obtain ⟨W, v, ht, hr, rfl⟩ := hs
  exact ⟨(h.later ht).set hj hr hl, Turn.setCell (S := fun k => k = ar) (p := ⟨ar, j, none⟩) (ht.mono (fun _ _ f => f.elim)) (fun _ => rfl) v⟩

set_option maxHeartbeats 4000000 in
theorem rput_room (g ar room n cap j : Nat) (A : Option Addr) (x : Int) (l : List Int) (w : World) (hj : j < n) (hlr : l.length < room) (h64 : room ≤ 64)
    (HS : ∀ W, Turn (fun _ => False) w W → (W.cell? ⟨g, 0, none⟩ = some (.int .i64 (room : Int)) ∧ W.cell? ⟨g, 1, none⟩ = some (.slice (some ⟨ar, 0, none⟩) n n) ∧ W.cell? ⟨ar, j, none⟩ = some (.slice A l.length cap)) ∧ W.frozen? ⟨ar, j, none⟩ = false ∧ RdE E8 W (.slice A l.length cap) l) :
    Calls Try.prog 16 #[.pointer (some ⟨g, 0, none⟩), .int .i64 (j : Int), .int .i64 x] w fun e w' => e = .returned (.int .i64 0) ∧ RSet w ar j (l ++ [x]) w' := by
  obtain ⟨⟨c0, c1, c2⟩, -⟩ := HS w (Turn.refl _ w)
  have HSS := Lib.hid HS
  have HH := Lib.hid (rhas_yes g _ n n j w c1 hj)
  have hji : (j : Int) < n := by omega
  have hli : (l.length : Int) < room := by omega
  clear HS
  go_enter Try.func16, Try.ntmps16
  go_wp2_with fail
  refine HH.out.mono ?_
  rintro e w2 ⟨rfl, rfl⟩
  go_wp2_with fail
  go_quiet (fail)
  clear c0 c1 c2
  go_wp2_with fail
  have HSK : Hid (∀ W, Turn (fun _ => False) w W → (W.cell? ⟨g, 0, none⟩ = some (.int .i64 (room : Int)) ∧ W.cell? ⟨g, 1, none⟩ = some (.slice (some ⟨ar, 0, none⟩) n n) ∧ W.cell? ⟨ar, j, none⟩ = some (.slice A l.length cap)) ∧ Turn (fun _ => False) w W) := fun W ht => ⟨(HSS.out W ht).1, ht⟩
  refine drawn_region (fun W => (W.cell? ⟨g, 0, none⟩ = some (.int .i64 (room : Int)) ∧ W.cell? ⟨g, 1, none⟩ = some (.slice (some ⟨ar, 0, none⟩) n n) ∧ W.cell? ⟨ar, j, none⟩ = some (.slice A l.length cap)) ∧ Turn (fun _ => False) w W) [18] (by kernel_rfl) ?_
  have ht0 : Turn (fun _ => False) w (World.drew (w.drewN nq)) := ((Turn.refl _ w).drewN nq).drew
  generalize World.drew (w.drewN nq) = wd at *
  have HT0 := Lib.hid ht0
  clear ht0
  have hS0 := HSK.out _ HT0.out
  refine drawn_take 0 24 (.pointer (some ⟨g, 0, none⟩)) rfl rfl (by kernel_rfl) (by kernel_rfl) (by kernel_rfl) (by kernel_rfl) (fun _ _ _ h => h) (by rfl) (by assumption) (by intro w hSw; obtain ⟨⟨hS1, hS2, hS3⟩, hS4⟩ := hSw; go_simp) ?_
  try simp only [List.setIfInBounds_toArray, List.set_cons_zero, List.set_cons_succ]
  refine drawn_take 1 25 (.pointer (some ⟨g, 0, none⟩)) rfl rfl (by kernel_rfl) (by kernel_rfl) (by kernel_rfl) (by kernel_rfl) (fun _ _ _ h => h) (by rfl) (by assumption) (by intro w hSw; obtain ⟨⟨hS1, hS2, hS3⟩, hS4⟩ := hSw; go_simp) ?_
  try simp only [List.setIfInBounds_toArray, List.set_cons_zero, List.set_cons_succ]
  refine drawn_take 2 26 (.pointer (some ⟨g, 1, none⟩)) rfl rfl (by kernel_rfl) (by kernel_rfl) (by kernel_rfl) (by kernel_rfl) (fun _ _ _ h => h) (by rfl) (by assumption) (by intro w hSw; obtain ⟨⟨hS1, hS2, hS3⟩, hS4⟩ := hSw; go_simp) ?_
  try simp only [List.setIfInBounds_toArray, List.set_cons_zero, List.set_cons_succ]
  refine drawn_take 3 27 (.slice (some ⟨ar, 0, none⟩) n n) rfl rfl (by kernel_rfl) (by kernel_rfl) (by kernel_rfl) (by kernel_rfl) (fun _ _ _ h => h) (by rfl) (by assumption) (by intro w hSw; obtain ⟨⟨hS1, hS2, hS3⟩, hS4⟩ := hSw; go_simp) ?_
  try simp only [List.setIfInBounds_toArray, List.set_cons_zero, List.set_cons_succ]
  refine drawn_take 4 28 (.int .i64 (j : Int)) rfl rfl (by kernel_rfl) (by kernel_rfl) (by kernel_rfl) (by kernel_rfl) (fun _ _ _ h => h) (by rfl) (by assumption) (by intro w hSw; obtain ⟨⟨hS1, hS2, hS3⟩, hS4⟩ := hSw; go_simp) ?_
  try simp only [List.setIfInBounds_toArray, List.set_cons_zero, List.set_cons_succ]
  refine drawn_take 6 30 (.pointer (some ⟨g, 0, none⟩)) rfl rfl (by kernel_rfl) (by kernel_rfl) (by kernel_rfl) (by kernel_rfl) (fun _ _ _ h => h) (by rfl) (by assumption) (by intro w hSw; obtain ⟨⟨hS1, hS2, hS3⟩, hS4⟩ := hSw; go_simp) ?_
  try simp only [List.setIfInBounds_toArray, List.set_cons_zero, List.set_cons_succ]
  refine drawn_take 7 31 (.pointer (some ⟨g, 0, none⟩)) rfl rfl (by kernel_rfl) (by kernel_rfl) (by kernel_rfl) (by kernel_rfl) (fun _ _ _ h => h) (by rfl) (by assumption) (by intro w hSw; obtain ⟨⟨hS1, hS2, hS3⟩, hS4⟩ := hSw; go_simp) ?_
  try simp only [List.setIfInBounds_toArray, List.set_cons_zero, List.set_cons_succ]
  refine drawn_take 8 32 (.pointer (some ⟨g, 1, none⟩)) rfl rfl (by kernel_rfl) (by kernel_rfl) (by kernel_rfl) (by kernel_rfl) (fun _ _ _ h => h) (by rfl) (by assumption) (by intro w hSw; obtain ⟨⟨hS1, hS2, hS3⟩, hS4⟩ := hSw; go_simp) ?_
  try simp only [List.setIfInBounds_toArray, List.set_cons_zero, List.set_cons_succ]
  refine drawn_take 9 33 (.slice (some ⟨ar, 0, none⟩) n n) rfl rfl (by kernel_rfl) (by kernel_rfl) (by kernel_rfl) (by kernel_rfl) (fun _ _ _ h => h) (by rfl) (by assumption) (by intro w hSw; obtain ⟨⟨hS1, hS2, hS3⟩, hS4⟩ := hSw; go_simp) ?_
  try simp only [List.setIfInBounds_toArray, List.set_cons_zero, List.set_cons_succ]
  refine drawn_take 10 34 (.int .i64 (j : Int)) rfl rfl (by kernel_rfl) (by kernel_rfl) (by kernel_rfl) (by kernel_rfl) (fun _ _ _ h => h) (by rfl) (by assumption) (by intro w hSw; obtain ⟨⟨hS1, hS2, hS3⟩, hS4⟩ := hSw; go_simp) ?_
  try simp only [List.setIfInBounds_toArray, List.set_cons_zero, List.set_cons_succ]
  refine drawn_take 11 35 (.pointer (some ⟨ar, j, none⟩)) rfl rfl (by kernel_rfl) (by kernel_rfl) (by kernel_rfl) (by kernel_rfl) (fun _ _ _ h => h) (by rfl) (by assumption) (by intro w hSw; obtain ⟨⟨hS1, hS2, hS3⟩, hS4⟩ := hSw; go_simp) ?_
  try simp only [List.setIfInBounds_toArray, List.set_cons_zero, List.set_cons_succ]
  refine drawn_take 12 36 (.slice A l.length cap) rfl rfl (by kernel_rfl) (by kernel_rfl) (by kernel_rfl) (by kernel_rfl) (fun _ _ _ h => h) (by rfl) (by assumption) (by intro w hSw; obtain ⟨⟨hS1, hS2, hS3⟩, hS4⟩ := hSw; go_simp) ?_
  try simp only [List.setIfInBounds_toArray, List.set_cons_zero, List.set_cons_succ]
  refine drawn_take 14 38 (.int .i64 x) rfl rfl (by kernel_rfl) (by kernel_rfl) (by kernel_rfl) (by kernel_rfl) (fun _ _ _ h => h) (by rfl) (by assumption) (by intro w hSw; obtain ⟨⟨hS1, hS2, hS3⟩, hS4⟩ := hSw; go_simp) ?_
  try simp only [List.setIfInBounds_toArray, List.set_cons_zero, List.set_cons_succ]
  refine drawn_any [5, 15] (by kernel_rfl) (by simp) ?_
  refine drawn_cons rfl (fun K hK => ?_) (drawn_cons rfl (fun K hK => ?_) drawn_nil)
  · go_simp
    have HN5 := Lib.hid (NewE.empty (E := E8) (e := 2) w wd HT0.out)
    refine hK.out _ _ _ (HSK.out _ HN5.out.turn) ?_
    clear hK K hS0
    have hS0 := HSK.out _ HN5.out.turn
    try simp only [List.setIfInBounds_toArray, List.set_cons_zero, List.set_cons_succ]
    refine drawn_any [13, 15] (by kernel_rfl) (by simp) ?_
    refine drawn_cons rfl (fun K hK => ?_) (drawn_cons rfl (fun K hK => ?_) drawn_nil)
    · refine put_app Try.underlying35 num_info8 num_zero8 (by omega) [] HN5.out.own l (HSS.out _ HN5.out.turn).2.2 (by simp only [List.length_nil]; omega) ?_
      intro A13 n13 c13 w7 ho ht hn2
      have HN7 := Lib.hid (HN5.out.step ho ht hn2)
      clear ho ht hn2
      refine hK.out _ _ _ (HSK.out _ HN7.out.turn) ?_
      clear hK K hS0
      have hS0 := HSK.out _ HN7.out.turn
      try simp only [List.setIfInBounds_toArray, List.set_cons_zero, List.set_cons_succ]
      refine drawn_any [15] (by kernel_rfl) (by simp) ?_
      refine drawn_cons rfl (fun K hK => ?_) drawn_nil
      go_simp
      have HN13 := Lib.hid (HN7.out.alloc (.cells #[.int .i64 x] 2))
      rw [List.nil_append] at HN13
      have HX := Lib.hid (one_row E8 2 w7 x)
      refine hK.out _ _ _ (HSK.out _ HN13.out.turn) ?_
      clear hK K hS0
      have hS0 := HSK.out _ HN13.out.turn
      try simp only [List.setIfInBounds_toArray, List.set_cons_zero, List.set_cons_succ]
      refine drawn_any [16] (by kernel_rfl) (by simp) ?_
      refine drawn_cons rfl (fun K hK => ?_) drawn_nil
      refine put_app Try.underlying35 num_info8 num_zero8 (by omega) l HN13.out.own [x] HX.out (by simp only [List.length_cons, List.length_nil]; omega) ?_
      intro A2 n2 c2 w9 ho ht hn2
      have HN9 := Lib.hid (HN13.out.step ho ht hn2)
      clear ho ht hn2
      refine hK.out _ _ _ (HSK.out _ HN9.out.turn) ?_
      clear hK K hS0
      have hS0 := HSK.out _ HN9.out.turn
      try simp only [List.setIfInBounds_toArray, List.set_cons_zero, List.set_cons_succ]
      refine drawn_take 17 41 (.pointer (some ⟨ar, j, none⟩)) rfl rfl (by kernel_rfl) (by kernel_rfl) (by kernel_rfl) (by kernel_rfl) (fun _ _ _ h => h) (by rfl) (by assumption) (by intro w hSw; obtain ⟨⟨hS1, hS2, hS3⟩, hS4⟩ := hSw; go_simp) ?_
      try simp only [List.setIfInBounds_toArray, List.set_cons_zero, List.set_cons_succ]
      refine drawn_last (z := 18) rfl (by kernel_rfl) (by kernel_rfl) (by kernel_rfl) (fun K hK => ?_)
      clear hS0
      have hz1 := (HSS.out _ HN9.out.turn).1.2.2
      have hz2 := (HSS.out _ HN9.out.turn).2.1
      go_simp
      refine hK.out _ _ ?_
      clear hK K hz1 hz2
      go_wp2
      go_ret
      exact ⟨rfl, w9, _, HN9.out.turn, HN9.out.own.rd, rfl⟩
    · go_simp
      have hx := one_row E8 2 (wd.alloc (.cells #[] 2)) x
      rw [World.size_alloc] at hx
      have HX := Lib.hid hx
      clear hx
      have HN7 := Lib.hid (HN5.out.alloc (.cells #[.int .i64 x] 2))
      have HB : Hid (∀ k, (Value.slice (some ⟨wd.heap.size + 1, 0, none⟩) 1 1).ownBlock = some k → ¬ (Value.slice (some ⟨wd.heap.size, 0, none⟩) 0 0).ownBlock = some k) := fun k h1 h2 => by
        simp [Value.ownBlock] at h1 h2
        omega
      refine hK.out _ _ _ (HSK.out _ HN7.out.turn) ?_
      clear hK K hS0
      have hS0 := HSK.out _ HN7.out.turn
      try simp only [List.setIfInBounds_toArray, List.set_cons_zero, List.set_cons_succ]
      refine drawn_any [13] (by kernel_rfl) (by simp) ?_
      refine drawn_cons rfl (fun K hK => ?_) drawn_nil
      refine put_app Try.underlying35 num_info8 num_zero8 (by omega) [] HN7.out.own l (HSS.out _ HN7.out.turn).2.2 (by simp only [List.length_nil]; omega) ?_
      intro A13 n13 c13 w7 ho ht hn2
      have HN13 := Lib.hid (HN7.out.step ho ht hn2)
      rw [List.nil_append] at HN13
      have HX0 := HX
      clear HX
      have HX := Lib.hid (HX0.out.turn ht HB.out)
      clear ho ht hn2 HX0
      refine hK.out _ _ _ (HSK.out _ HN13.out.turn) ?_
      clear hK K hS0
      have hS0 := HSK.out _ HN13.out.turn
      try simp only [List.setIfInBounds_toArray, List.set_cons_zero, List.set_cons_succ]
      refine drawn_any [16] (by kernel_rfl) (by simp) ?_
      refine drawn_cons rfl (fun K hK => ?_) drawn_nil
      refine put_app Try.underlying35 num_info8 num_zero8 (by omega) l HN13.out.own [x] HX.out (by simp only [List.length_cons, List.length_nil]; omega) ?_
      intro A2 n2 c2 w9 ho ht hn2
      have HN9 := Lib.hid (HN13.out.step ho ht hn2)
      clear ho ht hn2
      refine hK.out _ _ _ (HSK.out _ HN9.out.turn) ?_
      clear hK K hS0
      have hS0 := HSK.out _ HN9.out.turn
      try simp only [List.setIfInBounds_toArray, List.set_cons_zero, List.set_cons_succ]
      refine drawn_take 17 41 (.pointer (some ⟨ar, j, none⟩)) rfl rfl (by kernel_rfl) (by kernel_rfl) (by kernel_rfl) (by kernel_rfl) (fun _ _ _ h => h) (by rfl) (by assumption) (by intro w hSw; obtain ⟨⟨hS1, hS2, hS3⟩, hS4⟩ := hSw; go_simp) ?_
      try simp only [List.setIfInBounds_toArray, List.set_cons_zero, List.set_cons_succ]
      refine drawn_last (z := 18) rfl (by kernel_rfl) (by kernel_rfl) (by kernel_rfl) (fun K hK => ?_)
      clear hS0
      have hz1 := (HSS.out _ HN9.out.turn).1.2.2
      have hz2 := (HSS.out _ HN9.out.turn).2.1
      go_simp
      refine hK.out _ _ ?_
      clear hK K hz1 hz2
      go_wp2
      go_ret
      exact ⟨rfl, w9, _, HN9.out.turn, HN9.out.own.rd, rfl⟩
  · go_simp
    have HX := Lib.hid (one_row E8 2 wd x)
    have HT1 : Hid (Turn (fun _ => False) w (wd.alloc (.cells #[.int .i64 x] 2))) := HT0.out.alloc _
    refine hK.out _ _ _ (HSK.out _ HT1.out) ?_
    clear hK K hS0
    have hS0 := HSK.out _ HT1.out
    try simp only [List.setIfInBounds_toArray, List.set_cons_zero, List.set_cons_succ]
    refine drawn_any [5] (by kernel_rfl) (by simp) ?_
    refine drawn_cons rfl (fun K hK => ?_) drawn_nil
    go_simp
    have HX0 := HX
    clear HX
    have HX : Hid (RdE E8 ((wd.alloc (.cells #[.int .i64 x] 2)).alloc (.cells #[] 2)) (.slice (some ⟨wd.heap.size, 0, none⟩) 1 1) [x]) := HX0.out.later ((Turn.refl _ _).alloc _)
    have hn7 := NewE.empty (E := E8) (e := 2) w _ HT1.out
    rw [World.size_alloc] at hn7
    have HN7 := Lib.hid hn7
    clear hn7
    have HB : Hid (∀ k, (Value.slice (some ⟨wd.heap.size, 0, none⟩) 1 1).ownBlock = some k → ¬ (Value.slice (some ⟨wd.heap.size + 1, 0, none⟩) 0 0).ownBlock = some k) := fun k h1 h2 => by
      simp [Value.ownBlock] at h1 h2
      omega
    refine hK.out _ _ _ (HSK.out _ HN7.out.turn) ?_
    clear hK K hS0 HX0
    have hS0 := HSK.out _ HN7.out.turn
    try simp only [List.setIfInBounds_toArray, List.set_cons_zero, List.set_cons_succ]
    refine drawn_any [13] (by kernel_rfl) (by simp) ?_
    refine drawn_cons rfl (fun K hK => ?_) drawn_nil
    refine put_app Try.underlying35 num_info8 num_zero8 (by omega) [] HN7.out.own l (HSS.out _ HN7.out.turn).2.2 (by simp only [List.length_nil]; omega) ?_
    intro A13 n13 c13 w7 ho ht hn2
    have HN13 := Lib.hid (HN7.out.step ho ht hn2)
    rw [List.nil_append] at HN13
    have HX0 := HX
    clear HX
    have HX := Lib.hid (HX0.out.turn ht HB.out)
    clear ho ht hn2 HX0
    refine hK.out _ _ _ (HSK.out _ HN13.out.turn) ?_
    clear hK K hS0
    have hS0 := HSK.out _ HN13.out.turn
    try simp only [List.setIfInBounds_toArray, List.set_cons_zero, List.set_cons_succ]
    refine drawn_any [16] (by kernel_rfl) (by simp) ?_
    refine drawn_cons rfl (fun K hK => ?_) drawn_nil
    refine put_app Try.underlying35 num_info8 num_zero8 (by omega) l HN13.out.own [x] HX.out (by simp only [List.length_cons, List.length_nil]; omega) ?_
    intro A2 n2 c2 w9 ho ht hn2
    have HN9 := Lib.hid (HN13.out.step ho ht hn2)
    clear ho ht hn2
    refine hK.out _ _ _ (HSK.out _ HN9.out.turn) ?_
    clear hK K hS0
    have hS0 := HSK.out _ HN9.out.turn
    try simp only [List.setIfInBounds_toArray, List.set_cons_zero, List.set_cons_succ]
    refine drawn_take 17 41 (.pointer (some ⟨ar, j, none⟩)) rfl rfl (by kernel_rfl) (by kernel_rfl) (by kernel_rfl) (by kernel_rfl) (fun _ _ _ h => h) (by rfl) (by assumption) (by intro w hSw; obtain ⟨⟨hS1, hS2, hS3⟩, hS4⟩ := hSw; go_simp) ?_
    try simp only [List.setIfInBounds_toArray, List.set_cons_zero, List.set_cons_succ]
    refine drawn_last (z := 18) rfl (by kernel_rfl) (by kernel_rfl) (by kernel_rfl) (fun K hK => ?_)
    clear hS0
    have hz1 := (HSS.out _ HN9.out.turn).1.2.2
    have hz2 := (HSS.out _ HN9.out.turn).2.1
    go_simp
    refine hK.out _ _ ?_
    clear hK K hz1 hz2
    go_wp2
    go_ret
    exact ⟨rfl, w9, _, HN9.out.turn, HN9.out.own.rd, rfl⟩
theorem rput_no (g : Nat) (A : Option Addr) (n c : Nat) (i x : Int) (w : World) (h0 : w.cell? ⟨g, 1, none⟩ = some (.slice A n c)) (hi : ¬ (0 ≤ i ∧ i < n)) :
    Calls Try.prog 16 #[.pointer (some ⟨g, 0, none⟩), .int .i64 i, .int .i64 x] w fun e w' => e = .returned (.int .i64 2) ∧ w = w' := by
  have HH := Lib.hid (rhas_no g _ n c i w h0 hi)
  clear h0 hi
  go_enter Try.func16, Try.ntmps16
  go_wp2_with fail
  refine HH.out.mono ?_
  rintro e w2 ⟨rfl, rfl⟩
  go_wp2
  go_ret
  exact ⟨rfl, rfl⟩
theorem rput_full (g ar room n cap j : Nat) (A : Option Addr) (x : Int) (l : List Int) (w : World) (hj : j < n) (hlr : room ≤ l.length)
    (HS : ∀ W, Turn (fun _ => False) w W → (W.cell? ⟨g, 0, none⟩ = some (.int .i64 (room : Int)) ∧ W.cell? ⟨g, 1, none⟩ = some (.slice (some ⟨ar, 0, none⟩) n n) ∧ W.cell? ⟨ar, j, none⟩ = some (.slice A l.length cap)) ∧ W.frozen? ⟨ar, j, none⟩ = false ∧ RdE E8 W (.slice A l.length cap) l) :
    Calls Try.prog 16 #[.pointer (some ⟨g, 0, none⟩), .int .i64 (j : Int), .int .i64 x] w fun e w' => e = .returned (.int .i64 7) ∧ Turn (fun _ => False) w w' := by
  obtain ⟨⟨c0, c1, c2⟩, -⟩ := HS w (Turn.refl _ w)
  have HH := Lib.hid (rhas_yes g _ n n j w c1 hj)
  have hji : (j : Int) < n := by omega
  clear HS
  go_enter Try.func16, Try.ntmps16
  go_wp2_with fail
  refine HH.out.mono ?_
  rintro e w2 ⟨rfl, rfl⟩
  go_wp2_with fail
  go_quiet (fail)
  go_wp2
  go_ret
  exact ⟨rfl, (Turn.refl _ w).drewN _⟩
/-- Put, whatever lane. -/
theorem ref_put8 {g ar room : Nat} {LL : List (List Int)} {w : World} (i x : Int) (h : LR w g ar room LL) : Calls Try.prog 16 #[.pointer (some ⟨g, 0, none⟩), .int .i64 i, .int .i64 x] w fun e w' => e = .returned (.int .i64 (putF room LL i)) ∧ LR w' g ar room (putL room LL i x) ∧ Turn (fun k => k = ar) w w' := by
  unfold putF putL
  rcases at8_cases LL i with ⟨e0, hi⟩ | ⟨j, l, rfl, hj, e0⟩
  · rw [e0]
    refine (rput_no g _ _ _ i x w h.head hi).mono ?_
    rintro e w' ⟨rfl, rfl⟩
    exact ⟨rfl, h, Turn.refl _ w⟩
  · obtain ⟨A, c, n, hjn, hn8, hlr, h64, hs⟩ := h.lane hj
    rw [e0]
    dsimp only
    rw [Int.toNat_natCast]
    have hjl : j < LL.length := (List.getElem?_eq_some_iff.1 hj).1
    by_cases hr : l.length < room
    · rw [if_pos hr, if_pos hr]
      refine (rput_room g ar room n c j A x l w hjn hr h64 hs).mono ?_
      rintro e w' ⟨rfl, hw⟩
      obtain ⟨h2, t2⟩ := h.stored hw hjl (by rw [List.length_append]; exact hr)
      exact ⟨rfl, h2, t2⟩
    · rw [if_neg hr, if_neg hr]
      refine (rput_full g ar room n c j A x l w hjn (by omega) hs).mono ?_
      rintro e w' ⟨rfl, ht⟩
      exact ⟨rfl, h.later ht, ht.mono (fun _ _ f => f.elim)⟩

end Go.Proofs.Ytemcijfakimkkaa
