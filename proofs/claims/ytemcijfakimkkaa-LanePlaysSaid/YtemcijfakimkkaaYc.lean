
/-
  Stage 8: the program's lanes: New, Take.
-/
import Derived.Test.YtemcijfakimkkaaYb
namespace Go.Proofs.Ytemcijfakimkkaa
open Go.RowKit Go.Conc Go.ChangeShapes Go.WideShapes Go.Deep

set_option maxRecDepth 100000

/-- Not a number of lanes, or not a room. -/
def bad8 (a b : Int) : Prop := a < 1 ∨ 8 < a ∨ b < 1 ∨ 64 < b
set_option maxHeartbeats 2000000 in
theorem new_bad (a b : Int) (w : World) (h : bad8 a b) : Calls Try.prog 7 #[.int .i64 a, .int .i64 b] w fun e w' => e = .returned (.tuple #[.pointer none, .int .i64 2]) ∧ w = w' := by
  unfold bad8 at h
  by_cases h1 : a < 1
  · clear h
    go_enter Try.func7, Try.ntmps7
    go_wp2
    go_ret2
    exact ⟨rfl, rfl⟩
  · by_cases h2 : 8 < a
    · clear h
      go_enter Try.func7, Try.ntmps7
      go_wp2
      go_ret2
      exact ⟨rfl, rfl⟩
    · by_cases h3 : b < 1
      · clear h
        go_enter Try.func7, Try.ntmps7
        go_wp2
        go_ret2
        exact ⟨rfl, rfl⟩
      · have h4 : 64 < b := by omega
        clear h
        go_enter Try.func7, Try.ntmps7
        go_wp2
        go_ret2
        exact ⟨rfl, rfl⟩

theorem chan_info8 : (Try.prog.info? 52).map (fun i => (i.zero, i.size, i.bytes)) = some (some (.chan none), 1, 8) := by kernel_rfl
theorem ptr_info8 : (Try.prog.info? 54).map (fun i => (i.zero, i.size, i.bytes)) = some (some (.pointer none), 1, 8) := by kernel_rfl
theorem made_chans (N : Nat) (hN : N ≤ 8) (w : World) : (Instr.makeSlice 49 (.int .i64 (N : Int)) (.int .i64 (N : Int))).run Try.prog w = .ok (.slice (some ⟨w.heap.size, 0, none⟩) N N) (w.alloc (.cells (madeCells (Value.cells (.chan none)) N) 52)) := by
  obtain ⟨i, hi, hz, h1, h2⟩ := info_parts chan_info8
  have h := run_make (P := Try.prog) w 49 52 i _ Try.underlying49 hi hz .i64 .i64 (N : Int) (N : Int) (by omega) (by omega) (by rw [h2]; omega) (by omega)
  rw [h1, show ((N : Int)).toNat = N from Int.toNat_natCast N] at h
  rw [show N * 1 = N from Nat.mul_one N] at h
  exact h
theorem made_chan (k : Nat) (hk : k ≤ 64) (w : World) : (Instr.makeChan 52 (.int .i64 (k : Int))).run Try.prog w = .ok (.chan (some w.heap.size)) (w.alloc (.chan k #[] false 0 0 false)) := by
  obtain ⟨i, hi, hz, h1, h2⟩ := info_parts ptr_info8
  exact run_makeChan Try.underlying52 hi .i64 k (by omega) (by rw [h2]; omega)

/-- The row of channels, of which some are made. -/
def Mk (w : World) (g ar n room i : Nat) (W : World) : Prop :=
  ∃ cs : List Nat, Box W g 51 #[.slice (some ⟨ar, 0, none⟩) n n] ∧ Box W ar 52 (cs.map (fun c => Value.chan (some c)) ++ List.replicate (n - i) (Value.chan none)).toArray ∧ cs.length = i ∧ cs.Nodup ∧ (∀ c ∈ cs, Ch W c room [] ∧ w.heap.size ≤ c) ∧ Turn (fun _ => False) w W ∧ w.heap.size ≤ ar ∧ w.heap.size ≤ g
theorem Mk.step {w W : World} {g ar n room i : Nat} (h : Mk w g ar n room i W) (hi : i < n) : Mk w g ar n room (i + 1) ((W.alloc (.chan room #[] false 0 0 false)).setCell ⟨ar, i, none⟩ (.chan (some W.heap.size))) := by
  obtain ⟨cs, h1, h2, h3, h4, h5, h6, h7, h8⟩ := h
  have hta : Turn (fun _ => False) W (W.alloc (.chan room #[] false 0 0 false)) := (Turn.refl _ W).alloc _
  have hts : Turn (fun k => k = ar) (W.alloc (.chan room #[] false 0 0 false)) ((W.alloc (.chan room #[] false 0 0 false)).setCell ⟨ar, i, none⟩ (.chan (some W.heap.size))) := Turn.setCell (S := fun k => k = ar) (p := ⟨ar, i, none⟩) (Turn.refl _ _) (fun _ => rfl) _
  have hn : NoNum (fun k => k = ar) (W.alloc (.chan room #[] false 0 0 false)) := noNum_box (h2.alloc _) (fun k x e => by
    rw [List.getElem?_toArray] at e
    rcases List.mem_append.1 (List.mem_of_getElem? e) with h | h
    · obtain ⟨c, _, e2⟩ := List.mem_map.1 h
      cases e2
    · cases (List.mem_replicate.1 h).2)
  refine ⟨cs ++ [W.heap.size], (h1.alloc _).turn hts (fun e => ?_), ?_, by simp [h3], ?_, fun c hc => ?_, (h6.trans hta (fun _ _ f => f)).trans hts (fun k hk e => by omega), h7, h8⟩
  · have e1 := h1.symm.trans (e ▸ h2)
    injection e1 with e1
    injection e1 with _ e2
    revert e2
    decide
  · have hb := (h2.alloc (.chan room #[] false 0 0 false)).set i (.chan (some W.heap.size))
    have e : ((cs.map (fun c => Value.chan (some c)) ++ List.replicate (n - i) (Value.chan none)).toArray.setIfInBounds i (.chan (some W.heap.size))) = ((cs ++ [W.heap.size]).map (fun c => Value.chan (some c)) ++ List.replicate (n - (i + 1)) (Value.chan none)).toArray := by
      rw [show n - i = (n - (i + 1)) + 1 by omega, List.replicate_succ, List.setIfInBounds_toArray, List.set_append, if_neg (by simp [h3]), List.map_append]
      simp [h3]
    rw [e] at hb
    exact hb
  · rw [List.nodup_append]
    refine ⟨h4, by simp, fun a ha b hb e => ?_⟩
    rw [List.mem_singleton] at hb
    have := (h5 a ha).1.lt
    omega
  · rcases List.mem_append.1 hc with h | h
    · obtain ⟨h9, h10⟩ := h5 c h
      exact ⟨(h9.later hta).turn hts (fun e => h9.ne_box h2 e) hn, h10⟩
    · rw [List.mem_singleton.1 h]
      refine ⟨Ch.turn (w := W.alloc (.chan room #[] false 0 0 false)) ⟨[], 0, 0, heap_alloc_new W _, rfl, fun p hp => by cases hp⟩ hts (fun e => ?_) hn, h6.size⟩
      have := h2.lt
      omega
theorem Mk.later {w W W2 : World} {g ar n room i : Nat} (h : Mk w g ar n room i W) (ht : Turn (fun _ => False) W W2) : Mk w g ar n room i W2 := by
  obtain ⟨cs, h1, h2, h3, h4, h5, h6, h7⟩ := h
  exact ⟨cs, h1.turn ht (fun f => f), h2.turn ht (fun f => f), h3, h4, fun c hc => ⟨(h5 c hc).1.later ht, (h5 c hc).2⟩, h6.trans ht (fun _ _ f => f), h7⟩
theorem Mk.lanes {w W : World} {g ar n room : Nat} (h : Mk w g ar n room n W) (h8 : n ≤ 8) (h64 : room ≤ 64) : ∃ cs, LP W g ar cs room (List.replicate n []) ∧ (∀ c ∈ cs, w.heap.size ≤ c) ∧ Turn (fun _ => False) w W := by
  obtain ⟨cs, h1, h2, h3, h4, h5, h6, -⟩ := h
  subst h3
  rw [Nat.sub_self, List.replicate_zero, List.append_nil] at h2
  refine ⟨cs, ⟨h1, h2, h4, by simp, h8, h64, fun l hl => by rw [(List.mem_replicate.1 hl).2]; exact Nat.zero_le _, fun j c l e1 e2 => ?_⟩, fun c hc => (h5 c hc).2, h6⟩
  rw [(List.mem_replicate.1 (List.mem_of_getElem? e2)).2]
  exact (h5 c (List.mem_of_getElem? e1)).1

set_option maxHeartbeats 4000000 in
theorem new_good (n room : Nat) (w : World) (h1 : 1 ≤ n) (h8 : n ≤ 8) (hr1 : 1 ≤ room) (h64 : room ≤ 64) : Calls Try.prog 7 #[.int .i64 (n : Int), .int .i64 (room : Int)] w fun e w' =>
    ∃ g ar cs, e = .returned (.tuple #[.pointer (some ⟨g, 0, none⟩), .int .i64 0]) ∧ LP w' g ar cs room (List.replicate n []) ∧ (∀ c ∈ cs, w.heap.size ≤ c) ∧ Turn (fun _ => False) w w' := by
  have hmk := made_chans n h8
  have hmc := made_chan room h64
  have e1 : ¬ ((n : Int) < 1) := by omega
  have e2 : ¬ (8 < (n : Int)) := by omega
  have e3 : ¬ ((room : Int) < 1) := by omega
  have e4 : ¬ (64 < (room : Int)) := by omega
  go_enter Try.func7, Try.ntmps7
  have HM0 : Hid (Mk w (w.heap.size + 1) w.heap.size n room 0 ((w.alloc (.cells (madeCells #[Value.chan none] n) 52)).alloc (.cells #[.slice (some ⟨w.heap.size, 0, none⟩) n n] 51))) := by
    refine ⟨[], ?_, ?_, rfl, List.nodup_nil, (fun c hc => by cases hc), ((Turn.refl _ w).alloc _).alloc _, Nat.le_refl _, by omega⟩
    · have h := Box.new (w.alloc (.cells (madeCells #[Value.chan none] n) 52)) 51 #[.slice (some ⟨w.heap.size, 0, none⟩) n n]
      rw [World.size_alloc] at h
      exact h
    · have h := (Box.new w 52 (madeCells #[Value.chan none] n)).alloc (.cells #[.slice (some ⟨w.heap.size, 0, none⟩) n n] 51)
      have e : madeCells #[Value.chan none] n = (List.replicate n (Value.chan none)).toArray := by rw [← toList_madeCells_one]
      rw [List.map_nil, List.nil_append, Nat.sub_zero, ← e]
      exact h
  go_wp2
  go_loopw [31] (fun x31 wr => ∃ i : Nat, x31 = .int .i64 (i : Int) ∧ i ≤ n ∧ Mk w (w.heap.size + 1) w.heap.size n room i wr) (fun x31 _ => n - (intOf x31).toNat)
  case atStart => exact ⟨0, rfl, Nat.zero_le _, HM0.out⟩
  case round =>
    obtain ⟨i, rfl, hi, hm⟩ := hrel
    have HM := Lib.hid hm
    by_cases hlt : i < n
    · have hli : (i : Int) < n := by omega
      obtain ⟨cs, hb1, hb2, hl, -⟩ := hm
      have HSK : Hid (∀ W, Turn (fun _ => False) wr W → W.cell? ⟨w.heap.size + 1, 0, none⟩ = some (.slice (some ⟨w.heap.size, 0, none⟩) n n) ∧ Turn (fun _ => False) wr W) := fun W ht => ⟨(hb1.turn ht (fun f => f)).cell 0, ht⟩
      have HB2 : Hid (∀ W, Turn (fun _ => False) wr W → (∃ v, W.cell? ⟨w.heap.size, i, none⟩ = some v) ∧ W.frozen? ⟨w.heap.size, i, none⟩ = false) := fun W ht => by
        have hb := hb2.turn ht (fun f => f)
        refine ⟨?_, hb.free i⟩
        rw [hb.cell, List.getElem?_toArray]
        exact ⟨_, List.getElem?_eq_getElem (by simp [hl]; omega)⟩
      clear hb1 hb2 hl
      go_wp2_with fail
      refine drawn_region (fun W => W.cell? ⟨w.heap.size + 1, 0, none⟩ = some (.slice (some ⟨w.heap.size, 0, none⟩) n n) ∧ Turn (fun _ => False) wr W) [8] (by kernel_rfl) ?_
      have ht0 : Turn (fun _ => False) wr wr.drew := (Turn.refl _ wr).drew
      generalize World.drew wr = wd at *
      have HT0 := Lib.hid ht0
      clear ht0
      have hS0 := HSK.out _ HT0.out
      refine drawn_take 0 34 (.pointer (some ⟨w.heap.size + 1, 0, none⟩)) rfl rfl (by kernel_rfl) (by kernel_rfl) (by kernel_rfl) (by kernel_rfl) (fun _ _ _ h => h) (by rfl) (by assumption) (by intro w hSw; obtain ⟨hS1, hS2⟩ := hSw; go_simp) ?_
      try simp only [List.setIfInBounds_toArray, List.set_cons_zero, List.set_cons_succ]
      refine drawn_take 1 35 (.pointer (some ⟨w.heap.size + 1, 0, none⟩)) rfl rfl (by kernel_rfl) (by kernel_rfl) (by kernel_rfl) (by kernel_rfl) (fun _ _ _ h => h) (by rfl) (by assumption) (by intro w hSw; obtain ⟨hS1, hS2⟩ := hSw; go_simp) ?_
      try simp only [List.setIfInBounds_toArray, List.set_cons_zero, List.set_cons_succ]
      refine drawn_take 2 36 (.pointer (some ⟨w.heap.size + 1, 0, none⟩)) rfl rfl (by kernel_rfl) (by kernel_rfl) (by kernel_rfl) (by kernel_rfl) (fun _ _ _ h => h) (by rfl) (by assumption) (by intro w hSw; obtain ⟨hS1, hS2⟩ := hSw; go_simp) ?_
      try simp only [List.setIfInBounds_toArray, List.set_cons_zero, List.set_cons_succ]
      refine drawn_take 3 37 (.slice (some ⟨w.heap.size, 0, none⟩) n n) rfl rfl (by kernel_rfl) (by kernel_rfl) (by kernel_rfl) (by kernel_rfl) (fun _ _ _ h => h) (by rfl) (by assumption) (by intro w hSw; obtain ⟨hS1, hS2⟩ := hSw; go_simp) ?_
      try simp only [List.setIfInBounds_toArray, List.set_cons_zero, List.set_cons_succ]
      refine drawn_take 4 38 (.int .i64 (i : Int)) rfl rfl (by kernel_rfl) (by kernel_rfl) (by kernel_rfl) (by kernel_rfl) (fun _ _ _ h => h) (by rfl) (by assumption) (by intro w hSw; obtain ⟨hS1, hS2⟩ := hSw; go_simp) ?_
      try simp only [List.setIfInBounds_toArray, List.set_cons_zero, List.set_cons_succ]
      refine drawn_take 5 39 (.int .i64 (room : Int)) rfl rfl (by kernel_rfl) (by kernel_rfl) (by kernel_rfl) (by kernel_rfl) (fun _ _ _ h => h) (by rfl) (by assumption) (by intro w hSw; obtain ⟨hS1, hS2⟩ := hSw; go_simp) ?_
      try simp only [List.setIfInBounds_toArray, List.set_cons_zero, List.set_cons_succ]
      refine drawn_any [6] (by kernel_rfl) (by simp) ?_
      refine drawn_cons rfl (fun K hK => ?_) drawn_nil
      go_simp
      have HT1 : Hid (Turn (fun _ => False) wr (wd.alloc (.chan room #[] false 0 0 false))) := HT0.out.alloc _
      refine hK.out _ _ _ (HSK.out _ HT1.out) ?_
      clear hK K hS0
      have hS0 := HSK.out _ HT1.out
      try simp only [List.setIfInBounds_toArray, List.set_cons_zero, List.set_cons_succ]
      refine drawn_take 7 41 (.pointer (some ⟨w.heap.size, i, none⟩)) rfl rfl (by kernel_rfl) (by kernel_rfl) (by kernel_rfl) (by kernel_rfl) (fun _ _ _ h => h) (by rfl) (by assumption) (by intro w hSw; obtain ⟨hS1, hS2⟩ := hSw; go_simp) ?_
      try simp only [List.setIfInBounds_toArray, List.set_cons_zero, List.set_cons_succ]
      refine drawn_last (z := 8) rfl (by kernel_rfl) (by kernel_rfl) (by kernel_rfl) (fun K hK => ?_)
      clear hS0
      obtain ⟨⟨v0, hz1⟩, hz2⟩ := HB2.out _ HT1.out
      go_simp
      refine hK.out _ _ ?_
      clear hK K hz1 hz2
      have HM2 : Hid (Mk w (w.heap.size + 1) w.heap.size n room (i + 1) ((wd.alloc (.chan room #[] false 0 0 false)).setCell ⟨w.heap.size, i, none⟩ (.chan (some wd.heap.size)))) := (HM.out.later HT0.out).step hlt
      go_wp2
      go_roundw
      case rel => exact ⟨i + 1, by go_num, hlt, HM2.out⟩
      case measure => simp [intOf]; omega
    · obtain rfl : i = n := by omega
      have HE := Lib.hid (HM.out.lanes h8 h64)
      clear hm
      go_wp2
      go_ret2
      obtain ⟨cs, x1, x2, x3⟩ := HE.out
      exact ⟨_, _, cs, rfl, x1, x2, x3⟩

end Go.Proofs.Ytemcijfakimkkaa
