
/-
  Stage 9: the program's Compare (by cmp.Or, cmp.Compare, slices.Compare): the world has only grown.
-/
import Derived.Test.YtejilonhdgfkbaaZc
import Derived.Test.YtejilonhdgfkbaaEk
import Derived.Test.YtejilonhdgfkbaaEg
namespace Go.Proofs.Ytejilonhdgfkbaa
open Go.RowKit

set_option maxRecDepth 100000

/-- cmp.Compare of two numbers, of two texts. -/
def cmpI (a b : Int) : Int := if a < b then -1 else if b < a then 1 else 0
def cmpT (a b : List UInt8) : Int := if Op.bytesLess a b then -1 else if Op.bytesLess b a then 1 else 0

set_option maxHeartbeats 1000000 in
theorem cmp_num9 (a b : Int) (w : World) : Calls Try.prog 30 #[.int .i64 a, .int .i64 b] w fun e w' => e = .returned (.int .i64 (cmpI a b)) ∧ w' = w := by
  unfold cmpI
  have ha : (a == a) = true := beq_self_eq_true a
  have hb : (b == b) = true := beq_self_eq_true b
  by_cases h1 : a < b
  · rw [if_pos h1]
    go_enter Try.func30, Try.ntmps30
    go_wp2
    go_ret
    exact ⟨rfl, rfl⟩
  · by_cases h2 : b < a
    · rw [if_neg h1, if_pos h2]
      go_enter Try.func30, Try.ntmps30
      go_wp2
      go_ret
      exact ⟨rfl, rfl⟩
    · rw [if_neg h1, if_neg h2]
      go_enter Try.func30, Try.ntmps30
      go_wp2
      go_ret
      exact ⟨rfl, rfl⟩

set_option maxHeartbeats 1000000 in
theorem cmp_text9 (a b : List UInt8) (w : World) : Calls Try.prog 57 #[sv9 a, sv9 b] w fun e w' => e = .returned (.int .i64 (cmpT a b)) ∧ w' = w := by
  unfold cmpT sv9
  have ha : (a == a) = true := beq_self_eq_true a
  have hb : (b == b) = true := beq_self_eq_true b
  cases h1 : Op.bytesLess a b with
  | true =>
    go_enter Try.func57, Try.ntmps57
    go_wp2
    go_ret
    exact ⟨rfl, rfl⟩
  | false =>
    cases h2 : Op.bytesLess b a with
    | true =>
      have heq : (a == b) = false := by
        cases e : a == b with
        | false => rfl
        | true =>
          rw [eq_of_beq e, less_irr] at h2
          cases h2
      go_enter Try.func57, Try.ntmps57
      go_wp2
      go_ret
      exact ⟨rfl, rfl⟩
    | false =>
      have heq : (a == b) = true := by rw [bytes_same h1 h2]; exact beq_self_eq_true _
      go_enter Try.func57, Try.ntmps57
      go_wp2
      go_ret
      exact ⟨rfl, rfl⟩

theorem cmpI_cases (a b : Int) : (a < b ∧ cmpI a b = -1) ∨ (b < a ∧ cmpI a b = 1) ∨ (a = b ∧ cmpI a b = 0) := by
  unfold cmpI
  by_cases h1 : a < b
  · exact .inl ⟨h1, if_pos h1⟩
  · by_cases h2 : b < a
    · exact .inr (.inl ⟨h2, by rw [if_neg h1, if_pos h2]⟩)
    · exact .inr (.inr ⟨by omega, by rw [if_neg h1, if_neg h2]⟩)
theorem cmpT_cases (a b : List UInt8) : (Op.bytesLess a b = true ∧ cmpT a b = -1) ∨ (Op.bytesLess b a = true ∧ cmpT a b = 1) ∨ (a = b ∧ cmpT a b = 0) := by
  unfold cmpT
  cases h1 : Op.bytesLess a b with
  | true => exact .inl ⟨rfl, rfl⟩
  | false =>
    cases h2 : Op.bytesLess b a with
    | true => exact .inr (.inl ⟨rfl, rfl⟩)
    | false => exact .inr (.inr ⟨bytes_same h1 h2, rfl⟩)

/-- The dimensions' values, the first i of them, by slices.Compare. -/
def dimsC (p q : K9) : Nat → Int
  | 0 => 0
  | i + 1 => if dimsC p q i = 0 then cmpT (p.dim i) (q.dim i) else dimsC p q i
theorem dims_stay {p q : K9} {i : Nat} (h : dimsC p q i ≠ 0) : ∀ j, i ≤ j → dimsC p q j = dimsC p q i
  | 0, hj => by rw [Nat.le_zero.1 hj]
  | j + 1, hj => by
    by_cases e : i = j + 1
    · rw [e]
    · have ih := dims_stay h j (by omega)
      show (if dimsC p q j = 0 then cmpT (p.dim j) (q.dim j) else dimsC p q j) = _
      rw [ih, if_neg h]
theorem dims_is {p q : K9} (hh : p.h = q.h) : ∀ i, i ≤ 4 → (dimsC p q i = 0 ∧ ∀ k, k < i → p.dim k = q.dim k) ∨ (dimsC p q i ≠ 0 ∧ dimsC p q i = cmpK p q)
  | 0, _ => .inl ⟨rfl, fun k hk => absurd hk (Nat.not_lt_zero k)⟩
  | i + 1, hi => by
    rcases dims_is hh i (by omega) with ⟨h0, hd⟩ | ⟨h0, h⟩
    · unfold dimsC
      rw [if_pos h0]
      rcases cmpT_cases (p.dim i) (q.dim i) with ⟨h, e⟩ | ⟨h, e⟩ | ⟨h, e⟩
      · exact .inr ⟨by rw [e]; decide, by rw [e, cmpK_lt (key_dim (by omega) hh hd h)]⟩
      · exact .inr ⟨by rw [e]; decide, by rw [e, cmpK_gt (key_dim (by omega) hh.symm (fun k hk => (hd k hk).symm) h)]⟩
      · exact .inl ⟨e, fun k hk => by
          by_cases ek : k = i
          · rw [ek]; exact h
          · exact hd k (by omega)⟩
    · exact .inr ⟨by unfold dimsC; rwa [if_neg h0], by unfold dimsC; rwa [if_neg h0]⟩
/-- cmp.Or: the first that is not 0. -/
def orL : List Int → Int
  | [] => 0
  | x :: l => if x = 0 then orL l else x
theorem or_two (a b : Int) : orL [a, b] = if a = 0 then b else a := by
  unfold orL orL orL
  by_cases h : b = 0
  · subst h; simp
  · simp [h]
theorem or_key (p q : K9) : orL [cmpI p.h q.h, dimsC p q 4] = cmpK p q := by
  rw [or_two]
  rcases cmpI_cases p.h q.h with ⟨h, e⟩ | ⟨h, e⟩ | ⟨h, e⟩
  · rw [e, if_neg (by decide), cmpK_lt (key_hour h)]
  · rw [e, if_neg (by decide), cmpK_gt (key_hour h)]
  · rw [if_pos e]
    rcases dims_is h 4 (Nat.le_refl 4) with ⟨h0, hd⟩ | ⟨_, h1⟩
    · have e := key_same h hd
      subst e
      rw [h0, cmpK_self]
    · exact h1

set_option maxHeartbeats 4000000 in
theorem cmp_dims9 (p q : K9) (A1 A2 : Addr) (w : World) (h1 : ∀ i, i < 4 → w.cell? (A1.add i) = some (sv9 (p.dim i))) (h2 : ∀ i, i < 4 → w.cell? (A2.add i) = some (sv9 (q.dim i))) :
    Calls Try.prog 31 #[.slice (some A1) 4 4, .slice (some A2) 4 4] w fun e w' => e = .returned (.int .i64 (dimsC p q 4)) ∧ w' = w := by
  have H1 := Lib.hid h1
  have H2 := Lib.hid h2
  clear h1 h2
  go_enter Try.func31, Try.ntmps31
  go_wp2_with fail
  go_loopw [11] (fun x11 wr => ∃ i : Nat, x11 = .int .i64 (i : Int) ∧ i ≤ 4 ∧ dimsC p q i = 0 ∧ wr = w) (fun x11 _ => 4 - (intOf x11).toNat)
  case atStart => exact ⟨0, rfl, Nat.zero_le _, rfl, rfl⟩
  case round =>
    obtain ⟨i, rfl, hi, h0, rfl⟩ := hrel
    by_cases hlt : i < 4
    · have e1 := H1.out i hlt
      have e2 := H2.out i hlt
      have hil : (i : Int) < 4 := by omega
      have hni : ¬ ((4 : Int) ≤ (i : Int)) := by omega
      have hn1 : cmpT (p.dim i) (q.dim i) = dimsC p q (i + 1) := by
        show _ = if dimsC p q i = 0 then cmpT (p.dim i) (q.dim i) else dimsC p q i
        rw [if_pos h0]
      have HC : Hid (∀ W, Calls Try.prog 57 #[sv9 (p.dim i), sv9 (q.dim i)] W fun e w' => e = .returned (.int .i64 (dimsC p q (i + 1))) ∧ w' = W) := by
        rw [← hn1]
        exact fun W => cmp_text9 (p.dim i) (q.dim i) W
      have HST : Hid (dimsC p q (i + 1) ≠ 0 → dimsC p q 4 = dimsC p q (i + 1)) := fun h => dims_stay h 4 (by omega)
      clear hn1 h0
      obtain ⟨cn, hcn⟩ : ∃ cn, cn = dimsC p q (i + 1) := ⟨_, rfl⟩
      rw [← hcn] at HC HST
      have HCN := Lib.hid hcn
      clear hcn
      generalize p.dim i = T1 at *
      generalize q.dim i = T2 at *
      by_cases hz : cn = 0
      · subst hz
        go_wp2_with fail
        refine (HC.out _).mono ?_
        rintro e w2 ⟨rfl, rfl⟩
        go_wp2
        go_roundw
        case rel => exact ⟨i + 1, by go_num, hlt, HCN.out.symm, trivial⟩
        case measure => simp [intOf]; omega
      · have hzb : (cn != 0) = true := by simp [bne, hz]
        have HE := Lib.hid (HST.out hz)
        clear HST
        go_wp2_with fail
        refine (HC.out _).mono ?_
        rintro e w2 ⟨rfl, rfl⟩
        go_wp2
        go_ret
        rw [HE.out]
        exact ⟨rfl, rfl⟩
    · obtain rfl : i = 4 := by omega
      have HZ := Lib.hid h0
      clear h0
      go_wp2
      go_ret
      rw [HZ.out]
      exact ⟨rfl, rfl⟩

set_option maxHeartbeats 4000000 in
theorem or_two9 (a b : Int) (A1 : Addr) (w : World) (h0 : w.cell? A1 = some (.int .i64 a)) (h1 : w.cell? (A1.add 1) = some (.int .i64 b)) :
    Calls Try.prog 29 #[.slice (some A1) 2 2] w fun e w' => e = .returned (.int .i64 (orL [a, b])) ∧ w' = w := by
  have hc : ∀ i, i < 2 → w.cell? (A1.add i) = some (.int .i64 (if i = 0 then a else b)) := fun i hi => by
    match i, hi with
    | 0, _ => exact h0
    | 1, _ => exact h1
  have H1 := Lib.hid hc
  have HOR := Lib.hid (or_two a b)
  clear h0 h1 hc
  go_enter Try.func29, Try.ntmps29
  go_wp2_with fail
  go_loopw [8] (fun x8 wr => ∃ i : Nat, x8 = .int .i64 (i : Int) ∧ i ≤ 2 ∧ (0 < i → a = 0) ∧ (1 < i → b = 0) ∧ wr = w) (fun x8 _ => 2 - (intOf x8).toNat)
  case atStart => exact ⟨0, rfl, Nat.zero_le _, (fun h => absurd h (Nat.lt_irrefl 0)), (fun h => absurd h (by omega)), rfl⟩
  case round =>
    obtain ⟨i, rfl, hi, g0, g1, rfl⟩ := hrel
    have G0 := Lib.hid g0
    have G1 := Lib.hid g1
    clear g0 g1
    by_cases hlt : i < 2
    · have e1 := H1.out i hlt
      have hil : (i : Int) < 2 := by omega
      obtain ⟨x, hx⟩ : ∃ x, x = if i = 0 then a else b := ⟨_, rfl⟩
      rw [← hx] at e1
      have HX := Lib.hid hx
      clear hx
      by_cases hz : x = 0
      · subst hz
        go_wp2
        go_roundw
        case rel =>
          refine ⟨i + 1, by go_num, hlt, fun _ => ?_, fun h => ?_, trivial⟩
          · have h := HX.out
            by_cases e : i = 0
            · rw [if_pos e] at h; exact h.symm
            · exact G0.out (by omega)
          · have h2 := HX.out
            rw [if_neg (by omega)] at h2
            exact h2.symm
        case measure => simp [intOf]; omega
      · have hzb : (x != 0) = true := by simp [bne, hz]
        have HE : Hid (orL [a, b] = x) := by
          show _ = _
          rw [HOR.out]
          have h := HX.out
          by_cases e : i = 0
          · rw [if_pos e] at h
            rw [if_neg (by rw [← h]; exact hz)]
            exact h.symm
          · rw [if_neg e] at h
            rw [if_pos (G0.out (by omega))]
            exact h.symm
        go_wp2
        go_ret
        rw [HE.out]
        exact ⟨rfl, rfl⟩
    · obtain rfl : i = 2 := by omega
      have HE : Hid (orL [a, b] = 0) := by
        show _ = _
        rw [HOR.out, if_pos (G0.out (by omega))]
        exact G1.out (by omega)
      go_wp2
      go_ret
      rw [HE.out]
      exact ⟨rfl, rfl⟩

/-- Compare's answer out of the two answers, in whatever world the row is laid. -/
theorem or_row9 (a b : Int) (w : World) : Calls Try.prog 29 #[.slice (some ⟨w.heap.size, 0, none⟩) 2 2] (w.alloc (.cells #[.int .i64 a, .int .i64 b] 3)) fun e w' => e = .returned (.int .i64 (orL [a, b])) ∧ w' = w.alloc (.cells #[.int .i64 a, .int .i64 b] 3) := by
  have hb := Box.new w 3 #[.int .i64 a, .int .i64 b]
  exact or_two9 a b ⟨w.heap.size, 0, none⟩ _ (hb.cell 0) (by rw [own_add]; exact hb.cell 1)

set_option maxHeartbeats 8000000 in
theorem compare_gr9 (p q : K9) (w : World) : Calls Try.prog 8 #[kv9 p, kv9 q] w fun e w' => e = .returned (.int .i64 (cmpK p q)) ∧ Gr w w' := by
  unfold kv9
  obtain ⟨w0, hw0⟩ : ∃ w0, w0 = (w.alloc (.cells #[.int .i64 p.h, sv9 p.a, sv9 p.b, sv9 p.c, sv9 p.d] 24)).alloc (.cells #[.int .i64 q.h, sv9 q.a, sv9 q.b, sv9 q.c, sv9 q.d] 24) := ⟨_, rfl⟩
  have HT0 : Hid (Gr w w0) := by rw [hw0]; exact ((Gr.refl w).alloc _).alloc _
  have hb1 : Box w0 w.heap.size 24 #[.int .i64 p.h, sv9 p.a, sv9 p.b, sv9 p.c, sv9 p.d] := by rw [hw0]; exact (Box.new w _ _).alloc _
  have hb2 : Box w0 (w.heap.size + 1) 24 #[.int .i64 q.h, sv9 q.a, sv9 q.b, sv9 q.c, sv9 q.d] := by
    rw [hw0]
    have h := Box.new (w.alloc (.cells #[.int .i64 p.h, sv9 p.a, sv9 p.b, sv9 p.c, sv9 p.d] 24)) 24 #[.int .i64 q.h, sv9 q.a, sv9 q.b, sv9 q.c, sv9 q.d]
    rw [World.size_alloc] at h
    exact h
  have H1 : Hid (∀ W, Gr w0 W → W.cell? ⟨w.heap.size, 0, none⟩ = some (.int .i64 p.h)) := fun W ht => (hb1.turn ht.turn (fun f => f)).cell 0
  have H2 : Hid (∀ W, Gr w0 W → W.cell? ⟨w.heap.size + 1, 0, none⟩ = some (.int .i64 q.h)) := fun W ht => (hb2.turn ht.turn (fun f => f)).cell 0
  have HD1 : Hid (∀ W, Gr w0 W → ∀ i, i < 4 → W.cell? ((⟨w.heap.size, 1, none⟩ : Addr).add i) = some (sv9 (p.dim i))) := fun W ht i hi => by
    have h := dim_cell (o := 1) (hb1.turn ht.turn (fun f => f)) key_cells i hi
    unfold Addr.add
    split
    · rename_i e; subst e; exact h
    · exact h
  have HD2 : Hid (∀ W, Gr w0 W → ∀ i, i < 4 → W.cell? ((⟨w.heap.size + 1, 1, none⟩ : Addr).add i) = some (sv9 (q.dim i))) := fun W ht i hi => by
    have h := dim_cell (o := 1) (hb2.turn ht.turn (fun f => f)) key_cells i hi
    unfold Addr.add
    split
    · rename_i e; subst e; exact h
    · exact h
  have HW := Lib.hid hw0
  have HC : Hid (∀ W, Gr w0 W → Calls Try.prog 31 #[.slice (some ⟨w.heap.size, 1, none⟩) 4 4, .slice (some ⟨w.heap.size + 1, 1, none⟩) 4 4] W fun e w' => e = .returned (.int .i64 (dimsC p q 4)) ∧ w' = W) := fun W ht => cmp_dims9 p q _ _ W (HD1.out W ht) (HD2.out W ht)
  have HN : Hid (∀ W, Calls Try.prog 30 #[.int .i64 p.h, .int .i64 q.h] W fun e w' => e = .returned (.int .i64 (cmpI p.h q.h)) ∧ w' = W) := fun W => cmp_num9 p.h q.h W
  have HO : Hid (∀ W : World, Calls Try.prog 29 #[.slice (some ⟨W.heap.size, 0, none⟩) 2 2] (W.alloc (.cells #[.int .i64 (cmpI p.h q.h), .int .i64 (dimsC p q 4)] 3)) fun e w' => e = .returned (.int .i64 (cmpK p q)) ∧ w' = W.alloc (.cells #[.int .i64 (cmpI p.h q.h), .int .i64 (dimsC p q 4)] 3)) := fun W => by
    have h := or_row9 (cmpI p.h q.h) (dimsC p q 4) W
    rwa [or_key] at h
  generalize cmpI p.h q.h = ca at *
  generalize dimsC p q 4 = cb at *
  generalize cmpK p q = cc at *
  clear hb1 hb2 hw0 HD1 HD2
  go_enter Try.func8, Try.ntmps8
  go_wp2_with fail
  rw [← HW.out]
  refine drawn_region (fun V => Gr w0 V) [] (by kernel_rfl) ?_
  have ht0 : Gr w0 (World.drew w0) := (Gr.refl w0).drew
  generalize World.drew w0 = wd at *
  have HD := Lib.hid ht0
  have hS0 := ht0
  clear ht0
  refine drawn_take 0 5 (.pointer (some ⟨w.heap.size, 0, none⟩)) rfl rfl (by kernel_rfl) (by kernel_rfl) (by kernel_rfl) (by kernel_rfl) (fun _ _ _ h => h) (by rfl) (by assumption) (by intro w hSw; obtain hS1 := hSw; go_simp) ?_
  try simp only [List.setIfInBounds_toArray, List.set_cons_zero, List.set_cons_succ]
  refine drawn_take 1 6 (.int .i64 p.h) rfl rfl (by kernel_rfl) (by kernel_rfl) (by kernel_rfl) (by kernel_rfl) (fun _ _ _ h => h) (by rfl) (by assumption) (by intro w hSw; have a0 := H1.out w hSw; go_simp) ?_
  try simp only [List.setIfInBounds_toArray, List.set_cons_zero, List.set_cons_succ]
  refine drawn_take 2 7 (.pointer (some ⟨w.heap.size + 1, 0, none⟩)) rfl rfl (by kernel_rfl) (by kernel_rfl) (by kernel_rfl) (by kernel_rfl) (fun _ _ _ h => h) (by rfl) (by assumption) (by intro w hSw; obtain hS1 := hSw; go_simp) ?_
  try simp only [List.setIfInBounds_toArray, List.set_cons_zero, List.set_cons_succ]
  refine drawn_take 3 8 (.int .i64 q.h) rfl rfl (by kernel_rfl) (by kernel_rfl) (by kernel_rfl) (by kernel_rfl) (fun _ _ _ h => h) (by rfl) (by assumption) (by intro w hSw; have a0 := H2.out w hSw; go_simp) ?_
  try simp only [List.setIfInBounds_toArray, List.set_cons_zero, List.set_cons_succ]
  refine drawn_take 5 10 (.pointer (some ⟨w.heap.size, 1, none⟩)) rfl rfl (by kernel_rfl) (by kernel_rfl) (by kernel_rfl) (by kernel_rfl) (fun _ _ _ h => h) (by rfl) (by assumption) (by intro w hSw; obtain hS1 := hSw; go_simp) ?_
  try simp only [List.setIfInBounds_toArray, List.set_cons_zero, List.set_cons_succ]
  refine drawn_take 6 11 (.slice (some ⟨w.heap.size, 1, none⟩) 4 4) rfl rfl (by kernel_rfl) (by kernel_rfl) (by kernel_rfl) (by kernel_rfl) (fun _ _ _ h => h) (by rfl) (by assumption) (by intro w hSw; obtain hS1 := hSw; go_simp) ?_
  try simp only [List.setIfInBounds_toArray, List.set_cons_zero, List.set_cons_succ]
  refine drawn_take 7 12 (.pointer (some ⟨w.heap.size + 1, 1, none⟩)) rfl rfl (by kernel_rfl) (by kernel_rfl) (by kernel_rfl) (by kernel_rfl) (fun _ _ _ h => h) (by rfl) (by assumption) (by intro w hSw; obtain hS1 := hSw; go_simp) ?_
  try simp only [List.setIfInBounds_toArray, List.set_cons_zero, List.set_cons_succ]
  refine drawn_take 8 13 (.slice (some ⟨w.heap.size + 1, 1, none⟩) 4 4) rfl rfl (by kernel_rfl) (by kernel_rfl) (by kernel_rfl) (by kernel_rfl) (fun _ _ _ h => h) (by rfl) (by assumption) (by intro w hSw; obtain hS1 := hSw; go_simp) ?_
  try simp only [List.setIfInBounds_toArray, List.set_cons_zero, List.set_cons_succ]
  refine drawn_any [4] (by kernel_rfl) (by simp) ?_
  refine drawn_cons rfl (fun K hK => ?_) drawn_nil
  go_simp
  refine (HN.out wd).mono ?_
  rintro e w2 ⟨rfl, rfl⟩
  refine hK.out _ _ _ hS0 ?_
  clear hK K
  try simp only [List.setIfInBounds_toArray, List.set_cons_zero, List.set_cons_succ]
  refine drawn_any [9] (by kernel_rfl) (by simp) ?_
  refine drawn_cons rfl (fun K hK => ?_) drawn_nil
  go_simp
  refine (HC.out _ hS0).mono ?_
  rintro e w3 ⟨rfl, rfl⟩
  refine hK.out _ _ _ hS0 ?_
  clear hK K
  try simp only [List.setIfInBounds_toArray, List.set_cons_zero, List.set_cons_succ]
  refine drawn_any [10] (by kernel_rfl) (by simp) ?_
  refine drawn_cons rfl (fun K hK => ?_) drawn_nil
  go_simp
  have hS4 := hS0.alloc (.cells #[.int .i64 ca, .int .i64 cb] 3)
  refine hK.out _ _ _ hS4 ?_
  clear hK K
  try simp only [List.setIfInBounds_toArray, List.set_cons_zero, List.set_cons_succ]
  refine drawn_any [11] (by kernel_rfl) (by simp) ?_
  refine drawn_cons rfl (fun K hK => ?_) drawn_nil
  go_simp
  refine (HO.out _).mono ?_
  rintro e w5 ⟨rfl, rfl⟩
  refine hK.out _ _ _ hS4 ?_
  clear hK K
  try simp only [List.setIfInBounds_toArray, List.set_cons_zero, List.set_cons_succ]
  refine drawn_last1 12 4 (.int .i64 cc) rfl rfl (by kernel_rfl) (by kernel_rfl) (by rfl) (by intro w; go_simp) hS4 ?_
  try simp only [List.setIfInBounds_toArray, List.set_cons_zero, List.set_cons_succ]
  have HF := Lib.hid (HT0.out.trans hS4)
  clear hS0 hS4
  go_wp2
  go_ret
  exact ⟨rfl, HF.out⟩

theorem compare_any9 (p q : K9) (w : World) : Calls Try.prog 8 #[kv9 p, kv9 q] w fun e w' => e = .returned (.int .i64 (cmpK p q)) ∧ Turn (fun _ => False) w w' :=
  (compare_gr9 p q w).mono fun _ _ h => ⟨h.1, h.2.turn⟩

end Go.Proofs.Ytejilonhdgfkbaa
