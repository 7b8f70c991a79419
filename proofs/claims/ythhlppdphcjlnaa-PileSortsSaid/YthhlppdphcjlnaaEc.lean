
/-
  The document's pile: Push.
-/
import Derived.Test.YthhlppdphcjlnaaEb
import Derived.Test.YthhlppdphcjlnaaEg
namespace Go.Proofs.Ythhlppdphcjlnaa
open Go.RowKit Go.ChangeShapes Go.WideShapes Go.Deep

set_option maxRecDepth 100000 in
set_option maxHeartbeats 4000000 in
theorem ref_push7 (g : Nat) (sv : Value) (L : List (Int × List UInt8)) (x : Int × List UInt8) (w : World) (hm : RP w g sv L) (hl : L.length ≤ 1000000) :
    Calls Try.prog 11 #[.pointer (some ⟨g, 0, none⟩), iv x] w fun e w' => (∃ v, e = .returned v) ∧ ∃ sv', RP w' g sv' (insS ltW x L) ∧ Turn (fun j => j = g) w w' ∧ ∀ j, sv'.ownBlock = some j → w.heap.size ≤ j := by
  obtain ⟨k, s⟩ := x
  unfold iv
  dsimp only
  have HM := Lib.hid hm
  obtain ⟨A, c, rfl⟩ := hm.row.shape
  obtain ⟨w0, hw0⟩ : ∃ w0, w0 = w.alloc (.cells #[.int .i64 k, .string ⟨s.toArray⟩] 27) := ⟨_, rfl⟩
  have HT0 : Hid (Turn (fun _ => False) w w0) := by rw [hw0]; exact (Turn.refl _ w).alloc _
  have HBX : Hid (Box w0 w.heap.size 27 #[.int .i64 k, .string ⟨s.toArray⟩]) := by rw [hw0]; exact Box.new w _ _
  have H0 := Lib.hid (hm.later HT0.out)
  have hle := posS_le (lt := ltW) (k, s) L
  have hp1 : Hid (∀ i y, L[i]? = some y → i < posS ltW (k, s) L → y.1 ≤ k) := fun i y h1 h2 => by have := posS_at h1 h2; unfold ltW at this; simpa using this
  have hp2 : Hid (∀ y, L[posS ltW (k, s) L]? = some y → k < y.1) := fun y h1 => by have := posS_end h1; unfold ltW at this; simpa using this
  have hfit := hm.row.fits
  show Calls _ _ _ _ fun e w' => (∃ v, e = .returned v) ∧ ∃ sv', RP w' g sv' (L.take (posS ltW (k, s) L) ++ (k, s) :: L.drop (posS ltW (k, s) L)) ∧ Turn (fun j => j = g) w w' ∧ ∀ j, sv'.ownBlock = some j → w.heap.size ≤ j
  have HF := Lib.hid (fun w' ht => frontE_rd H0.out.row hle w' ht)
  have HTL := Lib.hid (fun w' v ht hv => tailE_rd H0.out.row hle w' ht (v := v) hv)
  generalize posS ltW (k, s) L = P at *
  have hobj := H0.out.obj.cell 0
  have cx0 := HBX.out.cell 0
  have cx1 := HBX.out.cell 1
  have HSK : Hid (∀ W, Turn (fun _ => False) w0 W → (W.cell? ⟨g, 0, none⟩ = some (.slice A L.length c) ∧ W.cell? ⟨w.heap.size, 0, none⟩ = some (.int .i64 k) ∧ W.cell? ⟨w.heap.size, 1, none⟩ = some (.string ⟨s.toArray⟩)) ∧ Turn (fun _ => False) w0 W) :=
    fun W ht => ⟨⟨(H0.out.obj.turn ht (fun f => f)).cell 0, (HBX.out.turn ht (fun f => f)).cell 0, (HBX.out.turn ht (fun f => f)).cell 1⟩, ht⟩
  have HW0 := Lib.hid hw0
  have HEND : Hid (∀ w3 v, NewI w0 w3 v ((([] ++ L.take P) ++ [(k, s)]) ++ L.drop P) → ∃ sv', RP (w3.setCell ⟨g, 0, none⟩ v) g sv' (L.take P ++ (k, s) :: L.drop P) ∧ Turn (fun j => j = g) w (w3.setCell ⟨g, 0, none⟩ v) ∧ ∀ j, sv'.ownBlock = some j → w.heap.size ≤ j) := fun w3 v hn => by
    obtain ⟨sv', h1, h2, h3⟩ := rp_set H0.out hn
    rw [List.nil_append, List.append_assoc, List.singleton_append] at h1
    exact ⟨sv', h1, (HT0.out.mono (fun _ _ f => f.elim)).trans h2 (fun _ _ e => e), fun j hj => Nat.le_trans HT0.out.size (h3 j hj)⟩
  have HFR : Hid (∀ w3, Turn (fun _ => False) w0 w3 → w3.frozen? ⟨g, 0, none⟩ = false ∧ w3.cell? ⟨g, 0, none⟩ = some (.slice A L.length c)) := fun w3 ht => ⟨(H0.out.obj.turn ht (fun f => f)).free 0, (H0.out.obj.turn ht (fun f => f)).cell 0⟩
  clear hm
  have hP0 : (0 : Int) ≤ P := by omega
  have hPl : (P : Int) ≤ L.length := by omega
  have hPc : (P : Int) ≤ c := by omega
  go_enter Try.func11, Try.ntmps11
  clear hw0
  go_wp2_with fail
  rw [← HW0.out]
  clear HM
  go_loopw [4] (fun x4 wr => ∃ i : Nat, x4 = .int .i64 (i : Int) ∧ i ≤ P ∧ ∃ n, wr = w0.drewN n) (fun x4 _ => P - (intOf x4).toNat)
  case atStart => exact ⟨0, rfl, Nat.zero_le _, 0, rfl⟩
  case round =>
    obtain ⟨i, rfl, hi, n, rfl⟩ := hrel
    by_cases hip : i < P
    · obtain ⟨y, hy⟩ : ∃ y, L[i]? = some y := ⟨_, List.getElem?_eq_getElem (by omega)⟩
      obtain ⟨ad, rfl, hc⟩ := item_at H0.out.row hy
      obtain ⟨e0, e1⟩ := hc w0 (Turn.refl _ _)
      have hyk := hp1.out i y hy hip
      have hiL : i < L.length := by omega
      clear hc hy
      go_wp2
      go_quiet (fail)
      go_wp2
      go_roundw
      case rel => exact ⟨i + 1, by go_num, hip, n + nq, by simp [World.drewN]⟩
      case measure => simp [intOf]; omega
    · obtain rfl : i = P := by omega
      cases A with
      | none =>
        obtain ⟨hL, hc⟩ := hfit.2.2.2 rfl
        subst hL hc
        obtain rfl : i = 0 := by simpa using hle
        clear hfit
        have HFN : Hid (∀ W, RdE EI W (.slice none 0 0) []) := fun W => RdE.nil W
        simp only [List.length_nil] at hobj HSK HFR H0
        go_wp2
        go_quiet (fail)
        go_wp2_with fail
        have HTD : Hid (Turn (fun _ => False) w0 (World.drew (World.drewN (World.drewN w0 n) nq))) := (((Turn.refl _ w0).drewN _).drewN _).drew
        refine drawn_region (fun W => (W.cell? ⟨g, 0, none⟩ = some (.slice none 0 0) ∧ W.cell? ⟨w.heap.size, 0, none⟩ = some (.int .i64 k) ∧ W.cell? ⟨w.heap.size, 1, none⟩ = some (.string ⟨s.toArray⟩)) ∧ Turn (fun _ => False) w0 W) [21] (by kernel_rfl) ?_
        generalize World.drew (World.drewN (World.drewN w0 n) nq) = wd at *
        have hS0 := HSK.out _ HTD.out
        refine drawn_take 0 27 (.pointer (some ⟨g, 0, none⟩)) rfl rfl (by kernel_rfl) (by kernel_rfl) (by kernel_rfl) (by kernel_rfl) (fun _ _ _ h => h) (by rfl) (by assumption) (by intro w hSw; obtain ⟨⟨hS1, hS2, hS3⟩, hS4⟩ := hSw; go_simp) ?_
        try simp only [List.setIfInBounds_toArray, List.set_cons_zero, List.set_cons_succ]
        refine drawn_take 2 29 (.pointer (some ⟨g, 0, none⟩)) rfl rfl (by kernel_rfl) (by kernel_rfl) (by kernel_rfl) (by kernel_rfl) (fun _ _ _ h => h) (by rfl) (by assumption) (by intro w hSw; obtain ⟨⟨hS1, hS2, hS3⟩, hS4⟩ := hSw; go_simp) ?_
        try simp only [List.setIfInBounds_toArray, List.set_cons_zero, List.set_cons_succ]
        refine drawn_take 3 30 (.pointer (some ⟨g, 0, none⟩)) rfl rfl (by kernel_rfl) (by kernel_rfl) (by kernel_rfl) (by kernel_rfl) (fun _ _ _ h => h) (by rfl) (by assumption) (by intro w hSw; obtain ⟨⟨hS1, hS2, hS3⟩, hS4⟩ := hSw; go_simp) ?_
        try simp only [List.setIfInBounds_toArray, List.set_cons_zero, List.set_cons_succ]
        refine drawn_take 4 31 (.pointer (some ⟨g, 0, none⟩)) rfl rfl (by kernel_rfl) (by kernel_rfl) (by kernel_rfl) (by kernel_rfl) (fun _ _ _ h => h) (by rfl) (by assumption) (by intro w hSw; obtain ⟨⟨hS1, hS2, hS3⟩, hS4⟩ := hSw; go_simp) ?_
        try simp only [List.setIfInBounds_toArray, List.set_cons_zero, List.set_cons_succ]
        refine drawn_take 5 32 (.slice none 0 0) rfl rfl (by kernel_rfl) (by kernel_rfl) (by kernel_rfl) (by kernel_rfl) (fun _ _ _ h => h) (by rfl) (by assumption) (by intro w hSw; obtain ⟨⟨hS1, hS2, hS3⟩, hS4⟩ := hSw; go_simp) ?_
        try simp only [List.setIfInBounds_toArray, List.set_cons_zero, List.set_cons_succ]
        refine drawn_take 6 33 (.int .i64 0) rfl rfl (by kernel_rfl) (by kernel_rfl) (by kernel_rfl) (by kernel_rfl) (fun _ _ _ h => h) (by rfl) (by assumption) (by intro w hSw; obtain ⟨⟨hS1, hS2, hS3⟩, hS4⟩ := hSw; go_simp) ?_
        try simp only [List.setIfInBounds_toArray, List.set_cons_zero, List.set_cons_succ]
        refine drawn_take 7 34 (.slice none 0 0) rfl rfl (by kernel_rfl) (by kernel_rfl) (by kernel_rfl) (by kernel_rfl) (fun _ _ _ h => h) (by rfl) (by assumption) (by intro w hSw; obtain ⟨⟨hS1, hS2, hS3⟩, hS4⟩ := hSw; go_simp) ?_
        try simp only [List.setIfInBounds_toArray, List.set_cons_zero, List.set_cons_succ]
        refine drawn_take 9 36 (.agg #[.int .i64 k, .string ⟨s.toArray⟩]) rfl rfl (by kernel_rfl) (by kernel_rfl) (by kernel_rfl) (by kernel_rfl) (fun _ _ _ h => h) (by rfl) (by assumption) (by intro w hSw; obtain ⟨⟨hS1, hS2, hS3⟩, hS4⟩ := hSw; go_simp) ?_
        try simp only [List.setIfInBounds_toArray, List.set_cons_zero, List.set_cons_succ]
        refine drawn_take 12 39 (.pointer (some ⟨g, 0, none⟩)) rfl rfl (by kernel_rfl) (by kernel_rfl) (by kernel_rfl) (by kernel_rfl) (fun _ _ _ h => h) (by rfl) (by assumption) (by intro w hSw; obtain ⟨⟨hS1, hS2, hS3⟩, hS4⟩ := hSw; go_simp) ?_
        try simp only [List.setIfInBounds_toArray, List.set_cons_zero, List.set_cons_succ]
        refine drawn_take 13 40 (.pointer (some ⟨g, 0, none⟩)) rfl rfl (by kernel_rfl) (by kernel_rfl) (by kernel_rfl) (by kernel_rfl) (fun _ _ _ h => h) (by rfl) (by assumption) (by intro w hSw; obtain ⟨⟨hS1, hS2, hS3⟩, hS4⟩ := hSw; go_simp) ?_
        try simp only [List.setIfInBounds_toArray, List.set_cons_zero, List.set_cons_succ]
        refine drawn_take 14 41 (.pointer (some ⟨g, 0, none⟩)) rfl rfl (by kernel_rfl) (by kernel_rfl) (by kernel_rfl) (by kernel_rfl) (fun _ _ _ h => h) (by rfl) (by assumption) (by intro w hSw; obtain ⟨⟨hS1, hS2, hS3⟩, hS4⟩ := hSw; go_simp) ?_
        try simp only [List.setIfInBounds_toArray, List.set_cons_zero, List.set_cons_succ]
        refine drawn_take 15 42 (.slice none 0 0) rfl rfl (by kernel_rfl) (by kernel_rfl) (by kernel_rfl) (by kernel_rfl) (fun _ _ _ h => h) (by rfl) (by assumption) (by intro w hSw; obtain ⟨⟨hS1, hS2, hS3⟩, hS4⟩ := hSw; go_simp) ?_
        try simp only [List.setIfInBounds_toArray, List.set_cons_zero, List.set_cons_succ]
        refine drawn_take 16 43 (.int .i64 0) rfl rfl (by kernel_rfl) (by kernel_rfl) (by kernel_rfl) (by kernel_rfl) (fun _ _ _ h => h) (by rfl) (by assumption) (by intro w hSw; obtain ⟨⟨hS1, hS2, hS3⟩, hS4⟩ := hSw; go_simp) ?_
        try simp only [List.setIfInBounds_toArray, List.set_cons_zero, List.set_cons_succ]
        refine drawn_take 17 44 (.slice none 0 0) rfl rfl (by kernel_rfl) (by kernel_rfl) (by kernel_rfl) (by kernel_rfl) (fun _ _ _ h => h) (by rfl) (by assumption) (by intro w hSw; obtain ⟨⟨hS1, hS2, hS3⟩, hS4⟩ := hSw; go_simp) ?_
        try simp only [List.setIfInBounds_toArray, List.set_cons_zero, List.set_cons_succ]
        refine drawn_any [1, 10] (by kernel_rfl) (by simp) ?_
        refine drawn_cons rfl (fun K hK => ?_) ?_
        · go_simp
          have HN0 := Lib.hid (NewE.empty (E := EI) (e := 27) w0 wd HTD.out)
          refine hK.out _ _ _ (HSK.out _ HN0.out.turn) ?_
          clear hK K
          try simp only [List.setIfInBounds_toArray, List.set_cons_zero, List.set_cons_succ]
          have hS1 := HSK.out _ HN0.out.turn
          skip
          refine drawn_any [8, 10] (by kernel_rfl) (by simp) ?_
          refine drawn_cons rfl (fun K hK => ?_) ?_
          · refine put_items [] HN0.out.own ([] : List (Int × List UInt8)) (HFN.out _) (by first | (simp; done) | (simp; omega)) ?_
            intro A1 n1 c1 w1 ho ht hn
            have HN1 := Lib.hid (HN0.out.step ho ht hn)
            clear ho ht hn
            refine hK.out _ _ _ (HSK.out _ HN1.out.turn) ?_
            clear hK K
            try simp only [List.setIfInBounds_toArray, List.set_cons_zero, List.set_cons_succ]
            have hS2 := HSK.out _ HN1.out.turn
            refine drawn_any [10] (by kernel_rfl) (by simp) ?_
            refine drawn_cons rfl (fun K hK => ?_) ?_
            · go_simp
              have HNX := Lib.hid (HN1.out.alloc (.cells #[.int .i64 k, .string ⟨s.toArray⟩] 27))
              have HXS := Lib.hid (item_src w1 (k, s))
              refine hK.out _ _ _ (HSK.out _ HNX.out.turn) ?_
              clear hK K
              try simp only [List.setIfInBounds_toArray, List.set_cons_zero, List.set_cons_succ]
              have hS3 := HSK.out _ HNX.out.turn
              refine drawn_any [11] (by kernel_rfl) (by simp) ?_
              refine drawn_cons rfl (fun K hK => ?_) ?_
              · refine put_items ([] ++ ([] : List (Int × List UInt8))) HNX.out.own [(k, s)] HXS.out (by first | (simp; done) | (simp; omega)) ?_
                intro A2 n2 c2 w2 ho ht hn
                have HN2 := Lib.hid (HNX.out.step ho ht hn)
                clear ho ht hn
                refine hK.out _ _ _ (HSK.out _ HN2.out.turn) ?_
                clear hK K
                try simp only [List.setIfInBounds_toArray, List.set_cons_zero, List.set_cons_succ]
                have hS4 := HSK.out _ HN2.out.turn
                refine drawn_any [18] (by kernel_rfl) (by simp) ?_
                refine drawn_cons rfl (fun K hK => ?_) ?_
                · refine put_items (([] ++ ([] : List (Int × List UInt8))) ++ [(k, s)]) HN2.out.own ([] : List (Int × List UInt8)) (HFN.out _) (by first | (simp; done) | (simp; omega)) ?_
                  intro A3 n3 c3 w3 ho ht hn
                  have HN3 := Lib.hid (HN2.out.step ho ht hn)
                  clear ho ht hn
                  refine hK.out _ _ _ (HSK.out _ HN3.out.turn) ?_
                  clear hK K
                  try simp only [List.setIfInBounds_toArray, List.set_cons_zero, List.set_cons_succ]
                  have hS5 := HSK.out _ HN3.out.turn
                  refine drawn_take 19 46 (.pointer (some ⟨g, 0, none⟩)) rfl rfl (by kernel_rfl) (by kernel_rfl) (by kernel_rfl) (by kernel_rfl) (fun _ _ _ h => h) (by rfl) (by assumption) (by intro w hSw; obtain ⟨⟨hS1, hS2, hS3⟩, hS4⟩ := hSw; go_simp) ?_
                  try simp only [List.setIfInBounds_toArray, List.set_cons_zero, List.set_cons_succ]
                  refine drawn_take 20 47 (.pointer (some ⟨g, 0, none⟩)) rfl rfl (by kernel_rfl) (by kernel_rfl) (by kernel_rfl) (by kernel_rfl) (fun _ _ _ h => h) (by rfl) (by assumption) (by intro w hSw; obtain ⟨⟨hS1, hS2, hS3⟩, hS4⟩ := hSw; go_simp) ?_
                  try simp only [List.setIfInBounds_toArray, List.set_cons_zero, List.set_cons_succ]
                  refine drawn_last (z := 21) rfl (by kernel_rfl) (by kernel_rfl) (by kernel_rfl) (fun K hK => ?_)
                  obtain ⟨hfz, hcz⟩ := HFR.out w3 HN3.out.turn
                  go_simp
                  refine hK.out _ _ ?_
                  clear hK K
                  go_wp2
                  go_end0
                  exact ⟨⟨_, rfl⟩, HEND.out _ _ HN3.out⟩
                exact drawn_nil
              exact drawn_nil
            exact drawn_nil
          refine drawn_cons rfl (fun K hK => ?_) ?_
          · go_simp
            have HNX := Lib.hid (HN0.out.alloc (.cells #[.int .i64 k, .string ⟨s.toArray⟩] 27))
            have HXS := Lib.hid (item_src (wd.alloc (.cells #[] 27)) (k, s))
            rw [World.size_alloc] at HXS
            refine hK.out _ _ _ (HSK.out _ HNX.out.turn) ?_
            clear hK K
            try simp only [List.setIfInBounds_toArray, List.set_cons_zero, List.set_cons_succ]
            have hS3 := HSK.out _ HNX.out.turn
            refine drawn_any [8] (by kernel_rfl) (by simp) ?_
            have HXX := HXS
            refine drawn_cons rfl (fun K hK => ?_) ?_
            · refine put_items [] HNX.out.own ([] : List (Int × List UInt8)) (HFN.out _) (by first | (simp; done) | (simp; omega)) ?_
              intro A1 n1 c1 w1 ho ht hn
              have HN1 := Lib.hid (HNX.out.step ho ht hn)
              have HX1 := Lib.hid (HXX.out.turn ht (fun b hb e => absurd (Option.some.inj (hb.trans e.symm : some _ = some _)) (by simp)))
              clear ho ht hn
              refine hK.out _ _ _ (HSK.out _ HN1.out.turn) ?_
              clear hK K
              try simp only [List.setIfInBounds_toArray, List.set_cons_zero, List.set_cons_succ]
              have hS3 := HSK.out _ HN1.out.turn
              refine drawn_any [11] (by kernel_rfl) (by simp) ?_
              refine drawn_cons rfl (fun K hK => ?_) ?_
              · refine put_items ([] ++ ([] : List (Int × List UInt8))) HN1.out.own [(k, s)] HX1.out (by first | (simp; done) | (simp; omega)) ?_
                intro A2 n2 c2 w2 ho ht hn
                have HN2 := Lib.hid (HN1.out.step ho ht hn)
                clear ho ht hn
                refine hK.out _ _ _ (HSK.out _ HN2.out.turn) ?_
                clear hK K
                try simp only [List.setIfInBounds_toArray, List.set_cons_zero, List.set_cons_succ]
                have hS4 := HSK.out _ HN2.out.turn
                refine drawn_any [18] (by kernel_rfl) (by simp) ?_
                refine drawn_cons rfl (fun K hK => ?_) ?_
                · refine put_items (([] ++ ([] : List (Int × List UInt8))) ++ [(k, s)]) HN2.out.own ([] : List (Int × List UInt8)) (HFN.out _) (by first | (simp; done) | (simp; omega)) ?_
                  intro A3 n3 c3 w3 ho ht hn
                  have HN3 := Lib.hid (HN2.out.step ho ht hn)
                  clear ho ht hn
                  refine hK.out _ _ _ (HSK.out _ HN3.out.turn) ?_
                  clear hK K
                  try simp only [List.setIfInBounds_toArray, List.set_cons_zero, List.set_cons_succ]
                  have hS5 := HSK.out _ HN3.out.turn
                  refine drawn_take 19 46 (.pointer (some ⟨g, 0, none⟩)) rfl rfl (by kernel_rfl) (by kernel_rfl) (by kernel_rfl) (by kernel_rfl) (fun _ _ _ h => h) (by rfl) (by assumption) (by intro w hSw; obtain ⟨⟨hS1, hS2, hS3⟩, hS4⟩ := hSw; go_simp) ?_
                  try simp only [List.setIfInBounds_toArray, List.set_cons_zero, List.set_cons_succ]
                  refine drawn_take 20 47 (.pointer (some ⟨g, 0, none⟩)) rfl rfl (by kernel_rfl) (by kernel_rfl) (by kernel_rfl) (by kernel_rfl) (fun _ _ _ h => h) (by rfl) (by assumption) (by intro w hSw; obtain ⟨⟨hS1, hS2, hS3⟩, hS4⟩ := hSw; go_simp) ?_
                  try simp only [List.setIfInBounds_toArray, List.set_cons_zero, List.set_cons_succ]
                  refine drawn_last (z := 21) rfl (by kernel_rfl) (by kernel_rfl) (by kernel_rfl) (fun K hK => ?_)
                  obtain ⟨hfz, hcz⟩ := HFR.out w3 HN3.out.turn
                  go_simp
                  refine hK.out _ _ ?_
                  clear hK K
                  go_wp2
                  go_end0
                  exact ⟨⟨_, rfl⟩, HEND.out _ _ HN3.out⟩
                exact drawn_nil
              exact drawn_nil
            exact drawn_nil
          exact drawn_nil
        refine drawn_cons rfl (fun K hK => ?_) ?_
        · go_simp
          have HX0 := Lib.hid (item_src wd (k, s))
          have HTX : Hid (Turn (fun _ => False) w0 (wd.alloc (.cells #[.int .i64 k, .string ⟨s.toArray⟩] 27))) := HTD.out.alloc _
          refine hK.out _ _ _ (HSK.out _ HTX.out) ?_
          clear hK K
          try simp only [List.setIfInBounds_toArray, List.set_cons_zero, List.set_cons_succ]
          have hS1 := HSK.out _ HTX.out
          refine drawn_any [1] (by kernel_rfl) (by simp) ?_
          refine drawn_cons rfl (fun K hK => ?_) ?_
          · go_simp
            have HN0 := Lib.hid (NewE.empty (E := EI) (e := 27) w0 _ HTX.out)
            rw [World.size_alloc] at HN0
            have HXS := Lib.hid (HX0.out.later ((Turn.refl _ _).alloc (.cells #[] 27)))
            refine hK.out _ _ _ (HSK.out _ HN0.out.turn) ?_
            clear hK K
            try simp only [List.setIfInBounds_toArray, List.set_cons_zero, List.set_cons_succ]
            have hS3 := HSK.out _ HN0.out.turn
            refine drawn_any [8] (by kernel_rfl) (by simp) ?_
            have HXX := HXS
            refine drawn_cons rfl (fun K hK => ?_) ?_
            · refine put_items [] HN0.out.own ([] : List (Int × List UInt8)) (HFN.out _) (by first | (simp; done) | (simp; omega)) ?_
              intro A1 n1 c1 w1 ho ht hn
              have HN1 := Lib.hid (HN0.out.step ho ht hn)
              have HX1 := Lib.hid (HXX.out.turn ht (fun b hb e => absurd (Option.some.inj (hb.trans e.symm : some _ = some _)) (by simp)))
              clear ho ht hn
              refine hK.out _ _ _ (HSK.out _ HN1.out.turn) ?_
              clear hK K
              try simp only [List.setIfInBounds_toArray, List.set_cons_zero, List.set_cons_succ]
              have hS3 := HSK.out _ HN1.out.turn
              refine drawn_any [11] (by kernel_rfl) (by simp) ?_
              refine drawn_cons rfl (fun K hK => ?_) ?_
              · refine put_items ([] ++ ([] : List (Int × List UInt8))) HN1.out.own [(k, s)] HX1.out (by first | (simp; done) | (simp; omega)) ?_
                intro A2 n2 c2 w2 ho ht hn
                have HN2 := Lib.hid (HN1.out.step ho ht hn)
                clear ho ht hn
                refine hK.out _ _ _ (HSK.out _ HN2.out.turn) ?_
                clear hK K
                try simp only [List.setIfInBounds_toArray, List.set_cons_zero, List.set_cons_succ]
                have hS4 := HSK.out _ HN2.out.turn
                refine drawn_any [18] (by kernel_rfl) (by simp) ?_
                refine drawn_cons rfl (fun K hK => ?_) ?_
                · refine put_items (([] ++ ([] : List (Int × List UInt8))) ++ [(k, s)]) HN2.out.own ([] : List (Int × List UInt8)) (HFN.out _) (by first | (simp; done) | (simp; omega)) ?_
                  intro A3 n3 c3 w3 ho ht hn
                  have HN3 := Lib.hid (HN2.out.step ho ht hn)
                  clear ho ht hn
                  refine hK.out _ _ _ (HSK.out _ HN3.out.turn) ?_
                  clear hK K
                  try simp only [List.setIfInBounds_toArray, List.set_cons_zero, List.set_cons_succ]
                  have hS5 := HSK.out _ HN3.out.turn
                  refine drawn_take 19 46 (.pointer (some ⟨g, 0, none⟩)) rfl rfl (by kernel_rfl) (by kernel_rfl) (by kernel_rfl) (by kernel_rfl) (fun _ _ _ h => h) (by rfl) (by assumption) (by intro w hSw; obtain ⟨⟨hS1, hS2, hS3⟩, hS4⟩ := hSw; go_simp) ?_
                  try simp only [List.setIfInBounds_toArray, List.set_cons_zero, List.set_cons_succ]
                  refine drawn_take 20 47 (.pointer (some ⟨g, 0, none⟩)) rfl rfl (by kernel_rfl) (by kernel_rfl) (by kernel_rfl) (by kernel_rfl) (fun _ _ _ h => h) (by rfl) (by assumption) (by intro w hSw; obtain ⟨⟨hS1, hS2, hS3⟩, hS4⟩ := hSw; go_simp) ?_
                  try simp only [List.setIfInBounds_toArray, List.set_cons_zero, List.set_cons_succ]
                  refine drawn_last (z := 21) rfl (by kernel_rfl) (by kernel_rfl) (by kernel_rfl) (fun K hK => ?_)
                  obtain ⟨hfz, hcz⟩ := HFR.out w3 HN3.out.turn
                  go_simp
                  refine hK.out _ _ ?_
                  clear hK K
                  go_wp2
                  go_end0
                  exact ⟨⟨_, rfl⟩, HEND.out _ _ HN3.out⟩
                exact drawn_nil
              exact drawn_nil
            exact drawn_nil
          exact drawn_nil
        exact drawn_nil
      | some ad =>
        clear hfit
        by_cases hck : c ≤ i
        · have hLi : L.length = i := by have := H0.out.row.fits; omega
          obtain rfl : i = c := by have := H0.out.row.fits; omega
          have HT2 : Hid (∀ w', Turn (fun _ => False) w0 w' → RdE EI w' (.slice (some ad) 0 0) (L.drop i)) := fun w' ht => by have h := HTL.out w' _ ht (.inr (.inr ⟨ad, rfl, hck, rfl⟩)); rwa [hLi, Nat.sub_self] at h
          go_wp2
          go_quiet (fail)
          go_wp2_with fail
          have HTD : Hid (Turn (fun _ => False) w0 (World.drew (World.drewN (World.drewN w0 n) nq))) := (((Turn.refl _ w0).drewN _).drewN _).drew
          refine drawn_region (fun W => (W.cell? ⟨g, 0, none⟩ = some (.slice (some ad) L.length i) ∧ W.cell? ⟨w.heap.size, 0, none⟩ = some (.int .i64 k) ∧ W.cell? ⟨w.heap.size, 1, none⟩ = some (.string ⟨s.toArray⟩)) ∧ Turn (fun _ => False) w0 W) [21] (by kernel_rfl) ?_
          generalize World.drew (World.drewN (World.drewN w0 n) nq) = wd at *
          have hS0 := HSK.out _ HTD.out
          refine drawn_take 0 27 (.pointer (some ⟨g, 0, none⟩)) rfl rfl (by kernel_rfl) (by kernel_rfl) (by kernel_rfl) (by kernel_rfl) (fun _ _ _ h => h) (by rfl) (by assumption) (by intro w hSw; obtain ⟨⟨hS1, hS2, hS3⟩, hS4⟩ := hSw; go_simp) ?_
          try simp only [List.setIfInBounds_toArray, List.set_cons_zero, List.set_cons_succ]
          refine drawn_take 2 29 (.pointer (some ⟨g, 0, none⟩)) rfl rfl (by kernel_rfl) (by kernel_rfl) (by kernel_rfl) (by kernel_rfl) (fun _ _ _ h => h) (by rfl) (by assumption) (by intro w hSw; obtain ⟨⟨hS1, hS2, hS3⟩, hS4⟩ := hSw; go_simp) ?_
          try simp only [List.setIfInBounds_toArray, List.set_cons_zero, List.set_cons_succ]
          refine drawn_take 3 30 (.pointer (some ⟨g, 0, none⟩)) rfl rfl (by kernel_rfl) (by kernel_rfl) (by kernel_rfl) (by kernel_rfl) (fun _ _ _ h => h) (by rfl) (by assumption) (by intro w hSw; obtain ⟨⟨hS1, hS2, hS3⟩, hS4⟩ := hSw; go_simp) ?_
          try simp only [List.setIfInBounds_toArray, List.set_cons_zero, List.set_cons_succ]
          refine drawn_take 4 31 (.pointer (some ⟨g, 0, none⟩)) rfl rfl (by kernel_rfl) (by kernel_rfl) (by kernel_rfl) (by kernel_rfl) (fun _ _ _ h => h) (by rfl) (by assumption) (by intro w hSw; obtain ⟨⟨hS1, hS2, hS3⟩, hS4⟩ := hSw; go_simp) ?_
          try simp only [List.setIfInBounds_toArray, List.set_cons_zero, List.set_cons_succ]
          refine drawn_take 5 32 (.slice (some ad) L.length i) rfl rfl (by kernel_rfl) (by kernel_rfl) (by kernel_rfl) (by kernel_rfl) (fun _ _ _ h => h) (by rfl) (by assumption) (by intro w hSw; obtain ⟨⟨hS1, hS2, hS3⟩, hS4⟩ := hSw; go_simp) ?_
          try simp only [List.setIfInBounds_toArray, List.set_cons_zero, List.set_cons_succ]
          refine drawn_take 6 33 (.int .i64 (i : Int)) rfl rfl (by kernel_rfl) (by kernel_rfl) (by kernel_rfl) (by kernel_rfl) (fun _ _ _ h => h) (by rfl) (by assumption) (by intro w hSw; obtain ⟨⟨hS1, hS2, hS3⟩, hS4⟩ := hSw; go_simp) ?_
          try simp only [List.setIfInBounds_toArray, List.set_cons_zero, List.set_cons_succ]
          refine drawn_take 7 34 (.slice (some ad) i i) rfl rfl (by kernel_rfl) (by kernel_rfl) (by kernel_rfl) (by kernel_rfl) (fun _ _ _ h => h) (by rfl) (by assumption) (by intro w hSw; obtain ⟨⟨hS1, hS2, hS3⟩, hS4⟩ := hSw; go_simp) ?_
          try simp only [List.setIfInBounds_toArray, List.set_cons_zero, List.set_cons_succ]
          refine drawn_take 9 36 (.agg #[.int .i64 k, .string ⟨s.toArray⟩]) rfl rfl (by kernel_rfl) (by kernel_rfl) (by kernel_rfl) (by kernel_rfl) (fun _ _ _ h => h) (by rfl) (by assumption) (by intro w hSw; obtain ⟨⟨hS1, hS2, hS3⟩, hS4⟩ := hSw; go_simp) ?_
          try simp only [List.setIfInBounds_toArray, List.set_cons_zero, List.set_cons_succ]
          refine drawn_take 12 39 (.pointer (some ⟨g, 0, none⟩)) rfl rfl (by kernel_rfl) (by kernel_rfl) (by kernel_rfl) (by kernel_rfl) (fun _ _ _ h => h) (by rfl) (by assumption) (by intro w hSw; obtain ⟨⟨hS1, hS2, hS3⟩, hS4⟩ := hSw; go_simp) ?_
          try simp only [List.setIfInBounds_toArray, List.set_cons_zero, List.set_cons_succ]
          refine drawn_take 13 40 (.pointer (some ⟨g, 0, none⟩)) rfl rfl (by kernel_rfl) (by kernel_rfl) (by kernel_rfl) (by kernel_rfl) (fun _ _ _ h => h) (by rfl) (by assumption) (by intro w hSw; obtain ⟨⟨hS1, hS2, hS3⟩, hS4⟩ := hSw; go_simp) ?_
          try simp only [List.setIfInBounds_toArray, List.set_cons_zero, List.set_cons_succ]
          refine drawn_take 14 41 (.pointer (some ⟨g, 0, none⟩)) rfl rfl (by kernel_rfl) (by kernel_rfl) (by kernel_rfl) (by kernel_rfl) (fun _ _ _ h => h) (by rfl) (by assumption) (by intro w hSw; obtain ⟨⟨hS1, hS2, hS3⟩, hS4⟩ := hSw; go_simp) ?_
          try simp only [List.setIfInBounds_toArray, List.set_cons_zero, List.set_cons_succ]
          refine drawn_take 15 42 (.slice (some ad) L.length i) rfl rfl (by kernel_rfl) (by kernel_rfl) (by kernel_rfl) (by kernel_rfl) (fun _ _ _ h => h) (by rfl) (by assumption) (by intro w hSw; obtain ⟨⟨hS1, hS2, hS3⟩, hS4⟩ := hSw; go_simp) ?_
          try simp only [List.setIfInBounds_toArray, List.set_cons_zero, List.set_cons_succ]
          refine drawn_take 16 43 (.int .i64 (i : Int)) rfl rfl (by kernel_rfl) (by kernel_rfl) (by kernel_rfl) (by kernel_rfl) (fun _ _ _ h => h) (by rfl) (by assumption) (by intro w hSw; obtain ⟨⟨hS1, hS2, hS3⟩, hS4⟩ := hSw; go_simp) ?_
          try simp only [List.setIfInBounds_toArray, List.set_cons_zero, List.set_cons_succ]
          refine drawn_take 17 44 (.slice (some ad) 0 0) rfl rfl (by kernel_rfl) (by kernel_rfl) (by kernel_rfl) (by kernel_rfl) (fun _ _ _ h => h) (by rfl) (by assumption) (by intro w hSw; obtain ⟨⟨hS1, hS2, hS3⟩, hS4⟩ := hSw; go_simp) ?_
          try simp only [List.setIfInBounds_toArray, List.set_cons_zero, List.set_cons_succ]
          refine drawn_any [1, 10] (by kernel_rfl) (by simp) ?_
          refine drawn_cons rfl (fun K hK => ?_) ?_
          · go_simp
            have HN0 := Lib.hid (NewE.empty (E := EI) (e := 27) w0 wd HTD.out)
            refine hK.out _ _ _ (HSK.out _ HN0.out.turn) ?_
            clear hK K
            try simp only [List.setIfInBounds_toArray, List.set_cons_zero, List.set_cons_succ]
            have hS1 := HSK.out _ HN0.out.turn
            skip
            refine drawn_any [8, 10] (by kernel_rfl) (by simp) ?_
            refine drawn_cons rfl (fun K hK => ?_) ?_
            · refine put_items [] HN0.out.own (L.take i) (HF.out _ HN0.out.turn) (by first | (simp; done) | (simp; omega)) ?_
              intro A1 n1 c1 w1 ho ht hn
              have HN1 := Lib.hid (HN0.out.step ho ht hn)
              clear ho ht hn
              refine hK.out _ _ _ (HSK.out _ HN1.out.turn) ?_
              clear hK K
              try simp only [List.setIfInBounds_toArray, List.set_cons_zero, List.set_cons_succ]
              have hS2 := HSK.out _ HN1.out.turn
              refine drawn_any [10] (by kernel_rfl) (by simp) ?_
              refine drawn_cons rfl (fun K hK => ?_) ?_
              · go_simp
                have HNX := Lib.hid (HN1.out.alloc (.cells #[.int .i64 k, .string ⟨s.toArray⟩] 27))
                have HXS := Lib.hid (item_src w1 (k, s))
                refine hK.out _ _ _ (HSK.out _ HNX.out.turn) ?_
                clear hK K
                try simp only [List.setIfInBounds_toArray, List.set_cons_zero, List.set_cons_succ]
                have hS3 := HSK.out _ HNX.out.turn
                refine drawn_any [11] (by kernel_rfl) (by simp) ?_
                refine drawn_cons rfl (fun K hK => ?_) ?_
                · refine put_items ([] ++ (L.take i)) HNX.out.own [(k, s)] HXS.out (by first | (simp; done) | (simp; omega)) ?_
                  intro A2 n2 c2 w2 ho ht hn
                  have HN2 := Lib.hid (HNX.out.step ho ht hn)
                  clear ho ht hn
                  refine hK.out _ _ _ (HSK.out _ HN2.out.turn) ?_
                  clear hK K
                  try simp only [List.setIfInBounds_toArray, List.set_cons_zero, List.set_cons_succ]
                  have hS4 := HSK.out _ HN2.out.turn
                  refine drawn_any [18] (by kernel_rfl) (by simp) ?_
                  refine drawn_cons rfl (fun K hK => ?_) ?_
                  · refine put_items (([] ++ (L.take i)) ++ [(k, s)]) HN2.out.own (L.drop i) (HT2.out _ HN2.out.turn) (by first | (simp; done) | (simp; omega)) ?_
                    intro A3 n3 c3 w3 ho ht hn
                    have HN3 := Lib.hid (HN2.out.step ho ht hn)
                    clear ho ht hn
                    refine hK.out _ _ _ (HSK.out _ HN3.out.turn) ?_
                    clear hK K
                    try simp only [List.setIfInBounds_toArray, List.set_cons_zero, List.set_cons_succ]
                    have hS5 := HSK.out _ HN3.out.turn
                    refine drawn_take 19 46 (.pointer (some ⟨g, 0, none⟩)) rfl rfl (by kernel_rfl) (by kernel_rfl) (by kernel_rfl) (by kernel_rfl) (fun _ _ _ h => h) (by rfl) (by assumption) (by intro w hSw; obtain ⟨⟨hS1, hS2, hS3⟩, hS4⟩ := hSw; go_simp) ?_
                    try simp only [List.setIfInBounds_toArray, List.set_cons_zero, List.set_cons_succ]
                    refine drawn_take 20 47 (.pointer (some ⟨g, 0, none⟩)) rfl rfl (by kernel_rfl) (by kernel_rfl) (by kernel_rfl) (by kernel_rfl) (fun _ _ _ h => h) (by rfl) (by assumption) (by intro w hSw; obtain ⟨⟨hS1, hS2, hS3⟩, hS4⟩ := hSw; go_simp) ?_
                    try simp only [List.setIfInBounds_toArray, List.set_cons_zero, List.set_cons_succ]
                    refine drawn_last (z := 21) rfl (by kernel_rfl) (by kernel_rfl) (by kernel_rfl) (fun K hK => ?_)
                    obtain ⟨hfz, hcz⟩ := HFR.out w3 HN3.out.turn
                    go_simp
                    refine hK.out _ _ ?_
                    clear hK K
                    go_wp2
                    go_end0
                    exact ⟨⟨_, rfl⟩, HEND.out _ _ HN3.out⟩
                  exact drawn_nil
                exact drawn_nil
              exact drawn_nil
            refine drawn_cons rfl (fun K hK => ?_) ?_
            · go_simp
              have HNX := Lib.hid (HN0.out.alloc (.cells #[.int .i64 k, .string ⟨s.toArray⟩] 27))
              have HXS := Lib.hid (item_src (wd.alloc (.cells #[] 27)) (k, s))
              rw [World.size_alloc] at HXS
              refine hK.out _ _ _ (HSK.out _ HNX.out.turn) ?_
              clear hK K
              try simp only [List.setIfInBounds_toArray, List.set_cons_zero, List.set_cons_succ]
              have hS3 := HSK.out _ HNX.out.turn
              refine drawn_any [8] (by kernel_rfl) (by simp) ?_
              have HXX := HXS
              refine drawn_cons rfl (fun K hK => ?_) ?_
              · refine put_items [] HNX.out.own (L.take i) (HF.out _ HNX.out.turn) (by first | (simp; done) | (simp; omega)) ?_
                intro A1 n1 c1 w1 ho ht hn
                have HN1 := Lib.hid (HNX.out.step ho ht hn)
                have HX1 := Lib.hid (HXX.out.turn ht (fun b hb e => absurd (Option.some.inj (hb.trans e.symm : some _ = some _)) (by simp)))
                clear ho ht hn
                refine hK.out _ _ _ (HSK.out _ HN1.out.turn) ?_
                clear hK K
                try simp only [List.setIfInBounds_toArray, List.set_cons_zero, List.set_cons_succ]
                have hS3 := HSK.out _ HN1.out.turn
                refine drawn_any [11] (by kernel_rfl) (by simp) ?_
                refine drawn_cons rfl (fun K hK => ?_) ?_
                · refine put_items ([] ++ (L.take i)) HN1.out.own [(k, s)] HX1.out (by first | (simp; done) | (simp; omega)) ?_
                  intro A2 n2 c2 w2 ho ht hn
                  have HN2 := Lib.hid (HN1.out.step ho ht hn)
                  clear ho ht hn
                  refine hK.out _ _ _ (HSK.out _ HN2.out.turn) ?_
                  clear hK K
                  try simp only [List.setIfInBounds_toArray, List.set_cons_zero, List.set_cons_succ]
                  have hS4 := HSK.out _ HN2.out.turn
                  refine drawn_any [18] (by kernel_rfl) (by simp) ?_
                  refine drawn_cons rfl (fun K hK => ?_) ?_
                  · refine put_items (([] ++ (L.take i)) ++ [(k, s)]) HN2.out.own (L.drop i) (HT2.out _ HN2.out.turn) (by first | (simp; done) | (simp; omega)) ?_
                    intro A3 n3 c3 w3 ho ht hn
                    have HN3 := Lib.hid (HN2.out.step ho ht hn)
                    clear ho ht hn
                    refine hK.out _ _ _ (HSK.out _ HN3.out.turn) ?_
                    clear hK K
                    try simp only [List.setIfInBounds_toArray, List.set_cons_zero, List.set_cons_succ]
                    have hS5 := HSK.out _ HN3.out.turn
                    refine drawn_take 19 46 (.pointer (some ⟨g, 0, none⟩)) rfl rfl (by kernel_rfl) (by kernel_rfl) (by kernel_rfl) (by kernel_rfl) (fun _ _ _ h => h) (by rfl) (by assumption) (by intro w hSw; obtain ⟨⟨hS1, hS2, hS3⟩, hS4⟩ := hSw; go_simp) ?_
                    try simp only [List.setIfInBounds_toArray, List.set_cons_zero, List.set_cons_succ]
                    refine drawn_take 20 47 (.pointer (some ⟨g, 0, none⟩)) rfl rfl (by kernel_rfl) (by kernel_rfl) (by kernel_rfl) (by kernel_rfl) (fun _ _ _ h => h) (by rfl) (by assumption) (by intro w hSw; obtain ⟨⟨hS1, hS2, hS3⟩, hS4⟩ := hSw; go_simp) ?_
                    try simp only [List.setIfInBounds_toArray, List.set_cons_zero, List.set_cons_succ]
                    refine drawn_last (z := 21) rfl (by kernel_rfl) (by kernel_rfl) (by kernel_rfl) (fun K hK => ?_)
                    obtain ⟨hfz, hcz⟩ := HFR.out w3 HN3.out.turn
                    go_simp
                    refine hK.out _ _ ?_
                    clear hK K
                    go_wp2
                    go_end0
                    exact ⟨⟨_, rfl⟩, HEND.out _ _ HN3.out⟩
                  exact drawn_nil
                exact drawn_nil
              exact drawn_nil
            exact drawn_nil
          refine drawn_cons rfl (fun K hK => ?_) ?_
          · go_simp
            have HX0 := Lib.hid (item_src wd (k, s))
            have HTX : Hid (Turn (fun _ => False) w0 (wd.alloc (.cells #[.int .i64 k, .string ⟨s.toArray⟩] 27))) := HTD.out.alloc _
            refine hK.out _ _ _ (HSK.out _ HTX.out) ?_
            clear hK K
            try simp only [List.setIfInBounds_toArray, List.set_cons_zero, List.set_cons_succ]
            have hS1 := HSK.out _ HTX.out
            refine drawn_any [1] (by kernel_rfl) (by simp) ?_
            refine drawn_cons rfl (fun K hK => ?_) ?_
            · go_simp
              have HN0 := Lib.hid (NewE.empty (E := EI) (e := 27) w0 _ HTX.out)
              rw [World.size_alloc] at HN0
              have HXS := Lib.hid (HX0.out.later ((Turn.refl _ _).alloc (.cells #[] 27)))
              refine hK.out _ _ _ (HSK.out _ HN0.out.turn) ?_
              clear hK K
              try simp only [List.setIfInBounds_toArray, List.set_cons_zero, List.set_cons_succ]
              have hS3 := HSK.out _ HN0.out.turn
              refine drawn_any [8] (by kernel_rfl) (by simp) ?_
              have HXX := HXS
              refine drawn_cons rfl (fun K hK => ?_) ?_
              · refine put_items [] HN0.out.own (L.take i) (HF.out _ HN0.out.turn) (by first | (simp; done) | (simp; omega)) ?_
                intro A1 n1 c1 w1 ho ht hn
                have HN1 := Lib.hid (HN0.out.step ho ht hn)
                have HX1 := Lib.hid (HXX.out.turn ht (fun b hb e => absurd (Option.some.inj (hb.trans e.symm : some _ = some _)) (by simp)))
                clear ho ht hn
                refine hK.out _ _ _ (HSK.out _ HN1.out.turn) ?_
                clear hK K
                try simp only [List.setIfInBounds_toArray, List.set_cons_zero, List.set_cons_succ]
                have hS3 := HSK.out _ HN1.out.turn
                refine drawn_any [11] (by kernel_rfl) (by simp) ?_
                refine drawn_cons rfl (fun K hK => ?_) ?_
                · refine put_items ([] ++ (L.take i)) HN1.out.own [(k, s)] HX1.out (by first | (simp; done) | (simp; omega)) ?_
                  intro A2 n2 c2 w2 ho ht hn
                  have HN2 := Lib.hid (HN1.out.step ho ht hn)
                  clear ho ht hn
                  refine hK.out _ _ _ (HSK.out _ HN2.out.turn) ?_
                  clear hK K
                  try simp only [List.setIfInBounds_toArray, List.set_cons_zero, List.set_cons_succ]
                  have hS4 := HSK.out _ HN2.out.turn
                  refine drawn_any [18] (by kernel_rfl) (by simp) ?_
                  refine drawn_cons rfl (fun K hK => ?_) ?_
                  · refine put_items (([] ++ (L.take i)) ++ [(k, s)]) HN2.out.own (L.drop i) (HT2.out _ HN2.out.turn) (by first | (simp; done) | (simp; omega)) ?_
                    intro A3 n3 c3 w3 ho ht hn
                    have HN3 := Lib.hid (HN2.out.step ho ht hn)
                    clear ho ht hn
                    refine hK.out _ _ _ (HSK.out _ HN3.out.turn) ?_
                    clear hK K
                    try simp only [List.setIfInBounds_toArray, List.set_cons_zero, List.set_cons_succ]
                    have hS5 := HSK.out _ HN3.out.turn
                    refine drawn_take 19 46 (.pointer (some ⟨g, 0, none⟩)) rfl rfl (by kernel_rfl) (by kernel_rfl) (by kernel_rfl) (by kernel_rfl) (fun _ _ _ h => h) (by rfl) (by assumption) (by intro w hSw; obtain ⟨⟨hS1, hS2, hS3⟩, hS4⟩ := hSw; go_simp) ?_
                    try simp only [List.setIfInBounds_toArray, List.set_cons_zero, List.set_cons_succ]
                    refine drawn_take 20 47 (.pointer (some ⟨g, 0, none⟩)) rfl rfl (by kernel_rfl) (by kernel_rfl) (by kernel_rfl) (by kernel_rfl) (fun _ _ _ h => h) (by rfl) (by assumption) (by intro w hSw; obtain ⟨⟨hS1, hS2, hS3⟩, hS4⟩ := hSw; go_simp) ?_
                    try simp only [List.setIfInBounds_toArray, List.set_cons_zero, List.set_cons_succ]
                    refine drawn_last (z := 21) rfl (by kernel_rfl) (by kernel_rfl) (by kernel_rfl) (fun K hK => ?_)
                    obtain ⟨hfz, hcz⟩ := HFR.out w3 HN3.out.turn
                    go_simp
                    refine hK.out _ _ ?_
                    clear hK K
                    go_wp2
                    go_end0
                    exact ⟨⟨_, rfl⟩, HEND.out _ _ HN3.out⟩
                  exact drawn_nil
                exact drawn_nil
              exact drawn_nil
            exact drawn_nil
          exact drawn_nil
        · have hcn : ¬ c - i = 0 := by omega
          have hcn2 : ¬ c = i := by omega
          have HT2 := Lib.hid (fun w' ht => HTL.out w' _ ht (.inr (.inl ⟨ad, rfl, hck, rfl⟩)))
          by_cases hLi : L.length = i
          · have HT2 : Hid (∀ w', Turn (fun _ => False) w0 w' → RdE EI w' (.slice (some (ad.add (i * 2))) 0 (c - i)) (L.drop i)) := fun w' ht => by have h := HT2.out w' ht; rw [hLi, Nat.sub_self] at h; exact h
            go_wp2
            go_quiet (fail)
            go_wp2_with fail
            have HTD : Hid (Turn (fun _ => False) w0 (World.drew (World.drewN (World.drewN w0 n) nq))) := (((Turn.refl _ w0).drewN _).drewN _).drew
            refine drawn_region (fun W => (W.cell? ⟨g, 0, none⟩ = some (.slice (some ad) L.length c) ∧ W.cell? ⟨w.heap.size, 0, none⟩ = some (.int .i64 k) ∧ W.cell? ⟨w.heap.size, 1, none⟩ = some (.string ⟨s.toArray⟩)) ∧ Turn (fun _ => False) w0 W) [21] (by kernel_rfl) ?_
            generalize World.drew (World.drewN (World.drewN w0 n) nq) = wd at *
            have hS0 := HSK.out _ HTD.out
            refine drawn_take 0 27 (.pointer (some ⟨g, 0, none⟩)) rfl rfl (by kernel_rfl) (by kernel_rfl) (by kernel_rfl) (by kernel_rfl) (fun _ _ _ h => h) (by rfl) (by assumption) (by intro w hSw; obtain ⟨⟨hS1, hS2, hS3⟩, hS4⟩ := hSw; go_simp) ?_
            try simp only [List.setIfInBounds_toArray, List.set_cons_zero, List.set_cons_succ]
            refine drawn_take 2 29 (.pointer (some ⟨g, 0, none⟩)) rfl rfl (by kernel_rfl) (by kernel_rfl) (by kernel_rfl) (by kernel_rfl) (fun _ _ _ h => h) (by rfl) (by assumption) (by intro w hSw; obtain ⟨⟨hS1, hS2, hS3⟩, hS4⟩ := hSw; go_simp) ?_
            try simp only [List.setIfInBounds_toArray, List.set_cons_zero, List.set_cons_succ]
            refine drawn_take 3 30 (.pointer (some ⟨g, 0, none⟩)) rfl rfl (by kernel_rfl) (by kernel_rfl) (by kernel_rfl) (by kernel_rfl) (fun _ _ _ h => h) (by rfl) (by assumption) (by intro w hSw; obtain ⟨⟨hS1, hS2, hS3⟩, hS4⟩ := hSw; go_simp) ?_
            try simp only [List.setIfInBounds_toArray, List.set_cons_zero, List.set_cons_succ]
            refine drawn_take 4 31 (.pointer (some ⟨g, 0, none⟩)) rfl rfl (by kernel_rfl) (by kernel_rfl) (by kernel_rfl) (by kernel_rfl) (fun _ _ _ h => h) (by rfl) (by assumption) (by intro w hSw; obtain ⟨⟨hS1, hS2, hS3⟩, hS4⟩ := hSw; go_simp) ?_
            try simp only [List.setIfInBounds_toArray, List.set_cons_zero, List.set_cons_succ]
            refine drawn_take 5 32 (.slice (some ad) L.length c) rfl rfl (by kernel_rfl) (by kernel_rfl) (by kernel_rfl) (by kernel_rfl) (fun _ _ _ h => h) (by rfl) (by assumption) (by intro w hSw; obtain ⟨⟨hS1, hS2, hS3⟩, hS4⟩ := hSw; go_simp) ?_
            try simp only [List.setIfInBounds_toArray, List.set_cons_zero, List.set_cons_succ]
            refine drawn_take 6 33 (.int .i64 (i : Int)) rfl rfl (by kernel_rfl) (by kernel_rfl) (by kernel_rfl) (by kernel_rfl) (fun _ _ _ h => h) (by rfl) (by assumption) (by intro w hSw; obtain ⟨⟨hS1, hS2, hS3⟩, hS4⟩ := hSw; go_simp) ?_
            try simp only [List.setIfInBounds_toArray, List.set_cons_zero, List.set_cons_succ]
            refine drawn_take 7 34 (.slice (some ad) i c) rfl rfl (by kernel_rfl) (by kernel_rfl) (by kernel_rfl) (by kernel_rfl) (fun _ _ _ h => h) (by rfl) (by assumption) (by intro w hSw; obtain ⟨⟨hS1, hS2, hS3⟩, hS4⟩ := hSw; go_simp) ?_
            try simp only [List.setIfInBounds_toArray, List.set_cons_zero, List.set_cons_succ]
            refine drawn_take 9 36 (.agg #[.int .i64 k, .string ⟨s.toArray⟩]) rfl rfl (by kernel_rfl) (by kernel_rfl) (by kernel_rfl) (by kernel_rfl) (fun _ _ _ h => h) (by rfl) (by assumption) (by intro w hSw; obtain ⟨⟨hS1, hS2, hS3⟩, hS4⟩ := hSw; go_simp) ?_
            try simp only [List.setIfInBounds_toArray, List.set_cons_zero, List.set_cons_succ]
            refine drawn_take 12 39 (.pointer (some ⟨g, 0, none⟩)) rfl rfl (by kernel_rfl) (by kernel_rfl) (by kernel_rfl) (by kernel_rfl) (fun _ _ _ h => h) (by rfl) (by assumption) (by intro w hSw; obtain ⟨⟨hS1, hS2, hS3⟩, hS4⟩ := hSw; go_simp) ?_
            try simp only [List.setIfInBounds_toArray, List.set_cons_zero, List.set_cons_succ]
            refine drawn_take 13 40 (.pointer (some ⟨g, 0, none⟩)) rfl rfl (by kernel_rfl) (by kernel_rfl) (by kernel_rfl) (by kernel_rfl) (fun _ _ _ h => h) (by rfl) (by assumption) (by intro w hSw; obtain ⟨⟨hS1, hS2, hS3⟩, hS4⟩ := hSw; go_simp) ?_
            try simp only [List.setIfInBounds_toArray, List.set_cons_zero, List.set_cons_succ]
            refine drawn_take 14 41 (.pointer (some ⟨g, 0, none⟩)) rfl rfl (by kernel_rfl) (by kernel_rfl) (by kernel_rfl) (by kernel_rfl) (fun _ _ _ h => h) (by rfl) (by assumption) (by intro w hSw; obtain ⟨⟨hS1, hS2, hS3⟩, hS4⟩ := hSw; go_simp) ?_
            try simp only [List.setIfInBounds_toArray, List.set_cons_zero, List.set_cons_succ]
            refine drawn_take 15 42 (.slice (some ad) L.length c) rfl rfl (by kernel_rfl) (by kernel_rfl) (by kernel_rfl) (by kernel_rfl) (fun _ _ _ h => h) (by rfl) (by assumption) (by intro w hSw; obtain ⟨⟨hS1, hS2, hS3⟩, hS4⟩ := hSw; go_simp) ?_
            try simp only [List.setIfInBounds_toArray, List.set_cons_zero, List.set_cons_succ]
            refine drawn_take 16 43 (.int .i64 (i : Int)) rfl rfl (by kernel_rfl) (by kernel_rfl) (by kernel_rfl) (by kernel_rfl) (fun _ _ _ h => h) (by rfl) (by assumption) (by intro w hSw; obtain ⟨⟨hS1, hS2, hS3⟩, hS4⟩ := hSw; go_simp) ?_
            try simp only [List.setIfInBounds_toArray, List.set_cons_zero, List.set_cons_succ]
            refine drawn_take 17 44 (.slice (some (ad.add (i * 2))) 0 (c - i)) rfl rfl (by kernel_rfl) (by kernel_rfl) (by kernel_rfl) (by kernel_rfl) (fun _ _ _ h => h) (by rfl) (by assumption) (by intro w hSw; obtain ⟨⟨hS1, hS2, hS3⟩, hS4⟩ := hSw; go_simp) ?_
            try simp only [List.setIfInBounds_toArray, List.set_cons_zero, List.set_cons_succ]
            refine drawn_any [1, 10] (by kernel_rfl) (by simp) ?_
            refine drawn_cons rfl (fun K hK => ?_) ?_
            · go_simp
              have HN0 := Lib.hid (NewE.empty (E := EI) (e := 27) w0 wd HTD.out)
              refine hK.out _ _ _ (HSK.out _ HN0.out.turn) ?_
              clear hK K
              try simp only [List.setIfInBounds_toArray, List.set_cons_zero, List.set_cons_succ]
              have hS1 := HSK.out _ HN0.out.turn
              skip
              refine drawn_any [8, 10] (by kernel_rfl) (by simp) ?_
              refine drawn_cons rfl (fun K hK => ?_) ?_
              · refine put_items [] HN0.out.own (L.take i) (HF.out _ HN0.out.turn) (by first | (simp; done) | (simp; omega)) ?_
                intro A1 n1 c1 w1 ho ht hn
                have HN1 := Lib.hid (HN0.out.step ho ht hn)
                clear ho ht hn
                refine hK.out _ _ _ (HSK.out _ HN1.out.turn) ?_
                clear hK K
                try simp only [List.setIfInBounds_toArray, List.set_cons_zero, List.set_cons_succ]
                have hS2 := HSK.out _ HN1.out.turn
                refine drawn_any [10] (by kernel_rfl) (by simp) ?_
                refine drawn_cons rfl (fun K hK => ?_) ?_
                · go_simp
                  have HNX := Lib.hid (HN1.out.alloc (.cells #[.int .i64 k, .string ⟨s.toArray⟩] 27))
                  have HXS := Lib.hid (item_src w1 (k, s))
                  refine hK.out _ _ _ (HSK.out _ HNX.out.turn) ?_
                  clear hK K
                  try simp only [List.setIfInBounds_toArray, List.set_cons_zero, List.set_cons_succ]
                  have hS3 := HSK.out _ HNX.out.turn
                  refine drawn_any [11] (by kernel_rfl) (by simp) ?_
                  refine drawn_cons rfl (fun K hK => ?_) ?_
                  · refine put_items ([] ++ (L.take i)) HNX.out.own [(k, s)] HXS.out (by first | (simp; done) | (simp; omega)) ?_
                    intro A2 n2 c2 w2 ho ht hn
                    have HN2 := Lib.hid (HNX.out.step ho ht hn)
                    clear ho ht hn
                    refine hK.out _ _ _ (HSK.out _ HN2.out.turn) ?_
                    clear hK K
                    try simp only [List.setIfInBounds_toArray, List.set_cons_zero, List.set_cons_succ]
                    have hS4 := HSK.out _ HN2.out.turn
                    refine drawn_any [18] (by kernel_rfl) (by simp) ?_
                    refine drawn_cons rfl (fun K hK => ?_) ?_
                    · refine put_items (([] ++ (L.take i)) ++ [(k, s)]) HN2.out.own (L.drop i) (HT2.out _ HN2.out.turn) (by first | (simp; done) | (simp; omega)) ?_
                      intro A3 n3 c3 w3 ho ht hn
                      have HN3 := Lib.hid (HN2.out.step ho ht hn)
                      clear ho ht hn
                      refine hK.out _ _ _ (HSK.out _ HN3.out.turn) ?_
                      clear hK K
                      try simp only [List.setIfInBounds_toArray, List.set_cons_zero, List.set_cons_succ]
                      have hS5 := HSK.out _ HN3.out.turn
                      refine drawn_take 19 46 (.pointer (some ⟨g, 0, none⟩)) rfl rfl (by kernel_rfl) (by kernel_rfl) (by kernel_rfl) (by kernel_rfl) (fun _ _ _ h => h) (by rfl) (by assumption) (by intro w hSw; obtain ⟨⟨hS1, hS2, hS3⟩, hS4⟩ := hSw; go_simp) ?_
                      try simp only [List.setIfInBounds_toArray, List.set_cons_zero, List.set_cons_succ]
                      refine drawn_take 20 47 (.pointer (some ⟨g, 0, none⟩)) rfl rfl (by kernel_rfl) (by kernel_rfl) (by kernel_rfl) (by kernel_rfl) (fun _ _ _ h => h) (by rfl) (by assumption) (by intro w hSw; obtain ⟨⟨hS1, hS2, hS3⟩, hS4⟩ := hSw; go_simp) ?_
                      try simp only [List.setIfInBounds_toArray, List.set_cons_zero, List.set_cons_succ]
                      refine drawn_last (z := 21) rfl (by kernel_rfl) (by kernel_rfl) (by kernel_rfl) (fun K hK => ?_)
                      obtain ⟨hfz, hcz⟩ := HFR.out w3 HN3.out.turn
                      go_simp
                      refine hK.out _ _ ?_
                      clear hK K
                      go_wp2
                      go_end0
                      exact ⟨⟨_, rfl⟩, HEND.out _ _ HN3.out⟩
                    exact drawn_nil
                  exact drawn_nil
                exact drawn_nil
              refine drawn_cons rfl (fun K hK => ?_) ?_
              · go_simp
                have HNX := Lib.hid (HN0.out.alloc (.cells #[.int .i64 k, .string ⟨s.toArray⟩] 27))
                have HXS := Lib.hid (item_src (wd.alloc (.cells #[] 27)) (k, s))
                rw [World.size_alloc] at HXS
                refine hK.out _ _ _ (HSK.out _ HNX.out.turn) ?_
                clear hK K
                try simp only [List.setIfInBounds_toArray, List.set_cons_zero, List.set_cons_succ]
                have hS3 := HSK.out _ HNX.out.turn
                refine drawn_any [8] (by kernel_rfl) (by simp) ?_
                have HXX := HXS
                refine drawn_cons rfl (fun K hK => ?_) ?_
                · refine put_items [] HNX.out.own (L.take i) (HF.out _ HNX.out.turn) (by first | (simp; done) | (simp; omega)) ?_
                  intro A1 n1 c1 w1 ho ht hn
                  have HN1 := Lib.hid (HNX.out.step ho ht hn)
                  have HX1 := Lib.hid (HXX.out.turn ht (fun b hb e => absurd (Option.some.inj (hb.trans e.symm : some _ = some _)) (by simp)))
                  clear ho ht hn
                  refine hK.out _ _ _ (HSK.out _ HN1.out.turn) ?_
                  clear hK K
                  try simp only [List.setIfInBounds_toArray, List.set_cons_zero, List.set_cons_succ]
                  have hS3 := HSK.out _ HN1.out.turn
                  refine drawn_any [11] (by kernel_rfl) (by simp) ?_
                  refine drawn_cons rfl (fun K hK => ?_) ?_
                  · refine put_items ([] ++ (L.take i)) HN1.out.own [(k, s)] HX1.out (by first | (simp; done) | (simp; omega)) ?_
                    intro A2 n2 c2 w2 ho ht hn
                    have HN2 := Lib.hid (HN1.out.step ho ht hn)
                    clear ho ht hn
                    refine hK.out _ _ _ (HSK.out _ HN2.out.turn) ?_
                    clear hK K
                    try simp only [List.setIfInBounds_toArray, List.set_cons_zero, List.set_cons_succ]
                    have hS4 := HSK.out _ HN2.out.turn
                    refine drawn_any [18] (by kernel_rfl) (by simp) ?_
                    refine drawn_cons rfl (fun K hK => ?_) ?_
                    · refine put_items (([] ++ (L.take i)) ++ [(k, s)]) HN2.out.own (L.drop i) (HT2.out _ HN2.out.turn) (by first | (simp; done) | (simp; omega)) ?_
                      intro A3 n3 c3 w3 ho ht hn
                      have HN3 := Lib.hid (HN2.out.step ho ht hn)
                      clear ho ht hn
                      refine hK.out _ _ _ (HSK.out _ HN3.out.turn) ?_
                      clear hK K
                      try simp only [List.setIfInBounds_toArray, List.set_cons_zero, List.set_cons_succ]
                      have hS5 := HSK.out _ HN3.out.turn
                      refine drawn_take 19 46 (.pointer (some ⟨g, 0, none⟩)) rfl rfl (by kernel_rfl) (by kernel_rfl) (by kernel_rfl) (by kernel_rfl) (fun _ _ _ h => h) (by rfl) (by assumption) (by intro w hSw; obtain ⟨⟨hS1, hS2, hS3⟩, hS4⟩ := hSw; go_simp) ?_
                      try simp only [List.setIfInBounds_toArray, List.set_cons_zero, List.set_cons_succ]
                      refine drawn_take 20 47 (.pointer (some ⟨g, 0, none⟩)) rfl rfl (by kernel_rfl) (by kernel_rfl) (by kernel_rfl) (by kernel_rfl) (fun _ _ _ h => h) (by rfl) (by assumption) (by intro w hSw; obtain ⟨⟨hS1, hS2, hS3⟩, hS4⟩ := hSw; go_simp) ?_
                      try simp only [List.setIfInBounds_toArray, List.set_cons_zero, List.set_cons_succ]
                      refine drawn_last (z := 21) rfl (by kernel_rfl) (by kernel_rfl) (by kernel_rfl) (fun K hK => ?_)
                      obtain ⟨hfz, hcz⟩ := HFR.out w3 HN3.out.turn
                      go_simp
                      refine hK.out _ _ ?_
                      clear hK K
                      go_wp2
                      go_end0
                      exact ⟨⟨_, rfl⟩, HEND.out _ _ HN3.out⟩
                    exact drawn_nil
                  exact drawn_nil
                exact drawn_nil
              exact drawn_nil
            refine drawn_cons rfl (fun K hK => ?_) ?_
            · go_simp
              have HX0 := Lib.hid (item_src wd (k, s))
              have HTX : Hid (Turn (fun _ => False) w0 (wd.alloc (.cells #[.int .i64 k, .string ⟨s.toArray⟩] 27))) := HTD.out.alloc _
              refine hK.out _ _ _ (HSK.out _ HTX.out) ?_
              clear hK K
              try simp only [List.setIfInBounds_toArray, List.set_cons_zero, List.set_cons_succ]
              have hS1 := HSK.out _ HTX.out
              refine drawn_any [1] (by kernel_rfl) (by simp) ?_
              refine drawn_cons rfl (fun K hK => ?_) ?_
              · go_simp
                have HN0 := Lib.hid (NewE.empty (E := EI) (e := 27) w0 _ HTX.out)
                rw [World.size_alloc] at HN0
                have HXS := Lib.hid (HX0.out.later ((Turn.refl _ _).alloc (.cells #[] 27)))
                refine hK.out _ _ _ (HSK.out _ HN0.out.turn) ?_
                clear hK K
                try simp only [List.setIfInBounds_toArray, List.set_cons_zero, List.set_cons_succ]
                have hS3 := HSK.out _ HN0.out.turn
                refine drawn_any [8] (by kernel_rfl) (by simp) ?_
                have HXX := HXS
                refine drawn_cons rfl (fun K hK => ?_) ?_
                · refine put_items [] HN0.out.own (L.take i) (HF.out _ HN0.out.turn) (by first | (simp; done) | (simp; omega)) ?_
                  intro A1 n1 c1 w1 ho ht hn
                  have HN1 := Lib.hid (HN0.out.step ho ht hn)
                  have HX1 := Lib.hid (HXX.out.turn ht (fun b hb e => absurd (Option.some.inj (hb.trans e.symm : some _ = some _)) (by simp)))
                  clear ho ht hn
                  refine hK.out _ _ _ (HSK.out _ HN1.out.turn) ?_
                  clear hK K
                  try simp only [List.setIfInBounds_toArray, List.set_cons_zero, List.set_cons_succ]
                  have hS3 := HSK.out _ HN1.out.turn
                  refine drawn_any [11] (by kernel_rfl) (by simp) ?_
                  refine drawn_cons rfl (fun K hK => ?_) ?_
                  · refine put_items ([] ++ (L.take i)) HN1.out.own [(k, s)] HX1.out (by first | (simp; done) | (simp; omega)) ?_
                    intro A2 n2 c2 w2 ho ht hn
                    have HN2 := Lib.hid (HN1.out.step ho ht hn)
                    clear ho ht hn
                    refine hK.out _ _ _ (HSK.out _ HN2.out.turn) ?_
                    clear hK K
                    try simp only [List.setIfInBounds_toArray, List.set_cons_zero, List.set_cons_succ]
                    have hS4 := HSK.out _ HN2.out.turn
                    refine drawn_any [18] (by kernel_rfl) (by simp) ?_
                    refine drawn_cons rfl (fun K hK => ?_) ?_
                    · refine put_items (([] ++ (L.take i)) ++ [(k, s)]) HN2.out.own (L.drop i) (HT2.out _ HN2.out.turn) (by first | (simp; done) | (simp; omega)) ?_
                      intro A3 n3 c3 w3 ho ht hn
                      have HN3 := Lib.hid (HN2.out.step ho ht hn)
                      clear ho ht hn
                      refine hK.out _ _ _ (HSK.out _ HN3.out.turn) ?_
                      clear hK K
                      try simp only [List.setIfInBounds_toArray, List.set_cons_zero, List.set_cons_succ]
                      have hS5 := HSK.out _ HN3.out.turn
                      refine drawn_take 19 46 (.pointer (some ⟨g, 0, none⟩)) rfl rfl (by kernel_rfl) (by kernel_rfl) (by kernel_rfl) (by kernel_rfl) (fun _ _ _ h => h) (by rfl) (by assumption) (by intro w hSw; obtain ⟨⟨hS1, hS2, hS3⟩, hS4⟩ := hSw; go_simp) ?_
                      try simp only [List.setIfInBounds_toArray, List.set_cons_zero, List.set_cons_succ]
                      refine drawn_take 20 47 (.pointer (some ⟨g, 0, none⟩)) rfl rfl (by kernel_rfl) (by kernel_rfl) (by kernel_rfl) (by kernel_rfl) (fun _ _ _ h => h) (by rfl) (by assumption) (by intro w hSw; obtain ⟨⟨hS1, hS2, hS3⟩, hS4⟩ := hSw; go_simp) ?_
                      try simp only [List.setIfInBounds_toArray, List.set_cons_zero, List.set_cons_succ]
                      refine drawn_last (z := 21) rfl (by kernel_rfl) (by kernel_rfl) (by kernel_rfl) (fun K hK => ?_)
                      obtain ⟨hfz, hcz⟩ := HFR.out w3 HN3.out.turn
                      go_simp
                      refine hK.out _ _ ?_
                      clear hK K
                      go_wp2
                      go_end0
                      exact ⟨⟨_, rfl⟩, HEND.out _ _ HN3.out⟩
                    exact drawn_nil
                  exact drawn_nil
                exact drawn_nil
              exact drawn_nil
            exact drawn_nil
          · obtain ⟨y, hy⟩ : ∃ y, L[i]? = some y := ⟨_, List.getElem?_eq_getElem (by omega)⟩
            obtain ⟨ad', had, hcy⟩ := item_at H0.out.row hy
            cases had
            obtain ⟨e0, e1⟩ := hcy w0 (Turn.refl _ _)
            have hyk := hp2.out y hy
            have hiL : i < L.length := by omega
            clear hcy hy
            go_wp2
            go_quiet (fail)
            go_wp2_with fail
            have HTD : Hid (Turn (fun _ => False) w0 (World.drew (World.drewN (World.drewN w0 n) nq))) := (((Turn.refl _ w0).drewN _).drewN _).drew
            refine drawn_region (fun W => (W.cell? ⟨g, 0, none⟩ = some (.slice (some ad) L.length c) ∧ W.cell? ⟨w.heap.size, 0, none⟩ = some (.int .i64 k) ∧ W.cell? ⟨w.heap.size, 1, none⟩ = some (.string ⟨s.toArray⟩)) ∧ Turn (fun _ => False) w0 W) [21] (by kernel_rfl) ?_
            generalize World.drew (World.drewN (World.drewN w0 n) nq) = wd at *
            have hS0 := HSK.out _ HTD.out
            refine drawn_take 0 27 (.pointer (some ⟨g, 0, none⟩)) rfl rfl (by kernel_rfl) (by kernel_rfl) (by kernel_rfl) (by kernel_rfl) (fun _ _ _ h => h) (by rfl) (by assumption) (by intro w hSw; obtain ⟨⟨hS1, hS2, hS3⟩, hS4⟩ := hSw; go_simp) ?_
            try simp only [List.setIfInBounds_toArray, List.set_cons_zero, List.set_cons_succ]
            refine drawn_take 2 29 (.pointer (some ⟨g, 0, none⟩)) rfl rfl (by kernel_rfl) (by kernel_rfl) (by kernel_rfl) (by kernel_rfl) (fun _ _ _ h => h) (by rfl) (by assumption) (by intro w hSw; obtain ⟨⟨hS1, hS2, hS3⟩, hS4⟩ := hSw; go_simp) ?_
            try simp only [List.setIfInBounds_toArray, List.set_cons_zero, List.set_cons_succ]
            refine drawn_take 3 30 (.pointer (some ⟨g, 0, none⟩)) rfl rfl (by kernel_rfl) (by kernel_rfl) (by kernel_rfl) (by kernel_rfl) (fun _ _ _ h => h) (by rfl) (by assumption) (by intro w hSw; obtain ⟨⟨hS1, hS2, hS3⟩, hS4⟩ := hSw; go_simp) ?_
            try simp only [List.setIfInBounds_toArray, List.set_cons_zero, List.set_cons_succ]
            refine drawn_take 4 31 (.pointer (some ⟨g, 0, none⟩)) rfl rfl (by kernel_rfl) (by kernel_rfl) (by kernel_rfl) (by kernel_rfl) (fun _ _ _ h => h) (by rfl) (by assumption) (by intro w hSw; obtain ⟨⟨hS1, hS2, hS3⟩, hS4⟩ := hSw; go_simp) ?_
            try simp only [List.setIfInBounds_toArray, List.set_cons_zero, List.set_cons_succ]
            refine drawn_take 5 32 (.slice (some ad) L.length c) rfl rfl (by kernel_rfl) (by kernel_rfl) (by kernel_rfl) (by kernel_rfl) (fun _ _ _ h => h) (by rfl) (by assumption) (by intro w hSw; obtain ⟨⟨hS1, hS2, hS3⟩, hS4⟩ := hSw; go_simp) ?_
            try simp only [List.setIfInBounds_toArray, List.set_cons_zero, List.set_cons_succ]
            refine drawn_take 6 33 (.int .i64 (i : Int)) rfl rfl (by kernel_rfl) (by kernel_rfl) (by kernel_rfl) (by kernel_rfl) (fun _ _ _ h => h) (by rfl) (by assumption) (by intro w hSw; obtain ⟨⟨hS1, hS2, hS3⟩, hS4⟩ := hSw; go_simp) ?_
            try simp only [List.setIfInBounds_toArray, List.set_cons_zero, List.set_cons_succ]
            refine drawn_take 7 34 (.slice (some ad) i c) rfl rfl (by kernel_rfl) (by kernel_rfl) (by kernel_rfl) (by kernel_rfl) (fun _ _ _ h => h) (by rfl) (by assumption) (by intro w hSw; obtain ⟨⟨hS1, hS2, hS3⟩, hS4⟩ := hSw; go_simp) ?_
            try simp only [List.setIfInBounds_toArray, List.set_cons_zero, List.set_cons_succ]
            refine drawn_take 9 36 (.agg #[.int .i64 k, .string ⟨s.toArray⟩]) rfl rfl (by kernel_rfl) (by kernel_rfl) (by kernel_rfl) (by kernel_rfl) (fun _ _ _ h => h) (by rfl) (by assumption) (by intro w hSw; obtain ⟨⟨hS1, hS2, hS3⟩, hS4⟩ := hSw; go_simp) ?_
            try simp only [List.setIfInBounds_toArray, List.set_cons_zero, List.set_cons_succ]
            refine drawn_take 12 39 (.pointer (some ⟨g, 0, none⟩)) rfl rfl (by kernel_rfl) (by kernel_rfl) (by kernel_rfl) (by kernel_rfl) (fun _ _ _ h => h) (by rfl) (by assumption) (by intro w hSw; obtain ⟨⟨hS1, hS2, hS3⟩, hS4⟩ := hSw; go_simp) ?_
            try simp only [List.setIfInBounds_toArray, List.set_cons_zero, List.set_cons_succ]
            refine drawn_take 13 40 (.pointer (some ⟨g, 0, none⟩)) rfl rfl (by kernel_rfl) (by kernel_rfl) (by kernel_rfl) (by kernel_rfl) (fun _ _ _ h => h) (by rfl) (by assumption) (by intro w hSw; obtain ⟨⟨hS1, hS2, hS3⟩, hS4⟩ := hSw; go_simp) ?_
            try simp only [List.setIfInBounds_toArray, List.set_cons_zero, List.set_cons_succ]
            refine drawn_take 14 41 (.pointer (some ⟨g, 0, none⟩)) rfl rfl (by kernel_rfl) (by kernel_rfl) (by kernel_rfl) (by kernel_rfl) (fun _ _ _ h => h) (by rfl) (by assumption) (by intro w hSw; obtain ⟨⟨hS1, hS2, hS3⟩, hS4⟩ := hSw; go_simp) ?_
            try simp only [List.setIfInBounds_toArray, List.set_cons_zero, List.set_cons_succ]
            refine drawn_take 15 42 (.slice (some ad) L.length c) rfl rfl (by kernel_rfl) (by kernel_rfl) (by kernel_rfl) (by kernel_rfl) (fun _ _ _ h => h) (by rfl) (by assumption) (by intro w hSw; obtain ⟨⟨hS1, hS2, hS3⟩, hS4⟩ := hSw; go_simp) ?_
            try simp only [List.setIfInBounds_toArray, List.set_cons_zero, List.set_cons_succ]
            refine drawn_take 16 43 (.int .i64 (i : Int)) rfl rfl (by kernel_rfl) (by kernel_rfl) (by kernel_rfl) (by kernel_rfl) (fun _ _ _ h => h) (by rfl) (by assumption) (by intro w hSw; obtain ⟨⟨hS1, hS2, hS3⟩, hS4⟩ := hSw; go_simp) ?_
            try simp only [List.setIfInBounds_toArray, List.set_cons_zero, List.set_cons_succ]
            refine drawn_take 17 44 (.slice (some (ad.add (i * 2))) (L.length - i) (c - i)) rfl rfl (by kernel_rfl) (by kernel_rfl) (by kernel_rfl) (by kernel_rfl) (fun _ _ _ h => h) (by rfl) (by assumption) (by intro w hSw; obtain ⟨⟨hS1, hS2, hS3⟩, hS4⟩ := hSw; go_simp) ?_
            try simp only [List.setIfInBounds_toArray, List.set_cons_zero, List.set_cons_succ]
            refine drawn_any [1, 10] (by kernel_rfl) (by simp) ?_
            refine drawn_cons rfl (fun K hK => ?_) ?_
            · go_simp
              have HN0 := Lib.hid (NewE.empty (E := EI) (e := 27) w0 wd HTD.out)
              refine hK.out _ _ _ (HSK.out _ HN0.out.turn) ?_
              clear hK K
              try simp only [List.setIfInBounds_toArray, List.set_cons_zero, List.set_cons_succ]
              have hS1 := HSK.out _ HN0.out.turn
              skip
              refine drawn_any [8, 10] (by kernel_rfl) (by simp) ?_
              refine drawn_cons rfl (fun K hK => ?_) ?_
              · refine put_items [] HN0.out.own (L.take i) (HF.out _ HN0.out.turn) (by first | (simp; done) | (simp; omega)) ?_
                intro A1 n1 c1 w1 ho ht hn
                have HN1 := Lib.hid (HN0.out.step ho ht hn)
                clear ho ht hn
                refine hK.out _ _ _ (HSK.out _ HN1.out.turn) ?_
                clear hK K
                try simp only [List.setIfInBounds_toArray, List.set_cons_zero, List.set_cons_succ]
                have hS2 := HSK.out _ HN1.out.turn
                refine drawn_any [10] (by kernel_rfl) (by simp) ?_
                refine drawn_cons rfl (fun K hK => ?_) ?_
                · go_simp
                  have HNX := Lib.hid (HN1.out.alloc (.cells #[.int .i64 k, .string ⟨s.toArray⟩] 27))
                  have HXS := Lib.hid (item_src w1 (k, s))
                  refine hK.out _ _ _ (HSK.out _ HNX.out.turn) ?_
                  clear hK K
                  try simp only [List.setIfInBounds_toArray, List.set_cons_zero, List.set_cons_succ]
                  have hS3 := HSK.out _ HNX.out.turn
                  refine drawn_any [11] (by kernel_rfl) (by simp) ?_
                  refine drawn_cons rfl (fun K hK => ?_) ?_
                  · refine put_items ([] ++ (L.take i)) HNX.out.own [(k, s)] HXS.out (by first | (simp; done) | (simp; omega)) ?_
                    intro A2 n2 c2 w2 ho ht hn
                    have HN2 := Lib.hid (HNX.out.step ho ht hn)
                    clear ho ht hn
                    refine hK.out _ _ _ (HSK.out _ HN2.out.turn) ?_
                    clear hK K
                    try simp only [List.setIfInBounds_toArray, List.set_cons_zero, List.set_cons_succ]
                    have hS4 := HSK.out _ HN2.out.turn
                    refine drawn_any [18] (by kernel_rfl) (by simp) ?_
                    refine drawn_cons rfl (fun K hK => ?_) ?_
                    · refine put_items (([] ++ (L.take i)) ++ [(k, s)]) HN2.out.own (L.drop i) (HT2.out _ HN2.out.turn) (by first | (simp; done) | (simp; omega)) ?_
                      intro A3 n3 c3 w3 ho ht hn
                      have HN3 := Lib.hid (HN2.out.step ho ht hn)
                      clear ho ht hn
                      refine hK.out _ _ _ (HSK.out _ HN3.out.turn) ?_
                      clear hK K
                      try simp only [List.setIfInBounds_toArray, List.set_cons_zero, List.set_cons_succ]
                      have hS5 := HSK.out _ HN3.out.turn
                      refine drawn_take 19 46 (.pointer (some ⟨g, 0, none⟩)) rfl rfl (by kernel_rfl) (by kernel_rfl) (by kernel_rfl) (by kernel_rfl) (fun _ _ _ h => h) (by rfl) (by assumption) (by intro w hSw; obtain ⟨⟨hS1, hS2, hS3⟩, hS4⟩ := hSw; go_simp) ?_
                      try simp only [List.setIfInBounds_toArray, List.set_cons_zero, List.set_cons_succ]
                      refine drawn_take 20 47 (.pointer (some ⟨g, 0, none⟩)) rfl rfl (by kernel_rfl) (by kernel_rfl) (by kernel_rfl) (by kernel_rfl) (fun _ _ _ h => h) (by rfl) (by assumption) (by intro w hSw; obtain ⟨⟨hS1, hS2, hS3⟩, hS4⟩ := hSw; go_simp) ?_
                      try simp only [List.setIfInBounds_toArray, List.set_cons_zero, List.set_cons_succ]
                      refine drawn_last (z := 21) rfl (by kernel_rfl) (by kernel_rfl) (by kernel_rfl) (fun K hK => ?_)
                      obtain ⟨hfz, hcz⟩ := HFR.out w3 HN3.out.turn
                      go_simp
                      refine hK.out _ _ ?_
                      clear hK K
                      go_wp2
                      go_end0
                      exact ⟨⟨_, rfl⟩, HEND.out _ _ HN3.out⟩
                    exact drawn_nil
                  exact drawn_nil
                exact drawn_nil
              refine drawn_cons rfl (fun K hK => ?_) ?_
              · go_simp
                have HNX := Lib.hid (HN0.out.alloc (.cells #[.int .i64 k, .string ⟨s.toArray⟩] 27))
                have HXS := Lib.hid (item_src (wd.alloc (.cells #[] 27)) (k, s))
                rw [World.size_alloc] at HXS
                refine hK.out _ _ _ (HSK.out _ HNX.out.turn) ?_
                clear hK K
                try simp only [List.setIfInBounds_toArray, List.set_cons_zero, List.set_cons_succ]
                have hS3 := HSK.out _ HNX.out.turn
                refine drawn_any [8] (by kernel_rfl) (by simp) ?_
                have HXX := HXS
                refine drawn_cons rfl (fun K hK => ?_) ?_
                · refine put_items [] HNX.out.own (L.take i) (HF.out _ HNX.out.turn) (by first | (simp; done) | (simp; omega)) ?_
                  intro A1 n1 c1 w1 ho ht hn
                  have HN1 := Lib.hid (HNX.out.step ho ht hn)
                  have HX1 := Lib.hid (HXX.out.turn ht (fun b hb e => absurd (Option.some.inj (hb.trans e.symm : some _ = some _)) (by simp)))
                  clear ho ht hn
                  refine hK.out _ _ _ (HSK.out _ HN1.out.turn) ?_
                  clear hK K
                  try simp only [List.setIfInBounds_toArray, List.set_cons_zero, List.set_cons_succ]
                  have hS3 := HSK.out _ HN1.out.turn
                  refine drawn_any [11] (by kernel_rfl) (by simp) ?_
                  refine drawn_cons rfl (fun K hK => ?_) ?_
                  · refine put_items ([] ++ (L.take i)) HN1.out.own [(k, s)] HX1.out (by first | (simp; done) | (simp; omega)) ?_
                    intro A2 n2 c2 w2 ho ht hn
                    have HN2 := Lib.hid (HN1.out.step ho ht hn)
                    clear ho ht hn
                    refine hK.out _ _ _ (HSK.out _ HN2.out.turn) ?_
                    clear hK K
                    try simp only [List.setIfInBounds_toArray, List.set_cons_zero, List.set_cons_succ]
                    have hS4 := HSK.out _ HN2.out.turn
                    refine drawn_any [18] (by kernel_rfl) (by simp) ?_
                    refine drawn_cons rfl (fun K hK => ?_) ?_
                    · refine put_items (([] ++ (L.take i)) ++ [(k, s)]) HN2.out.own (L.drop i) (HT2.out _ HN2.out.turn) (by first | (simp; done) | (simp; omega)) ?_
                      intro A3 n3 c3 w3 ho ht hn
                      have HN3 := Lib.hid (HN2.out.step ho ht hn)
                      clear ho ht hn
                      refine hK.out _ _ _ (HSK.out _ HN3.out.turn) ?_
                      clear hK K
                      try simp only [List.setIfInBounds_toArray, List.set_cons_zero, List.set_cons_succ]
                      have hS5 := HSK.out _ HN3.out.turn
                      refine drawn_take 19 46 (.pointer (some ⟨g, 0, none⟩)) rfl rfl (by kernel_rfl) (by kernel_rfl) (by kernel_rfl) (by kernel_rfl) (fun _ _ _ h => h) (by rfl) (by assumption) (by intro w hSw; obtain ⟨⟨hS1, hS2, hS3⟩, hS4⟩ := hSw; go_simp) ?_
                      try simp only [List.setIfInBounds_toArray, List.set_cons_zero, List.set_cons_succ]
                      refine drawn_take 20 47 (.pointer (some ⟨g, 0, none⟩)) rfl rfl (by kernel_rfl) (by kernel_rfl) (by kernel_rfl) (by kernel_rfl) (fun _ _ _ h => h) (by rfl) (by assumption) (by intro w hSw; obtain ⟨⟨hS1, hS2, hS3⟩, hS4⟩ := hSw; go_simp) ?_
                      try simp only [List.setIfInBounds_toArray, List.set_cons_zero, List.set_cons_succ]
                      refine drawn_last (z := 21) rfl (by kernel_rfl) (by kernel_rfl) (by kernel_rfl) (fun K hK => ?_)
                      obtain ⟨hfz, hcz⟩ := HFR.out w3 HN3.out.turn
                      go_simp
                      refine hK.out _ _ ?_
                      clear hK K
                      go_wp2
                      go_end0
                      exact ⟨⟨_, rfl⟩, HEND.out _ _ HN3.out⟩
                    exact drawn_nil
                  exact drawn_nil
                exact drawn_nil
              exact drawn_nil
            refine drawn_cons rfl (fun K hK => ?_) ?_
            · go_simp
              have HX0 := Lib.hid (item_src wd (k, s))
              have HTX : Hid (Turn (fun _ => False) w0 (wd.alloc (.cells #[.int .i64 k, .string ⟨s.toArray⟩] 27))) := HTD.out.alloc _
              refine hK.out _ _ _ (HSK.out _ HTX.out) ?_
              clear hK K
              try simp only [List.setIfInBounds_toArray, List.set_cons_zero, List.set_cons_succ]
              have hS1 := HSK.out _ HTX.out
              refine drawn_any [1] (by kernel_rfl) (by simp) ?_
              refine drawn_cons rfl (fun K hK => ?_) ?_
              · go_simp
                have HN0 := Lib.hid (NewE.empty (E := EI) (e := 27) w0 _ HTX.out)
                rw [World.size_alloc] at HN0
                have HXS := Lib.hid (HX0.out.later ((Turn.refl _ _).alloc (.cells #[] 27)))
                refine hK.out _ _ _ (HSK.out _ HN0.out.turn) ?_
                clear hK K
                try simp only [List.setIfInBounds_toArray, List.set_cons_zero, List.set_cons_succ]
                have hS3 := HSK.out _ HN0.out.turn
                refine drawn_any [8] (by kernel_rfl) (by simp) ?_
                have HXX := HXS
                refine drawn_cons rfl (fun K hK => ?_) ?_
                · refine put_items [] HN0.out.own (L.take i) (HF.out _ HN0.out.turn) (by first | (simp; done) | (simp; omega)) ?_
                  intro A1 n1 c1 w1 ho ht hn
                  have HN1 := Lib.hid (HN0.out.step ho ht hn)
                  have HX1 := Lib.hid (HXX.out.turn ht (fun b hb e => absurd (Option.some.inj (hb.trans e.symm : some _ = some _)) (by simp)))
                  clear ho ht hn
                  refine hK.out _ _ _ (HSK.out _ HN1.out.turn) ?_
                  clear hK K
                  try simp only [List.setIfInBounds_toArray, List.set_cons_zero, List.set_cons_succ]
                  have hS3 := HSK.out _ HN1.out.turn
                  refine drawn_any [11] (by kernel_rfl) (by simp) ?_
                  refine drawn_cons rfl (fun K hK => ?_) ?_
                  · refine put_items ([] ++ (L.take i)) HN1.out.own [(k, s)] HX1.out (by first | (simp; done) | (simp; omega)) ?_
                    intro A2 n2 c2 w2 ho ht hn
                    have HN2 := Lib.hid (HN1.out.step ho ht hn)
                    clear ho ht hn
                    refine hK.out _ _ _ (HSK.out _ HN2.out.turn) ?_
                    clear hK K
                    try simp only [List.setIfInBounds_toArray, List.set_cons_zero, List.set_cons_succ]
                    have hS4 := HSK.out _ HN2.out.turn
                    refine drawn_any [18] (by kernel_rfl) (by simp) ?_
                    refine drawn_cons rfl (fun K hK => ?_) ?_
                    · refine put_items (([] ++ (L.take i)) ++ [(k, s)]) HN2.out.own (L.drop i) (HT2.out _ HN2.out.turn) (by first | (simp; done) | (simp; omega)) ?_
                      intro A3 n3 c3 w3 ho ht hn
                      have HN3 := Lib.hid (HN2.out.step ho ht hn)
                      clear ho ht hn
                      refine hK.out _ _ _ (HSK.out _ HN3.out.turn) ?_
                      clear hK K
                      try simp only [List.setIfInBounds_toArray, List.set_cons_zero, List.set_cons_succ]
                      have hS5 := HSK.out _ HN3.out.turn
                      refine drawn_take 19 46 (.pointer (some ⟨g, 0, none⟩)) rfl rfl (by kernel_rfl) (by kernel_rfl) (by kernel_rfl) (by kernel_rfl) (fun _ _ _ h => h) (by rfl) (by assumption) (by intro w hSw; obtain ⟨⟨hS1, hS2, hS3⟩, hS4⟩ := hSw; go_simp) ?_
                      try simp only [List.setIfInBounds_toArray, List.set_cons_zero, List.set_cons_succ]
                      refine drawn_take 20 47 (.pointer (some ⟨g, 0, none⟩)) rfl rfl (by kernel_rfl) (by kernel_rfl) (by kernel_rfl) (by kernel_rfl) (fun _ _ _ h => h) (by rfl) (by assumption) (by intro w hSw; obtain ⟨⟨hS1, hS2, hS3⟩, hS4⟩ := hSw; go_simp) ?_
                      try simp only [List.setIfInBounds_toArray, List.set_cons_zero, List.set_cons_succ]
                      refine drawn_last (z := 21) rfl (by kernel_rfl) (by kernel_rfl) (by kernel_rfl) (fun K hK => ?_)
                      obtain ⟨hfz, hcz⟩ := HFR.out w3 HN3.out.turn
                      go_simp
                      refine hK.out _ _ ?_
                      clear hK K
                      go_wp2
                      go_end0
                      exact ⟨⟨_, rfl⟩, HEND.out _ _ HN3.out⟩
                    exact drawn_nil
                  exact drawn_nil
                exact drawn_nil
              exact drawn_nil
            exact drawn_nil

end Go.Proofs.Ythhlppdphcjlnaa
