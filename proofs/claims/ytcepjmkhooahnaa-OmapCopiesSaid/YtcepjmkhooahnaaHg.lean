
/-
  Stage 6: the two maps of numbers and texts side by side: an act on both, the example.
-/
import Derived.Test.YtcepjmkhooahnaaHfi
import Derived.Test.YtcepjmkhooahnaaGe
import Derived.Test.YtcepjmkhooahnaaGg
namespace Go.Proofs.Ytcepjmkhooahnaa
open Go.RowKit omi

/-- The two maps, alike: the program's at block g1, the document's at block g2. -/
structure Two (w : World) (g1 g2 : Nat) (sv : Value) (L : List (Int × List UInt8)) : Prop where
  m : MP w g1 L
  r : RM w g2 sv L
  far : sv.ownBlock ≠ some g1
theorem omi.MP.ne {w : World} {g1 g2 : Nat} {t : TypeId} {cs : Array Value} {L : List (Int × List UInt8)} (h : MP w g1 L) (hb : Box w g2 t cs) (ht : 64 ≠ t) : g1 ≠ g2 := by
  obtain ⟨x, A, h1, _⟩ := h.out
  rintro rfl
  have e := (show w.heap[g1]? = _ from h1).symm.trans hb
  injection e with e
  injection e with _ e3
  exact ht e3
theorem box_ne {w : World} {i g : Nat} {t t' : TypeId} {cs cs' : Array Value} (h : Box w i t cs) (h' : Box w g t' cs') (ht : t ≠ t') : i ≠ g := by
  rintro rfl
  have e := (show w.heap[i]? = _ from h).symm.trans h'
  injection e with e
  injection e with _ e3
  exact ht e3
theorem omi.MP.lt {w : World} {g : Nat} {L : List (Int × List UInt8)} (h : MP w g L) : g < w.heap.size := by
  obtain ⟨x, A, h1, _⟩ := h.out
  exact h1.lt
theorem omi.MP.box {w : World} {g : Nat} {L : List (Int × List UInt8)} (h : MP w g L) : ∃ cs, Box w g 64 cs := by
  obtain ⟨x, A, h1, _⟩ := h.out
  exact ⟨_, h1⟩
/-- A map is as it was where other maps turn. -/
theorem omi.MP.apart {w w' : World} {g g1 g2 : Nat} {L M : List (Int × List UInt8)} {cs : Array Value} (h : MP w g L) (hm : MP w g1 M) (hr : Box w g2 29 cs) (hne : g ≠ g1) (ht : Turn (fun j => j = g1 ∨ j = g2) w w') : MP w' g L := by
  obtain ⟨c1, h1⟩ := hm.box
  refine h.turn ht (fun e => ?_) (fun i cs hi e => ?_)
  · rcases e with e | e
    · exact hne e
    · exact h.ne hr (by decide) e
  · rcases e with e | e
    · exact box_ne hi h1 (by decide) e
    · exact box_ne hi hr (by decide) e
theorem Two.later {w w' : World} {g1 g2 : Nat} {sv : Value} {L : List (Int × List UInt8)} (h : Two w g1 g2 sv L) (ht : Turn (fun _ => False) w w') : Two w' g1 g2 sv L := ⟨h.m.later ht, h.r.later ht, h.far⟩
/-- Behind an act on both. -/
structure Acted (w w' : World) (g1 g2 : Nat) (sv : Value) (n : Nat) : Prop where
  out : ∃ (M : List (Int × List UInt8)) (sv' : Value), Two w' g1 g2 sv' M ∧ M.length ≤ n + 1 ∧ ∀ j, sv'.ownBlock = some j → sv.ownBlock = some j ∨ w.heap.size ≤ j
  turn : Turn (fun j => j = g1 ∨ j = g2) w w'
theorem acted_same {w w' : World} {g1 g2 : Nat} {sv : Value} {L : List (Int × List UInt8)} (h : Two w g1 g2 sv L) (ht : Turn (fun _ => False) w w') : Acted w w' g1 g2 sv L.length :=
  ⟨⟨L, sv, h.later ht, Nat.le_succ _, fun _ e => .inl e⟩, ht.mono (fun _ _ f => f.elim)⟩
theorem two_mid {w w2 : World} {g1 g2 : Nat} {sv : Value} {L : List (Int × List UInt8)} (h : Two w g1 g2 sv L) (ht : Turn (fun j => j = g1) w w2) : RM w2 g2 sv L :=
  h.r.turn ht (fun e => h.m.ne h.r.obj (by decide) e.symm) (fun k hk e => h.far (by rw [hk, e]))
theorem acted_two {w w2 w3 : World} {g1 g2 : Nat} {sv sv' : Value} {L M : List (Int × List UInt8)} (h : Two w g1 g2 sv L) (hm : MP w2 g1 M) (ht : Turn (fun j => j = g1) w w2) (hr : RM w3 g2 sv' M) (ht3 : Turn (fun j => j = g2) w2 w3)
    (hl : M.length ≤ L.length + 1) (hn : ∀ j : Nat, sv'.ownBlock = some j → sv.ownBlock = some j ∨ w2.heap.size ≤ j) : Acted w w3 g1 g2 sv L.length := by
  have hr2 := two_mid h ht
  refine ⟨⟨M, sv', ⟨hm.turn ht3 (fun e => hm.ne hr2.obj (by decide) e) (fun i cs hi e => box_ne hi hr2.obj (by decide) e), hr, fun e => ?_⟩, hl, fun j hj => ?_⟩, ?_⟩
  · rcases hn g1 e with e2 | e2
    · exact h.far e2
    · have := hm.lt; omega
  · rcases hn j hj with e2 | e2
    · exact .inl e2
    · exact .inr (Nat.le_trans ht.size e2)
  · exact (ht.mono (fun _ _ e => .inl e)).trans (ht3.mono (T := fun j => j = g1 ∨ j = g2) (fun _ _ e => .inr e)) (fun _ _ e => e)
theorem acted_from {w w0 w3 : World} {g1 g2 : Nat} {sv : Value} {n : Nat} (h : Acted w0 w3 g1 g2 sv n) (ht : Turn (fun _ => False) w w0) : Acted w w3 g1 g2 sv n := by
  obtain ⟨M, sv', h1, h2, h3⟩ := h.out
  exact ⟨⟨M, sv', h1, h2, fun j hj => (h3 j hj).imp id (Nat.le_trans ht.size)⟩, (ht.mono (fun _ _ f => f.elim)).trans h.turn (fun _ _ e => e)⟩

set_option maxRecDepth 100000 in
set_option maxHeartbeats 4000000 in
theorem act_any (a : AC) (g1 g2 : Nat) (sv : Value) (L : List (Int × List UInt8)) (w : World) (h : Two w g1 g2 sv L) (hl : L.length ≤ 900000) :
    Calls Try.prog 10 #[.pointer (some ⟨g1, 0, none⟩), .pointer (some ⟨g2, 0, none⟩), .agg #[.int .i64 a.kind, .int .i64 a.k, .string ⟨a.v.toArray⟩]] w fun e w' => e = .returned (.bool true) ∧ Acted w w' g1 g2 sv L.length := by
  obtain ⟨kind, k, v⟩ := a
  dsimp only
  obtain ⟨w0, hw0⟩ : ∃ w0, w0 = w.alloc (.cells #[.int .i64 kind, .int .i64 k, .string ⟨v.toArray⟩] 32) := ⟨_, rfl⟩
  have HT0 : Hid (Turn (fun _ => False) w w0) := by rw [hw0]; exact (Turn.refl _ w).alloc _
  have H0 := Lib.hid (h.later HT0.out)
  have HB : Hid (Box w0 w.heap.size 32 #[.int .i64 kind, .int .i64 k, .string ⟨v.toArray⟩]) := by rw [hw0]; exact Box.new w _ _
  have HK : Hid (∀ W, Turn (fun j => j = g1 ∨ j = g2) w0 W → (W.cell? ⟨w.heap.size, 1, none⟩ = some (.int .i64 k) ∧ W.cell? ⟨w.heap.size, 2, none⟩ = some (.string ⟨v.toArray⟩)) ∧ Turn (fun j => j = g1 ∨ j = g2) w0 W) := fun W ht => by
    have hne : ¬ (w.heap.size = g1 ∨ w.heap.size = g2) := by have h1 := h.m.lt; have h2 := h.r.obj.lt; omega
    have hb := HB.out.turn ht hne
    exact ⟨⟨hb.cell 1, hb.cell 2⟩, ht⟩
  have c0 := HB.out.cell 0
  have c1 := HB.out.cell 1
  have HW0 := Lib.hid hw0
  clear h
  by_cases h0 : kind = 0
  · subst h0
    go_enter Try.func10, Try.ntmps10
    clear hw0 c0 c1
    go_wp2_with fail
    rw [← HW0.out]
    have hsz := put_size (lt := ltI) L k v
    have hlen : (putK ltI L k v).length ≤ L.length + 1 := by rw [hsz]; split <;> omega
    clear hsz
    go_region_held3 (fun W => (W.cell? ⟨w.heap.size, 1, none⟩ = some (.int .i64 k) ∧ W.cell? ⟨w.heap.size, 2, none⟩ = some (.string ⟨v.toArray⟩)) ∧ Turn (fun j => j = g1 ∨ j = g2) w0 W)
      ((refine HK.out _ ?_; first | exact HTB.out | exact HTA.out | exact (Turn.refl _ w0).drew))
      (first
        | (go_at_call 24; (with_reducible refine (put_any k v (H0.out.m.later (Turn.refl _ w0).drew) hl).mono ?_); rintro e w2 ⟨rfl, hm, ht⟩; have HM := Lib.hid hm; have HTM := Lib.hid ht; have HTA := Lib.hid (((Turn.refl (fun j => j = g1 ∨ j = g2) w0).drew).trans ht (fun _ _ e => .inl e)); have HR := Lib.hid (two_mid (H0.out.later (Turn.refl _ w0).drew) ht); clear hm ht)
        | (go_at_call 26; (with_reducible refine (ref_put6 g2 sv L k v _ HR.out ?_).mono ?_); (focus omega); rintro e w3 ⟨rfl, sv', hr, ht3, hn⟩; have HTB := Lib.hid (HTA.out.trans ht3 (fun _ _ e => .inr e)); have HA := Lib.hid (acted_from (acted_two (H0.out.later (Turn.refl _ w0).drew) HM.out HTM.out hr ht3 hlen (fun j hj => .inr (hn j hj))) (HT0.out.drew)); clear hr ht3 hn)
        | fail)
    all_goals go_wp2
    all_goals go_ret
    all_goals exact ⟨rfl, HA.out⟩
  · by_cases h1 : kind = 1
    · subst h1
      clear h0
      go_enter Try.func10, Try.ntmps10
      clear hw0 c0 c1
      go_wp2_with fail
      rw [← HW0.out]
      have hlen : (dropK ltI L k).length ≤ L.length + 1 := by have := drop_size (lt := ltI) L k; omega
      go_region_held3 (fun W => (W.cell? ⟨w.heap.size, 1, none⟩ = some (.int .i64 k) ∧ W.cell? ⟨w.heap.size, 2, none⟩ = some (.string ⟨v.toArray⟩)) ∧ Turn (fun j => j = g1 ∨ j = g2) w0 W)
        ((refine HK.out _ ?_; first | exact HTB.out | exact HTA.out | exact (Turn.refl _ w0).drew))
        (first
          | (go_at_call 25; (with_reducible refine (drop_any k (H0.out.m.later (Turn.refl _ w0).drew) hl).mono ?_); rintro e w2 ⟨rfl, hm, ht⟩; have HM := Lib.hid hm; have HTM := Lib.hid ht; have HTA := Lib.hid (((Turn.refl (fun j => j = g1 ∨ j = g2) w0).drew).trans ht (fun _ _ e => .inl e)); have HR := Lib.hid (two_mid (H0.out.later (Turn.refl _ w0).drew) ht); clear hm ht)
          | (go_at_call 27; (with_reducible refine (ref_drop6 g2 sv L k _ HR.out ?_).mono ?_); (focus omega); rintro e w3 ⟨rfl, sv', hr, ht3, hn⟩; have HTB := Lib.hid (HTA.out.trans ht3 (fun _ _ e => .inr e)); have HA := Lib.hid (acted_from (acted_two (H0.out.later (Turn.refl _ w0).drew) HM.out HTM.out hr ht3 hlen (fun j hj => (hn j hj).symm)) (HT0.out.drew)); clear hr ht3 hn)
          | fail)
      all_goals go_wp2
      all_goals go_ret
      all_goals exact ⟨rfl, HA.out⟩
    · by_cases h2 : kind = 2
      · subst h2
        clear h0 h1
        have HG1 := Lib.hid (get_any k H0.out.m)
        have HG2 : Hid (∀ W, Turn (fun _ => False) w0 W → Calls Try.prog 28 #[.pointer (some ⟨g2, 0, none⟩), .int .i64 k] W fun e w' => e = .returned (.tuple #[.string ⟨((getK ltI L k).getD []).toArray⟩, .bool (getK ltI L k).isSome]) ∧ ∃ n, w' = W.drewN n) := fun W ht => by
          have := ref_get6 g2 sv L k W (H0.out.r.later ht) (by omega)
          rw [has_get] at this
          exact this
        generalize getK ltI L k = ans at *
        cases ans with
        | none =>
          go_enter Try.func10, Try.ntmps10
          clear hw0 c0 c1
          go_wp2_with fail
          rw [← HW0.out]
          refine HG1.out.mono ?_
          rintro e w2 ⟨rfl, ht⟩
          have c1 := (HK.out _ (ht.mono (fun _ _ f => f.elim))).1.1
          have HT := Lib.hid ht; clear ht
          unfold getA
          go_wp2_with (go_at_call 28; refine (HG2.out _ HT.out).mono ?_; rintro e w3 ⟨rfl, n, rfl⟩)
          go_ret
          exact ⟨rfl, acted_from (acted_same H0.out (HT.out.drewN n)) HT0.out⟩
        | some u =>
          go_enter Try.func10, Try.ntmps10
          clear hw0 c0 c1
          go_wp2_with fail
          rw [← HW0.out]
          refine HG1.out.mono ?_
          rintro e w2 ⟨rfl, ht⟩
          have c1 := (HK.out _ (ht.mono (fun _ _ f => f.elim))).1.1
          have HT := Lib.hid ht; clear ht
          unfold getA
          go_wp2_with (go_at_call 28; refine (HG2.out _ HT.out).mono ?_; rintro e w3 ⟨rfl, n, rfl⟩)
          go_ret
          exact ⟨rfl, acted_from (acted_same H0.out (HT.out.drewN n)) HT0.out⟩
      · have HF1 := Lib.hid (floor_any k H0.out.m)
        have HF2 : Hid (∀ W, Turn (fun _ => False) w0 W → Calls Try.prog 29 #[.pointer (some ⟨g2, 0, none⟩), .int .i64 k] W fun e w' => e = .returned (floorV (floorK ltI L k)) ∧ Turn (fun _ => False) W w') := fun W ht => ref_floor6 g2 sv L k W (H0.out.r.later ht) (by omega) H0.out.m.up
        generalize floorK ltI L k = ans at *
        cases ans with
        | none =>
          go_enter Try.func10, Try.ntmps10
          clear hw0 c0 c1
          go_wp2_with fail
          rw [← HW0.out]
          refine HF1.out.mono ?_
          rintro e w2 ⟨rfl, ht⟩
          have c1 := (HK.out _ (ht.mono (fun _ _ f => f.elim))).1.1
          have HT := Lib.hid ht; clear ht
          unfold floorA
          go_wp2_with (go_at_call 29; refine (HF2.out _ HT.out).mono ?_; rintro e w3 ⟨rfl, ht3⟩; have HT3 := Lib.hid (HT.out.trans ht3 (fun _ _ f => f)); clear ht3; unfold floorV)
          go_ret
          exact ⟨rfl, acted_from (acted_same H0.out (by first | exact HT3.out.alloc _ | exact Turn.setCell (Turn.setCell (HT3.out.alloc _) (fun e => absurd e (by have := HT3.out.size; dsimp only; omega)) _) (fun e => absurd e (by have := HT3.out.size; dsimp only; omega)) _)) HT0.out⟩
        | some p =>
          go_enter Try.func10, Try.ntmps10
          clear hw0 c0 c1
          go_wp2_with fail
          rw [← HW0.out]
          refine HF1.out.mono ?_
          rintro e w2 ⟨rfl, ht⟩
          have c1 := (HK.out _ (ht.mono (fun _ _ f => f.elim))).1.1
          have HT := Lib.hid ht; clear ht
          unfold floorA
          go_wp2_with (go_at_call 29; refine (HF2.out _ HT.out).mono ?_; rintro e w3 ⟨rfl, ht3⟩; have HT3 := Lib.hid (HT.out.trans ht3 (fun _ _ f => f)); clear ht3; unfold floorV pv)
          go_ret
          exact ⟨rfl, acted_from (acted_same H0.out (by first | exact HT3.out.alloc _ | exact Turn.setCell (Turn.setCell (HT3.out.alloc _) (fun e => absurd e (by have := HT3.out.size; dsimp only; omega)) _) (fun e => absurd e (by have := HT3.out.size; dsimp only; omega)) _)) HT0.out⟩

set_option maxRecDepth 100000 in
set_option maxHeartbeats 1000000 in
theorem alive_any6 (w : World) : Calls Try.prog 8 #[] w fun e w' => e = .returned (.bool true) ∧ Turn (fun _ => False) w w' := by
  have P1 : Hid (∀ W g, MP W g [] → Calls Try.prog 24 #[.pointer (some ⟨g, 0, none⟩), .int .i64 5, .string ⟨#[102, 105, 118, 101]⟩] W fun e w' => e = .returned (.bool true) ∧ MP w' g [(5, [102, 105, 118, 101])] ∧ Turn (fun j => j = g) W w') :=
    fun W g h => put_any 5 [102, 105, 118, 101] h (Nat.zero_le _)
  have P2 : Hid (∀ W g, MP W g [(5, [102, 105, 118, 101])] → Calls Try.prog 24 #[.pointer (some ⟨g, 0, none⟩), .int .i64 2, .string ⟨#[116, 119, 111]⟩] W fun e w' => e = .returned (.bool true) ∧ MP w' g [(2, [116, 119, 111]), (5, [102, 105, 118, 101])] ∧ Turn (fun j => j = g) W w') :=
    fun W g h => put_any 2 [116, 119, 111] h (by decide)
  have P3 : Hid (∀ W g, MP W g [(2, [116, 119, 111]), (5, [102, 105, 118, 101])] → Calls Try.prog 24 #[.pointer (some ⟨g, 0, none⟩), .int .i64 9, .string ⟨#[110, 105, 110, 101]⟩] W fun e w' => e = .returned (.bool true) ∧ MP w' g [(2, [116, 119, 111]), (5, [102, 105, 118, 101]), (9, [110, 105, 110, 101])] ∧ Turn (fun j => j = g) W w') :=
    fun W g h => put_any 9 [110, 105, 110, 101] h (by decide)
  have P4 : Hid (∀ W g, MP W g [(2, [116, 119, 111]), (5, [102, 105, 118, 101]), (9, [110, 105, 110, 101])] → Calls Try.prog 23 #[.pointer (some ⟨g, 0, none⟩), .int .i64 8] W fun e w' => e = .returned (.tuple #[.int .i64 5, .string ⟨#[102, 105, 118, 101]⟩, .bool true]) ∧ Turn (fun _ => False) W w') :=
    fun W g h => floor_any 8 h
  have P5 : Hid (∀ W g, MP W g [(2, [116, 119, 111]), (5, [102, 105, 118, 101]), (9, [110, 105, 110, 101])] → Calls Try.prog 11 #[.pointer (some ⟨g, 0, none⟩)] W fun e w' => e = .returned (.int .i64 3) ∧ W = w') :=
    fun W g h => len_any h
  go_enter Try.func8, Try.ntmps8
  go_wp2_with (go_at_call 9; refine (new_any _).mono ?_; rintro e w1 ⟨rfl, hm, ht⟩; have HM := Lib.hid hm; have HT := Lib.hid (ht.mono (T := fun j => j = w.heap.size) (fun _ _ f => f.elim)); clear hm ht)
  refine (P1.out _ _ HM.out).mono ?_
  rintro e w2 ⟨rfl, hm, ht⟩
  replace HM := Lib.hid hm; replace HT := Lib.hid (HT.out.trans ht (fun _ _ e => e)); clear hm ht
  go_wp2_with fail
  refine (P2.out _ _ HM.out).mono ?_
  rintro e w3 ⟨rfl, hm, ht⟩
  replace HM := Lib.hid hm; replace HT := Lib.hid (HT.out.trans ht (fun _ _ e => e)); clear hm ht
  go_wp2_with fail
  refine (P3.out _ _ HM.out).mono ?_
  rintro e w4 ⟨rfl, hm, ht⟩
  replace HM := Lib.hid hm; replace HT := Lib.hid (HT.out.trans ht (fun _ _ e => e)); clear hm ht
  go_wp2_with (first
    | (go_at_call 23; refine (P4.out _ _ HM.out).mono ?_; rintro e w5 ⟨rfl, ht⟩; have HM5 := Lib.hid (HM.out.later ht); have HT5 := Lib.hid (HT.out.trans ht (fun _ _ f => f.elim)); clear ht)
    | (go_at_call 11; refine (P5.out _ _ HM5.out).mono ?_; rintro e w' ⟨rfl, rfl⟩)
    | fail)
  go_ret
  exact ⟨rfl, HT5.out.mono (fun k hk e => by omega)⟩

end Go.Proofs.Ytcepjmkhooahnaa
