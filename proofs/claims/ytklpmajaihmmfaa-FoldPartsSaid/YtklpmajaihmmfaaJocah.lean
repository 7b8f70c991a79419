/-
  Texts laid one behind the other: Sg Sh Se Sb Sf Ia Ic Ig.
-/
import Derived.Test.YtklpmajaihmmfaaJocag
import Derived.Test.YtklpmajaihmmfaaJocae
import Derived.Test.YtklpmajaihmmfaaJocaf
import Derived.Laws.ResultCell
import Derived.Test.YtklpmajaihmmfaaJocaa
import Derived.RangeFuncFrom
import Derived.RangeFuncCalls
import Derived.RangeFuncLeaves
import Derived.Shelf.Abstract
import Derived.Shelf.RegionOpen
import Derived.OwnWalkIn
import Derived.TacticsInMore
import Derived.LoopNIn
import Derived.LoopIn

/-
  Stage 11: the document's Put.
-/
namespace Go.Proofs.Ytklpmajaihmmfaa
open Go.RowKit

set_option maxRecDepth 100000

/-- Behind Put, Of, Merge of the document: the rows, or none and Overflow. -/
def Put11 (w : World) (o : Option (List R11)) (e : Ending) (w' : World) : Prop :=
  ∃ v, e = .returned (.tuple #[v, .int .i64 (if o.isSome then 0 else 6)]) ∧ RdE ER w' v (o.getD []) ∧ Turn (fun _ => False) w w'
theorem cmpK_lt0 {p q : K9} : (keyLt p q = true ∧ cmpK p q < 0) ∨ (keyLt p q = false ∧ ¬ cmpK p q < 0) := by
  rcases cmpK_cases p q with ⟨h, e, _⟩ | ⟨h, e, _⟩ | ⟨h, e⟩
  · exact .inl ⟨h, by rw [e]; decide⟩
  · exact .inr ⟨rises_key.asym h, by rw [e]; decide⟩
  · exact .inr ⟨by rw [h, key_irr], by rw [e]; decide⟩
theorem cell_all11 (c : Cl) : (ca c).all (·.oneCell') = true := by
  refine Array.all_eq_true.2 fun i hi => ?_
  match i, hi with
  | 0, _ => rfl
  | 1, _ => rfl
  | 2, _ => rfl
  | 3, _ => rfl

theorem row_sets11 {w : World} {b : Nat} {x : R11} (h : Box w b 55 (cells11 x)) (n s lo hi : Int) :
    Box ((((w.setCell ⟨b, 5, none⟩ (.int .i64 n)).setCell ⟨b, 6, none⟩ (.int .i64 s)).setCell ⟨b, 7, none⟩ (.int .i64 lo)).setCell ⟨b, 8, none⟩ (.int .i64 hi)) b 55 (cells11 ⟨x.k, ⟨n, s, lo, hi⟩⟩) := by
  have h4 := (((h.set 5 (.int .i64 n)).set 6 (.int .i64 s)).set 7 (.int .i64 lo)).set 8 (.int .i64 hi)
  simp only [List.setIfInBounds_toArray, List.set_cons_succ, List.set_cons_zero] at h4
  exact h4

theorem row_turn11 (w : World) (b : Nat) (n s lo hi : Int) :
    Turn (fun g => g = b) w ((((w.setCell ⟨b, 5, none⟩ (.int .i64 n)).setCell ⟨b, 6, none⟩ (.int .i64 s)).setCell ⟨b, 7, none⟩ (.int .i64 lo)).setCell ⟨b, 8, none⟩ (.int .i64 hi)) := by
  have h1 := (Turn.refl (fun g => g = b) w).setCell (p := ⟨b, 5, none⟩) (fun _ => rfl) (.int .i64 n)
  have h2 := h1.setCell (p := ⟨b, 6, none⟩) (fun _ => rfl) (.int .i64 s)
  have h3 := h2.setCell (p := ⟨b, 7, none⟩) (fun _ => rfl) (.int .i64 lo)
  exact h3.setCell (p := ⟨b, 8, none⟩) (fun _ => rfl) (.int .i64 hi)

set_option maxHeartbeats 16000000 in
theorem ref_put11 (v : Value) (l : List R11) (x : R11) (w : World) (hv : RdE ER w v l) (hok : ∀ r ∈ l, okC r.c) (hx : okC x.c) (hl : l.length ≤ 100000) :
    Calls Try.prog 28 #[v, rv11 x] w fun e w' => Put11 w (putR x l) e w' := by
  have HV := Lib.hid hv
  have HXO : Hid (okC x.c) := hx
  obtain ⟨A, c, rfl⟩ := hv.shape
  have HOR : Hid (∀ r, l[posR x.k l]? = some r → okC r.c) := fun r h => hok r (List.mem_of_getElem? h)
  have hle := posR_le x.k l
  have HAT : Hid (∀ (i : Nat) (r : R11), l[i]? = some r → i < posR x.k l → keyLt r.k x.k = true) := posR_at x.k l
  have HEND : Hid (∀ r, l[posR x.k l]? = some r → keyLt r.k x.k = false) := posR_end x.k l
  have HPUT : Hid (putR x l = match l[posR x.k l]? with
    | some r => if r.k = x.k then (mergeC r.c x.c).map (fun c => l.take (posR x.k l) ++ ⟨x.k, c⟩ :: l.drop (posR x.k l + 1)) else some (l.take (posR x.k l) ++ x :: l.drop (posR x.k l))
    | none => some (l.take (posR x.k l) ++ x :: l.drop (posR x.k l))) := putR_at x l
  clear hv hok hx
  generalize posR x.k l = p at *
  generalize putR x l = res at *
  obtain ⟨w0, hw0⟩ : ∃ w0, w0 = w.alloc (.cells (cells11 x) 55) := ⟨_, rfl⟩
  obtain ⟨b, hb⟩ : ∃ b, b = w.heap.size := ⟨_, rfl⟩
  have HB0 : Hid (Box w0 b 55 (cells11 x)) := by rw [hw0, hb]; exact Box.new w _ _
  have HT0 : Hid (Turn (fun _ => False) w w0) := by rw [hw0]; exact (Turn.refl _ w).alloc _
  have HBW : Hid (w.heap.size ≤ b) := by show _ ≤ _; omega
  have HW := Lib.hid hw0
  have HBB := Lib.hid hb
  clear hw0 hb
  have HSZ : Hid ((Try.prog.info? 55).map (·.size) = some ER.sz) := row_size11
  have HCM : Hid (∀ (r : R11) W, Calls Try.prog 19 #[.agg #[.int .i64 r.k.h, sv9 r.k.a, sv9 r.k.b, sv9 r.k.c, sv9 r.k.d], .agg #[.int .i64 x.k.h, sv9 x.k.a, sv9 x.k.b, sv9 x.k.c, sv9 x.k.d]] W fun e w' => e = .returned (.int .i64 (cmpK r.k x.k)) ∧ Turn (fun _ => False) W w') := fun r W => ref_compare9 r.k x.k W
  go_enter Try.func28, Try.ntmps28
  go_wp2_with fail
  rw [← HW.out, ← HBB.out]
  clear HW HBB
  go_loopw [6] (fun x6 wr => ∃ k : Nat, x6 = .int .i64 (k : Int) ∧ k ≤ p ∧ Turn (fun _ => False) w0 wr) (fun x6 _ => p - (intOf x6).toNat)
  case atStart => exact ⟨0, rfl, Nat.zero_le _, Turn.refl _ w0⟩
  case round =>
    obtain ⟨k, rfl, hk, ht⟩ := hrel
    have HT := Lib.hid (HT0.out.trans ht (fun _ _ f => f))
    have HXW : Hid (∀ W, Turn (fun _ => False) wr W → Box W b 55 (cells11 x)) := fun W g => (HB0.out.turn ht (fun f => f)).turn g (fun f => f)
    have HT2 := Lib.hid ht
    clear ht
    by_cases hkp : k < p
    ·
      obtain ⟨r, hr⟩ : ∃ r, l[k]? = some r := ⟨_, List.getElem?_eq_getElem (by omega)⟩
      obtain ⟨ad, rfl, hc⟩ := row_at11 HV.out hr
      have HAB : Hid (ad.block < w.heap.size) := by
        have h := World.block_lt_of_cell? _ _ (hc _ (Turn.refl _ _)).1
        rwa [eadd_block] at h
      have HRW : Hid (∀ W, Turn (fun _ => False) wr W → RowAt W (ad.add (k * 9)) r) := fun W ht => hc W (HT.out.trans ht (fun _ _ f => f))
      unfold RowAt at HRW
      have hkl : (k : Int) < l.length := by omega
      have HC := Lib.hid (HCM.out r)
      have hcg := cmpK_lt0 (p := r.k) (q := x.k)
      generalize cmpK r.k x.k = cm at *
      have hkt := HAT.out k r hr hkp
      have hcn : cm < 0 := by
        rcases hcg with ⟨_, h⟩ | ⟨h, _⟩
        · exact h
        · rw [hkt] at h; cases h
      clear hc hr hcg
      go_wp2_with fail
      refine drawn_region (fun W => Turn (fun _ => False) wr W) [] (by kernel_rfl) ?_
      have hS0 : Turn (fun _ => False) wr (World.drew wr) := (Turn.refl _ wr).drew
      generalize World.drew wr = wd at *
      refine drawn_take 0 11 (.int .i64 (k : Int)) rfl rfl (by kernel_rfl) (by kernel_rfl) (by kernel_rfl) (by kernel_rfl) (fun _ _ _ h => h) (by rfl) (by assumption) (by intro w hSw; obtain hS1 := hSw; go_simp) ?_
      try simp only [List.setIfInBounds_toArray, List.set_cons_zero, List.set_cons_succ]
      refine drawn_take 1 12 (.slice (some ad) l.length c) rfl rfl (by kernel_rfl) (by kernel_rfl) (by kernel_rfl) (by kernel_rfl) (fun _ _ _ h => h) (by rfl) (by assumption) (by intro w hSw; obtain hS1 := hSw; go_simp) ?_
      try simp only [List.setIfInBounds_toArray, List.set_cons_zero, List.set_cons_succ]
      refine drawn_take 2 13 (.int .i64 (l.length : Int)) rfl rfl (by kernel_rfl) (by kernel_rfl) (by kernel_rfl) (by kernel_rfl) (fun _ _ _ h => h) (by rfl) (by assumption) (by intro w hSw; obtain hS1 := hSw; go_simp) ?_
      try simp only [List.setIfInBounds_toArray, List.set_cons_zero, List.set_cons_succ]
      refine drawn_take 3 14 (.bool true) rfl rfl (by kernel_rfl) (by kernel_rfl) (by kernel_rfl) (by kernel_rfl) (fun _ _ _ h => h) (by rfl) (by assumption) (by intro w hSw; obtain hS1 := hSw; go_simp) ?_
      try simp only [List.setIfInBounds_toArray, List.set_cons_zero, List.set_cons_succ]
      refine drawn_take 4 15 (.bool true) rfl rfl (by kernel_rfl) (by kernel_rfl) (by kernel_rfl) (by kernel_rfl) (fun _ _ _ h => h) (by rfl) (by assumption) (by intro w hSw; obtain hS1 := hSw; go_simp) ?_
      try simp only [List.setIfInBounds_toArray, List.set_cons_zero, List.set_cons_succ]
      refine drawn_take 5 16 (.slice (some ad) l.length c) rfl rfl (by kernel_rfl) (by kernel_rfl) (by kernel_rfl) (by kernel_rfl) (fun _ _ _ h => h) (by rfl) (by assumption) (by intro w hSw; obtain hS1 := hSw; go_simp) ?_
      try simp only [List.setIfInBounds_toArray, List.set_cons_zero, List.set_cons_succ]
      refine drawn_take 6 17 (.int .i64 (k : Int)) rfl rfl (by kernel_rfl) (by kernel_rfl) (by kernel_rfl) (by kernel_rfl) (fun _ _ _ h => h) (by rfl) (by assumption) (by intro w hSw; obtain hS1 := hSw; go_simp) ?_
      try simp only [List.setIfInBounds_toArray, List.set_cons_zero, List.set_cons_succ]
      refine drawn_take 7 18 (.pointer (some (ad.add (k * 9)))) rfl rfl (by kernel_rfl) (by kernel_rfl) (by kernel_rfl) (by kernel_rfl) (fun _ _ _ h => h) (by rfl) (by assumption) (by intro w hSw; obtain hS1 := hSw; go_simp) ?_
      try simp only [List.setIfInBounds_toArray, List.set_cons_zero, List.set_cons_succ]
      refine drawn_take 8 19 (.pointer (some (ad.add (k * 9)))) rfl rfl (by kernel_rfl) (by kernel_rfl) (by kernel_rfl) (by kernel_rfl) (fun _ _ _ h => h) (by rfl) (by assumption) (by intro w hSw; obtain hS1 := hSw; go_simp) ?_
      try simp only [List.setIfInBounds_toArray, List.set_cons_zero, List.set_cons_succ]
      refine drawn_take 9 20 (.agg #[.int .i64 r.k.h, sv9 r.k.a, sv9 r.k.b, sv9 r.k.c, sv9 r.k.d]) rfl rfl (by kernel_rfl) (by kernel_rfl) (by kernel_rfl) (by kernel_rfl) (fun _ _ _ h => h) (by rfl) (by assumption) (by intro w hSw; obtain ⟨a0, a1, a2, a3, a4, a5, a6, a7, a8⟩ := HRW.out w hSw; clear hSw; go_simp) ?_
      try simp only [List.setIfInBounds_toArray, List.set_cons_zero, List.set_cons_succ]
      refine drawn_take 10 21 (.pointer (some ⟨b, 0, none⟩)) rfl rfl (by kernel_rfl) (by kernel_rfl) (by kernel_rfl) (by kernel_rfl) (fun _ _ _ h => h) (by rfl) (by assumption) (by intro w hSw; obtain hS1 := hSw; go_simp) ?_
      try simp only [List.setIfInBounds_toArray, List.set_cons_zero, List.set_cons_succ]
      refine drawn_take 11 22 (.agg #[.int .i64 x.k.h, sv9 x.k.a, sv9 x.k.b, sv9 x.k.c, sv9 x.k.d]) rfl rfl (by kernel_rfl) (by kernel_rfl) (by kernel_rfl) (by kernel_rfl) (fun _ _ _ h => h) (by rfl) (by assumption) (by intro w hSw; have hB := HXW.out w hSw; have a0 : w.cell? ⟨b, 0, none⟩ = some (.int .i64 x.k.h) := hB.cell 0; have a1 : w.cell? ⟨b, 1, none⟩ = some (sv9 x.k.a) := hB.cell 1; have a2 : w.cell? ⟨b, 2, none⟩ = some (sv9 x.k.b) := hB.cell 2; have a3 : w.cell? ⟨b, 3, none⟩ = some (sv9 x.k.c) := hB.cell 3; have a4 : w.cell? ⟨b, 4, none⟩ = some (sv9 x.k.d) := hB.cell 4; clear hSw hB; go_simp) ?_
      try simp only [List.setIfInBounds_toArray, List.set_cons_zero, List.set_cons_succ]
      refine drawn_any [12] (by kernel_rfl) (by simp) ?_
      refine drawn_cons rfl (fun K hK => ?_) drawn_nil
      go_simp
      refine (HC.out wd).mono ?_
      rintro e w3 ⟨rfl, t3⟩
      have hS3 := hS0.trans t3 (fun _ _ f => f)
      refine hK.out _ _ _ hS3 ?_
      clear hK K t3 hS0
      have hS0 := hS3
      clear hS3
      try simp only [List.setIfInBounds_toArray, List.set_cons_zero, List.set_cons_succ]
      refine drawn_take 13 24 (.bool true) rfl rfl (by kernel_rfl) (by kernel_rfl) (by kernel_rfl) (by kernel_rfl) (fun _ _ _ h => h) (by rfl) (by assumption) (by intro w hSw; obtain hS1 := hSw; go_simp) ?_
      try simp only [List.setIfInBounds_toArray, List.set_cons_zero, List.set_cons_succ]
      refine drawn_last1 14 25 (.bool true) rfl rfl (by kernel_rfl) (by kernel_rfl) (by rfl) (by intro w; go_simp) hS0 ?_
      try simp only [List.setIfInBounds_toArray, List.set_cons_zero, List.set_cons_succ]
      have HF := Lib.hid (HT2.out.trans hS0 (fun _ _ f => f))
      clear hS0
      go_wp2
      go_roundw
      case rel => exact ⟨k + 1, by go_num, hkp, HF.out⟩
      case measure => simp [intOf]; omega
    · obtain rfl : k = p := by omega
      by_cases hkl0 : k < l.length
      ·
        obtain ⟨r, hr⟩ : ∃ r, l[k]? = some r := ⟨_, List.getElem?_eq_getElem (by omega)⟩
        obtain ⟨ad, rfl, hc⟩ := row_at11 HV.out hr
        have HAB : Hid (ad.block < w.heap.size) := by
          have h := World.block_lt_of_cell? _ _ (hc _ (Turn.refl _ _)).1
          rwa [eadd_block] at h
        have HRW : Hid (∀ W, Turn (fun _ => False) wr W → RowAt W (ad.add (k * 9)) r) := fun W ht => hc W (HT.out.trans ht (fun _ _ f => f))
        unfold RowAt at HRW
        have hkl : (k : Int) < l.length := by omega
        have HC := Lib.hid (HCM.out r)
        have hcg := cmpK_lt0 (p := r.k) (q := x.k)
        generalize cmpK r.k x.k = cm at *
        have hkt := HEND.out r hr
        have hcn : ¬ cm < 0 := by
          rcases hcg with ⟨h, _⟩ | ⟨_, h⟩
          · rw [hkt] at h; cases h
          · exact h
        have HR := Lib.hid hr
        clear hc hr hcg
        go_wp2_with fail
        refine drawn_region (fun W => Turn (fun _ => False) wr W) [] (by kernel_rfl) ?_
        have hS0 : Turn (fun _ => False) wr (World.drew wr) := (Turn.refl _ wr).drew
        generalize World.drew wr = wd at *
        refine drawn_take 0 11 (.int .i64 (k : Int)) rfl rfl (by kernel_rfl) (by kernel_rfl) (by kernel_rfl) (by kernel_rfl) (fun _ _ _ h => h) (by rfl) (by assumption) (by intro w hSw; obtain hS1 := hSw; go_simp) ?_
        try simp only [List.setIfInBounds_toArray, List.set_cons_zero, List.set_cons_succ]
        refine drawn_take 1 12 (.slice (some ad) l.length c) rfl rfl (by kernel_rfl) (by kernel_rfl) (by kernel_rfl) (by kernel_rfl) (fun _ _ _ h => h) (by rfl) (by assumption) (by intro w hSw; obtain hS1 := hSw; go_simp) ?_
        try simp only [List.setIfInBounds_toArray, List.set_cons_zero, List.set_cons_succ]
        refine drawn_take 2 13 (.int .i64 (l.length : Int)) rfl rfl (by kernel_rfl) (by kernel_rfl) (by kernel_rfl) (by kernel_rfl) (fun _ _ _ h => h) (by rfl) (by assumption) (by intro w hSw; obtain hS1 := hSw; go_simp) ?_
        try simp only [List.setIfInBounds_toArray, List.set_cons_zero, List.set_cons_succ]
        refine drawn_take 3 14 (.bool true) rfl rfl (by kernel_rfl) (by kernel_rfl) (by kernel_rfl) (by kernel_rfl) (fun _ _ _ h => h) (by rfl) (by assumption) (by intro w hSw; obtain hS1 := hSw; go_simp) ?_
        try simp only [List.setIfInBounds_toArray, List.set_cons_zero, List.set_cons_succ]
        refine drawn_take 4 15 (.bool true) rfl rfl (by kernel_rfl) (by kernel_rfl) (by kernel_rfl) (by kernel_rfl) (fun _ _ _ h => h) (by rfl) (by assumption) (by intro w hSw; obtain hS1 := hSw; go_simp) ?_
        try simp only [List.setIfInBounds_toArray, List.set_cons_zero, List.set_cons_succ]
        refine drawn_take 5 16 (.slice (some ad) l.length c) rfl rfl (by kernel_rfl) (by kernel_rfl) (by kernel_rfl) (by kernel_rfl) (fun _ _ _ h => h) (by rfl) (by assumption) (by intro w hSw; obtain hS1 := hSw; go_simp) ?_
        try simp only [List.setIfInBounds_toArray, List.set_cons_zero, List.set_cons_succ]
        refine drawn_take 6 17 (.int .i64 (k : Int)) rfl rfl (by kernel_rfl) (by kernel_rfl) (by kernel_rfl) (by kernel_rfl) (fun _ _ _ h => h) (by rfl) (by assumption) (by intro w hSw; obtain hS1 := hSw; go_simp) ?_
        try simp only [List.setIfInBounds_toArray, List.set_cons_zero, List.set_cons_succ]
        refine drawn_take 7 18 (.pointer (some (ad.add (k * 9)))) rfl rfl (by kernel_rfl) (by kernel_rfl) (by kernel_rfl) (by kernel_rfl) (fun _ _ _ h => h) (by rfl) (by assumption) (by intro w hSw; obtain hS1 := hSw; go_simp) ?_
        try simp only [List.setIfInBounds_toArray, List.set_cons_zero, List.set_cons_succ]
        refine drawn_take 8 19 (.pointer (some (ad.add (k * 9)))) rfl rfl (by kernel_rfl) (by kernel_rfl) (by kernel_rfl) (by kernel_rfl) (fun _ _ _ h => h) (by rfl) (by assumption) (by intro w hSw; obtain hS1 := hSw; go_simp) ?_
        try simp only [List.setIfInBounds_toArray, List.set_cons_zero, List.set_cons_succ]
        refine drawn_take 9 20 (.agg #[.int .i64 r.k.h, sv9 r.k.a, sv9 r.k.b, sv9 r.k.c, sv9 r.k.d]) rfl rfl (by kernel_rfl) (by kernel_rfl) (by kernel_rfl) (by kernel_rfl) (fun _ _ _ h => h) (by rfl) (by assumption) (by intro w hSw; obtain ⟨a0, a1, a2, a3, a4, a5, a6, a7, a8⟩ := HRW.out w hSw; clear hSw; go_simp) ?_
        try simp only [List.setIfInBounds_toArray, List.set_cons_zero, List.set_cons_succ]
        refine drawn_take 10 21 (.pointer (some ⟨b, 0, none⟩)) rfl rfl (by kernel_rfl) (by kernel_rfl) (by kernel_rfl) (by kernel_rfl) (fun _ _ _ h => h) (by rfl) (by assumption) (by intro w hSw; obtain hS1 := hSw; go_simp) ?_
        try simp only [List.setIfInBounds_toArray, List.set_cons_zero, List.set_cons_succ]
        refine drawn_take 11 22 (.agg #[.int .i64 x.k.h, sv9 x.k.a, sv9 x.k.b, sv9 x.k.c, sv9 x.k.d]) rfl rfl (by kernel_rfl) (by kernel_rfl) (by kernel_rfl) (by kernel_rfl) (fun _ _ _ h => h) (by rfl) (by assumption) (by intro w hSw; have hB := HXW.out w hSw; have a0 : w.cell? ⟨b, 0, none⟩ = some (.int .i64 x.k.h) := hB.cell 0; have a1 : w.cell? ⟨b, 1, none⟩ = some (sv9 x.k.a) := hB.cell 1; have a2 : w.cell? ⟨b, 2, none⟩ = some (sv9 x.k.b) := hB.cell 2; have a3 : w.cell? ⟨b, 3, none⟩ = some (sv9 x.k.c) := hB.cell 3; have a4 : w.cell? ⟨b, 4, none⟩ = some (sv9 x.k.d) := hB.cell 4; clear hSw hB; go_simp) ?_
        try simp only [List.setIfInBounds_toArray, List.set_cons_zero, List.set_cons_succ]
        refine drawn_any [12] (by kernel_rfl) (by simp) ?_
        refine drawn_cons rfl (fun K hK => ?_) drawn_nil
        go_simp
        refine (HC.out wd).mono ?_
        rintro e w3 ⟨rfl, t3⟩
        have hS3 := hS0.trans t3 (fun _ _ f => f)
        refine hK.out _ _ _ hS3 ?_
        clear hK K t3 hS0
        have hS0 := hS3
        clear hS3
        try simp only [List.setIfInBounds_toArray, List.set_cons_zero, List.set_cons_succ]
        refine drawn_take 13 24 (.bool false) rfl rfl (by kernel_rfl) (by kernel_rfl) (by kernel_rfl) (by kernel_rfl) (fun _ _ _ h => h) (by rfl) (by assumption) (by intro w hSw; obtain hS1 := hSw; go_simp) ?_
        try simp only [List.setIfInBounds_toArray, List.set_cons_zero, List.set_cons_succ]
        refine drawn_last1 14 25 (.bool false) rfl rfl (by kernel_rfl) (by kernel_rfl) (by rfl) (by intro w; go_simp) hS0 ?_
        try simp only [List.setIfInBounds_toArray, List.set_cons_zero, List.set_cons_succ]
        have HZ := Lib.hid (HT2.out.trans hS0 (fun _ _ f => f))
        have HBZ : Hid (Box w3 b 55 (cells11 x)) := HB0.out.turn HZ.out (fun f => f)
        have HVZ : Hid (RdE ER (World.alloc w3 (.cells #[] 55)) (.slice (some ad) l.length c) l) := HV.out.later ((HT0.out.trans HZ.out (fun _ _ f => f)).alloc _)
        have HN0 := Lib.hid (NewE.empty (E := ER) (e := 55) w3 w3 (Turn.refl _ w3))
        clear hS0
        go_wp2_with (first
          | (with_reducible refine wpList_front (E := ER) (op := ⟨some 31, _, _, _, _, _⟩) Try.underlying26 HSZ.out rfl _ _ rfl HVZ.out rfl rfl hle ?_; intro hfr; have HFR := Lib.hid hfr; clear hfr)
          | (at_builtin; refine wpList_rows11 _ rfl _ _ rfl _ _ rfl HN0.out.own _ rfl (l.take k) HFR.out (by rw [List.length_nil, List.length_take]; omega) ?_; intro A7 n7 c7 w7 ho ht hn; have HN7 := Lib.hid (HN0.out.step ho ht hn); have HV7 : Hid (RdE ER w7 (.slice (some ad) l.length c) l) := (HV.out.later (HT0.out.trans HZ.out (fun _ _ f => f))).later HN7.out.turn; clear ho ht hn)
          | (with_reducible refine wpList_cut (E := ER) (op := ⟨some 35, _, _, _, _, _⟩) Try.underlying26 HSZ.out rfl _ _ rfl HV7.out rfl rfl hle ?_; intro B8 h8 o8; obtain ⟨m8, hm8⟩ : ∃ m8, m8 = l.length - k := ⟨_, rfl⟩; obtain ⟨d8, hd8⟩ : ∃ d8, d8 = c - k := ⟨_, rfl⟩; rw [← hm8, ← hd8] at h8 o8 ⊢; have HO8 := Lib.hid o8; have HR8 := Lib.hid h8; have HM8 := Lib.hid hm8; clear h8 o8 hm8 hd8)
          | fail)
        rw [List.nil_append] at HN7
        have HB7 : Hid (Box w7 b 55 (cells11 x)) := HBZ.out.turn HN7.out.turn (fun f => f)
        have HT7 : Hid (Turn (fun _ => False) w w7) := (HT0.out.trans HZ.out (fun _ _ f => f)).trans HN7.out.turn (fun _ _ f => f)
        have HOB : Hid (∀ g, (Value.slice A7 n7 c7).ownBlock = some g → g ≠ b ∧ w.heap.size ≤ g) := fun g hg => by
          have h1 := HN7.out.new g hg
          have h2 := HBZ.out.lt
          have h3 := (HT0.out.trans HZ.out (fun _ _ f => f)).size
          omega
        clear HVZ HN0 HFR
        have hm0 : (l.drop k)[0]? = some r := by rw [List.getElem?_drop]; exact HR.out
        obtain ⟨bd, rfl, hcb⟩ := row_at11 HR8.out hm0
        have hml : 0 < m8 := by have := HM8.out; omega
        have hmi : (0 : Int) < (m8 : Int) := by omega
        have HRW8 : Hid (∀ W, Turn (fun _ => False) w7 W → RowAt W bd r) := hcb
        unfold RowAt at HRW8
        have HXW8 : Hid (∀ W, Turn (fun _ => False) w7 W → Box W b 55 (cells11 x)) := fun W ht => HB7.out.turn ht (fun f => f)
        clear hcb hm0
        have hne := run_eql_key r.k x.k
        have hgd := fun X Y => guard_key9 .eql X Y r.k x.k
        refine drawn_region (fun W => Turn (fun _ => False) w7 W) [] (by kernel_rfl) ?_
        have hS0 : Turn (fun _ => False) w7 (World.drew w7) := (Turn.refl _ w7).drew
        generalize World.drew w7 = w8 at *
        refine drawn_take 0 36 (.slice (some bd) m8 d8) rfl rfl (by kernel_rfl) (by kernel_rfl) (by kernel_rfl) (by kernel_rfl) (fun _ _ _ h => h) (by rfl) (by assumption) (by intro w hSw; obtain hS1 := hSw; go_simp) ?_
        try simp only [List.setIfInBounds_toArray, List.set_cons_zero, List.set_cons_succ]
        refine drawn_take 1 37 (.int .i64 (m8 : Int)) rfl rfl (by kernel_rfl) (by kernel_rfl) (by kernel_rfl) (by kernel_rfl) (fun _ _ _ h => h) (by rfl) (by assumption) (by intro w hSw; obtain hS1 := hSw; go_simp) ?_
        try simp only [List.setIfInBounds_toArray, List.set_cons_zero, List.set_cons_succ]
        refine drawn_take 2 38 (.bool true) rfl rfl (by kernel_rfl) (by kernel_rfl) (by kernel_rfl) (by kernel_rfl) (fun _ _ _ h => h) (by rfl) (by assumption) (by intro w hSw; obtain hS1 := hSw; go_simp) ?_
        try simp only [List.setIfInBounds_toArray, List.set_cons_zero, List.set_cons_succ]
        refine drawn_take 3 39 (.bool true) rfl rfl (by kernel_rfl) (by kernel_rfl) (by kernel_rfl) (by kernel_rfl) (fun _ _ _ h => h) (by rfl) (by assumption) (by intro w hSw; obtain hS1 := hSw; go_simp) ?_
        try simp only [List.setIfInBounds_toArray, List.set_cons_zero, List.set_cons_succ]
        refine drawn_take 4 40 (.slice (some bd) m8 d8) rfl rfl (by kernel_rfl) (by kernel_rfl) (by kernel_rfl) (by kernel_rfl) (fun _ _ _ h => h) (by rfl) (by assumption) (by intro w hSw; obtain hS1 := hSw; go_simp) ?_
        try simp only [List.setIfInBounds_toArray, List.set_cons_zero, List.set_cons_succ]
        refine drawn_take 5 41 (.pointer (some bd)) rfl rfl (by kernel_rfl) (by kernel_rfl) (by kernel_rfl) (by kernel_rfl) (fun _ _ _ h => h) (by rfl) (by assumption) (by intro w hSw; obtain hS1 := hSw; go_simp) ?_
        try simp only [List.setIfInBounds_toArray, List.set_cons_zero, List.set_cons_succ]
        refine drawn_take 6 42 (.pointer (some bd)) rfl rfl (by kernel_rfl) (by kernel_rfl) (by kernel_rfl) (by kernel_rfl) (fun _ _ _ h => h) (by rfl) (by assumption) (by intro w hSw; obtain hS1 := hSw; go_simp) ?_
        try simp only [List.setIfInBounds_toArray, List.set_cons_zero, List.set_cons_succ]
        refine drawn_take 7 43 (.agg #[.int .i64 r.k.h, sv9 r.k.a, sv9 r.k.b, sv9 r.k.c, sv9 r.k.d]) rfl rfl (by kernel_rfl) (by kernel_rfl) (by kernel_rfl) (by kernel_rfl) (fun _ _ _ h => h) (by rfl) (by assumption) (by intro w hSw; obtain ⟨a0, a1, a2, a3, a4, a5, a6, a7, a8⟩ := HRW8.out w hSw; clear hSw; go_simp) ?_
        try simp only [List.setIfInBounds_toArray, List.set_cons_zero, List.set_cons_succ]
        refine drawn_take 8 44 (.pointer (some ⟨b, 0, none⟩)) rfl rfl (by kernel_rfl) (by kernel_rfl) (by kernel_rfl) (by kernel_rfl) (fun _ _ _ h => h) (by rfl) (by assumption) (by intro w hSw; obtain hS1 := hSw; go_simp) ?_
        try simp only [List.setIfInBounds_toArray, List.set_cons_zero, List.set_cons_succ]
        refine drawn_take 9 45 (.agg #[.int .i64 x.k.h, sv9 x.k.a, sv9 x.k.b, sv9 x.k.c, sv9 x.k.d]) rfl rfl (by kernel_rfl) (by kernel_rfl) (by kernel_rfl) (by kernel_rfl) (fun _ _ _ h => h) (by rfl) (by assumption) (by intro w hSw; have hB := HXW8.out w hSw; have a0 : w.cell? ⟨b, 0, none⟩ = some (.int .i64 x.k.h) := hB.cell 0; have a1 : w.cell? ⟨b, 1, none⟩ = some (sv9 x.k.a) := hB.cell 1; have a2 : w.cell? ⟨b, 2, none⟩ = some (sv9 x.k.b) := hB.cell 2; have a3 : w.cell? ⟨b, 3, none⟩ = some (sv9 x.k.c) := hB.cell 3; have a4 : w.cell? ⟨b, 4, none⟩ = some (sv9 x.k.d) := hB.cell 4; clear hSw hB; go_simp) ?_
        try simp only [List.setIfInBounds_toArray, List.set_cons_zero, List.set_cons_succ]
        by_cases hkk : r.k = x.k
        · rw [decide_eq_true hkk] at hne
          have HKK := Lib.hid hkk
          clear hkk
          refine drawn_take 10 46 (.bool true) rfl rfl (by kernel_rfl) (by kernel_rfl) (by kernel_rfl) (by kernel_rfl) (fun _ _ _ h => h) (by rfl) (by assumption) (by intro w hSw; obtain hS1 := hSw; go_simp) ?_
          try simp only [List.setIfInBounds_toArray, List.set_cons_zero, List.set_cons_succ]
          refine drawn_last1 11 47 (.bool true) rfl rfl (by kernel_rfl) (by kernel_rfl) (by rfl) (by intro w; go_simp) hS0 ?_
          try simp only [List.setIfInBounds_toArray, List.set_cons_zero, List.set_cons_succ]
          have HRES : Hid (res = (mergeC r.c x.c).map (fun c => l.take k ++ ⟨x.k, c⟩ :: l.drop (k + 1))) := by
            have h := HPUT.out
            rw [HR.out] at h
            show _ = _
            rw [h]
            exact if_pos HKK.out
          have HM : Hid (∀ W, Calls Try.prog 46 #[.agg #[.int .i64 r.c.n, .int .i64 r.c.s, .int .i64 r.c.lo, .int .i64 r.c.hi], .agg #[.int .i64 x.c.n, .int .i64 x.c.s, .int .i64 x.c.lo, .int .i64 x.c.hi]] W fun e w' => e = .returned (outC (mergeC r.c x.c)) ∧ Turn (fun _ => False) W w') := fun W => ref_merge r.c.n r.c.s r.c.lo r.c.hi x.c.n x.c.s x.c.lo x.c.hi W (HOR.out r HR.out) HXO
          generalize mergeC r.c x.c = o at *
          obtain ⟨n2, s2, lo2, hi2, ho2, hg2⟩ := outC_shape o
          rw [ho2] at HM
          have HG2 := Lib.hid hg2
          obtain ⟨bb, hbb⟩ : ∃ bb, bb = o.isSome := ⟨_, rfl⟩
          rw [← hbb] at HM
          have HBS := Lib.hid hbb
          have HONE := Lib.hid (cell_all11 ⟨n2, s2, lo2, hi2⟩)
          have hsi : (Try.prog.info? 53).map (·.size) = some 4 := by kernel_rfl
          have HSI := Lib.hid hsi
          have hSx := hS0
          clear hS0 ho2 hg2 hbb hsi hne hgd
          go_wp2_with fail
          refine drawn_region (fun W => Turn (fun _ => False) w7 W) [] (by kernel_rfl) ?_
          have hS0 : Turn (fun _ => False) w7 (World.drew w8) := hSx.drew
          generalize World.drew w8 = wd at *
          clear hSx
          refine drawn_take 0 49 (.slice (some bd) m8 d8) rfl rfl (by kernel_rfl) (by kernel_rfl) (by kernel_rfl) (by kernel_rfl) (fun _ _ _ h => h) (by rfl) (by assumption) (by intro w hSw; obtain hS1 := hSw; go_simp) ?_
          try simp only [List.setIfInBounds_toArray, List.set_cons_zero, List.set_cons_succ]
          refine drawn_take 1 50 (.pointer (some bd)) rfl rfl (by kernel_rfl) (by kernel_rfl) (by kernel_rfl) (by kernel_rfl) (fun _ _ _ h => h) (by rfl) (by assumption) (by intro w hSw; obtain hS1 := hSw; go_simp) ?_
          try simp only [List.setIfInBounds_toArray, List.set_cons_zero, List.set_cons_succ]
          refine drawn_take 2 51 (.pointer (some ⟨bd.block, bd.off + 5, none⟩)) rfl rfl (by kernel_rfl) (by kernel_rfl) (by kernel_rfl) (by kernel_rfl) (fun _ _ _ h => h) (by rfl) (by assumption) (by intro w hSw; obtain hS1 := hSw; go_simp) ?_
          try simp only [List.setIfInBounds_toArray, List.set_cons_zero, List.set_cons_succ]
          refine drawn_take 3 52 (.agg #[.int .i64 r.c.n, .int .i64 r.c.s, .int .i64 r.c.lo, .int .i64 r.c.hi]) rfl rfl (by kernel_rfl) (by kernel_rfl) (by kernel_rfl) (by kernel_rfl) (fun _ _ _ h => h) (by rfl) (by assumption) (by intro w hSw; obtain ⟨a0, a1, a2, a3, a4, a5, a6, a7, a8⟩ := HRW8.out w hSw; clear hSw; go_simp) ?_
          try simp only [List.setIfInBounds_toArray, List.set_cons_zero, List.set_cons_succ]
          refine drawn_take 4 53 (.pointer (some ⟨b, 5, none⟩)) rfl rfl (by kernel_rfl) (by kernel_rfl) (by kernel_rfl) (by kernel_rfl) (fun _ _ _ h => h) (by rfl) (by assumption) (by intro w hSw; obtain hS1 := hSw; go_simp) ?_
          try simp only [List.setIfInBounds_toArray, List.set_cons_zero, List.set_cons_succ]
          refine drawn_take 5 54 (.agg #[.int .i64 x.c.n, .int .i64 x.c.s, .int .i64 x.c.lo, .int .i64 x.c.hi]) rfl rfl (by kernel_rfl) (by kernel_rfl) (by kernel_rfl) (by kernel_rfl) (fun _ _ _ h => h) (by rfl) (by assumption) (by intro w hSw; have hB := HXW8.out w hSw; have a5 : w.cell? ⟨b, 5, none⟩ = some (.int .i64 x.c.n) := hB.cell 5; have a6 : w.cell? ⟨b, 6, none⟩ = some (.int .i64 x.c.s) := hB.cell 6; have a7 : w.cell? ⟨b, 7, none⟩ = some (.int .i64 x.c.lo) := hB.cell 7; have a8 : w.cell? ⟨b, 8, none⟩ = some (.int .i64 x.c.hi) := hB.cell 8; clear hSw hB; go_simp) ?_
          try simp only [List.setIfInBounds_toArray, List.set_cons_zero, List.set_cons_succ]
          refine drawn_any [6, 10] (by kernel_rfl) (by simp) ?_
          refine drawn_cons rfl (fun K hK => ?_) (drawn_cons rfl (fun K hK => ?_) drawn_nil)
          · go_simp
            refine (HM.out _).mono ?_
            rintro e wc ⟨rfl, tc⟩
            have hS3 := hS0.trans tc (fun _ _ f => f)
            refine hK.out _ _ _ hS3 ?_
            clear hK K tc
            try simp only [List.setIfInBounds_toArray, List.set_cons_zero, List.set_cons_succ]
            refine drawn_take 7 48 (.tuple #[.agg #[.int .i64 n2, .int .i64 s2, .int .i64 lo2, .int .i64 hi2], .bool bb]) rfl rfl (by kernel_rfl) (by kernel_rfl) (by kernel_rfl) (by kernel_rfl) (fun _ _ _ h => h) (by rfl) (by assumption) (by intro w hSw; go_simp) ?_
            try simp only [List.setIfInBounds_toArray, List.set_cons_zero, List.set_cons_succ]
            refine drawn_take 8 56 (.agg #[.int .i64 n2, .int .i64 s2, .int .i64 lo2, .int .i64 hi2]) rfl rfl (by kernel_rfl) (by kernel_rfl) (by kernel_rfl) (by kernel_rfl) (fun _ _ _ h => h) (by rfl) (by assumption) (by intro w hSw; go_simp) ?_
            try simp only [List.setIfInBounds_toArray, List.set_cons_zero, List.set_cons_succ]
            refine drawn_take 9 57 (.bool bb) rfl rfl (by kernel_rfl) (by kernel_rfl) (by kernel_rfl) (by kernel_rfl) (fun _ _ _ h => h) (by rfl) (by assumption) (by intro w hSw; go_simp) ?_
            try simp only [List.setIfInBounds_toArray, List.set_cons_zero, List.set_cons_succ]
            refine drawn_any [10] (by kernel_rfl) (by simp) ?_
            refine drawn_cons rfl (fun K hK => ?_) drawn_nil
            go_simp
            obtain ⟨g6, hg6⟩ : ∃ g6, g6 = wc.heap.size := ⟨_, rfl⟩
            have hgr : w7.heap.size ≤ g6 := by rw [hg6]; exact hS3.size
            obtain ⟨w4, hw4⟩ : ∃ w4, w4 = wc.alloc (.cells #[.int .i64 0, .int .i64 0, .int .i64 0, .int .i64 0] 53) := ⟨_, rfl⟩
            have hb4 : Box w4 g6 53 #[.int .i64 0, .int .i64 0, .int .i64 0, .int .i64 0] := by rw [hw4, hg6]; exact Box.new wc _ _
            have hS4 : Turn (fun _ => False) w7 w4 := by rw [hw4]; exact hS3.alloc _
            rw [← hw4, ← hg6]
            refine hK.out _ _ _ hS4 ?_
            clear hK K hS3 hw4 hg6
            try simp only [List.setIfInBounds_toArray, List.set_cons_zero, List.set_cons_succ]
            refine drawn_any [11] (by kernel_rfl) (by simp) ?_
            refine drawn_cons rfl (fun K hK => ?_) drawn_nil
            have HB4 : Hid (Box w4 g6 53 #[.int .i64 0, .int .i64 0, .int .i64 0, .int .i64 0]) := hb4
            have HTH : Hid (w4.there g6 0 4) := HB4.out.there (Nat.le_refl 4)
            refine put_box g6 0 (ca ⟨n2, s2, lo2, hi2⟩) HTH.out rfl rfl HSI.out HONE.out ?_
            obtain ⟨w5, hw5⟩ : ∃ w5, w5 = w4.setCells g6 0 (ca ⟨n2, s2, lo2, hi2⟩).toList := ⟨_, rfl⟩
            have HB6 : Hid (Box w5 g6 53 (ca ⟨n2, s2, lo2, hi2⟩)) := by rw [hw5]; exact HB4.out.all _ rfl
            have hS5 : Turn (fun _ => False) w7 w5 := by rw [hw5]; exact hS4.trans (turn_setCells (S := fun k => k = g6) rfl _ _ _) (fun k hk e => by have := hgr; omega)
            have e5 : w4.setCells g6 0 [.int .i64 n2, .int .i64 s2, .int .i64 lo2, .int .i64 hi2] = w5 := hw5.symm
            try rw [← hw5]
            try rw [e5]
            refine hK.out _ _ _ hS5 ?_
            clear hK K hw5 e5 HB4 HTH hb4 hS4
            try simp only [List.setIfInBounds_toArray, List.set_cons_zero, List.set_cons_succ]
            refine drawn_last1 12 10 (.bool bb) rfl rfl (by kernel_rfl) (by kernel_rfl) (by rfl) (by intro w; go_simp) hS5 ?_
            try simp only [List.setIfInBounds_toArray, List.set_cons_zero, List.set_cons_succ]
            have HF := Lib.hid hS5
            clear hS5
            cases o with
            | none =>
              have eb : bb = false := HBS.out
              subst eb
              have HRN : Hid (res = none) := HRES.out
              go_wp2
              go_ret2
              exact ⟨_, by rw [HRN.out]; rfl, by rw [HRN.out]; exact RdE.nil _, HT7.out.trans HF.out (fun _ _ f => f)⟩
            | some d =>
              have eb : bb = true := HBS.out
              subst eb
              have ed : d = ⟨n2, s2, lo2, hi2⟩ := HG2.out
              subst ed
              have HRES : Hid (res = some ((l.take k ++ [⟨x.k, ⟨n2, s2, lo2, hi2⟩⟩]) ++ (l.drop k).drop 1)) := by
                show _ = _
                rw [HRES.out, List.append_assoc, List.drop_drop]
                rfl
              obtain ⟨⟨d0, d1, d2, d3⟩, _⟩ := box_cells HB6.out
              have hB := HXW8.out w5 HF.out
              have a0 : w5.cell? ⟨b, 5, none⟩ = some (.int .i64 x.c.n) := hB.cell 5
              have a1 : w5.cell? ⟨b, 6, none⟩ = some (.int .i64 x.c.s) := hB.cell 6
              have a2 : w5.cell? ⟨b, 7, none⟩ = some (.int .i64 x.c.lo) := hB.cell 7
              have a3 : w5.cell? ⟨b, 8, none⟩ = some (.int .i64 x.c.hi) := hB.cell 8
              have f0 := hB.free 5
              have f1 := hB.free 6
              have f2 := hB.free 7
              have f3 := hB.free 8
              have HBQ : Hid (∀ wq, wq = (((w5.setCell ⟨b, 5, none⟩ (.int .i64 n2)).setCell ⟨b, 6, none⟩ (.int .i64 s2)).setCell ⟨b, 7, none⟩ (.int .i64 lo2)).setCell ⟨b, 8, none⟩ (.int .i64 hi2) → True ∧ Box wq b 55 (cells11 ⟨x.k, ⟨n2, s2, lo2, hi2⟩⟩) ∧ Turn (fun g => g = b) w5 wq) := fun wq e => by
                rw [e]
                exact ⟨trivial, row_sets11 hB n2 s2 lo2 hi2, row_turn11 w5 b n2 s2 lo2 hi2⟩
              have hm1 : 1 ≤ m8 := hml
              have hmk : m8 ≤ 100000 := by have := HM8.out; omega
              have HR5 : Hid (RdE ER w5 (.slice (some bd) m8 d8) (l.drop k)) := HR8.out.later HF.out
              have HBD : Hid (bd.block < w.heap.size) := by
                have h1 := HO8.out bd.block rfl
                have h2 : ad.block = bd.block := by simpa [Value.ownBlock] using h1
                show _ < _
                rw [← h2]
                exact HAB.out
              clear hB
              go_wp2_with (first
                | (obtain ⟨wq, hwq⟩ : ∃ wq, wq = (((w5.setCell ⟨b, 5, none⟩ (.int .i64 n2)).setCell ⟨b, 6, none⟩ (.int .i64 s2)).setCell ⟨b, 7, none⟩ (.int .i64 lo2)).setCell ⟨b, 8, none⟩ (.int .i64 hi2) := ⟨_, rfl⟩
                   rw [← hwq]
                   have HQ := Lib.hid (HBQ.out wq hwq)
                   have HRW9 : Hid (RdE ER wq (.slice (some bd) m8 d8) (l.drop k)) := HR5.out.turn HQ.out.2.2 (fun g hg e => by
                     have h1 : bd.block = g := by simpa [Value.ownBlock] using hg
                     have h2 := HBD.out
                     have h3 := HBW.out
                     omega)
                   with_reducible refine wpList_cut (E := ER) (i := 1) (op := ⟨some 63, _, _, _, _, _⟩) Try.underlying26 HSZ.out rfl _ _ rfl HRW9.out rfl rfl hm1 ?_
                   intro B9 h9 o9
                   have HR9 := Lib.hid h9
                   have HO9 := Lib.hid o9
                   clear h9 o9 hwq
                   refine halt11 ?_)
                | fail)
              unfold Halt11
              have HTQ : Hid (Turn (fun _ => False) w wq) := (HT7.out.trans HF.out (fun _ _ f => f)).trans HQ.out.2.2 (fun g hg e => by have := HBW.out; omega)
              have HOQ : Hid (OwE ER 55 wq (.slice A7 n7 c7) (l.take k)) := (HN7.out.own.later HF.out).turn HQ.out.2.2 (fun g hg e => (HOB.out g hg).1 e)
              have HRQ : Hid (RdE ER wq (.slice B9 (m8 - 1) (d8 - 1)) ((l.drop k).drop 1)) := HR9.out
              have hB := HQ.out.2.1
              have e0 : wq.cell? ⟨b, 0, none⟩ = some (.int .i64 x.k.h) := hB.cell 0
              have e1 : wq.cell? ⟨b, 1, none⟩ = some (sv9 x.k.a) := hB.cell 1
              have e2 : wq.cell? ⟨b, 2, none⟩ = some (sv9 x.k.b) := hB.cell 2
              have e3 : wq.cell? ⟨b, 3, none⟩ = some (sv9 x.k.c) := hB.cell 3
              have e4 : wq.cell? ⟨b, 4, none⟩ = some (sv9 x.k.d) := hB.cell 4
              have e5 : wq.cell? ⟨b, 5, none⟩ = some (.int .i64 n2) := hB.cell 5
              have e6 : wq.cell? ⟨b, 6, none⟩ = some (.int .i64 s2) := hB.cell 6
              have e7 : wq.cell? ⟨b, 7, none⟩ = some (.int .i64 lo2) := hB.cell 7
              have e8 : wq.cell? ⟨b, 8, none⟩ = some (.int .i64 hi2) := hB.cell 8
              have HRQ_ : Hid (∀ w10, Turn (fun g => (Value.slice A7 n7 c7).ownBlock = some g) (wq.alloc (.cells (cells11 ⟨x.k, ⟨n2, s2, lo2, hi2⟩⟩) 55)) w10 → RdE ER w10 (.slice B9 (m8 - 1) (d8 - 1)) ((l.drop k).drop 1)) := fun w10 ht => (HRQ.out.later ((Turn.refl _ wq).alloc _)).turn ht (fun g hg e => by
                have h1 := HO9.out g hg
                have h2 : bd.block = g := by simpa [Value.ownBlock] using h1
                have h3 := HBD.out
                have h4 := (HOB.out g e).2
                omega)
              clear hB d0 d1 d2 d3 a0 a1 a2 a3 f0 f1 f2 f3
              have HSX := Lib.hid (one_row ER 55 wq ⟨x.k, ⟨n2, s2, lo2, hi2⟩⟩)
              have HOA : Hid (OwE ER 55 (wq.alloc (.cells (cells11 ⟨x.k, ⟨n2, s2, lo2, hi2⟩⟩) 55)) (.slice A7 n7 c7) (l.take k)) := HOQ.out.later ((Turn.refl _ wq).alloc _)
              go_wp2_with (at_builtin; first
                | (refine wpList_rows11 _ rfl _ _ rfl _ _ rfl HO10.out _ rfl ((l.drop k).drop 1) HR10.out (by simp only [List.length_append, List.length_take, List.length_singleton, List.length_drop]; omega) ?_; intro A11 n11 c11 w11 ho ht hn; have HO11 := Lib.hid ho; have HT11 : Hid (Turn (fun g => (Value.slice A10 n10 c10).ownBlock = some g) w10 w11) := ht; clear ho ht hn)
                | (refine wpList_rows11 _ rfl _ _ rfl _ _ rfl HOA.out _ rfl [⟨x.k, ⟨n2, s2, lo2, hi2⟩⟩] HSX.out (by simp only [List.length_take, List.length_singleton]; omega) ?_; intro A10 n10 c10 w10 ho ht hn; have HO10 := Lib.hid ho; have HT10 := Lib.hid ht; have HN10 := Lib.hid hn; have HR10 := Lib.hid (HRQ_.out _ ht); clear ho ht hn)
                | fail)
              go_ret2
              refine ⟨_, by rw [HRES.out]; rfl, by rw [HRES.out]; exact HO11.out.rd, ?_⟩
              refine ((HTQ.out.alloc _).trans HT10.out (fun g hg e => by have := (HOB.out g e).2; omega)).trans HT11.out (fun g hg e => ?_)
              rcases HN10.out with h | h
              · rw [h] at e; have := (HOB.out g e).2; omega
              · rw [h, World.size_alloc] at e; have := HTQ.out.size; have e2 := Option.some.inj e; omega
          · go_simp
            obtain ⟨g6, hg6⟩ : ∃ g6, g6 = wd.heap.size := ⟨_, rfl⟩
            have hgr : w7.heap.size ≤ g6 := by rw [hg6]; exact hS0.size
            obtain ⟨wa, hwa⟩ : ∃ wa, wa = wd.alloc (.cells #[.int .i64 0, .int .i64 0, .int .i64 0, .int .i64 0] 53) := ⟨_, rfl⟩
            have HBA : Hid (True ∧ Box wa g6 53 #[.int .i64 0, .int .i64 0, .int .i64 0, .int .i64 0]) := ⟨trivial, by rw [hwa, hg6]; exact Box.new wd _ _⟩
            have hSa : Turn (fun _ => False) w7 wa := by rw [hwa]; exact hS0.alloc _
            rw [← hwa, ← hg6]
            refine hK.out _ _ _ hSa ?_
            clear hK K hS0 hwa hg6
            try simp only [List.setIfInBounds_toArray, List.set_cons_zero, List.set_cons_succ]
            refine drawn_any [6] (by kernel_rfl) (by simp) ?_
            refine drawn_cons rfl (fun K hK => ?_) drawn_nil
            have hS0 := hSa
            clear hSa
            go_simp
            refine (HM.out _).mono ?_
            rintro e w4 ⟨rfl, t3⟩
            have hS4 := hS0.trans t3 (fun _ _ f => f)
            have HB4b : Hid (True ∧ Box w4 g6 53 #[.int .i64 0, .int .i64 0, .int .i64 0, .int .i64 0]) := ⟨trivial, HBA.out.2.turn t3 (fun f => f)⟩
            refine hK.out _ _ _ hS4 ?_
            clear hK K t3 HBA hS0
            try simp only [List.setIfInBounds_toArray, List.set_cons_zero, List.set_cons_succ]
            refine drawn_take 7 48 (.tuple #[.agg #[.int .i64 n2, .int .i64 s2, .int .i64 lo2, .int .i64 hi2], .bool bb]) rfl rfl (by kernel_rfl) (by kernel_rfl) (by kernel_rfl) (by kernel_rfl) (fun _ _ _ h => h) (by rfl) (by assumption) (by intro w hSw; go_simp) ?_
            try simp only [List.setIfInBounds_toArray, List.set_cons_zero, List.set_cons_succ]
            refine drawn_take 8 56 (.agg #[.int .i64 n2, .int .i64 s2, .int .i64 lo2, .int .i64 hi2]) rfl rfl (by kernel_rfl) (by kernel_rfl) (by kernel_rfl) (by kernel_rfl) (fun _ _ _ h => h) (by rfl) (by assumption) (by intro w hSw; go_simp) ?_
            try simp only [List.setIfInBounds_toArray, List.set_cons_zero, List.set_cons_succ]
            refine drawn_take 9 57 (.bool bb) rfl rfl (by kernel_rfl) (by kernel_rfl) (by kernel_rfl) (by kernel_rfl) (fun _ _ _ h => h) (by rfl) (by assumption) (by intro w hSw; go_simp) ?_
            try simp only [List.setIfInBounds_toArray, List.set_cons_zero, List.set_cons_succ]
            refine drawn_any [11] (by kernel_rfl) (by simp) ?_
            refine drawn_cons rfl (fun K hK => ?_) drawn_nil
            have hb4 := HB4b.out.2
            have HB4 : Hid (Box w4 g6 53 #[.int .i64 0, .int .i64 0, .int .i64 0, .int .i64 0]) := hb4
            have HTH : Hid (w4.there g6 0 4) := HB4.out.there (Nat.le_refl 4)
            refine put_box g6 0 (ca ⟨n2, s2, lo2, hi2⟩) HTH.out rfl rfl HSI.out HONE.out ?_
            obtain ⟨w5, hw5⟩ : ∃ w5, w5 = w4.setCells g6 0 (ca ⟨n2, s2, lo2, hi2⟩).toList := ⟨_, rfl⟩
            have HB6 : Hid (Box w5 g6 53 (ca ⟨n2, s2, lo2, hi2⟩)) := by rw [hw5]; exact HB4.out.all _ rfl
            have hS5 : Turn (fun _ => False) w7 w5 := by rw [hw5]; exact hS4.trans (turn_setCells (S := fun k => k = g6) rfl _ _ _) (fun k hk e => by have := hgr; omega)
            have e5 : w4.setCells g6 0 [.int .i64 n2, .int .i64 s2, .int .i64 lo2, .int .i64 hi2] = w5 := hw5.symm
            try rw [← hw5]
            try rw [e5]
            refine hK.out _ _ _ hS5 ?_
            clear hK K hw5 e5 HB4 HTH hb4 hS4
            try simp only [List.setIfInBounds_toArray, List.set_cons_zero, List.set_cons_succ]
            refine drawn_last1 12 10 (.bool bb) rfl rfl (by kernel_rfl) (by kernel_rfl) (by rfl) (by intro w; go_simp) hS5 ?_
            try simp only [List.setIfInBounds_toArray, List.set_cons_zero, List.set_cons_succ]
            have HF := Lib.hid hS5
            clear hS5
            cases o with
            | none =>
              have eb : bb = false := HBS.out
              subst eb
              have HRN : Hid (res = none) := HRES.out
              go_wp2
              go_ret2
              exact ⟨_, by rw [HRN.out]; rfl, by rw [HRN.out]; exact RdE.nil _, HT7.out.trans HF.out (fun _ _ f => f)⟩
            | some d =>
              have eb : bb = true := HBS.out
              subst eb
              have ed : d = ⟨n2, s2, lo2, hi2⟩ := HG2.out
              subst ed
              have HRES : Hid (res = some ((l.take k ++ [⟨x.k, ⟨n2, s2, lo2, hi2⟩⟩]) ++ (l.drop k).drop 1)) := by
                show _ = _
                rw [HRES.out, List.append_assoc, List.drop_drop]
                rfl
              obtain ⟨⟨d0, d1, d2, d3⟩, _⟩ := box_cells HB6.out
              have hB := HXW8.out w5 HF.out
              have a0 : w5.cell? ⟨b, 5, none⟩ = some (.int .i64 x.c.n) := hB.cell 5
              have a1 : w5.cell? ⟨b, 6, none⟩ = some (.int .i64 x.c.s) := hB.cell 6
              have a2 : w5.cell? ⟨b, 7, none⟩ = some (.int .i64 x.c.lo) := hB.cell 7
              have a3 : w5.cell? ⟨b, 8, none⟩ = some (.int .i64 x.c.hi) := hB.cell 8
              have f0 := hB.free 5
              have f1 := hB.free 6
              have f2 := hB.free 7
              have f3 := hB.free 8
              have HBQ : Hid (∀ wq, wq = (((w5.setCell ⟨b, 5, none⟩ (.int .i64 n2)).setCell ⟨b, 6, none⟩ (.int .i64 s2)).setCell ⟨b, 7, none⟩ (.int .i64 lo2)).setCell ⟨b, 8, none⟩ (.int .i64 hi2) → True ∧ Box wq b 55 (cells11 ⟨x.k, ⟨n2, s2, lo2, hi2⟩⟩) ∧ Turn (fun g => g = b) w5 wq) := fun wq e => by
                rw [e]
                exact ⟨trivial, row_sets11 hB n2 s2 lo2 hi2, row_turn11 w5 b n2 s2 lo2 hi2⟩
              have hm1 : 1 ≤ m8 := hml
              have hmk : m8 ≤ 100000 := by have := HM8.out; omega
              have HR5 : Hid (RdE ER w5 (.slice (some bd) m8 d8) (l.drop k)) := HR8.out.later HF.out
              have HBD : Hid (bd.block < w.heap.size) := by
                have h1 := HO8.out bd.block rfl
                have h2 : ad.block = bd.block := by simpa [Value.ownBlock] using h1
                show _ < _
                rw [← h2]
                exact HAB.out
              clear hB
              go_wp2_with (first
                | (obtain ⟨wq, hwq⟩ : ∃ wq, wq = (((w5.setCell ⟨b, 5, none⟩ (.int .i64 n2)).setCell ⟨b, 6, none⟩ (.int .i64 s2)).setCell ⟨b, 7, none⟩ (.int .i64 lo2)).setCell ⟨b, 8, none⟩ (.int .i64 hi2) := ⟨_, rfl⟩
                   rw [← hwq]
                   have HQ := Lib.hid (HBQ.out wq hwq)
                   have HRW9 : Hid (RdE ER wq (.slice (some bd) m8 d8) (l.drop k)) := HR5.out.turn HQ.out.2.2 (fun g hg e => by
                     have h1 : bd.block = g := by simpa [Value.ownBlock] using hg
                     have h2 := HBD.out
                     have h3 := HBW.out
                     omega)
                   with_reducible refine wpList_cut (E := ER) (i := 1) (op := ⟨some 63, _, _, _, _, _⟩) Try.underlying26 HSZ.out rfl _ _ rfl HRW9.out rfl rfl hm1 ?_
                   intro B9 h9 o9
                   have HR9 := Lib.hid h9
                   have HO9 := Lib.hid o9
                   clear h9 o9 hwq
                   refine halt11 ?_)
                | fail)
              unfold Halt11
              have HTQ : Hid (Turn (fun _ => False) w wq) := (HT7.out.trans HF.out (fun _ _ f => f)).trans HQ.out.2.2 (fun g hg e => by have := HBW.out; omega)
              have HOQ : Hid (OwE ER 55 wq (.slice A7 n7 c7) (l.take k)) := (HN7.out.own.later HF.out).turn HQ.out.2.2 (fun g hg e => (HOB.out g hg).1 e)
              have HRQ : Hid (RdE ER wq (.slice B9 (m8 - 1) (d8 - 1)) ((l.drop k).drop 1)) := HR9.out
              have hB := HQ.out.2.1
              have e0 : wq.cell? ⟨b, 0, none⟩ = some (.int .i64 x.k.h) := hB.cell 0
              have e1 : wq.cell? ⟨b, 1, none⟩ = some (sv9 x.k.a) := hB.cell 1
              have e2 : wq.cell? ⟨b, 2, none⟩ = some (sv9 x.k.b) := hB.cell 2
              have e3 : wq.cell? ⟨b, 3, none⟩ = some (sv9 x.k.c) := hB.cell 3
              have e4 : wq.cell? ⟨b, 4, none⟩ = some (sv9 x.k.d) := hB.cell 4
              have e5 : wq.cell? ⟨b, 5, none⟩ = some (.int .i64 n2) := hB.cell 5
              have e6 : wq.cell? ⟨b, 6, none⟩ = some (.int .i64 s2) := hB.cell 6
              have e7 : wq.cell? ⟨b, 7, none⟩ = some (.int .i64 lo2) := hB.cell 7
              have e8 : wq.cell? ⟨b, 8, none⟩ = some (.int .i64 hi2) := hB.cell 8
              have HRQ_ : Hid (∀ w10, Turn (fun g => (Value.slice A7 n7 c7).ownBlock = some g) (wq.alloc (.cells (cells11 ⟨x.k, ⟨n2, s2, lo2, hi2⟩⟩) 55)) w10 → RdE ER w10 (.slice B9 (m8 - 1) (d8 - 1)) ((l.drop k).drop 1)) := fun w10 ht => (HRQ.out.later ((Turn.refl _ wq).alloc _)).turn ht (fun g hg e => by
                have h1 := HO9.out g hg
                have h2 : bd.block = g := by simpa [Value.ownBlock] using h1
                have h3 := HBD.out
                have h4 := (HOB.out g e).2
                omega)
              clear hB d0 d1 d2 d3 a0 a1 a2 a3 f0 f1 f2 f3
              have HSX := Lib.hid (one_row ER 55 wq ⟨x.k, ⟨n2, s2, lo2, hi2⟩⟩)
              have HOA : Hid (OwE ER 55 (wq.alloc (.cells (cells11 ⟨x.k, ⟨n2, s2, lo2, hi2⟩⟩) 55)) (.slice A7 n7 c7) (l.take k)) := HOQ.out.later ((Turn.refl _ wq).alloc _)
              go_wp2_with (at_builtin; first
                | (refine wpList_rows11 _ rfl _ _ rfl _ _ rfl HO10.out _ rfl ((l.drop k).drop 1) HR10.out (by simp only [List.length_append, List.length_take, List.length_singleton, List.length_drop]; omega) ?_; intro A11 n11 c11 w11 ho ht hn; have HO11 := Lib.hid ho; have HT11 : Hid (Turn (fun g => (Value.slice A10 n10 c10).ownBlock = some g) w10 w11) := ht; clear ho ht hn)
                | (refine wpList_rows11 _ rfl _ _ rfl _ _ rfl HOA.out _ rfl [⟨x.k, ⟨n2, s2, lo2, hi2⟩⟩] HSX.out (by simp only [List.length_take, List.length_singleton]; omega) ?_; intro A10 n10 c10 w10 ho ht hn; have HO10 := Lib.hid ho; have HT10 := Lib.hid ht; have HN10 := Lib.hid hn; have HR10 := Lib.hid (HRQ_.out _ ht); clear ho ht hn)
                | fail)
              go_ret2
              refine ⟨_, by rw [HRES.out]; rfl, by rw [HRES.out]; exact HO11.out.rd, ?_⟩
              refine ((HTQ.out.alloc _).trans HT10.out (fun g hg e => by have := (HOB.out g e).2; omega)).trans HT11.out (fun g hg e => ?_)
              rcases HN10.out with h | h
              · rw [h] at e; have := (HOB.out g e).2; omega
              · rw [h, World.size_alloc] at e; have := HTQ.out.size; have e2 := Option.some.inj e; omega
        · rw [decide_eq_false hkk] at hne
          refine drawn_take 10 46 (.bool false) rfl rfl (by kernel_rfl) (by kernel_rfl) (by kernel_rfl) (by kernel_rfl) (fun _ _ _ h => h) (by rfl) (by assumption) (by intro w hSw; obtain hS1 := hSw; go_simp) ?_
          try simp only [List.setIfInBounds_toArray, List.set_cons_zero, List.set_cons_succ]
          refine drawn_last1 11 47 (.bool false) rfl rfl (by kernel_rfl) (by kernel_rfl) (by rfl) (by intro w; go_simp) hS0 ?_
          try simp only [List.setIfInBounds_toArray, List.set_cons_zero, List.set_cons_succ]
          have HRES : Hid (res = some (l.take k ++ x :: l.drop k)) := by
            have h := HPUT.out
            rw [HR.out] at h
            show _ = _
            rw [h]
            exact if_neg hkk
          have HRES : Hid (res = some ((l.take k ++ [x]) ++ l.drop k)) := by
            show _ = _
            rw [HRES.out, List.append_assoc]
            rfl
          obtain ⟨wq, hwq⟩ : ∃ wq, wq = w8 := ⟨_, rfl⟩
          subst hwq
          have HTQ : Hid (Turn (fun _ => False) w wq) := HT7.out.trans hS0 (fun _ _ f => f)
          have HOQ : Hid (OwE ER 55 wq (.slice A7 n7 c7) (l.take k)) := HN7.out.own.later hS0
          have HRQ : Hid (RdE ER wq (.slice (some bd) m8 d8) (l.drop k)) := HR8.out.later hS0
          have hB := HXW8.out wq hS0
          have e0 : wq.cell? ⟨b, 0, none⟩ = some (.int .i64 x.k.h) := hB.cell 0
          have e1 : wq.cell? ⟨b, 1, none⟩ = some (sv9 x.k.a) := hB.cell 1
          have e2 : wq.cell? ⟨b, 2, none⟩ = some (sv9 x.k.b) := hB.cell 2
          have e3 : wq.cell? ⟨b, 3, none⟩ = some (sv9 x.k.c) := hB.cell 3
          have e4 : wq.cell? ⟨b, 4, none⟩ = some (sv9 x.k.d) := hB.cell 4
          have e5 : wq.cell? ⟨b, 5, none⟩ = some (.int .i64 x.c.n) := hB.cell 5
          have e6 : wq.cell? ⟨b, 6, none⟩ = some (.int .i64 x.c.s) := hB.cell 6
          have e7 : wq.cell? ⟨b, 7, none⟩ = some (.int .i64 x.c.lo) := hB.cell 7
          have e8 : wq.cell? ⟨b, 8, none⟩ = some (.int .i64 x.c.hi) := hB.cell 8
          have HRQ_ : Hid (∀ w10, Turn (fun g => (Value.slice A7 n7 c7).ownBlock = some g) (wq.alloc (.cells (cells11 x) 55)) w10 → RdE ER w10 (.slice (some bd) m8 d8) (l.drop k)) := fun w10 ht => (HRQ.out.later ((Turn.refl _ wq).alloc _)).turn ht (fun g hg e => by
            have h1 := HO8.out g hg
            have h2 : ad.block = g := by simpa [Value.ownBlock] using h1
            have h3 := HAB.out
            have h4 := (HOB.out g e).2
            omega)
          clear hB hS0 hne hgd
          have HSX := Lib.hid (one_row ER 55 wq x)
          have HOA : Hid (OwE ER 55 (wq.alloc (.cells (cells11 x) 55)) (.slice A7 n7 c7) (l.take k)) := HOQ.out.later ((Turn.refl _ wq).alloc _)
          go_wp2_with (at_builtin; first
            | (refine wpList_rows11 _ rfl _ _ rfl _ _ rfl HO10.out _ rfl (l.drop k) HR10.out (by simp only [List.length_append, List.length_take, List.length_singleton, List.length_drop]; omega) ?_; intro A11 n11 c11 w11 ho ht hn; have HO11 := Lib.hid ho; have HT11 : Hid (Turn (fun g => (Value.slice A10 n10 c10).ownBlock = some g) w10 w11) := ht; clear ho ht hn)
            | (refine wpList_rows11 _ rfl _ _ rfl _ _ rfl HOA.out _ rfl [x] HSX.out (by simp only [List.length_take, List.length_singleton]; omega) ?_; intro A10 n10 c10 w10 ho ht hn; have HO10 := Lib.hid ho; have HT10 := Lib.hid ht; have HN10 := Lib.hid hn; have HR10 := Lib.hid (HRQ_.out _ ht); clear ho ht hn)
            | fail)
          go_ret2
          refine ⟨_, by rw [HRES.out]; rfl, by rw [HRES.out]; exact HO11.out.rd, ?_⟩
          refine ((HTQ.out.alloc _).trans HT10.out (fun g hg e => by have := (HOB.out g e).2; omega)).trans HT11.out (fun g hg e => ?_)
          rcases HN10.out with h | h
          · rw [h] at e; have := (HOB.out g e).2; omega
          · rw [h, World.size_alloc] at e; have := HTQ.out.size; have e2 := Option.some.inj e; omega
      · have hkl : ¬ (k : Int) < l.length := by omega
        go_wp2_with fail
        refine drawn_region (fun W => Turn (fun _ => False) wr W) [] (by kernel_rfl) ?_
        have hS0 : Turn (fun _ => False) wr (World.drew wr) := (Turn.refl _ wr).drew
        generalize World.drew wr = wd at *
        refine drawn_take 0 11 (.int .i64 (k : Int)) rfl rfl (by kernel_rfl) (by kernel_rfl) (by kernel_rfl) (by kernel_rfl) (fun _ _ _ h => h) (by rfl) (by assumption) (by intro w hSw; obtain hS1 := hSw; go_simp) ?_
        try simp only [List.setIfInBounds_toArray, List.set_cons_zero, List.set_cons_succ]
        refine drawn_take 1 12 (.slice A l.length c) rfl rfl (by kernel_rfl) (by kernel_rfl) (by kernel_rfl) (by kernel_rfl) (fun _ _ _ h => h) (by rfl) (by assumption) (by intro w hSw; obtain hS1 := hSw; go_simp) ?_
        try simp only [List.setIfInBounds_toArray, List.set_cons_zero, List.set_cons_succ]
        refine drawn_take 2 13 (.int .i64 (l.length : Int)) rfl rfl (by kernel_rfl) (by kernel_rfl) (by kernel_rfl) (by kernel_rfl) (fun _ _ _ h => h) (by rfl) (by assumption) (by intro w hSw; obtain hS1 := hSw; go_simp) ?_
        try simp only [List.setIfInBounds_toArray, List.set_cons_zero, List.set_cons_succ]
        refine drawn_take 3 14 (.bool false) rfl rfl (by kernel_rfl) (by kernel_rfl) (by kernel_rfl) (by kernel_rfl) (fun _ _ _ h => h) (by rfl) (by assumption) (by intro w hSw; obtain hS1 := hSw; go_simp) ?_
        try simp only [List.setIfInBounds_toArray, List.set_cons_zero, List.set_cons_succ]
        refine drawn_take 4 15 (.bool false) rfl rfl (by kernel_rfl) (by kernel_rfl) (by kernel_rfl) (by kernel_rfl) (fun _ _ _ h => h) (by rfl) (by assumption) (by intro w hSw; obtain hS1 := hSw; go_simp) ?_
        try simp only [List.setIfInBounds_toArray, List.set_cons_zero, List.set_cons_succ]
        refine drawn_skip 5 16 rfl rfl (by kernel_rfl) (by kernel_rfl) (by kernel_rfl) (by kernel_rfl) (fun _ _ _ h => h) (by rfl) (fun _ => by assumption) ?_
        try simp only [List.setIfInBounds_toArray, List.set_cons_zero, List.set_cons_succ]
        refine drawn_skip 6 17 rfl rfl (by kernel_rfl) (by kernel_rfl) (by kernel_rfl) (by kernel_rfl) (fun _ _ _ h => h) (by rfl) (fun _ => by assumption) ?_
        try simp only [List.setIfInBounds_toArray, List.set_cons_zero, List.set_cons_succ]
        refine drawn_skip 7 18 rfl rfl (by kernel_rfl) (by kernel_rfl) (by kernel_rfl) (by kernel_rfl) (fun _ _ _ h => h) (by rfl) (fun _ => by assumption) ?_
        try simp only [List.setIfInBounds_toArray, List.set_cons_zero, List.set_cons_succ]
        refine drawn_skip 8 19 rfl rfl (by kernel_rfl) (by kernel_rfl) (by kernel_rfl) (by kernel_rfl) (fun _ _ _ h => h) (by rfl) (fun _ => by assumption) ?_
        try simp only [List.setIfInBounds_toArray, List.set_cons_zero, List.set_cons_succ]
        refine drawn_skip 9 20 rfl rfl (by kernel_rfl) (by kernel_rfl) (by kernel_rfl) (by kernel_rfl) (fun _ _ _ h => h) (by rfl) (fun _ => by assumption) ?_
        try simp only [List.setIfInBounds_toArray, List.set_cons_zero, List.set_cons_succ]
        refine drawn_skip 10 21 rfl rfl (by kernel_rfl) (by kernel_rfl) (by kernel_rfl) (by kernel_rfl) (fun _ _ _ h => h) (by rfl) (fun _ => by assumption) ?_
        try simp only [List.setIfInBounds_toArray, List.set_cons_zero, List.set_cons_succ]
        refine drawn_skip 11 22 rfl rfl (by kernel_rfl) (by kernel_rfl) (by kernel_rfl) (by kernel_rfl) (fun _ _ _ h => h) (by rfl) (fun _ => by assumption) ?_
        try simp only [List.setIfInBounds_toArray, List.set_cons_zero, List.set_cons_succ]
        refine drawn_skip 12 23 rfl rfl (by kernel_rfl) (by kernel_rfl) (by kernel_rfl) (by kernel_rfl) (fun _ _ _ h => h) (by rfl) (fun _ => by assumption) ?_
        try simp only [List.setIfInBounds_toArray, List.set_cons_zero, List.set_cons_succ]
        refine drawn_skip 13 24 rfl rfl (by kernel_rfl) (by kernel_rfl) (by kernel_rfl) (by kernel_rfl) (fun _ _ _ h => h) (by rfl) (fun _ => by assumption) ?_
        try simp only [List.setIfInBounds_toArray, List.set_cons_zero, List.set_cons_succ]
        refine drawn_last1 14 25 (.bool false) rfl rfl (by kernel_rfl) (by kernel_rfl) (by rfl) (by intro w; go_simp) hS0 ?_
        try simp only [List.setIfInBounds_toArray, List.set_cons_zero, List.set_cons_succ]
        have HZ := Lib.hid (HT2.out.trans hS0 (fun _ _ f => f))
        have HBZ : Hid (Box wd b 55 (cells11 x)) := HB0.out.turn HZ.out (fun f => f)
        have HVZ : Hid (RdE ER (World.alloc wd (.cells #[] 55)) (.slice A l.length c) l) := HV.out.later ((HT0.out.trans HZ.out (fun _ _ f => f)).alloc _)
        have HN0 := Lib.hid (NewE.empty (E := ER) (e := 55) wd wd (Turn.refl _ wd))
        clear hS0
        go_wp2_with (first
          | (with_reducible refine wpList_front (E := ER) (op := ⟨some 31, _, _, _, _, _⟩) Try.underlying26 HSZ.out rfl _ _ rfl HVZ.out rfl rfl hle ?_; intro hfr; have HFR := Lib.hid hfr; clear hfr)
          | (at_builtin; refine wpList_rows11 _ rfl _ _ rfl _ _ rfl HN0.out.own _ rfl (l.take k) HFR.out (by rw [List.length_nil, List.length_take]; omega) ?_; intro A7 n7 c7 w7 ho ht hn; have HN7 := Lib.hid (HN0.out.step ho ht hn); have HV7 : Hid (RdE ER w7 (.slice A l.length c) l) := (HV.out.later (HT0.out.trans HZ.out (fun _ _ f => f))).later HN7.out.turn; clear ho ht hn)
          | (with_reducible refine wpList_cut (E := ER) (op := ⟨some 35, _, _, _, _, _⟩) Try.underlying26 HSZ.out rfl _ _ rfl HV7.out rfl rfl hle ?_; intro B8 h8 o8; obtain ⟨m8, hm8⟩ : ∃ m8, m8 = l.length - k := ⟨_, rfl⟩; obtain ⟨d8, hd8⟩ : ∃ d8, d8 = c - k := ⟨_, rfl⟩; rw [← hm8, ← hd8] at h8 o8 ⊢; have HO8 := Lib.hid o8; have HR8 := Lib.hid h8; have HM8 := Lib.hid hm8; clear h8 o8 hm8 hd8)
          | fail)
        rw [List.nil_append] at HN7
        have HB7 : Hid (Box w7 b 55 (cells11 x)) := HBZ.out.turn HN7.out.turn (fun f => f)
        have HT7 : Hid (Turn (fun _ => False) w w7) := (HT0.out.trans HZ.out (fun _ _ f => f)).trans HN7.out.turn (fun _ _ f => f)
        have HOB : Hid (∀ g, (Value.slice A7 n7 c7).ownBlock = some g → g ≠ b ∧ w.heap.size ≤ g) := fun g hg => by
          have h1 := HN7.out.new g hg
          have h2 := HBZ.out.lt
          have h3 := (HT0.out.trans HZ.out (fun _ _ f => f)).size
          omega
        clear HVZ HN0 HFR
        have hm0 : m8 = 0 := by have := HM8.out; omega
        subst hm0
        refine drawn_region (fun W => Turn (fun _ => False) w7 W) [] (by kernel_rfl) ?_
        have hS0 : Turn (fun _ => False) w7 (World.drew w7) := (Turn.refl _ w7).drew
        generalize World.drew w7 = w8 at *
        refine drawn_take 0 36 (.slice B8 0 d8) rfl rfl (by kernel_rfl) (by kernel_rfl) (by kernel_rfl) (by kernel_rfl) (fun _ _ _ h => h) (by rfl) (by assumption) (by intro w hSw; obtain hS1 := hSw; go_simp) ?_
        try simp only [List.setIfInBounds_toArray, List.set_cons_zero, List.set_cons_succ]
        refine drawn_take 1 37 (.int .i64 0) rfl rfl (by kernel_rfl) (by kernel_rfl) (by kernel_rfl) (by kernel_rfl) (fun _ _ _ h => h) (by rfl) (by assumption) (by intro w hSw; obtain hS1 := hSw; go_simp) ?_
        try simp only [List.setIfInBounds_toArray, List.set_cons_zero, List.set_cons_succ]
        refine drawn_take 2 38 (.bool false) rfl rfl (by kernel_rfl) (by kernel_rfl) (by kernel_rfl) (by kernel_rfl) (fun _ _ _ h => h) (by rfl) (by assumption) (by intro w hSw; obtain hS1 := hSw; go_simp) ?_
        try simp only [List.setIfInBounds_toArray, List.set_cons_zero, List.set_cons_succ]
        refine drawn_take 3 39 (.bool false) rfl rfl (by kernel_rfl) (by kernel_rfl) (by kernel_rfl) (by kernel_rfl) (fun _ _ _ h => h) (by rfl) (by assumption) (by intro w hSw; obtain hS1 := hSw; go_simp) ?_
        try simp only [List.setIfInBounds_toArray, List.set_cons_zero, List.set_cons_succ]
        refine drawn_skip 4 40 rfl rfl (by kernel_rfl) (by kernel_rfl) (by kernel_rfl) (by kernel_rfl) (fun _ _ _ h => h) (by rfl) (fun _ => by assumption) ?_
        try simp only [List.setIfInBounds_toArray, List.set_cons_zero, List.set_cons_succ]
        refine drawn_skip 5 41 rfl rfl (by kernel_rfl) (by kernel_rfl) (by kernel_rfl) (by kernel_rfl) (fun _ _ _ h => h) (by rfl) (fun _ => by assumption) ?_
        try simp only [List.setIfInBounds_toArray, List.set_cons_zero, List.set_cons_succ]
        refine drawn_skip 6 42 rfl rfl (by kernel_rfl) (by kernel_rfl) (by kernel_rfl) (by kernel_rfl) (fun _ _ _ h => h) (by rfl) (fun _ => by assumption) ?_
        try simp only [List.setIfInBounds_toArray, List.set_cons_zero, List.set_cons_succ]
        refine drawn_skip 7 43 rfl rfl (by kernel_rfl) (by kernel_rfl) (by kernel_rfl) (by kernel_rfl) (fun _ _ _ h => h) (by rfl) (fun _ => by assumption) ?_
        try simp only [List.setIfInBounds_toArray, List.set_cons_zero, List.set_cons_succ]
        refine drawn_skip 8 44 rfl rfl (by kernel_rfl) (by kernel_rfl) (by kernel_rfl) (by kernel_rfl) (fun _ _ _ h => h) (by rfl) (fun _ => by assumption) ?_
        try simp only [List.setIfInBounds_toArray, List.set_cons_zero, List.set_cons_succ]
        refine drawn_skip 9 45 rfl rfl (by kernel_rfl) (by kernel_rfl) (by kernel_rfl) (by kernel_rfl) (fun _ _ _ h => h) (by rfl) (fun _ => by assumption) ?_
        try simp only [List.setIfInBounds_toArray, List.set_cons_zero, List.set_cons_succ]
        refine drawn_skip 10 46 rfl rfl (by kernel_rfl) (by kernel_rfl) (by kernel_rfl) (by kernel_rfl) (fun _ _ _ h => h) (by rfl) (fun _ => by assumption) ?_
        try simp only [List.setIfInBounds_toArray, List.set_cons_zero, List.set_cons_succ]
        refine drawn_last1 11 47 (.bool false) rfl rfl (by kernel_rfl) (by kernel_rfl) (by rfl) (by intro w; go_simp) hS0 ?_
        try simp only [List.setIfInBounds_toArray, List.set_cons_zero, List.set_cons_succ]
        have HRES : Hid (res = some (l.take k ++ x :: l.drop k)) := by
          have h := HPUT.out
          rw [List.getElem?_eq_none (by omega)] at h
          exact h
        have HRES : Hid (res = some ((l.take k ++ [x]) ++ l.drop k)) := by
          show _ = _
          rw [HRES.out, List.append_assoc]
          rfl
        obtain ⟨wq, hwq⟩ : ∃ wq, wq = w8 := ⟨_, rfl⟩
        subst hwq
        have hdn : l.drop k = [] := List.drop_of_length_le (by omega)
        have HTQ : Hid (Turn (fun _ => False) w wq) := HT7.out.trans hS0 (fun _ _ f => f)
        have HOQ : Hid (OwE ER 55 wq (.slice A7 n7 c7) (l.take k)) := HN7.out.own.later hS0
        have HRQ : Hid (RdE ER wq (.slice B8 0 d8) (l.drop k)) := HR8.out.later hS0
        have hB := HB7.out.turn hS0 (fun f => f)
        have e0 : wq.cell? ⟨b, 0, none⟩ = some (.int .i64 x.k.h) := hB.cell 0
        have e1 : wq.cell? ⟨b, 1, none⟩ = some (sv9 x.k.a) := hB.cell 1
        have e2 : wq.cell? ⟨b, 2, none⟩ = some (sv9 x.k.b) := hB.cell 2
        have e3 : wq.cell? ⟨b, 3, none⟩ = some (sv9 x.k.c) := hB.cell 3
        have e4 : wq.cell? ⟨b, 4, none⟩ = some (sv9 x.k.d) := hB.cell 4
        have e5 : wq.cell? ⟨b, 5, none⟩ = some (.int .i64 x.c.n) := hB.cell 5
        have e6 : wq.cell? ⟨b, 6, none⟩ = some (.int .i64 x.c.s) := hB.cell 6
        have e7 : wq.cell? ⟨b, 7, none⟩ = some (.int .i64 x.c.lo) := hB.cell 7
        have e8 : wq.cell? ⟨b, 8, none⟩ = some (.int .i64 x.c.hi) := hB.cell 8
        have HRQ_ : Hid (∀ w10, Turn (fun g => (Value.slice A7 n7 c7).ownBlock = some g) (wq.alloc (.cells (cells11 x) 55)) w10 → RdE ER w10 (.slice B8 0 d8) (l.drop k)) := fun w10 _ => by
          have h := HRQ.out
          rw [hdn] at h ⊢
          exact rd_empty h
        clear hB hS0 hdn
        have HSX := Lib.hid (one_row ER 55 wq x)
        have HOA : Hid (OwE ER 55 (wq.alloc (.cells (cells11 x) 55)) (.slice A7 n7 c7) (l.take k)) := HOQ.out.later ((Turn.refl _ wq).alloc _)
        go_wp2_with (at_builtin; first
          | (refine wpList_rows11 _ rfl _ _ rfl _ _ rfl HO10.out _ rfl (l.drop k) HR10.out (by simp only [List.length_append, List.length_take, List.length_singleton, List.length_drop]; omega) ?_; intro A11 n11 c11 w11 ho ht hn; have HO11 := Lib.hid ho; have HT11 : Hid (Turn (fun g => (Value.slice A10 n10 c10).ownBlock = some g) w10 w11) := ht; clear ho ht hn)
          | (refine wpList_rows11 _ rfl _ _ rfl _ _ rfl HOA.out _ rfl [x] HSX.out (by simp only [List.length_take, List.length_singleton]; omega) ?_; intro A10 n10 c10 w10 ho ht hn; have HO10 := Lib.hid ho; have HT10 := Lib.hid ht; have HN10 := Lib.hid hn; have HR10 := Lib.hid (HRQ_.out _ ht); clear ho ht hn)
          | fail)
        go_ret2
        refine ⟨_, by rw [HRES.out]; rfl, by rw [HRES.out]; exact HO11.out.rd, ?_⟩
        refine ((HTQ.out.alloc _).trans HT10.out (fun g hg e => by have := (HOB.out g e).2; omega)).trans HT11.out (fun g hg e => ?_)
        rcases HN10.out with h | h
        · rw [h] at e; have := (HOB.out g e).2; omega
        · rw [h, World.size_alloc] at e; have := HTQ.out.size; have e2 := Option.some.inj e; omega

end Go.Proofs.Ytklpmajaihmmfaa

/-
  Stage 11: the document's Of and Merge.
-/
namespace Go.Proofs.Ytklpmajaihmmfaa
open Go.RowKit

set_option maxRecDepth 100000

theorem putR_len {x : R11} : ∀ {l m : List R11}, putR x l = some m → m.length ≤ l.length + 1
  | [], m, h => by cases h; exact Nat.le_refl _
  | r :: t, m, h => by
    unfold putR at h
    split at h
    · obtain ⟨m', h1, rfl⟩ := Option.map_eq_some_iff.1 h
      have := putR_len h1
      simp only [List.length_cons]
      omega
    · split at h
      · obtain ⟨c, _, rfl⟩ := Option.map_eq_some_iff.1 h
        simp
      · cases h; simp
theorem putR_ok {x : R11} (hx : okC x.c) : ∀ {l m : List R11}, (∀ r ∈ l, okC r.c) → putR x l = some m → ∀ r ∈ m, okC r.c
  | [], m, _, h => by cases h; intro r hr; rw [List.mem_singleton.1 hr]; exact hx
  | r :: t, m, hl, h => by
    unfold putR at h
    have hr := hl r (List.mem_cons_self ..)
    have ht : ∀ y ∈ t, okC y.c := fun y hy => hl y (List.mem_cons_of_mem _ hy)
    split at h
    · obtain ⟨m', h1, rfl⟩ := Option.map_eq_some_iff.1 h
      have ih := putR_ok hx ht h1
      intro y hy
      rcases List.mem_cons.1 hy with rfl | hy
      · exact hr
      · exact ih y hy
    · split at h
      · obtain ⟨c, hc, rfl⟩ := Option.map_eq_some_iff.1 h
        intro y hy
        rcases List.mem_cons.1 hy with rfl | hy
        · exact okC_merge hr hx hc
        · exact ht y hy
      · cases h
        intro y hy
        rcases List.mem_cons.1 hy with rfl | hy
        · exact hx
        · exact hl y hy
theorem puts_snoc {pre acc : List R11} {x : R11} (h : putsR [] pre = some acc) : putsR [] (pre ++ [x]) = putR x acc := by
  rw [putsR_append, h]
  show putsR acc [x] = _
  unfold putsR
  cases putR x acc <;> rfl
theorem puts_stop {pre post acc : List R11} {x : R11} (h : putsR [] pre = some acc) (hx : putR x acc = none) : putsR [] (pre ++ x :: post) = none := by
  rw [putsR_append, h]
  show putsR acc (x :: post) = _
  unfold putsR
  rw [hx]
  rfl
theorem split_at11 {A : Type} {l : List A} {i : Nat} {x : A} (h : l[i]? = some x) : l.take (i + 1) = l.take i ++ [x] ∧ l = l.take i ++ x :: l.drop (i + 1) := by
  obtain ⟨h0, e⟩ := List.getElem?_eq_some_iff.1 h
  refine ⟨by rw [List.take_succ_eq_append_getElem h0, e], ?_⟩
  conv => lhs; rw [← List.take_append_drop i l]
  rw [List.drop_eq_getElem_cons h0, e]

/-- Behind i rows put. -/
structure PutsTo (w : World) (pre acc : List R11) (n : Nat) (v : Value) (wr : World) : Prop where
  is : putsR [] pre = some acc
  ok : ∀ r ∈ acc, okC r.c
  len : acc.length ≤ n
  rd : RdE ER wr v acc
  turn : Turn (fun _ => False) w wr

/-- A slice value's cell. -/
def ESL : El (Option Addr × Nat × Nat) where
  sz := 1
  enc s := [.slice s.1 s.2.1 s.2.2]
  len _ := rfl
  one s u hu := by rw [List.mem_singleton.1 hu]; rfl
/-- A slice of slices of rows. -/
structure RdS (w : World) (v : Value) (ls : List (List R11)) : Prop where
  out : ∃ L : List (Option Addr × Nat × Nat), RdE ESL w v L ∧ L.length = ls.length ∧ ∀ (j : Nat) (s : Option Addr × Nat × Nat) (x : List R11), L[j]? = some s → ls[j]? = some x → RdE ER w (.slice s.1 s.2.1 s.2.2) x
theorem RdS.later {w w' : World} {v : Value} {ls : List (List R11)} (h : RdS w v ls) (ht : Turn (fun _ => False) w w') : RdS w' v ls := by
  obtain ⟨L, h1, h2, h3⟩ := h.out
  exact ⟨L, h1.later ht, h2, fun j s x a b => (h3 j s x a b).later ht⟩
theorem RdS.shape {w : World} {v : Value} {ls : List (List R11)} (h : RdS w v ls) : ∃ A c, v = .slice A ls.length c := by
  obtain ⟨L, h1, h2, _⟩ := h.out
  obtain ⟨A, c, e⟩ := h1.shape
  exact ⟨A, c, by rw [e, h2]⟩
theorem slice_at11 {w : World} {A : Option Addr} {n c : Nat} {ls : List (List R11)} (h : RdS w (.slice A n c) ls) {j : Nat} {x : List R11} (hj : ls[j]? = some x) :
    ∃ ad B d, A = some ad ∧ RdE ER w (.slice B x.length d) x ∧ ∀ W, Turn (fun _ => False) w W → W.cell? (ad.add j) = some (.slice B x.length d) := by
  obtain ⟨L, h1, h2, h3⟩ := h.out
  have hlt : j < L.length := by have := (List.getElem?_eq_some_iff.1 hj).1; omega
  obtain ⟨⟨B, m, d⟩, hs⟩ : ∃ s, L[j]? = some s := ⟨_, List.getElem?_eq_getElem hlt⟩
  have hr := h3 j _ x hs hj
  have hm : m = x.length := hr.fits.1
  subst hm
  obtain ⟨ad, hA, _⟩ := h1.cells hs
  refine ⟨ad, B, d, hA, hr, fun W ht => ?_⟩
  obtain ⟨ad', hA', hc⟩ := (h1.later ht).cells hs
  rw [hA] at hA'
  cases hA'
  have h4 := hc 0 _ rfl
  rwa [show j * ESL.sz + 0 = j from by simp [ESL]] at h4

end Go.Proofs.Ytklpmajaihmmfaa

/-
  Stage 11: the document's Right.
-/
namespace Go.Proofs.Ytklpmajaihmmfaa
open Go.RowKit

set_option maxRecDepth 100000

/-- Are rows a segment's? -/
def okRow (r : R11) : Bool := decide (1 ≤ r.c.n) && rightC r.c
def rightR : List R11 → Bool
  | [] => true
  | r :: t => okRow r && (match t with | [] => true | s :: _ => keyLt r.k s.k) && rightR t
/-- At a place: what the document asks. -/
def rightAt (l : List R11) (i : Nat) : Bool :=
  match l[i]? with
  | none => true
  | some r => (match i with | 0 => true | j + 1 => (match l[j]? with | some p => keyLt p.k r.k | none => true)) && okRow r
theorem rightAt_all : ∀ (l : List R11), rightR l = true ↔ ∀ i, rightAt l i = true
  | [] => by simp [rightR, rightAt]
  | r :: t => by
    have ih := rightAt_all t
    have hsucc : ∀ i, rightAt (r :: t) (i + 2) = rightAt t (i + 1) := fun i => by
      unfold rightAt
      simp only [List.getElem?_cons_succ]
    have h0 : rightAt (r :: t) 0 = okRow r := by simp [rightAt]
    have h1 : rightAt (r :: t) 1 = match t with | [] => true | s :: _ => keyLt r.k s.k && okRow s := by
      cases t with
      | nil => simp [rightAt]
      | cons s u => simp [rightAt]
    have h2 : rightAt t 0 = match t with | [] => true | s :: _ => okRow s := by
      cases t with
      | nil => simp [rightAt]
      | cons s u => simp [rightAt]
    unfold rightR
    rw [Bool.and_eq_true, Bool.and_eq_true, ih]
    constructor
    · rintro ⟨⟨a, b⟩, c⟩ i
      match i with
      | 0 => rw [h0]; exact a
      | 1 =>
        rw [h1]
        have c0 := c 0
        rw [h2] at c0
        cases t with
        | nil => rfl
        | cons s u => simp only at b c0 ⊢; rw [b, c0]; rfl
      | i + 2 => rw [hsucc]; exact c (i + 1)
    · intro h
      have a0 := h 0
      have a1 := h 1
      rw [h0] at a0
      rw [h1] at a1
      refine ⟨⟨a0, ?_⟩, fun i => ?_⟩
      · cases t with
        | nil => rfl
        | cons s u => simp only [Bool.and_eq_true] at a1 ⊢; exact a1.1
      · cases i with
        | zero =>
          rw [h2]
          cases t with
          | nil => rfl
          | cons s u => simp only [Bool.and_eq_true] at a1 ⊢; exact a1.2
        | succ i => rw [← hsucc]; exact h (i + 2)
theorem rightR_spec {l : List R11} : rightR l = true → RiseR l ∧ ∀ r ∈ l, okRow r = true := by
  induction l with
  | nil => intro _; exact ⟨List.Pairwise.nil, fun r h => by cases h⟩
  | cons r t ih =>
    intro h
    unfold rightR at h
    rw [Bool.and_eq_true, Bool.and_eq_true] at h
    obtain ⟨⟨a, b⟩, c⟩ := h
    obtain ⟨i1, i2⟩ := ih c
    refine ⟨List.pairwise_cons.2 ⟨fun y hy => ?_, i1⟩, fun y hy => ?_⟩
    · cases t with
      | nil => cases hy
      | cons s u =>
        rcases List.mem_cons.1 hy with rfl | hy
        · exact b
        · exact key_tr b ((List.pairwise_cons.1 i1).1 y hy)
    · rcases List.mem_cons.1 hy with rfl | hy
      · exact a
      · exact i2 y hy
theorem rightAt_zero {l : List R11} {r : R11} (h : l[0]? = some r) : rightAt l 0 = okRow r := by simp [rightAt, h]
theorem rightAt_succ {l : List R11} {j : Nat} {p r : R11} (h : l[j + 1]? = some r) (g : l[j]? = some p) : rightAt l (j + 1) = (keyLt p.k r.k && okRow r) := by simp [rightAt, h, g]
theorem rightR_not {l : List R11} {i : Nat} (h : rightAt l i = false) : rightR l = false := by
  cases e : rightR l with
  | false => rfl
  | true => rw [(rightAt_all l).1 e i] at h; cases h
theorem rightR_yes {l : List R11} (h : ∀ i, i < l.length → rightAt l i = true) : rightR l = true := (rightAt_all l).2 fun i => by
  by_cases hi : i < l.length
  · exact h i hi
  · unfold rightAt
    rw [List.getElem?_eq_none (by omega)]
theorem cmpK_ge {p q : K9} : (keyLt p q = true ∧ cmpK p q < 0) ∨ (keyLt p q = false ∧ 0 ≤ cmpK p q) := by
  rcases cmpK_cases p q with ⟨h, e, _⟩ | ⟨h, e, _⟩ | ⟨h, e⟩
  · exact .inl ⟨h, by rw [e]; decide⟩
  · exact .inr ⟨rises_key.asym h, by rw [e]; decide⟩
  · exact .inr ⟨by rw [h, key_irr], by rw [e]; decide⟩

set_option maxHeartbeats 8000000 in
theorem ref_right11 (v : Value) (l : List R11) (w : World) (hv : RdE ER w v l) (hl : l.length ≤ 1000000) :
    Calls Try.prog 7 #[v] w fun e w' => e = .returned (.bool (rightR l)) ∧ Turn (fun _ => False) w w' := by
  have HV := Lib.hid hv
  obtain ⟨A, c, rfl⟩ := hv.shape
  clear hv
  go_enter Try.func7, Try.ntmps7
  go_wp2_with fail
  go_loopw [3] (fun x3 wr => ∃ i : Nat, x3 = .int .i64 (i : Int) ∧ i ≤ l.length ∧ (∀ k, k < i → rightAt l k = true) ∧ Turn (fun _ => False) w wr) (fun x3 _ => l.length - (intOf x3).toNat)
  case atStart => exact ⟨0, rfl, Nat.zero_le _, fun k hk => absurd hk (Nat.not_lt_zero k), Turn.refl _ w⟩
  case round =>
    obtain ⟨i, rfl, hi, hok, ht⟩ := hrel
    have HOK := Lib.hid hok
    have HT := Lib.hid ht
    clear hok ht
    by_cases hlt : i < l.length
    · obtain ⟨r, hr⟩ : ∃ r, l[i]? = some r := ⟨_, List.getElem?_eq_getElem hlt⟩
      obtain ⟨ad, rfl, hc⟩ := row_at11 HV.out hr
      have HNX : Hid (rightAt l i = true → ∀ k, k < i + 1 → rightAt l k = true) := fun h k hk => by
        by_cases e : k = i
        · rw [e]; exact h
        · exact HOK.out k (by omega)
      have HNO : Hid (rightAt l i = false → rightR l = false) := fun h => rightR_not h
      have HRW : Hid (∀ W, Turn (fun _ => False) wr W → RowAt W (ad.add (i * 9)) r) := fun W ht => hc W (HT.out.trans ht (fun _ _ f => f))
      unfold RowAt at HRW
      have hil : (i : Int) < l.length := by omega
      by_cases hpos : 0 < i
      · obtain ⟨q, hq⟩ : ∃ q, i = q + 1 := ⟨i - 1, by omega⟩
        obtain ⟨p, hp⟩ : ∃ p, l[q]? = some p := ⟨_, List.getElem?_eq_getElem (by omega)⟩
        obtain ⟨_, g, hcp⟩ := row_at11 HV.out hp
        cases g
        have HPW : Hid (∀ W, Turn (fun _ => False) wr W → RowAt W (ad.add (q * 9)) p) := fun W ht => hcp W (HT.out.trans ht (fun _ _ f => f))
        unfold RowAt at HPW
        have hat : rightAt l i = (keyLt p.k r.k && okRow r) := by subst hq; exact rightAt_succ hr hp
        have hsub : IntKind.i64.wrap ((i : Int) - 1) = (q : Int) := by rw [hq, IntKind.wrap_i64]; omega
        have hql : (q : Int) < l.length := by omega
        have hpi : (0 : Int) < (i : Int) := by omega
        have HCM : Hid (∀ W, Calls Try.prog 19 #[.agg #[.int .i64 p.k.h, sv9 p.k.a, sv9 p.k.b, sv9 p.k.c, sv9 p.k.d], .agg #[.int .i64 r.k.h, sv9 r.k.a, sv9 r.k.b, sv9 r.k.c, sv9 r.k.d]] W fun e w' => e = .returned (.int .i64 (cmpK p.k r.k)) ∧ Turn (fun _ => False) W w') := fun W => ref_compare9 p.k r.k W
        have hcg := cmpK_ge (p := p.k) (q := r.k)
        generalize cmpK p.k r.k = cm at *
        have HAT0 := Lib.hid hat
        clear hc hr hcp hp hat hq
        go_wp2_with fail
        refine drawn_region (fun W => Turn (fun _ => False) wr W) [] (by kernel_rfl) ?_
        have hS0 : Turn (fun _ => False) wr (World.drew wr) := (Turn.refl _ wr).drew
        generalize World.drew wr = wd at *
        refine drawn_take 0 10 (.int .i64 (i : Int)) rfl rfl (by kernel_rfl) (by kernel_rfl) (by kernel_rfl) (by kernel_rfl) (fun _ _ _ h => h) (by rfl) (by assumption) (by intro w hSw; obtain hS1 := hSw; go_simp) ?_
        try simp only [List.setIfInBounds_toArray, List.set_cons_zero, List.set_cons_succ]
        refine drawn_take 1 11 (.bool true) rfl rfl (by kernel_rfl) (by kernel_rfl) (by kernel_rfl) (by kernel_rfl) (fun _ _ _ h => h) (by rfl) (by assumption) (by intro w hSw; obtain hS1 := hSw; go_simp) ?_
        try simp only [List.setIfInBounds_toArray, List.set_cons_zero, List.set_cons_succ]
        refine drawn_take 2 12 (.bool true) rfl rfl (by kernel_rfl) (by kernel_rfl) (by kernel_rfl) (by kernel_rfl) (fun _ _ _ h => h) (by rfl) (by assumption) (by intro w hSw; obtain hS1 := hSw; go_simp) ?_
        try simp only [List.setIfInBounds_toArray, List.set_cons_zero, List.set_cons_succ]
        refine drawn_take 3 13 (.slice (some ad) l.length c) rfl rfl (by kernel_rfl) (by kernel_rfl) (by kernel_rfl) (by kernel_rfl) (fun _ _ _ h => h) (by rfl) (by assumption) (by intro w hSw; obtain hS1 := hSw; go_simp) ?_
        try simp only [List.setIfInBounds_toArray, List.set_cons_zero, List.set_cons_succ]
        refine drawn_take 4 14 (.int .i64 (i : Int)) rfl rfl (by kernel_rfl) (by kernel_rfl) (by kernel_rfl) (by kernel_rfl) (fun _ _ _ h => h) (by rfl) (by assumption) (by intro w hSw; obtain hS1 := hSw; go_simp) ?_
        try simp only [List.setIfInBounds_toArray, List.set_cons_zero, List.set_cons_succ]
        refine drawn_take 5 15 (.int .i64 (q : Int)) rfl rfl (by kernel_rfl) (by kernel_rfl) (by kernel_rfl) (by kernel_rfl) (fun _ _ _ h => h) (by rfl) (by assumption) (by intro w hSw; obtain hS1 := hSw; go_simp) ?_
        try simp only [List.setIfInBounds_toArray, List.set_cons_zero, List.set_cons_succ]
        refine drawn_take 6 16 (.pointer (some (ad.add (q * 9)))) rfl rfl (by kernel_rfl) (by kernel_rfl) (by kernel_rfl) (by kernel_rfl) (fun _ _ _ h => h) (by rfl) (by assumption) (by intro w hSw; obtain hS1 := hSw; go_simp) ?_
        try simp only [List.setIfInBounds_toArray, List.set_cons_zero, List.set_cons_succ]
        refine drawn_take 7 17 (.pointer (some (ad.add (q * 9)))) rfl rfl (by kernel_rfl) (by kernel_rfl) (by kernel_rfl) (by kernel_rfl) (fun _ _ _ h => h) (by rfl) (by assumption) (by intro w hSw; obtain hS1 := hSw; go_simp) ?_
        try simp only [List.setIfInBounds_toArray, List.set_cons_zero, List.set_cons_succ]
        refine drawn_take 8 18 (.agg #[.int .i64 p.k.h, sv9 p.k.a, sv9 p.k.b, sv9 p.k.c, sv9 p.k.d]) rfl rfl (by kernel_rfl) (by kernel_rfl) (by kernel_rfl) (by kernel_rfl) (fun _ _ _ h => h) (by rfl) (by assumption) (by intro w hSw; obtain ⟨a0, a1, a2, a3, a4, a5, a6, a7, a8⟩ := HPW.out w hSw; clear hSw; go_simp) ?_
        try simp only [List.setIfInBounds_toArray, List.set_cons_zero, List.set_cons_succ]
        refine drawn_take 9 19 (.slice (some ad) l.length c) rfl rfl (by kernel_rfl) (by kernel_rfl) (by kernel_rfl) (by kernel_rfl) (fun _ _ _ h => h) (by rfl) (by assumption) (by intro w hSw; obtain hS1 := hSw; go_simp) ?_
        try simp only [List.setIfInBounds_toArray, List.set_cons_zero, List.set_cons_succ]
        refine drawn_take 10 20 (.int .i64 (i : Int)) rfl rfl (by kernel_rfl) (by kernel_rfl) (by kernel_rfl) (by kernel_rfl) (fun _ _ _ h => h) (by rfl) (by assumption) (by intro w hSw; obtain hS1 := hSw; go_simp) ?_
        try simp only [List.setIfInBounds_toArray, List.set_cons_zero, List.set_cons_succ]
        refine drawn_take 11 21 (.pointer (some (ad.add (i * 9)))) rfl rfl (by kernel_rfl) (by kernel_rfl) (by kernel_rfl) (by kernel_rfl) (fun _ _ _ h => h) (by rfl) (by assumption) (by intro w hSw; obtain hS1 := hSw; go_simp) ?_
        try simp only [List.setIfInBounds_toArray, List.set_cons_zero, List.set_cons_succ]
        refine drawn_take 12 22 (.pointer (some (ad.add (i * 9)))) rfl rfl (by kernel_rfl) (by kernel_rfl) (by kernel_rfl) (by kernel_rfl) (fun _ _ _ h => h) (by rfl) (by assumption) (by intro w hSw; obtain hS1 := hSw; go_simp) ?_
        try simp only [List.setIfInBounds_toArray, List.set_cons_zero, List.set_cons_succ]
        refine drawn_take 13 23 (.agg #[.int .i64 r.k.h, sv9 r.k.a, sv9 r.k.b, sv9 r.k.c, sv9 r.k.d]) rfl rfl (by kernel_rfl) (by kernel_rfl) (by kernel_rfl) (by kernel_rfl) (fun _ _ _ h => h) (by rfl) (by assumption) (by intro w hSw; obtain ⟨a0, a1, a2, a3, a4, a5, a6, a7, a8⟩ := HRW.out w hSw; clear hSw; go_simp) ?_
        try simp only [List.setIfInBounds_toArray, List.set_cons_zero, List.set_cons_succ]
        refine drawn_any [14] (by kernel_rfl) (by simp) ?_
        refine drawn_cons rfl (fun K hK => ?_) drawn_nil
        go_simp
        refine (HCM.out wd).mono ?_
        rintro e w3 ⟨rfl, t3⟩
        have hS3 := hS0.trans t3 (fun _ _ f => f)
        refine hK.out _ _ _ hS3 ?_
        clear hK K t3 hS0
        have hS0 := hS3
        clear hS3
        try simp only [List.setIfInBounds_toArray, List.set_cons_zero, List.set_cons_succ]
        rcases hcg with ⟨hk, hcm⟩ | ⟨hk, hcm⟩
        · have HAT : Hid (rightAt l i = okRow r) := by show _ = _; rw [HAT0.out, hk, Bool.true_and]
          have hcn : ¬ 0 ≤ cm := by omega
          refine drawn_take 15 25 (.bool false) rfl rfl (by kernel_rfl) (by kernel_rfl) (by kernel_rfl) (by kernel_rfl) (fun _ _ _ h => h) (by rfl) (by assumption) (by intro w hSw; obtain hS1 := hSw; go_simp) ?_
          try simp only [List.setIfInBounds_toArray, List.set_cons_zero, List.set_cons_succ]
          refine drawn_take 16 26 (.bool false) rfl rfl (by kernel_rfl) (by kernel_rfl) (by kernel_rfl) (by kernel_rfl) (fun _ _ _ h => h) (by rfl) (by assumption) (by intro w hSw; obtain hS1 := hSw; go_simp) ?_
          try simp only [List.setIfInBounds_toArray, List.set_cons_zero, List.set_cons_succ]
          refine drawn_take 17 27 (.bool false) rfl rfl (by kernel_rfl) (by kernel_rfl) (by kernel_rfl) (by kernel_rfl) (fun _ _ _ h => h) (by rfl) (by assumption) (by intro w hSw; obtain hS1 := hSw; go_simp) ?_
          try simp only [List.setIfInBounds_toArray, List.set_cons_zero, List.set_cons_succ]
          have HCR : Hid (∀ W, Calls Try.prog 20 #[.agg #[.int .i64 r.c.n, .int .i64 r.c.s, .int .i64 r.c.lo, .int .i64 r.c.hi]] W fun e w' => e = .returned (.bool (rightC r.c)) ∧ Turn (fun _ => False) W w') := fun W => ref_right r.c.n r.c.s r.c.lo r.c.hi W
          by_cases hn : 1 ≤ r.c.n
          · have hn2 : ¬ r.c.n < 1 := by omega
            cases hrc : rightC r.c with
            | true =>
              have HA : Hid (rightAt l i = true) := by show _ = _; rw [HAT.out]; unfold okRow; rw [decide_eq_true hn, hrc]; rfl
              have HRC := HCR
              rw [hrc] at HRC
              clear hrc HCR
              refine drawn_take 18 28 (.slice (some ad) l.length c) rfl rfl (by kernel_rfl) (by kernel_rfl) (by kernel_rfl) (by kernel_rfl) (fun _ _ _ h => h) (by rfl) (by assumption) (by intro w hSw; obtain hS1 := hSw; go_simp) ?_
              try simp only [List.setIfInBounds_toArray, List.set_cons_zero, List.set_cons_succ]
              refine drawn_take 19 29 (.int .i64 (i : Int)) rfl rfl (by kernel_rfl) (by kernel_rfl) (by kernel_rfl) (by kernel_rfl) (fun _ _ _ h => h) (by rfl) (by assumption) (by intro w hSw; obtain hS1 := hSw; go_simp) ?_
              try simp only [List.setIfInBounds_toArray, List.set_cons_zero, List.set_cons_succ]
              refine drawn_take 20 30 (.pointer (some (ad.add (i * 9)))) rfl rfl (by kernel_rfl) (by kernel_rfl) (by kernel_rfl) (by kernel_rfl) (fun _ _ _ h => h) (by rfl) (by assumption) (by intro w hSw; obtain hS1 := hSw; go_simp) ?_
              try simp only [List.setIfInBounds_toArray, List.set_cons_zero, List.set_cons_succ]
              refine drawn_take 21 31 (.pointer (some ⟨(ad.add (i * 9)).block, (ad.add (i * 9)).off + 5, none⟩)) rfl rfl (by kernel_rfl) (by kernel_rfl) (by kernel_rfl) (by kernel_rfl) (fun _ _ _ h => h) (by rfl) (by assumption) (by intro w hSw; obtain hS1 := hSw; go_simp) ?_
              try simp only [List.setIfInBounds_toArray, List.set_cons_zero, List.set_cons_succ]
              refine drawn_take 22 32 (.pointer (some ⟨(ad.add (i * 9)).block, (ad.add (i * 9)).off + 5, none⟩)) rfl rfl (by kernel_rfl) (by kernel_rfl) (by kernel_rfl) (by kernel_rfl) (fun _ _ _ h => h) (by rfl) (by assumption) (by intro w hSw; obtain hS1 := hSw; go_simp) ?_
              try simp only [List.setIfInBounds_toArray, List.set_cons_zero, List.set_cons_succ]
              refine drawn_take 23 33 (.int .i64 r.c.n) rfl rfl (by kernel_rfl) (by kernel_rfl) (by kernel_rfl) (by kernel_rfl) (fun _ _ _ h => h) (by rfl) (by assumption) (by intro w hSw; obtain ⟨a0, a1, a2, a3, a4, a5, a6, a7, a8⟩ := HRW.out w hSw; clear hSw; go_simp) ?_
              try simp only [List.setIfInBounds_toArray, List.set_cons_zero, List.set_cons_succ]
              refine drawn_take 24 34 (.bool false) rfl rfl (by kernel_rfl) (by kernel_rfl) (by kernel_rfl) (by kernel_rfl) (fun _ _ _ h => h) (by rfl) (by assumption) (by intro w hSw; obtain hS1 := hSw; go_simp) ?_
              try simp only [List.setIfInBounds_toArray, List.set_cons_zero, List.set_cons_succ]
              refine drawn_take 25 35 (.bool false) rfl rfl (by kernel_rfl) (by kernel_rfl) (by kernel_rfl) (by kernel_rfl) (fun _ _ _ h => h) (by rfl) (by assumption) (by intro w hSw; obtain hS1 := hSw; go_simp) ?_
              try simp only [List.setIfInBounds_toArray, List.set_cons_zero, List.set_cons_succ]
              refine drawn_take 26 36 (.bool false) rfl rfl (by kernel_rfl) (by kernel_rfl) (by kernel_rfl) (by kernel_rfl) (fun _ _ _ h => h) (by rfl) (by assumption) (by intro w hSw; obtain hS1 := hSw; go_simp) ?_
              try simp only [List.setIfInBounds_toArray, List.set_cons_zero, List.set_cons_succ]
              refine drawn_take 27 37 (.slice (some ad) l.length c) rfl rfl (by kernel_rfl) (by kernel_rfl) (by kernel_rfl) (by kernel_rfl) (fun _ _ _ h => h) (by rfl) (by assumption) (by intro w hSw; obtain hS1 := hSw; go_simp) ?_
              try simp only [List.setIfInBounds_toArray, List.set_cons_zero, List.set_cons_succ]
              refine drawn_take 28 38 (.int .i64 (i : Int)) rfl rfl (by kernel_rfl) (by kernel_rfl) (by kernel_rfl) (by kernel_rfl) (fun _ _ _ h => h) (by rfl) (by assumption) (by intro w hSw; obtain hS1 := hSw; go_simp) ?_
              try simp only [List.setIfInBounds_toArray, List.set_cons_zero, List.set_cons_succ]
              refine drawn_take 29 39 (.pointer (some (ad.add (i * 9)))) rfl rfl (by kernel_rfl) (by kernel_rfl) (by kernel_rfl) (by kernel_rfl) (fun _ _ _ h => h) (by rfl) (by assumption) (by intro w hSw; obtain hS1 := hSw; go_simp) ?_
              try simp only [List.setIfInBounds_toArray, List.set_cons_zero, List.set_cons_succ]
              refine drawn_take 30 40 (.pointer (some ⟨(ad.add (i * 9)).block, (ad.add (i * 9)).off + 5, none⟩)) rfl rfl (by kernel_rfl) (by kernel_rfl) (by kernel_rfl) (by kernel_rfl) (fun _ _ _ h => h) (by rfl) (by assumption) (by intro w hSw; obtain hS1 := hSw; go_simp) ?_
              try simp only [List.setIfInBounds_toArray, List.set_cons_zero, List.set_cons_succ]
              refine drawn_take 31 41 (.agg #[.int .i64 r.c.n, .int .i64 r.c.s, .int .i64 r.c.lo, .int .i64 r.c.hi]) rfl rfl (by kernel_rfl) (by kernel_rfl) (by kernel_rfl) (by kernel_rfl) (fun _ _ _ h => h) (by rfl) (by assumption) (by intro w hSw; obtain ⟨a0, a1, a2, a3, a4, a5, a6, a7, a8⟩ := HRW.out w hSw; clear hSw; go_simp) ?_
              try simp only [List.setIfInBounds_toArray, List.set_cons_zero, List.set_cons_succ]
              refine drawn_any [32] (by kernel_rfl) (by simp) ?_
              refine drawn_cons rfl (fun K hK => ?_) drawn_nil
              go_simp
              refine (HRC.out _).mono ?_
              rintro e w4 ⟨rfl, t4⟩
              have hS4 := hS0.trans t4 (fun _ _ f => f)
              refine hK.out _ _ _ hS4 ?_
              clear hK K t4 hS0
              have hS0 := hS4
              clear hS4
              try simp only [List.setIfInBounds_toArray, List.set_cons_zero, List.set_cons_succ]
              refine drawn_take 33 43 (.bool false) rfl rfl (by kernel_rfl) (by kernel_rfl) (by kernel_rfl) (by kernel_rfl) (fun _ _ _ h => h) (by rfl) (by assumption) (by intro w hSw; obtain hS1 := hSw; go_simp) ?_
              try simp only [List.setIfInBounds_toArray, List.set_cons_zero, List.set_cons_succ]
              refine drawn_last1 34 44 (.bool false) rfl rfl (by kernel_rfl) (by kernel_rfl) (by rfl) (by intro w; go_simp) hS0 ?_
              try simp only [List.setIfInBounds_toArray, List.set_cons_zero, List.set_cons_succ]
              have HF := Lib.hid (HT.out.trans hS0 (fun _ _ f => f))
              clear hS0
              go_wp2
              go_roundw
              case rel => exact ⟨i + 1, by go_num, hlt, HNX.out HA.out, HF.out⟩
              case measure => simp [intOf]; omega
            | false =>
              have HA : Hid (rightAt l i = false) := by show _ = _; rw [HAT.out]; unfold okRow; rw [decide_eq_true hn, hrc]; rfl
              have HRC := HCR
              rw [hrc] at HRC
              clear hrc HCR
              refine drawn_take 18 28 (.slice (some ad) l.length c) rfl rfl (by kernel_rfl) (by kernel_rfl) (by kernel_rfl) (by kernel_rfl) (fun _ _ _ h => h) (by rfl) (by assumption) (by intro w hSw; obtain hS1 := hSw; go_simp) ?_
              try simp only [List.setIfInBounds_toArray, List.set_cons_zero, List.set_cons_succ]
              refine drawn_take 19 29 (.int .i64 (i : Int)) rfl rfl (by kernel_rfl) (by kernel_rfl) (by kernel_rfl) (by kernel_rfl) (fun _ _ _ h => h) (by rfl) (by assumption) (by intro w hSw; obtain hS1 := hSw; go_simp) ?_
              try simp only [List.setIfInBounds_toArray, List.set_cons_zero, List.set_cons_succ]
              refine drawn_take 20 30 (.pointer (some (ad.add (i * 9)))) rfl rfl (by kernel_rfl) (by kernel_rfl) (by kernel_rfl) (by kernel_rfl) (fun _ _ _ h => h) (by rfl) (by assumption) (by intro w hSw; obtain hS1 := hSw; go_simp) ?_
              try simp only [List.setIfInBounds_toArray, List.set_cons_zero, List.set_cons_succ]
              refine drawn_take 21 31 (.pointer (some ⟨(ad.add (i * 9)).block, (ad.add (i * 9)).off + 5, none⟩)) rfl rfl (by kernel_rfl) (by kernel_rfl) (by kernel_rfl) (by kernel_rfl) (fun _ _ _ h => h) (by rfl) (by assumption) (by intro w hSw; obtain hS1 := hSw; go_simp) ?_
              try simp only [List.setIfInBounds_toArray, List.set_cons_zero, List.set_cons_succ]
              refine drawn_take 22 32 (.pointer (some ⟨(ad.add (i * 9)).block, (ad.add (i * 9)).off + 5, none⟩)) rfl rfl (by kernel_rfl) (by kernel_rfl) (by kernel_rfl) (by kernel_rfl) (fun _ _ _ h => h) (by rfl) (by assumption) (by intro w hSw; obtain hS1 := hSw; go_simp) ?_
              try simp only [List.setIfInBounds_toArray, List.set_cons_zero, List.set_cons_succ]
              refine drawn_take 23 33 (.int .i64 r.c.n) rfl rfl (by kernel_rfl) (by kernel_rfl) (by kernel_rfl) (by kernel_rfl) (fun _ _ _ h => h) (by rfl) (by assumption) (by intro w hSw; obtain ⟨a0, a1, a2, a3, a4, a5, a6, a7, a8⟩ := HRW.out w hSw; clear hSw; go_simp) ?_
              try simp only [List.setIfInBounds_toArray, List.set_cons_zero, List.set_cons_succ]
              refine drawn_take 24 34 (.bool false) rfl rfl (by kernel_rfl) (by kernel_rfl) (by kernel_rfl) (by kernel_rfl) (fun _ _ _ h => h) (by rfl) (by assumption) (by intro w hSw; obtain hS1 := hSw; go_simp) ?_
              try simp only [List.setIfInBounds_toArray, List.set_cons_zero, List.set_cons_succ]
              refine drawn_take 25 35 (.bool false) rfl rfl (by kernel_rfl) (by kernel_rfl) (by kernel_rfl) (by kernel_rfl) (fun _ _ _ h => h) (by rfl) (by assumption) (by intro w hSw; obtain hS1 := hSw; go_simp) ?_
              try simp only [List.setIfInBounds_toArray, List.set_cons_zero, List.set_cons_succ]
              refine drawn_take 26 36 (.bool false) rfl rfl (by kernel_rfl) (by kernel_rfl) (by kernel_rfl) (by kernel_rfl) (fun _ _ _ h => h) (by rfl) (by assumption) (by intro w hSw; obtain hS1 := hSw; go_simp) ?_
              try simp only [List.setIfInBounds_toArray, List.set_cons_zero, List.set_cons_succ]
              refine drawn_take 27 37 (.slice (some ad) l.length c) rfl rfl (by kernel_rfl) (by kernel_rfl) (by kernel_rfl) (by kernel_rfl) (fun _ _ _ h => h) (by rfl) (by assumption) (by intro w hSw; obtain hS1 := hSw; go_simp) ?_
              try simp only [List.setIfInBounds_toArray, List.set_cons_zero, List.set_cons_succ]
              refine drawn_take 28 38 (.int .i64 (i : Int)) rfl rfl (by kernel_rfl) (by kernel_rfl) (by kernel_rfl) (by kernel_rfl) (fun _ _ _ h => h) (by rfl) (by assumption) (by intro w hSw; obtain hS1 := hSw; go_simp) ?_
              try simp only [List.setIfInBounds_toArray, List.set_cons_zero, List.set_cons_succ]
              refine drawn_take 29 39 (.pointer (some (ad.add (i * 9)))) rfl rfl (by kernel_rfl) (by kernel_rfl) (by kernel_rfl) (by kernel_rfl) (fun _ _ _ h => h) (by rfl) (by assumption) (by intro w hSw; obtain hS1 := hSw; go_simp) ?_
              try simp only [List.setIfInBounds_toArray, List.set_cons_zero, List.set_cons_succ]
              refine drawn_take 30 40 (.pointer (some ⟨(ad.add (i * 9)).block, (ad.add (i * 9)).off + 5, none⟩)) rfl rfl (by kernel_rfl) (by kernel_rfl) (by kernel_rfl) (by kernel_rfl) (fun _ _ _ h => h) (by rfl) (by assumption) (by intro w hSw; obtain hS1 := hSw; go_simp) ?_
              try simp only [List.setIfInBounds_toArray, List.set_cons_zero, List.set_cons_succ]
              refine drawn_take 31 41 (.agg #[.int .i64 r.c.n, .int .i64 r.c.s, .int .i64 r.c.lo, .int .i64 r.c.hi]) rfl rfl (by kernel_rfl) (by kernel_rfl) (by kernel_rfl) (by kernel_rfl) (fun _ _ _ h => h) (by rfl) (by assumption) (by intro w hSw; obtain ⟨a0, a1, a2, a3, a4, a5, a6, a7, a8⟩ := HRW.out w hSw; clear hSw; go_simp) ?_
              try simp only [List.setIfInBounds_toArray, List.set_cons_zero, List.set_cons_succ]
              refine drawn_any [32] (by kernel_rfl) (by simp) ?_
              refine drawn_cons rfl (fun K hK => ?_) drawn_nil
              go_simp
              refine (HRC.out _).mono ?_
              rintro e w4 ⟨rfl, t4⟩
              have hS4 := hS0.trans t4 (fun _ _ f => f)
              refine hK.out _ _ _ hS4 ?_
              clear hK K t4 hS0
              have hS0 := hS4
              clear hS4
              try simp only [List.setIfInBounds_toArray, List.set_cons_zero, List.set_cons_succ]
              refine drawn_take 33 43 (.bool true) rfl rfl (by kernel_rfl) (by kernel_rfl) (by kernel_rfl) (by kernel_rfl) (fun _ _ _ h => h) (by rfl) (by assumption) (by intro w hSw; obtain hS1 := hSw; go_simp) ?_
              try simp only [List.setIfInBounds_toArray, List.set_cons_zero, List.set_cons_succ]
              refine drawn_last1 34 44 (.bool true) rfl rfl (by kernel_rfl) (by kernel_rfl) (by rfl) (by intro w; go_simp) hS0 ?_
              try simp only [List.setIfInBounds_toArray, List.set_cons_zero, List.set_cons_succ]
              have HF := Lib.hid (HT.out.trans hS0 (fun _ _ f => f))
              clear hS0
              go_wp2
              go_ret
              rw [HNO.out HA.out]
              exact ⟨rfl, HF.out⟩
          · have hn2 : r.c.n < 1 := by omega
            have HA : Hid (rightAt l i = false) := by show _ = _; rw [HAT.out]; unfold okRow; rw [decide_eq_false hn, Bool.false_and]
            clear hn
            refine drawn_take 18 28 (.slice (some ad) l.length c) rfl rfl (by kernel_rfl) (by kernel_rfl) (by kernel_rfl) (by kernel_rfl) (fun _ _ _ h => h) (by rfl) (by assumption) (by intro w hSw; obtain hS1 := hSw; go_simp) ?_
            try simp only [List.setIfInBounds_toArray, List.set_cons_zero, List.set_cons_succ]
            refine drawn_take 19 29 (.int .i64 (i : Int)) rfl rfl (by kernel_rfl) (by kernel_rfl) (by kernel_rfl) (by kernel_rfl) (fun _ _ _ h => h) (by rfl) (by assumption) (by intro w hSw; obtain hS1 := hSw; go_simp) ?_
            try simp only [List.setIfInBounds_toArray, List.set_cons_zero, List.set_cons_succ]
            refine drawn_take 20 30 (.pointer (some (ad.add (i * 9)))) rfl rfl (by kernel_rfl) (by kernel_rfl) (by kernel_rfl) (by kernel_rfl) (fun _ _ _ h => h) (by rfl) (by assumption) (by intro w hSw; obtain hS1 := hSw; go_simp) ?_
            try simp only [List.setIfInBounds_toArray, List.set_cons_zero, List.set_cons_succ]
            refine drawn_take 21 31 (.pointer (some ⟨(ad.add (i * 9)).block, (ad.add (i * 9)).off + 5, none⟩)) rfl rfl (by kernel_rfl) (by kernel_rfl) (by kernel_rfl) (by kernel_rfl) (fun _ _ _ h => h) (by rfl) (by assumption) (by intro w hSw; obtain hS1 := hSw; go_simp) ?_
            try simp only [List.setIfInBounds_toArray, List.set_cons_zero, List.set_cons_succ]
            refine drawn_take 22 32 (.pointer (some ⟨(ad.add (i * 9)).block, (ad.add (i * 9)).off + 5, none⟩)) rfl rfl (by kernel_rfl) (by kernel_rfl) (by kernel_rfl) (by kernel_rfl) (fun _ _ _ h => h) (by rfl) (by assumption) (by intro w hSw; obtain hS1 := hSw; go_simp) ?_
            try simp only [List.setIfInBounds_toArray, List.set_cons_zero, List.set_cons_succ]
            refine drawn_take 23 33 (.int .i64 r.c.n) rfl rfl (by kernel_rfl) (by kernel_rfl) (by kernel_rfl) (by kernel_rfl) (fun _ _ _ h => h) (by rfl) (by assumption) (by intro w hSw; obtain ⟨a0, a1, a2, a3, a4, a5, a6, a7, a8⟩ := HRW.out w hSw; clear hSw; go_simp) ?_
            try simp only [List.setIfInBounds_toArray, List.set_cons_zero, List.set_cons_succ]
            refine drawn_take 24 34 (.bool true) rfl rfl (by kernel_rfl) (by kernel_rfl) (by kernel_rfl) (by kernel_rfl) (fun _ _ _ h => h) (by rfl) (by assumption) (by intro w hSw; obtain hS1 := hSw; go_simp) ?_
            try simp only [List.setIfInBounds_toArray, List.set_cons_zero, List.set_cons_succ]
            refine drawn_take 25 35 (.bool true) rfl rfl (by kernel_rfl) (by kernel_rfl) (by kernel_rfl) (by kernel_rfl) (fun _ _ _ h => h) (by rfl) (by assumption) (by intro w hSw; obtain hS1 := hSw; go_simp) ?_
            try simp only [List.setIfInBounds_toArray, List.set_cons_zero, List.set_cons_succ]
            refine drawn_take 26 36 (.bool true) rfl rfl (by kernel_rfl) (by kernel_rfl) (by kernel_rfl) (by kernel_rfl) (fun _ _ _ h => h) (by rfl) (by assumption) (by intro w hSw; obtain hS1 := hSw; go_simp) ?_
            try simp only [List.setIfInBounds_toArray, List.set_cons_zero, List.set_cons_succ]
            refine drawn_skip 27 37 rfl rfl (by kernel_rfl) (by kernel_rfl) (by kernel_rfl) (by kernel_rfl) (fun _ _ _ h => h) (by rfl) (fun _ => by assumption) ?_
            try simp only [List.setIfInBounds_toArray, List.set_cons_zero, List.set_cons_succ]
            refine drawn_skip 28 38 rfl rfl (by kernel_rfl) (by kernel_rfl) (by kernel_rfl) (by kernel_rfl) (fun _ _ _ h => h) (by rfl) (fun _ => by assumption) ?_
            try simp only [List.setIfInBounds_toArray, List.set_cons_zero, List.set_cons_succ]
            refine drawn_skip 29 39 rfl rfl (by kernel_rfl) (by kernel_rfl) (by kernel_rfl) (by kernel_rfl) (fun _ _ _ h => h) (by rfl) (fun _ => by assumption) ?_
            try simp only [List.setIfInBounds_toArray, List.set_cons_zero, List.set_cons_succ]
            refine drawn_skip 30 40 rfl rfl (by kernel_rfl) (by kernel_rfl) (by kernel_rfl) (by kernel_rfl) (fun _ _ _ h => h) (by rfl) (fun _ => by assumption) ?_
            try simp only [List.setIfInBounds_toArray, List.set_cons_zero, List.set_cons_succ]
            refine drawn_skip 31 41 rfl rfl (by kernel_rfl) (by kernel_rfl) (by kernel_rfl) (by kernel_rfl) (fun _ _ _ h => h) (by rfl) (fun _ => by assumption) ?_
            try simp only [List.setIfInBounds_toArray, List.set_cons_zero, List.set_cons_succ]
            refine drawn_skip 32 42 rfl rfl (by kernel_rfl) (by kernel_rfl) (by kernel_rfl) (by kernel_rfl) (fun _ _ _ h => h) (by rfl) (fun _ => by assumption) ?_
            try simp only [List.setIfInBounds_toArray, List.set_cons_zero, List.set_cons_succ]
            refine drawn_skip 33 43 rfl rfl (by kernel_rfl) (by kernel_rfl) (by kernel_rfl) (by kernel_rfl) (fun _ _ _ h => h) (by rfl) (fun _ => by assumption) ?_
            try simp only [List.setIfInBounds_toArray, List.set_cons_zero, List.set_cons_succ]
            refine drawn_last1 34 44 (.bool true) rfl rfl (by kernel_rfl) (by kernel_rfl) (by rfl) (by intro w; go_simp) hS0 ?_
            try simp only [List.setIfInBounds_toArray, List.set_cons_zero, List.set_cons_succ]
            have HF := Lib.hid (HT.out.trans hS0 (fun _ _ f => f))
            clear hS0
            go_wp2
            go_ret
            rw [HNO.out HA.out]
            exact ⟨rfl, HF.out⟩
        · have HA : Hid (rightAt l i = false) := by show _ = _; rw [HAT0.out, hk, Bool.false_and]
          refine drawn_take 15 25 (.bool true) rfl rfl (by kernel_rfl) (by kernel_rfl) (by kernel_rfl) (by kernel_rfl) (fun _ _ _ h => h) (by rfl) (by assumption) (by intro w hSw; obtain hS1 := hSw; go_simp) ?_
          try simp only [List.setIfInBounds_toArray, List.set_cons_zero, List.set_cons_succ]
          refine drawn_take 16 26 (.bool true) rfl rfl (by kernel_rfl) (by kernel_rfl) (by kernel_rfl) (by kernel_rfl) (fun _ _ _ h => h) (by rfl) (by assumption) (by intro w hSw; obtain hS1 := hSw; go_simp) ?_
          try simp only [List.setIfInBounds_toArray, List.set_cons_zero, List.set_cons_succ]
          refine drawn_take 17 27 (.bool true) rfl rfl (by kernel_rfl) (by kernel_rfl) (by kernel_rfl) (by kernel_rfl) (fun _ _ _ h => h) (by rfl) (by assumption) (by intro w hSw; obtain hS1 := hSw; go_simp) ?_
          try simp only [List.setIfInBounds_toArray, List.set_cons_zero, List.set_cons_succ]
          refine drawn_skip 18 28 rfl rfl (by kernel_rfl) (by kernel_rfl) (by kernel_rfl) (by kernel_rfl) (fun _ _ _ h => h) (by rfl) (fun _ => by assumption) ?_
          try simp only [List.setIfInBounds_toArray, List.set_cons_zero, List.set_cons_succ]
          refine drawn_skip 19 29 rfl rfl (by kernel_rfl) (by kernel_rfl) (by kernel_rfl) (by kernel_rfl) (fun _ _ _ h => h) (by rfl) (fun _ => by assumption) ?_
          try simp only [List.setIfInBounds_toArray, List.set_cons_zero, List.set_cons_succ]
          refine drawn_skip 20 30 rfl rfl (by kernel_rfl) (by kernel_rfl) (by kernel_rfl) (by kernel_rfl) (fun _ _ _ h => h) (by rfl) (fun _ => by assumption) ?_
          try simp only [List.setIfInBounds_toArray, List.set_cons_zero, List.set_cons_succ]
          refine drawn_skip 21 31 rfl rfl (by kernel_rfl) (by kernel_rfl) (by kernel_rfl) (by kernel_rfl) (fun _ _ _ h => h) (by rfl) (fun _ => by assumption) ?_
          try simp only [List.setIfInBounds_toArray, List.set_cons_zero, List.set_cons_succ]
          refine drawn_skip 22 32 rfl rfl (by kernel_rfl) (by kernel_rfl) (by kernel_rfl) (by kernel_rfl) (fun _ _ _ h => h) (by rfl) (fun _ => by assumption) ?_
          try simp only [List.setIfInBounds_toArray, List.set_cons_zero, List.set_cons_succ]
          refine drawn_skip 23 33 rfl rfl (by kernel_rfl) (by kernel_rfl) (by kernel_rfl) (by kernel_rfl) (fun _ _ _ h => h) (by rfl) (fun _ => by assumption) ?_
          try simp only [List.setIfInBounds_toArray, List.set_cons_zero, List.set_cons_succ]
          refine drawn_skip 24 34 rfl rfl (by kernel_rfl) (by kernel_rfl) (by kernel_rfl) (by kernel_rfl) (fun _ _ _ h => h) (by rfl) (fun _ => by assumption) ?_
          try simp only [List.setIfInBounds_toArray, List.set_cons_zero, List.set_cons_succ]
          refine drawn_take 25 35 (.bool true) rfl rfl (by kernel_rfl) (by kernel_rfl) (by kernel_rfl) (by kernel_rfl) (fun _ _ _ h => h) (by rfl) (by assumption) (by intro w hSw; obtain hS1 := hSw; go_simp) ?_
          try simp only [List.setIfInBounds_toArray, List.set_cons_zero, List.set_cons_succ]
          refine drawn_take 26 36 (.bool true) rfl rfl (by kernel_rfl) (by kernel_rfl) (by kernel_rfl) (by kernel_rfl) (fun _ _ _ h => h) (by rfl) (by assumption) (by intro w hSw; obtain hS1 := hSw; go_simp) ?_
          try simp only [List.setIfInBounds_toArray, List.set_cons_zero, List.set_cons_succ]
          refine drawn_skip 27 37 rfl rfl (by kernel_rfl) (by kernel_rfl) (by kernel_rfl) (by kernel_rfl) (fun _ _ _ h => h) (by rfl) (fun _ => by assumption) ?_
          try simp only [List.setIfInBounds_toArray, List.set_cons_zero, List.set_cons_succ]
          refine drawn_skip 28 38 rfl rfl (by kernel_rfl) (by kernel_rfl) (by kernel_rfl) (by kernel_rfl) (fun _ _ _ h => h) (by rfl) (fun _ => by assumption) ?_
          try simp only [List.setIfInBounds_toArray, List.set_cons_zero, List.set_cons_succ]
          refine drawn_skip 29 39 rfl rfl (by kernel_rfl) (by kernel_rfl) (by kernel_rfl) (by kernel_rfl) (fun _ _ _ h => h) (by rfl) (fun _ => by assumption) ?_
          try simp only [List.setIfInBounds_toArray, List.set_cons_zero, List.set_cons_succ]
          refine drawn_skip 30 40 rfl rfl (by kernel_rfl) (by kernel_rfl) (by kernel_rfl) (by kernel_rfl) (fun _ _ _ h => h) (by rfl) (fun _ => by assumption) ?_
          try simp only [List.setIfInBounds_toArray, List.set_cons_zero, List.set_cons_succ]
          refine drawn_skip 31 41 rfl rfl (by kernel_rfl) (by kernel_rfl) (by kernel_rfl) (by kernel_rfl) (fun _ _ _ h => h) (by rfl) (fun _ => by assumption) ?_
          try simp only [List.setIfInBounds_toArray, List.set_cons_zero, List.set_cons_succ]
          refine drawn_skip 32 42 rfl rfl (by kernel_rfl) (by kernel_rfl) (by kernel_rfl) (by kernel_rfl) (fun _ _ _ h => h) (by rfl) (fun _ => by assumption) ?_
          try simp only [List.setIfInBounds_toArray, List.set_cons_zero, List.set_cons_succ]
          refine drawn_skip 33 43 rfl rfl (by kernel_rfl) (by kernel_rfl) (by kernel_rfl) (by kernel_rfl) (fun _ _ _ h => h) (by rfl) (fun _ => by assumption) ?_
          try simp only [List.setIfInBounds_toArray, List.set_cons_zero, List.set_cons_succ]
          refine drawn_last1 34 44 (.bool true) rfl rfl (by kernel_rfl) (by kernel_rfl) (by rfl) (by intro w; go_simp) hS0 ?_
          try simp only [List.setIfInBounds_toArray, List.set_cons_zero, List.set_cons_succ]
          have HF := Lib.hid (HT.out.trans hS0 (fun _ _ f => f))
          clear hS0
          go_wp2
          go_ret
          rw [HNO.out HA.out]
          exact ⟨rfl, HF.out⟩
      · have hat : rightAt l i = okRow r := by obtain rfl : i = 0 := (by omega); exact rightAt_zero hr
        have HAT := Lib.hid hat
        have hpi : ¬ (0 : Int) < (i : Int) := by omega
        clear hc hr hat
        go_wp2_with fail
        refine drawn_region (fun W => Turn (fun _ => False) wr W) [] (by kernel_rfl) ?_
        have hS0 : Turn (fun _ => False) wr (World.drew wr) := (Turn.refl _ wr).drew
        generalize World.drew wr = wd at *
        refine drawn_take 0 10 (.int .i64 (i : Int)) rfl rfl (by kernel_rfl) (by kernel_rfl) (by kernel_rfl) (by kernel_rfl) (fun _ _ _ h => h) (by rfl) (by assumption) (by intro w hSw; obtain hS1 := hSw; go_simp) ?_
        try simp only [List.setIfInBounds_toArray, List.set_cons_zero, List.set_cons_succ]
        refine drawn_take 1 11 (.bool false) rfl rfl (by kernel_rfl) (by kernel_rfl) (by kernel_rfl) (by kernel_rfl) (fun _ _ _ h => h) (by rfl) (by assumption) (by intro w hSw; obtain hS1 := hSw; go_simp) ?_
        try simp only [List.setIfInBounds_toArray, List.set_cons_zero, List.set_cons_succ]
        refine drawn_take 2 12 (.bool false) rfl rfl (by kernel_rfl) (by kernel_rfl) (by kernel_rfl) (by kernel_rfl) (fun _ _ _ h => h) (by rfl) (by assumption) (by intro w hSw; obtain hS1 := hSw; go_simp) ?_
        try simp only [List.setIfInBounds_toArray, List.set_cons_zero, List.set_cons_succ]
        refine drawn_skip 3 13 rfl rfl (by kernel_rfl) (by kernel_rfl) (by kernel_rfl) (by kernel_rfl) (fun _ _ _ h => h) (by rfl) (fun _ => by assumption) ?_
        try simp only [List.setIfInBounds_toArray, List.set_cons_zero, List.set_cons_succ]
        refine drawn_skip 4 14 rfl rfl (by kernel_rfl) (by kernel_rfl) (by kernel_rfl) (by kernel_rfl) (fun _ _ _ h => h) (by rfl) (fun _ => by assumption) ?_
        try simp only [List.setIfInBounds_toArray, List.set_cons_zero, List.set_cons_succ]
        refine drawn_skip 5 15 rfl rfl (by kernel_rfl) (by kernel_rfl) (by kernel_rfl) (by kernel_rfl) (fun _ _ _ h => h) (by rfl) (fun _ => by assumption) ?_
        try simp only [List.setIfInBounds_toArray, List.set_cons_zero, List.set_cons_succ]
        refine drawn_skip 6 16 rfl rfl (by kernel_rfl) (by kernel_rfl) (by kernel_rfl) (by kernel_rfl) (fun _ _ _ h => h) (by rfl) (fun _ => by assumption) ?_
        try simp only [List.setIfInBounds_toArray, List.set_cons_zero, List.set_cons_succ]
        refine drawn_skip 7 17 rfl rfl (by kernel_rfl) (by kernel_rfl) (by kernel_rfl) (by kernel_rfl) (fun _ _ _ h => h) (by rfl) (fun _ => by assumption) ?_
        try simp only [List.setIfInBounds_toArray, List.set_cons_zero, List.set_cons_succ]
        refine drawn_skip 8 18 rfl rfl (by kernel_rfl) (by kernel_rfl) (by kernel_rfl) (by kernel_rfl) (fun _ _ _ h => h) (by rfl) (fun _ => by assumption) ?_
        try simp only [List.setIfInBounds_toArray, List.set_cons_zero, List.set_cons_succ]
        refine drawn_skip 9 19 rfl rfl (by kernel_rfl) (by kernel_rfl) (by kernel_rfl) (by kernel_rfl) (fun _ _ _ h => h) (by rfl) (fun _ => by assumption) ?_
        try simp only [List.setIfInBounds_toArray, List.set_cons_zero, List.set_cons_succ]
        refine drawn_skip 10 20 rfl rfl (by kernel_rfl) (by kernel_rfl) (by kernel_rfl) (by kernel_rfl) (fun _ _ _ h => h) (by rfl) (fun _ => by assumption) ?_
        try simp only [List.setIfInBounds_toArray, List.set_cons_zero, List.set_cons_succ]
        refine drawn_skip 11 21 rfl rfl (by kernel_rfl) (by kernel_rfl) (by kernel_rfl) (by kernel_rfl) (fun _ _ _ h => h) (by rfl) (fun _ => by assumption) ?_
        try simp only [List.setIfInBounds_toArray, List.set_cons_zero, List.set_cons_succ]
        refine drawn_skip 12 22 rfl rfl (by kernel_rfl) (by kernel_rfl) (by kernel_rfl) (by kernel_rfl) (fun _ _ _ h => h) (by rfl) (fun _ => by assumption) ?_
        try simp only [List.setIfInBounds_toArray, List.set_cons_zero, List.set_cons_succ]
        refine drawn_skip 13 23 rfl rfl (by kernel_rfl) (by kernel_rfl) (by kernel_rfl) (by kernel_rfl) (fun _ _ _ h => h) (by rfl) (fun _ => by assumption) ?_
        try simp only [List.setIfInBounds_toArray, List.set_cons_zero, List.set_cons_succ]
        refine drawn_skip 14 24 rfl rfl (by kernel_rfl) (by kernel_rfl) (by kernel_rfl) (by kernel_rfl) (fun _ _ _ h => h) (by rfl) (fun _ => by assumption) ?_
        try simp only [List.setIfInBounds_toArray, List.set_cons_zero, List.set_cons_succ]
        refine drawn_skip 15 25 rfl rfl (by kernel_rfl) (by kernel_rfl) (by kernel_rfl) (by kernel_rfl) (fun _ _ _ h => h) (by rfl) (fun _ => by assumption) ?_
        try simp only [List.setIfInBounds_toArray, List.set_cons_zero, List.set_cons_succ]
        refine drawn_take 16 26 (.bool false) rfl rfl (by kernel_rfl) (by kernel_rfl) (by kernel_rfl) (by kernel_rfl) (fun _ _ _ h => h) (by rfl) (by assumption) (by intro w hSw; obtain hS1 := hSw; go_simp) ?_
        try simp only [List.setIfInBounds_toArray, List.set_cons_zero, List.set_cons_succ]
        refine drawn_take 17 27 (.bool false) rfl rfl (by kernel_rfl) (by kernel_rfl) (by kernel_rfl) (by kernel_rfl) (fun _ _ _ h => h) (by rfl) (by assumption) (by intro w hSw; obtain hS1 := hSw; go_simp) ?_
        try simp only [List.setIfInBounds_toArray, List.set_cons_zero, List.set_cons_succ]
        have HCR : Hid (∀ W, Calls Try.prog 20 #[.agg #[.int .i64 r.c.n, .int .i64 r.c.s, .int .i64 r.c.lo, .int .i64 r.c.hi]] W fun e w' => e = .returned (.bool (rightC r.c)) ∧ Turn (fun _ => False) W w') := fun W => ref_right r.c.n r.c.s r.c.lo r.c.hi W
        by_cases hn : 1 ≤ r.c.n
        · have hn2 : ¬ r.c.n < 1 := by omega
          cases hrc : rightC r.c with
          | true =>
            have HA : Hid (rightAt l i = true) := by show _ = _; rw [HAT.out]; unfold okRow; rw [decide_eq_true hn, hrc]; rfl
            have HRC := HCR
            rw [hrc] at HRC
            clear hrc HCR
            refine drawn_take 18 28 (.slice (some ad) l.length c) rfl rfl (by kernel_rfl) (by kernel_rfl) (by kernel_rfl) (by kernel_rfl) (fun _ _ _ h => h) (by rfl) (by assumption) (by intro w hSw; obtain hS1 := hSw; go_simp) ?_
            try simp only [List.setIfInBounds_toArray, List.set_cons_zero, List.set_cons_succ]
            refine drawn_take 19 29 (.int .i64 (i : Int)) rfl rfl (by kernel_rfl) (by kernel_rfl) (by kernel_rfl) (by kernel_rfl) (fun _ _ _ h => h) (by rfl) (by assumption) (by intro w hSw; obtain hS1 := hSw; go_simp) ?_
            try simp only [List.setIfInBounds_toArray, List.set_cons_zero, List.set_cons_succ]
            refine drawn_take 20 30 (.pointer (some (ad.add (i * 9)))) rfl rfl (by kernel_rfl) (by kernel_rfl) (by kernel_rfl) (by kernel_rfl) (fun _ _ _ h => h) (by rfl) (by assumption) (by intro w hSw; obtain hS1 := hSw; go_simp) ?_
            try simp only [List.setIfInBounds_toArray, List.set_cons_zero, List.set_cons_succ]
            refine drawn_take 21 31 (.pointer (some ⟨(ad.add (i * 9)).block, (ad.add (i * 9)).off + 5, none⟩)) rfl rfl (by kernel_rfl) (by kernel_rfl) (by kernel_rfl) (by kernel_rfl) (fun _ _ _ h => h) (by rfl) (by assumption) (by intro w hSw; obtain hS1 := hSw; go_simp) ?_
            try simp only [List.setIfInBounds_toArray, List.set_cons_zero, List.set_cons_succ]
            refine drawn_take 22 32 (.pointer (some ⟨(ad.add (i * 9)).block, (ad.add (i * 9)).off + 5, none⟩)) rfl rfl (by kernel_rfl) (by kernel_rfl) (by kernel_rfl) (by kernel_rfl) (fun _ _ _ h => h) (by rfl) (by assumption) (by intro w hSw; obtain hS1 := hSw; go_simp) ?_
            try simp only [List.setIfInBounds_toArray, List.set_cons_zero, List.set_cons_succ]
            refine drawn_take 23 33 (.int .i64 r.c.n) rfl rfl (by kernel_rfl) (by kernel_rfl) (by kernel_rfl) (by kernel_rfl) (fun _ _ _ h => h) (by rfl) (by assumption) (by intro w hSw; obtain ⟨a0, a1, a2, a3, a4, a5, a6, a7, a8⟩ := HRW.out w hSw; clear hSw; go_simp) ?_
            try simp only [List.setIfInBounds_toArray, List.set_cons_zero, List.set_cons_succ]
            refine drawn_take 24 34 (.bool false) rfl rfl (by kernel_rfl) (by kernel_rfl) (by kernel_rfl) (by kernel_rfl) (fun _ _ _ h => h) (by rfl) (by assumption) (by intro w hSw; obtain hS1 := hSw; go_simp) ?_
            try simp only [List.setIfInBounds_toArray, List.set_cons_zero, List.set_cons_succ]
            refine drawn_take 25 35 (.bool false) rfl rfl (by kernel_rfl) (by kernel_rfl) (by kernel_rfl) (by kernel_rfl) (fun _ _ _ h => h) (by rfl) (by assumption) (by intro w hSw; obtain hS1 := hSw; go_simp) ?_
            try simp only [List.setIfInBounds_toArray, List.set_cons_zero, List.set_cons_succ]
            refine drawn_take 26 36 (.bool false) rfl rfl (by kernel_rfl) (by kernel_rfl) (by kernel_rfl) (by kernel_rfl) (fun _ _ _ h => h) (by rfl) (by assumption) (by intro w hSw; obtain hS1 := hSw; go_simp) ?_
            try simp only [List.setIfInBounds_toArray, List.set_cons_zero, List.set_cons_succ]
            refine drawn_take 27 37 (.slice (some ad) l.length c) rfl rfl (by kernel_rfl) (by kernel_rfl) (by kernel_rfl) (by kernel_rfl) (fun _ _ _ h => h) (by rfl) (by assumption) (by intro w hSw; obtain hS1 := hSw; go_simp) ?_
            try simp only [List.setIfInBounds_toArray, List.set_cons_zero, List.set_cons_succ]
            refine drawn_take 28 38 (.int .i64 (i : Int)) rfl rfl (by kernel_rfl) (by kernel_rfl) (by kernel_rfl) (by kernel_rfl) (fun _ _ _ h => h) (by rfl) (by assumption) (by intro w hSw; obtain hS1 := hSw; go_simp) ?_
            try simp only [List.setIfInBounds_toArray, List.set_cons_zero, List.set_cons_succ]
            refine drawn_take 29 39 (.pointer (some (ad.add (i * 9)))) rfl rfl (by kernel_rfl) (by kernel_rfl) (by kernel_rfl) (by kernel_rfl) (fun _ _ _ h => h) (by rfl) (by assumption) (by intro w hSw; obtain hS1 := hSw; go_simp) ?_
            try simp only [List.setIfInBounds_toArray, List.set_cons_zero, List.set_cons_succ]
            refine drawn_take 30 40 (.pointer (some ⟨(ad.add (i * 9)).block, (ad.add (i * 9)).off + 5, none⟩)) rfl rfl (by kernel_rfl) (by kernel_rfl) (by kernel_rfl) (by kernel_rfl) (fun _ _ _ h => h) (by rfl) (by assumption) (by intro w hSw; obtain hS1 := hSw; go_simp) ?_
            try simp only [List.setIfInBounds_toArray, List.set_cons_zero, List.set_cons_succ]
            refine drawn_take 31 41 (.agg #[.int .i64 r.c.n, .int .i64 r.c.s, .int .i64 r.c.lo, .int .i64 r.c.hi]) rfl rfl (by kernel_rfl) (by kernel_rfl) (by kernel_rfl) (by kernel_rfl) (fun _ _ _ h => h) (by rfl) (by assumption) (by intro w hSw; obtain ⟨a0, a1, a2, a3, a4, a5, a6, a7, a8⟩ := HRW.out w hSw; clear hSw; go_simp) ?_
            try simp only [List.setIfInBounds_toArray, List.set_cons_zero, List.set_cons_succ]
            refine drawn_any [32] (by kernel_rfl) (by simp) ?_
            refine drawn_cons rfl (fun K hK => ?_) drawn_nil
            go_simp
            refine (HRC.out _).mono ?_
            rintro e w4 ⟨rfl, t4⟩
            have hS4 := hS0.trans t4 (fun _ _ f => f)
            refine hK.out _ _ _ hS4 ?_
            clear hK K t4 hS0
            have hS0 := hS4
            clear hS4
            try simp only [List.setIfInBounds_toArray, List.set_cons_zero, List.set_cons_succ]
            refine drawn_take 33 43 (.bool false) rfl rfl (by kernel_rfl) (by kernel_rfl) (by kernel_rfl) (by kernel_rfl) (fun _ _ _ h => h) (by rfl) (by assumption) (by intro w hSw; obtain hS1 := hSw; go_simp) ?_
            try simp only [List.setIfInBounds_toArray, List.set_cons_zero, List.set_cons_succ]
            refine drawn_last1 34 44 (.bool false) rfl rfl (by kernel_rfl) (by kernel_rfl) (by rfl) (by intro w; go_simp) hS0 ?_
            try simp only [List.setIfInBounds_toArray, List.set_cons_zero, List.set_cons_succ]
            have HF := Lib.hid (HT.out.trans hS0 (fun _ _ f => f))
            clear hS0
            go_wp2
            go_roundw
            case rel => exact ⟨i + 1, by go_num, hlt, HNX.out HA.out, HF.out⟩
            case measure => simp [intOf]; omega
          | false =>
            have HA : Hid (rightAt l i = false) := by show _ = _; rw [HAT.out]; unfold okRow; rw [decide_eq_true hn, hrc]; rfl
            have HRC := HCR
            rw [hrc] at HRC
            clear hrc HCR
            refine drawn_take 18 28 (.slice (some ad) l.length c) rfl rfl (by kernel_rfl) (by kernel_rfl) (by kernel_rfl) (by kernel_rfl) (fun _ _ _ h => h) (by rfl) (by assumption) (by intro w hSw; obtain hS1 := hSw; go_simp) ?_
            try simp only [List.setIfInBounds_toArray, List.set_cons_zero, List.set_cons_succ]
            refine drawn_take 19 29 (.int .i64 (i : Int)) rfl rfl (by kernel_rfl) (by kernel_rfl) (by kernel_rfl) (by kernel_rfl) (fun _ _ _ h => h) (by rfl) (by assumption) (by intro w hSw; obtain hS1 := hSw; go_simp) ?_
            try simp only [List.setIfInBounds_toArray, List.set_cons_zero, List.set_cons_succ]
            refine drawn_take 20 30 (.pointer (some (ad.add (i * 9)))) rfl rfl (by kernel_rfl) (by kernel_rfl) (by kernel_rfl) (by kernel_rfl) (fun _ _ _ h => h) (by rfl) (by assumption) (by intro w hSw; obtain hS1 := hSw; go_simp) ?_
            try simp only [List.setIfInBounds_toArray, List.set_cons_zero, List.set_cons_succ]
            refine drawn_take 21 31 (.pointer (some ⟨(ad.add (i * 9)).block, (ad.add (i * 9)).off + 5, none⟩)) rfl rfl (by kernel_rfl) (by kernel_rfl) (by kernel_rfl) (by kernel_rfl) (fun _ _ _ h => h) (by rfl) (by assumption) (by intro w hSw; obtain hS1 := hSw; go_simp) ?_
            try simp only [List.setIfInBounds_toArray, List.set_cons_zero, List.set_cons_succ]
            refine drawn_take 22 32 (.pointer (some ⟨(ad.add (i * 9)).block, (ad.add (i * 9)).off + 5, none⟩)) rfl rfl (by kernel_rfl) (by kernel_rfl) (by kernel_rfl) (by kernel_rfl) (fun _ _ _ h => h) (by rfl) (by assumption) (by intro w hSw; obtain hS1 := hSw; go_simp) ?_
            try simp only [List.setIfInBounds_toArray, List.set_cons_zero, List.set_cons_succ]
            refine drawn_take 23 33 (.int .i64 r.c.n) rfl rfl (by kernel_rfl) (by kernel_rfl) (by kernel_rfl) (by kernel_rfl) (fun _ _ _ h => h) (by rfl) (by assumption) (by intro w hSw; obtain ⟨a0, a1, a2, a3, a4, a5, a6, a7, a8⟩ := HRW.out w hSw; clear hSw; go_simp) ?_
            try simp only [List.setIfInBounds_toArray, List.set_cons_zero, List.set_cons_succ]
            refine drawn_take 24 34 (.bool false) rfl rfl (by kernel_rfl) (by kernel_rfl) (by kernel_rfl) (by kernel_rfl) (fun _ _ _ h => h) (by rfl) (by assumption) (by intro w hSw; obtain hS1 := hSw; go_simp) ?_
            try simp only [List.setIfInBounds_toArray, List.set_cons_zero, List.set_cons_succ]
            refine drawn_take 25 35 (.bool false) rfl rfl (by kernel_rfl) (by kernel_rfl) (by kernel_rfl) (by kernel_rfl) (fun _ _ _ h => h) (by rfl) (by assumption) (by intro w hSw; obtain hS1 := hSw; go_simp) ?_
            try simp only [List.setIfInBounds_toArray, List.set_cons_zero, List.set_cons_succ]
            refine drawn_take 26 36 (.bool false) rfl rfl (by kernel_rfl) (by kernel_rfl) (by kernel_rfl) (by kernel_rfl) (fun _ _ _ h => h) (by rfl) (by assumption) (by intro w hSw; obtain hS1 := hSw; go_simp) ?_
            try simp only [List.setIfInBounds_toArray, List.set_cons_zero, List.set_cons_succ]
            refine drawn_take 27 37 (.slice (some ad) l.length c) rfl rfl (by kernel_rfl) (by kernel_rfl) (by kernel_rfl) (by kernel_rfl) (fun _ _ _ h => h) (by rfl) (by assumption) (by intro w hSw; obtain hS1 := hSw; go_simp) ?_
            try simp only [List.setIfInBounds_toArray, List.set_cons_zero, List.set_cons_succ]
            refine drawn_take 28 38 (.int .i64 (i : Int)) rfl rfl (by kernel_rfl) (by kernel_rfl) (by kernel_rfl) (by kernel_rfl) (fun _ _ _ h => h) (by rfl) (by assumption) (by intro w hSw; obtain hS1 := hSw; go_simp) ?_
            try simp only [List.setIfInBounds_toArray, List.set_cons_zero, List.set_cons_succ]
            refine drawn_take 29 39 (.pointer (some (ad.add (i * 9)))) rfl rfl (by kernel_rfl) (by kernel_rfl) (by kernel_rfl) (by kernel_rfl) (fun _ _ _ h => h) (by rfl) (by assumption) (by intro w hSw; obtain hS1 := hSw; go_simp) ?_
            try simp only [List.setIfInBounds_toArray, List.set_cons_zero, List.set_cons_succ]
            refine drawn_take 30 40 (.pointer (some ⟨(ad.add (i * 9)).block, (ad.add (i * 9)).off + 5, none⟩)) rfl rfl (by kernel_rfl) (by kernel_rfl) (by kernel_rfl) (by kernel_rfl) (fun _ _ _ h => h) (by rfl) (by assumption) (by intro w hSw; obtain hS1 := hSw; go_simp) ?_
            try simp only [List.setIfInBounds_toArray, List.set_cons_zero, List.set_cons_succ]
            refine drawn_take 31 41 (.agg #[.int .i64 r.c.n, .int .i64 r.c.s, .int .i64 r.c.lo, .int .i64 r.c.hi]) rfl rfl (by kernel_rfl) (by kernel_rfl) (by kernel_rfl) (by kernel_rfl) (fun _ _ _ h => h) (by rfl) (by assumption) (by intro w hSw; obtain ⟨a0, a1, a2, a3, a4, a5, a6, a7, a8⟩ := HRW.out w hSw; clear hSw; go_simp) ?_
            try simp only [List.setIfInBounds_toArray, List.set_cons_zero, List.set_cons_succ]
            refine drawn_any [32] (by kernel_rfl) (by simp) ?_
            refine drawn_cons rfl (fun K hK => ?_) drawn_nil
            go_simp
            refine (HRC.out _).mono ?_
            rintro e w4 ⟨rfl, t4⟩
            have hS4 := hS0.trans t4 (fun _ _ f => f)
            refine hK.out _ _ _ hS4 ?_
            clear hK K t4 hS0
            have hS0 := hS4
            clear hS4
            try simp only [List.setIfInBounds_toArray, List.set_cons_zero, List.set_cons_succ]
            refine drawn_take 33 43 (.bool true) rfl rfl (by kernel_rfl) (by kernel_rfl) (by kernel_rfl) (by kernel_rfl) (fun _ _ _ h => h) (by rfl) (by assumption) (by intro w hSw; obtain hS1 := hSw; go_simp) ?_
            try simp only [List.setIfInBounds_toArray, List.set_cons_zero, List.set_cons_succ]
            refine drawn_last1 34 44 (.bool true) rfl rfl (by kernel_rfl) (by kernel_rfl) (by rfl) (by intro w; go_simp) hS0 ?_
            try simp only [List.setIfInBounds_toArray, List.set_cons_zero, List.set_cons_succ]
            have HF := Lib.hid (HT.out.trans hS0 (fun _ _ f => f))
            clear hS0
            go_wp2
            go_ret
            rw [HNO.out HA.out]
            exact ⟨rfl, HF.out⟩
        · have hn2 : r.c.n < 1 := by omega
          have HA : Hid (rightAt l i = false) := by show _ = _; rw [HAT.out]; unfold okRow; rw [decide_eq_false hn, Bool.false_and]
          clear hn
          refine drawn_take 18 28 (.slice (some ad) l.length c) rfl rfl (by kernel_rfl) (by kernel_rfl) (by kernel_rfl) (by kernel_rfl) (fun _ _ _ h => h) (by rfl) (by assumption) (by intro w hSw; obtain hS1 := hSw; go_simp) ?_
          try simp only [List.setIfInBounds_toArray, List.set_cons_zero, List.set_cons_succ]
          refine drawn_take 19 29 (.int .i64 (i : Int)) rfl rfl (by kernel_rfl) (by kernel_rfl) (by kernel_rfl) (by kernel_rfl) (fun _ _ _ h => h) (by rfl) (by assumption) (by intro w hSw; obtain hS1 := hSw; go_simp) ?_
          try simp only [List.setIfInBounds_toArray, List.set_cons_zero, List.set_cons_succ]
          refine drawn_take 20 30 (.pointer (some (ad.add (i * 9)))) rfl rfl (by kernel_rfl) (by kernel_rfl) (by kernel_rfl) (by kernel_rfl) (fun _ _ _ h => h) (by rfl) (by assumption) (by intro w hSw; obtain hS1 := hSw; go_simp) ?_
          try simp only [List.setIfInBounds_toArray, List.set_cons_zero, List.set_cons_succ]
          refine drawn_take 21 31 (.pointer (some ⟨(ad.add (i * 9)).block, (ad.add (i * 9)).off + 5, none⟩)) rfl rfl (by kernel_rfl) (by kernel_rfl) (by kernel_rfl) (by kernel_rfl) (fun _ _ _ h => h) (by rfl) (by assumption) (by intro w hSw; obtain hS1 := hSw; go_simp) ?_
          try simp only [List.setIfInBounds_toArray, List.set_cons_zero, List.set_cons_succ]
          refine drawn_take 22 32 (.pointer (some ⟨(ad.add (i * 9)).block, (ad.add (i * 9)).off + 5, none⟩)) rfl rfl (by kernel_rfl) (by kernel_rfl) (by kernel_rfl) (by kernel_rfl) (fun _ _ _ h => h) (by rfl) (by assumption) (by intro w hSw; obtain hS1 := hSw; go_simp) ?_
          try simp only [List.setIfInBounds_toArray, List.set_cons_zero, List.set_cons_succ]
          refine drawn_take 23 33 (.int .i64 r.c.n) rfl rfl (by kernel_rfl) (by kernel_rfl) (by kernel_rfl) (by kernel_rfl) (fun _ _ _ h => h) (by rfl) (by assumption) (by intro w hSw; obtain ⟨a0, a1, a2, a3, a4, a5, a6, a7, a8⟩ := HRW.out w hSw; clear hSw; go_simp) ?_
          try simp only [List.setIfInBounds_toArray, List.set_cons_zero, List.set_cons_succ]
          refine drawn_take 24 34 (.bool true) rfl rfl (by kernel_rfl) (by kernel_rfl) (by kernel_rfl) (by kernel_rfl) (fun _ _ _ h => h) (by rfl) (by assumption) (by intro w hSw; obtain hS1 := hSw; go_simp) ?_
          try simp only [List.setIfInBounds_toArray, List.set_cons_zero, List.set_cons_succ]
          refine drawn_take 25 35 (.bool true) rfl rfl (by kernel_rfl) (by kernel_rfl) (by kernel_rfl) (by kernel_rfl) (fun _ _ _ h => h) (by rfl) (by assumption) (by intro w hSw; obtain hS1 := hSw; go_simp) ?_
          try simp only [List.setIfInBounds_toArray, List.set_cons_zero, List.set_cons_succ]
          refine drawn_take 26 36 (.bool true) rfl rfl (by kernel_rfl) (by kernel_rfl) (by kernel_rfl) (by kernel_rfl) (fun _ _ _ h => h) (by rfl) (by assumption) (by intro w hSw; obtain hS1 := hSw; go_simp) ?_
          try simp only [List.setIfInBounds_toArray, List.set_cons_zero, List.set_cons_succ]
          refine drawn_skip 27 37 rfl rfl (by kernel_rfl) (by kernel_rfl) (by kernel_rfl) (by kernel_rfl) (fun _ _ _ h => h) (by rfl) (fun _ => by assumption) ?_
          try simp only [List.setIfInBounds_toArray, List.set_cons_zero, List.set_cons_succ]
          refine drawn_skip 28 38 rfl rfl (by kernel_rfl) (by kernel_rfl) (by kernel_rfl) (by kernel_rfl) (fun _ _ _ h => h) (by rfl) (fun _ => by assumption) ?_
          try simp only [List.setIfInBounds_toArray, List.set_cons_zero, List.set_cons_succ]
          refine drawn_skip 29 39 rfl rfl (by kernel_rfl) (by kernel_rfl) (by kernel_rfl) (by kernel_rfl) (fun _ _ _ h => h) (by rfl) (fun _ => by assumption) ?_
          try simp only [List.setIfInBounds_toArray, List.set_cons_zero, List.set_cons_succ]
          refine drawn_skip 30 40 rfl rfl (by kernel_rfl) (by kernel_rfl) (by kernel_rfl) (by kernel_rfl) (fun _ _ _ h => h) (by rfl) (fun _ => by assumption) ?_
          try simp only [List.setIfInBounds_toArray, List.set_cons_zero, List.set_cons_succ]
          refine drawn_skip 31 41 rfl rfl (by kernel_rfl) (by kernel_rfl) (by kernel_rfl) (by kernel_rfl) (fun _ _ _ h => h) (by rfl) (fun _ => by assumption) ?_
          try simp only [List.setIfInBounds_toArray, List.set_cons_zero, List.set_cons_succ]
          refine drawn_skip 32 42 rfl rfl (by kernel_rfl) (by kernel_rfl) (by kernel_rfl) (by kernel_rfl) (fun _ _ _ h => h) (by rfl) (fun _ => by assumption) ?_
          try simp only [List.setIfInBounds_toArray, List.set_cons_zero, List.set_cons_succ]
          refine drawn_skip 33 43 rfl rfl (by kernel_rfl) (by kernel_rfl) (by kernel_rfl) (by kernel_rfl) (fun _ _ _ h => h) (by rfl) (fun _ => by assumption) ?_
          try simp only [List.setIfInBounds_toArray, List.set_cons_zero, List.set_cons_succ]
          refine drawn_last1 34 44 (.bool true) rfl rfl (by kernel_rfl) (by kernel_rfl) (by rfl) (by intro w; go_simp) hS0 ?_
          try simp only [List.setIfInBounds_toArray, List.set_cons_zero, List.set_cons_succ]
          have HF := Lib.hid (HT.out.trans hS0 (fun _ _ f => f))
          clear hS0
          go_wp2
          go_ret
          rw [HNO.out HA.out]
          exact ⟨rfl, HF.out⟩
    · obtain rfl : i = l.length := by omega
      have HY : Hid (rightR l = true) := rightR_yes HOK.out
      go_wp2
      go_ret
      rw [HY.out]
      exact ⟨rfl, HT.out⟩

end Go.Proofs.Ytklpmajaihmmfaa

/-
  Stage 11, plain: facts that weigh not too much, in whatever two parts.
-/
namespace Go.Proofs.Ytklpmajaihmmfaa
open Go.RowKit

/-- A key's values. -/
def valsF (k : K9) (l : List F9) : List Int := (l.filter fun f => decide (f.k = k)).map (·.v)
theorem cells_facts (k : K9) (l : List F9) : cellsOf k (l.map rowF) = (valsF k l).map Cl.of := by
  induction l with
  | nil => rfl
  | cons f t ih =>
    show (if f.k = k then Cl.of f.v :: cellsOf k (t.map rowF) else cellsOf k (t.map rowF)) = _
    unfold valsF at ih ⊢
    rw [List.filter_cons]
    by_cases h : f.k = k
    · rw [if_pos h, if_pos (decide_eq_true h), ih]
      rfl
    · rw [if_neg h, if_neg (by simpa using h), ih]
theorem valsF_append (k : K9) (l m : List F9) : valsF k (l ++ m) = valsF k l ++ valsF k m := by
  unfold valsF
  rw [List.filter_append, List.map_append]
def optL (vs : List Int) : Option Cl := if vs = [] then none else some (cellL vs)
theorem more_vals : ∀ (ws vs : List Int), vs ≠ [] → weighN vs + weighN ws ≤ 4611686018427387904 → vs.length + ws.length ≤ 1000000 → moreO (some (cellL vs)) (ws.map Cl.of) = some (some (cellL (vs ++ ws)))
  | [], vs, _, _, _ => by rw [List.append_nil]; rfl
  | w :: ws, vs, h, hw, hl => by
    have e1 : weighN (w :: ws) = weighN [w] + weighN ws := weighN_append [w] ws
    rw [List.length_cons] at hl
    have hm := merge_parts vs [w] (by omega) (by rw [List.length_singleton]; omega)
    rw [cellL_one] at hm
    have ih := more_vals ws (vs ++ [w]) (by simp) (by rw [weighN_append]; omega) (by rw [List.length_append, List.length_singleton]; omega)
    rw [List.append_assoc, List.singleton_append] at ih
    rw [List.map_cons]
    have ha : addO (some (cellL vs)) (Cl.of w) = some (cellL (vs ++ [w])) := hm
    simp only [moreO, ha]
    exact ih
theorem more_none (ws : List Int) (hw : weighN ws ≤ 4611686018427387904) (hl : ws.length ≤ 1000000) : moreO none (ws.map Cl.of) = some (optL ws) := by
  cases ws with
  | nil => rfl
  | cons w ws =>
    have e1 : weighN (w :: ws) = weighN [w] + weighN ws := weighN_append [w] ws
    rw [List.length_cons] at hl
    have h := more_vals ws [w] (by simp) (by omega) (by rw [List.length_singleton]; omega)
    rw [cellL_one, List.singleton_append] at h
    rw [List.map_cons]
    simp only [moreO, addO]
    rw [h]
    rfl

/-- Facts whose values weigh not too much. -/
def Small (l : List F9) : Prop := l.length ≤ 100 ∧ ∀ f ∈ l, f.v.natAbs ≤ 1099511627776
theorem weigh_le {l : List F9} (h : ∀ f ∈ l, f.v.natAbs ≤ 1099511627776) : weighN (l.map (·.v)) ≤ l.length * 1099511627776 := by
  induction l with
  | nil => exact Nat.le_refl _
  | cons f t ih =>
    have e1 : weighN ((f :: t).map (·.v)) = weighN [f.v] + weighN (t.map (·.v)) := weighN_append [f.v] _
    have h1 := h f (List.mem_cons_self ..)
    have h2 := ih (fun g hg => h g (List.mem_cons_of_mem _ hg))
    have e2 : weighN [f.v] = f.v.natAbs := by simp [weighN]
    rw [e1, e2, List.length_cons]
    omega
theorem Small.vals {l : List F9} (h : Small l) (k : K9) : weighN (valsF k l) ≤ 109951162777600 ∧ (valsF k l).length ≤ 100 := by
  have hlen : (l.filter fun f => decide (f.k = k)).length ≤ l.length := List.length_filter_le _ _
  have h1 := weigh_le (l := l.filter fun f => decide (f.k = k)) (fun f hf => h.2 f (List.mem_filter.1 hf).1)
  have h2 := h.1
  refine ⟨?_, ?_⟩
  · show weighN ((l.filter fun f => decide (f.k = k)).map (·.v)) ≤ _
    have h3 : (l.filter fun f => decide (f.k = k)).length * 1099511627776 ≤ 100 * 1099511627776 := Nat.mul_le_mul_right _ (by omega)
    omega
  · unfold valsF
    rw [List.length_map]
    omega
theorem Small.part {l m : List F9} (h : Small l) (hm : ∀ f ∈ m, f ∈ l) (hl : m.length ≤ l.length) : Small m := ⟨Nat.le_trans hl h.1, fun f hf => h.2 f (hm f hf)⟩
theorem of_small {l : List F9} (h : Small l) : ∃ r, ofR l = some r ∧ RiseR r ∧ ∀ k, findR k r = optL (valsF k l) := by
  have key : ∀ k, moreO none (cellsOf k (l.map rowF)) = some (optL (valsF k l)) := fun k => by
    obtain ⟨h1, h2⟩ := h.vals k
    rw [cells_facts]
    exact more_none _ (by omega) (by omega)
  obtain ⟨r, e1, e2, e3⟩ := puts_some (l := l.map rowF) (acc := []) List.Pairwise.nil (fun k => by show moreO none _ ≠ _; rw [key k]; simp)
  refine ⟨r, e1, e2, fun k => ?_⟩
  have a := e3 k
  rw [show findR k [] = none from rfl, key k] at a
  exact (Option.some.inj a).symm
theorem cellsOf_rise {k : K9} : ∀ {r : List R11}, RiseR r → cellsOf k r = (findR k r).toList
  | [], _ => rfl
  | x :: t, h => by
    obtain ⟨h1, h2⟩ := List.pairwise_cons.1 h
    have ih := cellsOf_rise (k := k) h2
    show (if x.k = k then x.c :: cellsOf k t else cellsOf k t) = (if x.k = k then some x.c else findR k t).toList
    by_cases e : x.k = k
    · subst e
      rw [if_pos rfl, if_pos rfl, ih, find_above h1]
      rfl
    · rw [if_neg e, if_neg e, ih]
theorem cellL_swap (a b : List Int) (h : weighN a + weighN b ≤ 4611686018427387904) (hl : a.length + b.length ≤ 1000000) : cellL (a ++ b) = cellL (b ++ a) := by
  by_cases ha : a = []
  · subst ha; simp
  · have h1 := merge_parts a b h hl
    have h2 := merge_parts b a (by omega) (by omega)
    have hn : (cellL a).n ≠ 0 := by
      rw [cellL_n]
      have := List.length_pos_iff.2 ha
      omega
    rw [merge_swap _ _ (.inl hn), h2] at h1
    exact (Option.some.inj h1).symm
/-- Facts in two parts, the second part first: the same segment. -/
theorem parts_small {a b : List F9} {ra rb r : List R11} (h : Small (a ++ b)) (h1 : RiseR ra ∧ ∀ k, findR k ra = optL (valsF k a)) (h2 : RiseR rb ∧ ∀ k, findR k rb = optL (valsF k b)) (h3 : RiseR r ∧ ∀ k, findR k r = optL (valsF k (a ++ b))) : mergeR [rb, ra] = some r := by
  unfold mergeR
  refine puts_is h3.1 fun k => ?_
  have hv := h.vals k
  rw [valsF_append, weighN_append, List.length_append] at hv
  have e : [rb, ra].flatten = rb ++ ra := by simp
  rw [e, cellsOf_append, cellsOf_rise h2.1, cellsOf_rise h1.1, h2.2 k, h1.2 k, h3.2 k, valsF_append]
  generalize valsF k a = va at *
  generalize valsF k b = vb at *
  unfold optL
  by_cases ha : va = []
  · subst ha
    by_cases hb : vb = []
    · subst hb; simp [moreO]
    · simp [hb, moreO, addO]
  · by_cases hb : vb = []
    · subst hb
      simp [ha, moreO, addO]
    · have hm := merge_parts vb va (by omega) (by omega)
      simp only [ha, hb, if_false, Option.toList_some, List.singleton_append, moreO, addO, hm, List.append_eq_nil_iff, false_and]
      rw [cellL_swap vb va (by omega) (by omega)]

/-- All cells merged, in order. -/
def totalR : Cl → List R11 → Option Cl
  | c, [] => some c
  | c, r :: t => match mergeC c r.c with
    | some d => totalR d t
    | none => none
theorem total_vals {l : List F9} : ∀ (r : List R11) (vs : List Int), (∀ x ∈ r, x.c = cellL (valsF x.k l)) → weighN vs + weighN (r.flatMap fun x => valsF x.k l) ≤ 4611686018427387904 → vs.length + (r.flatMap fun x => valsF x.k l).length ≤ 1000000 → totalR (cellL vs) r = some (cellL (vs ++ r.flatMap fun x => valsF x.k l))
  | [], vs, _, _, _ => by rw [List.flatMap_nil, List.append_nil]; rfl
  | x :: t, vs, h, hw, hl => by
    rw [List.flatMap_cons, weighN_append] at hw
    rw [List.flatMap_cons, List.length_append] at hl
    have hm := merge_parts vs (valsF x.k l) (by omega) (by omega)
    have ih := total_vals t (vs ++ valsF x.k l) (fun y hy => h y (List.mem_cons_of_mem _ hy)) (by rw [weighN_append]; omega) (by rw [List.length_append]; omega)
    unfold totalR
    rw [h x (List.mem_cons_self ..), hm]
    dsimp only
    rw [ih, List.flatMap_cons, List.append_assoc]
theorem weigh_perm {a b : List Int} (h : a.Perm b) : weighN a = weighN b := by
  induction h with
  | nil => rfl
  | cons x _ ih => simp [weighN] at *; omega
  | swap x y l => simp [weighN]; omega
  | trans _ _ h1 h2 => exact h1.trans h2
theorem keys_perm (l : List F9) : ∀ {r : List R11}, RiseR r → (r.flatMap fun x => l.filter fun f => decide (f.k = x.k)).Perm (l.filter fun f => decide (f.k ∈ r.map (·.k)))
  | [], _ => by simp
  | x :: t, h => by
    obtain ⟨h1, h2⟩ := List.pairwise_cons.1 h
    have ih := keys_perm l h2
    have hnot : x.k ∉ t.map (·.k) := fun hm => by
      obtain ⟨y, hy, e⟩ := List.mem_map.1 hm
      have h3 := h1 y hy
      rw [e, key_irr] at h3
      cases h3
    rw [List.flatMap_cons]
    refine (List.Perm.append_left _ ih).trans ?_
    have hp := List.filter_append_perm (fun f : F9 => decide (f.k = x.k)) (l.filter fun f => decide (f.k ∈ (x :: t).map (·.k)))
    refine List.Perm.trans (List.Perm.of_eq ?_) hp
    rw [List.filter_filter, List.filter_filter]
    congr 1
    · refine List.filter_congr fun f _ => ?_
      by_cases e : f.k = x.k
      · simp [e]
      · simp [e]
    · refine List.filter_congr fun f _ => ?_
      by_cases e : f.k = x.k
      · rw [e]
        simp only [hnot, decide_false, decide_true, Bool.not_true, Bool.false_and]
      · simp [e]
/-- The total of a segment counts all facts. -/
theorem total_small {l : List F9} {r : List R11} (h : Small l) (hr : RiseR r) (hf : ∀ k, findR k r = optL (valsF k l)) : ∃ c, totalR Cl.zero r = some c ∧ c.n = l.length := by
  have hc : ∀ x ∈ r, x.c = cellL (valsF x.k l) := fun x hx => by
    have e := hf x.k
    rw [find_of hr hx] at e
    unfold optL at e
    split at e
    · cases e
    · exact Option.some.inj e
  have hall : (l.filter fun f => decide (f.k ∈ r.map (·.k))) = l := by
    refine List.filter_eq_self.2 fun f hfl => decide_eq_true ?_
    have e := hf f.k
    have hne : valsF f.k l ≠ [] := fun e2 => by
      have h1 : f.v ∈ valsF f.k l := List.mem_map.2 ⟨f, List.mem_filter.2 ⟨hfl, by simp⟩, rfl⟩
      rw [e2] at h1
      cases h1
    unfold optL at e
    rw [if_neg hne] at e
    exact List.mem_map.2 ⟨_, find_mem e, rfl⟩
  have hp := keys_perm l hr
  rw [hall] at hp
  have e1 : (r.flatMap fun x => valsF x.k l) = (r.flatMap fun x => l.filter fun f => decide (f.k = x.k)).map (·.v) := by
    rw [List.map_flatMap]
    rfl
  have hw : weighN (r.flatMap fun x => valsF x.k l) ≤ 109951162777600 := by
    rw [e1, weigh_perm (hp.map _)]
    have h1 := weigh_le h.2
    have h2 : l.length * 1099511627776 ≤ 100 * 1099511627776 := Nat.mul_le_mul_right _ h.1
    omega
  have hl : (r.flatMap fun x => valsF x.k l).length = l.length := by rw [e1, List.length_map, hp.length_eq]
  have ht := total_vals r [] hc (by have : weighN [] = 0 := rfl; omega) (by rw [hl]; have := h.1; simp; omega)
  rw [List.nil_append] at ht
  exact ⟨_, ht, by rw [cellL_n, hl]⟩

end Go.Proofs.Ytklpmajaihmmfaa

/-
  Stage 11: the document's Total.
-/
namespace Go.Proofs.Ytklpmajaihmmfaa
open Go.RowKit

set_option maxRecDepth 100000

theorem totalR_append (c : Cl) (l m : List R11) : totalR c (l ++ m) = (totalR c l).bind fun d => totalR d m := by
  induction l generalizing c with
  | nil => rfl
  | cons x l ih =>
    show (match mergeC c x.c with | some d => totalR d (l ++ m) | none => none) = (match mergeC c x.c with | some d => totalR d l | none => none).bind _
    cases mergeC c x.c with
    | none => rfl
    | some d => exact ih d
theorem totalR_take {c : Cl} {l : List R11} {i : Nat} {r : R11} (h : l[i]? = some r) : totalR c (l.take (i + 1)) = (totalR c (l.take i)).bind fun d => mergeC d r.c := by
  obtain ⟨hk, e⟩ := List.getElem?_eq_some_iff.1 h
  rw [List.take_succ_eq_append_getElem hk, e, totalR_append]
  congr 1
  funext d
  show (match mergeC d r.c with | some e => some e | none => none) = _
  cases mergeC d r.c <;> rfl
theorem totalR_none {c : Cl} {l : List R11} {i : Nat} (h : totalR c (l.take i) = none) : totalR c l = none := by
  rw [← List.take_append_drop i l, totalR_append, h]
  rfl
theorem cell_one11 (c : Cl) : (ca c).all (·.oneCell') = true := by
  refine Array.all_eq_true.2 fun i hi => ?_
  match i, hi with
  | 0, _ => rfl
  | 1, _ => rfl
  | 2, _ => rfl
  | 3, _ => rfl

end Go.Proofs.Ytklpmajaihmmfaa

/-
  A range over a function whose iterator hands out memory of its own: what such an iterator promises ('Gives'), and the statement's law ('over').
-/
namespace Go.Proofs.Ytklpmajaihmmfaa
open Go.RowKit

/-- Blocks from D on that hold no cells; that hold a walk. -/
def odd (D : Nat) (A : World) (k : Nat) : Prop := D ≤ k ∧ ∃ o, A.heap[k]? = some o ∧ o.isCells = false
def strides (D : Nat) (A : World) (k : Nat) : Prop := D ≤ k ∧ ∃ o, A.heap[k]? = some o ∧ o.isWalk = true

theorem Turn.none {S : Nat → Prop} {A B : World} (h : Turn (fun _ => False) A B) : Turn S A B := h.mono (fun _ _ f => f.elim)
theorem Turn.ofStrides {D D' : Nat} {A B : World} (h : Turn (strides D A) A B) (hd : D' ≤ D) : Turn (odd D' A) A B :=
  h.mono (fun _ _ ⟨h1, o, h2, h3⟩ => ⟨Nat.le_trans hd h1, o, h2, Obj.not_cells_of_walk h3⟩)
theorem Turn.putObj (A : World) (l : Nat) (o : Obj) {S : Nat → Prop} (hl : S l) : Turn S A (A.putObj l o) :=
  ⟨rfl, rfl, rfl, by simp [World.putObj], fun k _ hn => World.putObj_heap_other (fun e => hn (e ▸ hl))⟩
theorem Box.odd {w w' : World} {g D : Nat} {t : TypeId} {cs : Array Value} (h : Box w g t cs) (ht : Turn (odd D w) w w') : Box w' g t cs := by
  refine h.turn ht ?_
  rintro ⟨_, o, ho, hc⟩
  rw [show w.heap[g]? = _ from h] at ho
  cases ho
  cases hc
theorem Rd.odd {w w' : World} {D : Nat} {v : Value} {l : List UInt8} (h : Rd w v l) (ht : Turn (odd D w) w w') : Rd w' v l := by
  obtain ⟨A, c, rfl, hk, hn, hc⟩ := h
  refine ⟨A, c, rfl, hk, hn, fun ad e j b hj => ?_⟩
  have h1 := hc ad e j b hj
  have hlt := World.block_lt_of_cell? w _ h1
  rw [ht.cell hlt ?_]
  · exact h1
  · rintro ⟨_, o, ho, hf⟩
    obtain ⟨o', ho', hf'⟩ := cells_of_cell h1
    rw [ho] at ho'
    cases ho'
    rw [hf] at hf'
    cases hf'

/-- What abides that blocks which hold no cells, from D on, are turned, and new ones laid. -/
def Holds {β : Type} (D : Nat) (I : β → World → Prop) : Prop := ∀ s A B, I s A → Turn (odd D A) A B → I s B
def Walks {β : Type} (D : Nat) (I : β → World → Prop) : Prop := ∀ s A B, I s A → Turn (strides D A) A B → I s B

theorem Holds.walks {β : Type} {D D' : Nat} {I : β → World → Prop} (h : Holds D I) (hd : D ≤ D') : Walks D' I := fun s A B hs ht => h s A B hs (ht.ofStrides hd)
theorem Holds.put {β : Type} {D : Nat} {I : β → World → Prop} (h : Holds D I) {s : β} {A : World} {l : Nat} {o : Obj} (o' : Obj) (hs : I s A) (hD : D ≤ l) (hl : A.heap[l]? = some o) (ho : o.isCells = false) : I s (A.putObj l o') :=
  h s A _ hs (Turn.putObj A l o' ⟨hD, o, hl, ho⟩)
theorem Holds.and {β : Type} {D : Nat} {I K : β → World → Prop} (h : Holds D I) (k : Holds D K) : Holds D (fun s W => I s W ∧ K s W) := fun s A B hs ht => ⟨h s A B hs.1 ht, k s A B hs.2 ht⟩
theorem holds_pure {β : Type} (D : Nat) (p : β → Prop) : Holds D (fun s (_ : World) => p s) := fun _ _ _ hs _ => hs
theorem holds_box {β : Type} (D g : Nat) (t : TypeId) (f : β → Array Value) : Holds D (fun s W => Box W g t (f s)) := fun _ _ _ hs ht => hs.odd ht
theorem holds_rd {β : Type} (D : Nat) (v : Value) (l : β → List UInt8) : Holds D (fun s W => Rd W v (l s)) := fun _ _ _ hs ht => hs.odd ht
theorem holds_turn {β : Type} {D : Nat} {w : World} {S : Nat → Prop} (hS : ∀ k, k < w.heap.size → D ≤ k → S k) : Holds D (fun (_ : β) W => Turn S w W) := fun _ _ _ hs ht => hs.trans ht (fun k hk h => hS k hk h.1)

/-- The contract of an iterator value: what it hands a round ('Gv'), what a round that goes on may turn ('S'), what has come when it is done ('All'), or stopped ('Part'). -/
def Gives {α : Type} (n : Nat) (g : Nat) (lb : Array Value) (encs : α → Array Value) (S : Nat → Prop) (Gv : List α → α → World → Prop) (All Part : List α → Prop) (w : World) : Prop :=
  ∀ (l : Nat) (J Jx : List α → World → Prop) (W : World), Turn (fun _ => False) w W → Walks W.heap.size J → Walks W.heap.size Jx →
    (∀ pre x W1, J pre W1 → Gv pre x W1 → YieldAt Fence.wide (n - 1) Try.prog l (encs x) W1 fun e W' =>
      (e = .returned (.bool true) ∧ J (pre ++ [x]) W' ∧ Turn S W1 W') ∨ (e = .returned (.bool false) ∧ Jx (pre ++ [x]) W')) →
    J [] W →
    CallsIn Fence.wide n Try.prog g (#[.func (.yield l) #[] #[]] ++ lb) W fun e W' => (∃ v, e = .returned v) ∧ ((∃ xs, All xs ∧ J xs W') ∨ (∃ pre, Part pre ∧ Jx pre W'))

/-- 'for .. := range g { body }' over an iterator that has such a contract. -/
theorem over {α : Type} {n : Nat} {g : Operand} {ps : Array Tmp} {assign body : Code} {Q : Exit → Act → World → Prop} {a : Act} {w w0 : World} (h1 : 1 ≤ n)
    {gf : Nat} {lb : Array Value} (hg : a.eval g = .func (.func gf) #[] lb) (eg : ∀ args w, (callFunc gf args).run Try.prog w = .ok (.enter gf args) w)
    {encs : α → Array Value} {S : Nat → Prop} {Gv : List α → α → World → Prop} {All Part : List α → Prop} (hseq : Gives (n - 1) gf lb encs S Gv All Part w0) (hb0 : Turn (fun _ => False) w0 w)
    (hS : ∀ k, w.heap.size ≤ k → S k) (hG : ∀ pre, Holds w.heap.size (Gv pre)) (hps : ∀ x, (encs x).size = ps.size)
    (I : List α → World → Prop) (Ix : Code → List α → World → Prop) (hI : Holds w.heap.size I) (hIx : ∀ c, Holds w.heap.size (Ix c)) (h0 : I [] w) (a₁ : α → Act)
    (hassign : ∀ (l : Nat) (x : α) (W : World) (K : Act → World → Prop), K (a₁ x) W →
      assign.wpIn (Fence.wide.inRound l) (n - 1 - 1) Try.prog (Exit.then K (fun _ _ _ => False)) { tmps := (ps.zip (encs x)).foldl (fun t (p, v) => t.setIfInBounds p v) a.tmps, defers := [] } W)
    (hbody : ∀ (l : Nat) (pre : List α) (x : α) (W : World), I pre W → Gv pre x W → body.wpIn (Fence.wide.inRound l) (n - 1 - 1) Try.prog (ownPostK (Turn S) I Ix (pre ++ [x]) W) (a₁ x) W)
    (hdone : ∀ (D : Nat) (xs : List α) (W : World), w.heap.size ≤ D → All xs → I xs W → W.heap[D]? = some (.deferred (some [])) → Q .normal { a with defers := { target := .collected D, args := #[] } :: a.defers } W)
    (hstop : ∀ (D : Nat) (c : Code) (pre : List α) (W : World), w.heap.size ≤ D → Part pre → Ix c pre W → W.heap[D]? = some (.deferred (some [])) → c.wpIn Fence.wide n Try.prog Q { a with defers := { target := .collected D, args := #[] } :: a.defers } W) :
    (Code.rangeFunc g ps assign body).wpIn Fence.wide n Try.prog Q a w := by
  refine wpIn_rangeFunc fun fn hfn => ?_
  obtain ⟨R, hR⟩ : ∃ R : LoopState → Option Code → Obj, R = fun st pe => .loop { state := st, pending := pe, fn, tmps := a.tmps, params := ps, assign, body, defers := w.heap.size } := ⟨_, rfl⟩
  -- the two blocks of the statement: the rounds' deferred calls, and its record, in a state
  obtain ⟨Bk, hBk⟩ : ∃ Bk : LoopState → Option Code → World → Prop, Bk = fun st pe W => W.heap[w.heap.size + 1]? = some (R st pe) ∧ W.heap[w.heap.size]? = some (.deferred (some [])) := ⟨_, rfl⟩
  obtain ⟨W1, hW1⟩ : ∃ W1, (w.alloc (.deferred (some []))).alloc (R .ready none) = W1 := ⟨_, rfl⟩
  have hsz : W1.heap.size = w.heap.size + 2 := by rw [← hW1]; simp
  have t1 : Turn (fun _ => False) w W1 := by rw [← hW1]; exact ((Turn.refl _ w).alloc _).alloc _
  have k1 : Bk .ready none W1 := by
    rw [hBk]
    refine ⟨?_, ?_⟩
    · have := World.alloc_heap_new (w.alloc (.deferred (some []))) (R .ready none)
      rw [World.size_alloc] at this
      rw [← hW1]
      exact this
    · rw [← hW1]
      exact (Below.heap_alloc _ _ _ (by simp)).trans (World.alloc_heap_new w _)
  have move : ∀ {D : Nat} {st : LoopState} {pe : Option Code} {A B : World}, w.heap.size + 2 ≤ D → Turn (strides D A) A B → Bk st pe A → Bk st pe B := by
    intro D st pe A B hD ht hk
    rw [hBk] at hk ⊢
    have far : ∀ k, k < w.heap.size + 2 → k < A.heap.size → B.heap[k]? = A.heap[k]? := fun k hk1 hk2 => ht.block k hk2 (fun s => by have := s.1; omega)
    exact ⟨(far _ (by omega) (Array.getElem?_eq_some_iff.1 hk.1).1).trans hk.1, (far _ (by omega) (Array.getElem?_eq_some_iff.1 hk.2).1).trans hk.2⟩
  have put : ∀ {st st' : LoopState} {pe pe' : Option Code} {A : World}, Bk st pe A → Bk st' pe' (A.putObj (w.heap.size + 1) (R st' pe')) ∧ Turn (odd w.heap.size A) A (A.putObj (w.heap.size + 1) (R st' pe')) := by
    intro st st' pe pe' A hk
    rw [hBk] at hk ⊢
    refine ⟨⟨World.putObj_heap_same (Array.getElem?_eq_some_iff.1 hk.1).1, (World.putObj_heap_other (by omega)).trans hk.2⟩, Turn.putObj _ _ _ ⟨by omega, _, hk.1, ?_⟩⟩
    rw [hR]
    rfl
  have toS : ∀ {A B : World}, Turn (odd w.heap.size A) A B → Turn S A B := fun h => h.mono (fun k _ s => hS k s.1)
  have keep : ∀ {st : LoopState} {pe : Option Code} {A B : World}, KeepsOthers A B → Bk st pe A → Bk st pe B := by
    intro st pe A B h hk
    rw [hBk] at hk ⊢
    exact ⟨h.same _ _ hk.1 (by rw [hR]; rfl), h.same _ _ hk.2 rfl⟩
  refine ⟨w.heap.size + 1, [{ target := .collected w.heap.size, args := #[] }], W1, { target := .fn (.func gf) lb, args := #[.func (.yield (w.heap.size + 1)) #[] #[]] }, W1, gf,
    #[.func (.yield (w.heap.size + 1)) #[] #[]] ++ lb, W1, ?_, ?_, ?_, ?_, fun _ => h1, ?_⟩
  · rw [← hW1, hR]
    exact run_enterLoop_outer _ _ _ _ _
  · simp only [resolve, hg]
    simp [go_sem]
  · intro f' _
    trivial
  · simp [invoke, go_sem, eg]
  · refine (hseq (w.heap.size + 1) (fun pre W => I pre W ∧ Bk .ready none W) (fun pre W => ∃ c, Ix c pre W ∧ Bk .done (some c) W) W1 (hb0.trans t1 (fun _ _ f => f))
      (fun s A B hs ht => ⟨(hI.walks (by omega)) s A B hs.1 ht, move (by omega) ht hs.2⟩)
      (fun s A B hs ht => by
        obtain ⟨c, hc, hk⟩ := hs
        exact ⟨c, ((hIx c).walks (by omega)) s A B hc ht, move (by omega) ht hk⟩)
      ?_ ⟨hI _ _ _ h0 t1.none, k1⟩).mono ?_
    · rintro pre x W ⟨hi, hk⟩ hgv
      have hl : W.heap[w.heap.size + 1]? = some (R .ready none) := by rw [hBk] at hk; exact hk.1
      rw [hR] at hl
      have hy := run_yield (P := Try.prog) (args := encs x) hl (hps x)
      refine ⟨fn, _, assign, body, hy, roundIn_of_wpIn hfn (hassign _ x W _ ⟨_, run_beginRound hl rfl, ?_⟩)⟩
      have hp := put (st' := .busy) (pe' := none) hk
      rw [hR] at hp
      refine wpIn_mono (hbody _ pre x _ (hI _ _ _ hi hp.2) (hG _ _ _ _ hgv hp.2)) ?_
      have ends : ∀ (jump : Option Code) (W3 : World), KeepsOthers (W.putObj (w.heap.size + 1) (.loop { state := .busy, pending := none, fn, tmps := a.tmps, params := ps, assign, body, defers := w.heap.size })) W3 →
          ∃ W4, (Instr.endRound (w.heap.size + 1) jump).run Try.prog W3 = .ok (.bool jump.isNone) W4 ∧ Bk (if jump.isNone then .ready else .done) jump W4 ∧ Turn (odd w.heap.size W3) W3 W4 := by
        intro jump W3 hk3
        have h3 := keep hk3 hp.1
        have hl3 : W3.heap[w.heap.size + 1]? = some (R .busy none) := by rw [hBk] at h3; exact h3.1
        have h4 := put (st' := if jump.isNone then .ready else .done) (pe' := jump) h3
        rw [hR] at hl3 h4
        exact ⟨_, run_endRound jump hl3, h4.1, h4.2⟩
      rintro e a3 W3 hpost
      cases e with
      | normal =>
        obtain ⟨hk3, ht3, hi3⟩ := hpost
        obtain ⟨W4, hr, hb4, ht4⟩ := ends none W3 hk3
        exact ⟨_, _, hr, .inl ⟨rfl, ⟨hI _ _ _ hi3 ht4, hb4⟩, ((toS hp.2).trans ht3 (fun _ _ s => s)).trans (toS ht4) (fun _ _ s => s)⟩⟩
      | ret =>
        obtain ⟨hk3, hi3⟩ := hpost
        obtain ⟨W4, hr, hb4, ht4⟩ := ends (some .ret) W3 hk3
        exact ⟨_, _, hr, .inr ⟨rfl, .ret, hIx _ _ _ _ hi3 ht4, hb4⟩⟩
      | exit id =>
        obtain ⟨hk3, hi3⟩ := hpost
        obtain ⟨W4, hr, hb4, ht4⟩ := ends (some (.exit id)) W3 hk3
        exact ⟨_, _, hr, .inr ⟨rfl, .exit id, hIx _ _ _ _ hi3 ht4, hb4⟩⟩
      | goto t =>
        obtain ⟨hk3, hi3⟩ := hpost
        obtain ⟨W4, hr, hb4, ht4⟩ := ends (some (.goto t)) W3 hk3
        exact ⟨_, _, hr, .inr ⟨rfl, .goto t, hIx _ _ _ _ hi3 ht4, hb4⟩⟩
      | panic ch => exact hpost.elim
      | outgrown => exact hpost.elim
    · have shut : ∀ {st : LoopState} {pe : Option Code} {W2 : World}, st ≠ .busy → Bk st pe W2 → ∃ W3, (Instr.endLoop (w.heap.size + 1)).run Try.prog W2 = .ok pe W3 ∧ W3.heap[w.heap.size]? = some (.deferred (some [])) ∧ Turn (odd w.heap.size W2) W2 W3 := by
        intro st pe W2 hst hk
        have hl : W2.heap[w.heap.size + 1]? = some (R st pe) := by rw [hBk] at hk; exact hk.1
        have h4 := put (st' := .exhausted) (pe' := pe) hk
        have h5 : (W2.putObj (w.heap.size + 1) (R .exhausted pe)).heap[w.heap.size]? = some (.deferred (some [])) := by have h6 := h4.1; rw [hBk] at h6; exact h6.2
        rw [hR] at hl h4 h5
        exact ⟨_, run_endLoop hl hst, h5, h4.2⟩
      rintro e W2 ⟨⟨v, rfl⟩, (⟨xs, hA, hi, hk⟩ | ⟨pre, hP, c, hi, hk⟩)⟩
      · obtain ⟨W3, hr, hd, ht⟩ := shut (by simp) hk
        exact ⟨none, W3, hr, hdone _ xs _ (Nat.le_refl _) hA (hI _ _ _ hi ht) hd⟩
      · obtain ⟨W3, hr, hd, ht⟩ := shut (by simp) hk
        exact ⟨some c, W3, hr, hstop _ c pre _ (Nat.le_refl _) hP (hIx c _ _ _ hi ht) hd⟩

theorem KeepsOthers.turned {A B : World} (h : Turn (fun _ => False) A B) : KeepsOthers A B := ⟨h.size, fun k _ hk _ => (h.block k (Array.getElem?_eq_some_iff.1 hk).1 (fun f => f)).trans hk⟩

end Go.Proofs.Ytklpmajaihmmfaa

/-
  A range over a function that may stand in an iterator itself: what an iterator promises ('Feeds'), where a round tells that what holds no cells, behind the record of its loop, is as it was; and the statement's law ('over2').
-/
namespace Go.Proofs.Ytklpmajaihmmfaa
open Go.RowKit

/-- What holds no cells, from block B on, is as it was. -/
structure Still (B : Nat) (W W' : World) : Prop where
  size : W.heap.size ≤ W'.heap.size
  same : ∀ (k : Nat) (o : Obj), B ≤ k → W.heap[k]? = some o → o.isCells = false → W'.heap[k]? = some o
theorem Still.refl (B : Nat) (W : World) : Still B W W := ⟨Nat.le_refl _, fun _ _ _ h _ => h⟩
theorem Still.trans {B : Nat} {W1 W2 W3 : World} (h : Still B W1 W2) (k : Still B W2 W3) : Still B W1 W3 := ⟨Nat.le_trans h.size k.size, fun i o hb hi ho => k.same i o hb (h.same i o hb hi ho) ho⟩
theorem Still.le {B B' : Nat} {W W' : World} (h : Still B W W') (hb : B ≤ B') : Still B' W W' := ⟨h.size, fun k o hk hw ho => h.same k o (Nat.le_trans hb hk) hw ho⟩
theorem Still.turned {B : Nat} {W W' : World} (h : Turn (fun _ => False) W W') : Still B W W' := ⟨h.size, fun k _ _ hk _ => (h.block k (Array.getElem?_eq_some_iff.1 hk).1 (fun f => f)).trans hk⟩
theorem Still.others {B : Nat} {W W' : World} (h : KeepsOthers W W') : Still B W W' := ⟨h.size, fun k o _ hk ho => h.same k o hk ho⟩
theorem Still.setCell {B : Nat} (W : World) (a : Addr) (v : Value) : Still B W (W.setCell a v) := Still.others (KeepsOthers.setCell W a v)
theorem Still.put {B : Nat} (W : World) (l : Nat) (o : Obj) (hl : l < B) : Still B W (W.putObj l o) := ⟨by simp [World.putObj], fun k _ hk hw _ => (World.putObj_heap_other (by omega)).trans hw⟩

/-- What a round's body owes. -/
def postF {α : Type} (B : Nat) (S : Nat → Prop) (I : List α → World → Prop) (Ix : Code → List α → World → Prop) (xs : List α) (W : World) : Exit → Act → World → Prop
  | .normal, _, W' => Still B W W' ∧ Turn S W W' ∧ I xs W'
  | .ret, _, W' => Still B W W' ∧ Ix .ret xs W'
  | .exit id, _, W' => Still B W W' ∧ Ix (.exit id) xs W'
  | .goto t, _, W' => Still B W W' ∧ Ix (.goto t) xs W'
  | .panic _, _, _ => False
  | .outgrown, _, _ => False

theorem Holds.le {β : Type} {D D' : Nat} {I : β → World → Prop} (h : Holds D I) (hd : D ≤ D') : Holds D' I :=
  fun s A B hs ht => h s A B hs (ht.mono (fun _ _ ⟨h1, o, h2, h3⟩ => ⟨Nat.le_trans hd h1, o, h2, h3⟩))

/-- The contract of an iterator value: what it hands a round ('Gv'), what a round that goes on may turn ('S'), what has come when it is done ('All'), or stopped ('Part'). -/
def Feeds {α : Type} (n : Nat) (g : Nat) (lb : Array Value) (encs : α → Array Value) (S : Nat → Prop) (Gv : List α → α → World → Prop) (All Part : List α → Prop) (w : World) : Prop :=
  ∀ (l : Nat) (J Jx : List α → World → Prop) (W : World), Turn (fun _ => False) w W → l < W.heap.size → (∀ k, S k → k < W.heap.size) → Holds W.heap.size J → Holds W.heap.size Jx →
    (∀ pre x W1, J pre W1 → Gv pre x W1 → YieldAt Fence.wide (n - 1) Try.prog l (encs x) W1 fun e W' =>
      (e = .returned (.bool true) ∧ J (pre ++ [x]) W' ∧ Turn S W1 W' ∧ Still (l + 1) W1 W') ∨ (e = .returned (.bool false) ∧ Jx (pre ++ [x]) W' ∧ Still (l + 1) W1 W')) →
    J [] W →
    CallsIn Fence.wide n Try.prog g (#[.func (.yield l) #[] #[]] ++ lb) W fun e W' => (∃ v, e = .returned v) ∧ ((∃ xs, All xs ∧ J xs W') ∨ (∃ pre, Part pre ∧ Jx pre W'))

/-- 'for .. := range g { body }' over an iterator that has such a contract. -/
theorem over2 {α : Type} {n : Nat} {g : Operand} {ps : Array Tmp} {assign body : Code} {Q : Exit → Act → World → Prop} {a : Act} {w w0 : World} (h1 : 1 ≤ n)
    {gf : Nat} {lb : Array Value} (hg : a.eval g = .func (.func gf) #[] lb) (eg : ∀ args w, (callFunc gf args).run Try.prog w = .ok (.enter gf args) w)
    {encs : α → Array Value} {S : Nat → Prop} {Gv : List α → α → World → Prop} {All Part : List α → Prop} (hseq : Feeds (n - 1) gf lb encs S Gv All Part w0) (hb0 : Turn (fun _ => False) w0 w)
    (hS : S (w.heap.size + 1)) (hS2 : ∀ k, S k → k < w.heap.size + 2) (hG : ∀ pre, Holds w.heap.size (Gv pre)) (hps : ∀ x, (encs x).size = ps.size)
    (I : List α → World → Prop) (Ix : Code → List α → World → Prop) (hI : Holds w.heap.size I) (hIx : ∀ c, Holds w.heap.size (Ix c)) (h0 : I [] w) (a₁ : α → Act)
    (hassign : ∀ (l : Nat) (x : α) (W : World) (K : Act → World → Prop), K (a₁ x) W →
      assign.wpIn (Fence.wide.inRound l) (n - 1 - 1) Try.prog (Exit.then K (fun _ _ _ => False)) { tmps := (ps.zip (encs x)).foldl (fun t (p, v) => t.setIfInBounds p v) a.tmps, defers := [] } W)
    (hbody : ∀ (l : Nat) (pre : List α) (x : α) (W : World), I pre W → Gv pre x W → body.wpIn (Fence.wide.inRound l) (n - 1 - 1) Try.prog (postF w.heap.size S I Ix (pre ++ [x]) W) (a₁ x) W)
    (hdone : ∀ (D : Nat) (xs : List α) (W : World), w.heap.size ≤ D → All xs → I xs W → W.heap[D]? = some (.deferred (some [])) → Q .normal { a with defers := { target := .collected D, args := #[] } :: a.defers } W)
    (hstop : ∀ (D : Nat) (c : Code) (pre : List α) (W : World), w.heap.size ≤ D → Part pre → Ix c pre W → W.heap[D]? = some (.deferred (some [])) → c.wpIn Fence.wide n Try.prog Q { a with defers := { target := .collected D, args := #[] } :: a.defers } W) :
    (Code.rangeFunc g ps assign body).wpIn Fence.wide n Try.prog Q a w := by
  refine wpIn_rangeFunc fun fn hfn => ?_
  obtain ⟨R, hR⟩ : ∃ R : LoopState → Option Code → Obj, R = fun st pe => .loop { state := st, pending := pe, fn, tmps := a.tmps, params := ps, assign, body, defers := w.heap.size } := ⟨_, rfl⟩
  -- the two blocks of the statement: the rounds' deferred calls, and its record, in a state
  obtain ⟨Bk, hBk⟩ : ∃ Bk : LoopState → Option Code → World → Prop, Bk = fun st pe W => W.heap[w.heap.size + 1]? = some (R st pe) ∧ W.heap[w.heap.size]? = some (.deferred (some [])) := ⟨_, rfl⟩
  obtain ⟨W1, hW1⟩ : ∃ W1, (w.alloc (.deferred (some []))).alloc (R .ready none) = W1 := ⟨_, rfl⟩
  have hsz : W1.heap.size = w.heap.size + 2 := by rw [← hW1]; simp
  have t1 : Turn (fun _ => False) w W1 := by rw [← hW1]; exact ((Turn.refl _ w).alloc _).alloc _
  have k1 : Bk .ready none W1 := by
    rw [hBk]
    refine ⟨?_, ?_⟩
    · have := World.alloc_heap_new (w.alloc (.deferred (some []))) (R .ready none)
      rw [World.size_alloc] at this
      rw [← hW1]
      exact this
    · rw [← hW1]
      exact (Below.heap_alloc _ _ _ (by simp)).trans (World.alloc_heap_new w _)
  have move : ∀ {D : Nat} {st : LoopState} {pe : Option Code} {A B : World}, w.heap.size + 2 ≤ D → Turn (odd D A) A B → Bk st pe A → Bk st pe B := by
    intro D st pe A B hD ht hk
    rw [hBk] at hk ⊢
    have far : ∀ k, k < w.heap.size + 2 → k < A.heap.size → B.heap[k]? = A.heap[k]? := fun k hk1 hk2 => ht.block k hk2 (fun s => by have := s.1; omega)
    exact ⟨(far _ (by omega) (Array.getElem?_eq_some_iff.1 hk.1).1).trans hk.1, (far _ (by omega) (Array.getElem?_eq_some_iff.1 hk.2).1).trans hk.2⟩
  have put : ∀ {st st' : LoopState} {pe pe' : Option Code} {A : World}, Bk st pe A → Bk st' pe' (A.putObj (w.heap.size + 1) (R st' pe')) ∧ Turn (odd w.heap.size A) A (A.putObj (w.heap.size + 1) (R st' pe')) ∧ Turn S A (A.putObj (w.heap.size + 1) (R st' pe')) := by
    intro st st' pe pe' A hk
    rw [hBk] at hk ⊢
    refine ⟨⟨World.putObj_heap_same (Array.getElem?_eq_some_iff.1 hk.1).1, (World.putObj_heap_other (by omega)).trans hk.2⟩, Turn.putObj _ _ _ ⟨by omega, _, hk.1, ?_⟩, Turn.putObj _ _ _ hS⟩
    rw [hR]
    rfl
  have keepS : True := trivial
  have keep : ∀ {st : LoopState} {pe : Option Code} {A B : World}, Still w.heap.size A B → Bk st pe A → Bk st pe B := by
    intro st pe A B h hk
    rw [hBk] at hk ⊢
    exact ⟨h.same _ _ (Nat.le_succ _) hk.1 (by rw [hR]; rfl), h.same _ _ (Nat.le_refl _) hk.2 rfl⟩
  refine ⟨w.heap.size + 1, [{ target := .collected w.heap.size, args := #[] }], W1, { target := .fn (.func gf) lb, args := #[.func (.yield (w.heap.size + 1)) #[] #[]] }, W1, gf,
    #[.func (.yield (w.heap.size + 1)) #[] #[]] ++ lb, W1, ?_, ?_, ?_, ?_, fun _ => h1, ?_⟩
  · rw [← hW1, hR]
    exact run_enterLoop_outer _ _ _ _ _
  · simp only [resolve, hg]
    simp [go_sem]
  · intro f' _
    trivial
  · simp [invoke, go_sem, eg]
  · refine (hseq (w.heap.size + 1) (fun pre W => I pre W ∧ Bk .ready none W) (fun pre W => ∃ c, Ix c pre W ∧ Bk .done (some c) W) W1 (hb0.trans t1 (fun _ _ f => f)) (by omega) (fun k hk => by have := hS2 k hk; omega)
      (fun s A B hs ht => ⟨(hI.le (by omega)) s A B hs.1 ht, move (by omega) ht hs.2⟩)
      (fun s A B hs ht => by
        obtain ⟨c, hc, hk⟩ := hs
        exact ⟨c, ((hIx c).le (by omega)) s A B hc ht, move (by omega) ht hk⟩)
      ?_ ⟨hI _ _ _ h0 t1.none, k1⟩).mono ?_
    · rintro pre x W ⟨hi, hk⟩ hgv
      have hl : W.heap[w.heap.size + 1]? = some (R .ready none) := by rw [hBk] at hk; exact hk.1
      rw [hR] at hl
      have hy := run_yield (P := Try.prog) (args := encs x) hl (hps x)
      refine ⟨fn, _, assign, body, hy, roundIn_of_wpIn hfn (hassign _ x W _ ⟨_, run_beginRound hl rfl, ?_⟩)⟩
      have hp := put (st' := .busy) (pe' := none) hk
      rw [hR] at hp
      refine wpIn_mono (hbody _ pre x _ (hI _ _ _ hi hp.2.1) (hG _ _ _ _ hgv hp.2.1)) ?_
      have ends : ∀ (jump : Option Code) (W3 : World), Still w.heap.size (W.putObj (w.heap.size + 1) (.loop { state := .busy, pending := none, fn, tmps := a.tmps, params := ps, assign, body, defers := w.heap.size })) W3 →
          ∃ W4, (Instr.endRound (w.heap.size + 1) jump).run Try.prog W3 = .ok (.bool jump.isNone) W4 ∧ Bk (if jump.isNone then .ready else .done) jump W4 ∧ Turn (odd w.heap.size W3) W3 W4 ∧ Turn S W3 W4 ∧ Still (w.heap.size + 1 + 1) W W4 := by
        intro jump W3 hk3
        have h3 := keep hk3 hp.1
        have hl3 : W3.heap[w.heap.size + 1]? = some (R .busy none) := by rw [hBk] at h3; exact h3.1
        have h4 := put (st' := if jump.isNone then .ready else .done) (pe' := jump) h3
        rw [hR] at hl3 h4
        exact ⟨_, run_endRound jump hl3, h4.1, h4.2.1, h4.2.2, ((Still.put W _ _ (Nat.lt_succ_self _)).trans (hk3.le (by omega))).trans (Still.put W3 _ _ (Nat.lt_succ_self _))⟩
      rintro e a3 W3 hpost
      cases e with
      | normal =>
        obtain ⟨hk3, ht3, hi3⟩ := hpost
        obtain ⟨W4, hr, hb4, ht4, hu4, hs4⟩ := ends none W3 hk3
        exact ⟨_, _, hr, .inl ⟨rfl, ⟨hI _ _ _ hi3 ht4, hb4⟩, (hp.2.2.trans ht3 (fun _ _ s => s)).trans hu4 (fun _ _ s => s), hs4⟩⟩
      | ret =>
        obtain ⟨hk3, hi3⟩ := hpost
        obtain ⟨W4, hr, hb4, ht4, hu4, hs4⟩ := ends (some .ret) W3 hk3
        exact ⟨_, _, hr, .inr ⟨rfl, ⟨.ret, hIx _ _ _ _ hi3 ht4, hb4⟩, hs4⟩⟩
      | exit id =>
        obtain ⟨hk3, hi3⟩ := hpost
        obtain ⟨W4, hr, hb4, ht4, hu4, hs4⟩ := ends (some (.exit id)) W3 hk3
        exact ⟨_, _, hr, .inr ⟨rfl, ⟨.exit id, hIx _ _ _ _ hi3 ht4, hb4⟩, hs4⟩⟩
      | goto t =>
        obtain ⟨hk3, hi3⟩ := hpost
        obtain ⟨W4, hr, hb4, ht4, hu4, hs4⟩ := ends (some (.goto t)) W3 hk3
        exact ⟨_, _, hr, .inr ⟨rfl, ⟨.goto t, hIx _ _ _ _ hi3 ht4, hb4⟩, hs4⟩⟩
      | panic ch => exact hpost.elim
      | outgrown => exact hpost.elim
    · have shut : ∀ {st : LoopState} {pe : Option Code} {W2 : World}, st ≠ .busy → Bk st pe W2 → ∃ W3, (Instr.endLoop (w.heap.size + 1)).run Try.prog W2 = .ok pe W3 ∧ W3.heap[w.heap.size]? = some (.deferred (some [])) ∧ Turn (odd w.heap.size W2) W2 W3 := by
        intro st pe W2 hst hk
        have hl : W2.heap[w.heap.size + 1]? = some (R st pe) := by rw [hBk] at hk; exact hk.1
        have h4 := put (st' := .exhausted) (pe' := pe) hk
        have h5 : (W2.putObj (w.heap.size + 1) (R .exhausted pe)).heap[w.heap.size]? = some (.deferred (some [])) := by have h6 := h4.1; rw [hBk] at h6; exact h6.2
        rw [hR] at hl h4 h5
        exact ⟨_, run_endLoop hl hst, h5, h4.2.1⟩
      rintro e W2 ⟨⟨v, rfl⟩, (⟨xs, hA, hi, hk⟩ | ⟨pre, hP, c, hi, hk⟩)⟩
      · obtain ⟨W3, hr, hd, ht⟩ := shut (by simp) hk
        exact ⟨none, W3, hr, hdone _ xs _ (Nat.le_refl _) hA (hI _ _ _ hi ht) hd⟩
      · obtain ⟨W3, hr, hd, ht⟩ := shut (by simp) hk
        exact ⟨some c, W3, hr, hstop _ c pre _ (Nat.le_refl _) hP (hIx c _ _ _ hi ht) hd⟩

end Go.Proofs.Ytklpmajaihmmfaa

/-
  A range over a function whose rounds may turn what they have laid themselves (a row that grows by append): the iterator's promise asks nothing of new blocks. No type is named.
-/
namespace Go.Proofs.Ytklpmajaihmmfaa
open Go.RowKit

/-- The contract of an iterator value, as Feeds, of whatever blocks may turn. -/
def Feeds3 {α : Type} (n : Nat) (g : Nat) (lb : Array Value) (encs : α → Array Value) (S : Nat → Prop) (Gv : List α → α → World → Prop) (All Part : List α → Prop) (w : World) : Prop :=
  ∀ (l : Nat) (J Jx : List α → World → Prop) (W : World), Turn (fun _ => False) w W → l < W.heap.size → Holds W.heap.size J → Holds W.heap.size Jx →
    (∀ pre x W1, J pre W1 → Gv pre x W1 → YieldAt Fence.wide (n - 1) Try.prog l (encs x) W1 fun e W' =>
      (e = .returned (.bool true) ∧ J (pre ++ [x]) W' ∧ Turn S W1 W' ∧ Still (l + 1) W1 W') ∨ (e = .returned (.bool false) ∧ Jx (pre ++ [x]) W' ∧ Still (l + 1) W1 W')) →
    J [] W →
    CallsIn Fence.wide n Try.prog g (#[.func (.yield l) #[] #[]] ++ lb) W fun e W' => (∃ v, e = .returned v) ∧ ((∃ xs, All xs ∧ J xs W') ∨ (∃ pre, Part pre ∧ Jx pre W'))
theorem Feeds3.feeds {α : Type} {n g : Nat} {lb : Array Value} {encs : α → Array Value} {S : Nat → Prop} {Gv : List α → α → World → Prop} {All Part : List α → Prop} {w : World} (h : Feeds3 n g lb encs S Gv All Part w) : Feeds n g lb encs S Gv All Part w :=
  fun l J Jx W hW hl _ hJ hJx hY h0 => h l J Jx W hW hl hJ hJx hY h0

/-- 'for .. := range g { body }' over an iterator that has such a contract: a round may turn what has been laid since the range began. -/
theorem over4 {α : Type} {n : Nat} {g : Operand} {ps : Array Tmp} {assign body : Code} {Q : Exit → Act → World → Prop} {a : Act} {w w0 : World} (h1 : 1 ≤ n)
    {gf : Nat} {lb : Array Value} (hg : a.eval g = .func (.func gf) #[] lb) (eg : ∀ args w, (callFunc gf args).run Try.prog w = .ok (.enter gf args) w)
    {encs : α → Array Value} {S : Nat → Prop} {Gv : List α → α → World → Prop} {All Part : List α → Prop} (hseq : Feeds3 (n - 1) gf lb encs S Gv All Part w0) (hb0 : Turn (fun _ => False) w0 w)
    (hS : S (w.heap.size + 1)) (hps : ∀ x, (encs x).size = ps.size)
    (I : List α → World → Prop) (Ix : Code → List α → World → Prop) (hI : Holds w.heap.size I) (hIx : ∀ c, Holds w.heap.size (Ix c)) (h0 : I [] w) (I2 : List α → α → Act → World → Prop) (hI2 : ∀ pre x a' A B, I2 pre x a' A → Turn (odd w.heap.size A) A B → I2 pre x a' B)
    (hassign : ∀ (l : Nat) (pre : List α) (x : α) (W : World) (K : Act → World → Prop), I pre W → Gv pre x W → (∀ a' W', I2 pre x a' W' → Turn (fun _ => False) W W' → K a' W') →
      assign.wpIn (Fence.wide.inRound l) (n - 1 - 1) Try.prog (Exit.then K (fun _ _ _ => False)) { tmps := (ps.zip (encs x)).foldl (fun t (p, v) => t.setIfInBounds p v) a.tmps, defers := [] } W)
    (hbody : ∀ (l : Nat) (pre : List α) (x : α) (a' : Act) (W : World), I2 pre x a' W → body.wpIn (Fence.wide.inRound l) (n - 1 - 1) Try.prog (postF w.heap.size S I Ix (pre ++ [x]) W) a' W)
    (hdone : ∀ (D : Nat) (xs : List α) (W : World), w.heap.size ≤ D → All xs → I xs W → W.heap[D]? = some (.deferred (some [])) → Q .normal { a with defers := { target := .collected D, args := #[] } :: a.defers } W)
    (hstop : ∀ (D : Nat) (c : Code) (pre : List α) (W : World), w.heap.size ≤ D → Part pre → Ix c pre W → W.heap[D]? = some (.deferred (some [])) → c.wpIn Fence.wide n Try.prog Q { a with defers := { target := .collected D, args := #[] } :: a.defers } W) :
    (Code.rangeFunc g ps assign body).wpIn Fence.wide n Try.prog Q a w := by
  refine wpIn_rangeFunc fun fn hfn => ?_
  obtain ⟨R, hR⟩ : ∃ R : LoopState → Option Code → Obj, R = fun st pe => .loop { state := st, pending := pe, fn, tmps := a.tmps, params := ps, assign, body, defers := w.heap.size } := ⟨_, rfl⟩
  -- the two blocks of the statement: the rounds' deferred calls, and its record, in a state
  obtain ⟨Bk, hBk⟩ : ∃ Bk : LoopState → Option Code → World → Prop, Bk = fun st pe W => W.heap[w.heap.size + 1]? = some (R st pe) ∧ W.heap[w.heap.size]? = some (.deferred (some [])) := ⟨_, rfl⟩
  obtain ⟨W1, hW1⟩ : ∃ W1, (w.alloc (.deferred (some []))).alloc (R .ready none) = W1 := ⟨_, rfl⟩
  have hsz : W1.heap.size = w.heap.size + 2 := by rw [← hW1]; simp
  have t1 : Turn (fun _ => False) w W1 := by rw [← hW1]; exact ((Turn.refl _ w).alloc _).alloc _
  have k1 : Bk .ready none W1 := by
    rw [hBk]
    refine ⟨?_, ?_⟩
    · have := World.alloc_heap_new (w.alloc (.deferred (some []))) (R .ready none)
      rw [World.size_alloc] at this
      rw [← hW1]
      exact this
    · rw [← hW1]
      exact (Below.heap_alloc _ _ _ (by simp)).trans (World.alloc_heap_new w _)
  have move : ∀ {D : Nat} {st : LoopState} {pe : Option Code} {A B : World}, w.heap.size + 2 ≤ D → Turn (odd D A) A B → Bk st pe A → Bk st pe B := by
    intro D st pe A B hD ht hk
    rw [hBk] at hk ⊢
    have far : ∀ k, k < w.heap.size + 2 → k < A.heap.size → B.heap[k]? = A.heap[k]? := fun k hk1 hk2 => ht.block k hk2 (fun s => by have := s.1; omega)
    exact ⟨(far _ (by omega) (Array.getElem?_eq_some_iff.1 hk.1).1).trans hk.1, (far _ (by omega) (Array.getElem?_eq_some_iff.1 hk.2).1).trans hk.2⟩
  have put : ∀ {st st' : LoopState} {pe pe' : Option Code} {A : World}, Bk st pe A → Bk st' pe' (A.putObj (w.heap.size + 1) (R st' pe')) ∧ Turn (odd w.heap.size A) A (A.putObj (w.heap.size + 1) (R st' pe')) ∧ Turn S A (A.putObj (w.heap.size + 1) (R st' pe')) := by
    intro st st' pe pe' A hk
    rw [hBk] at hk ⊢
    refine ⟨⟨World.putObj_heap_same (Array.getElem?_eq_some_iff.1 hk.1).1, (World.putObj_heap_other (by omega)).trans hk.2⟩, Turn.putObj _ _ _ ⟨by omega, _, hk.1, ?_⟩, Turn.putObj _ _ _ hS⟩
    rw [hR]
    rfl
  have keep : ∀ {st : LoopState} {pe : Option Code} {A B : World}, Still w.heap.size A B → Bk st pe A → Bk st pe B := by
    intro st pe A B h hk
    rw [hBk] at hk ⊢
    exact ⟨h.same _ _ (Nat.le_succ _) hk.1 (by rw [hR]; rfl), h.same _ _ (Nat.le_refl _) hk.2 rfl⟩
  refine ⟨w.heap.size + 1, [{ target := .collected w.heap.size, args := #[] }], W1, { target := .fn (.func gf) lb, args := #[.func (.yield (w.heap.size + 1)) #[] #[]] }, W1, gf,
    #[.func (.yield (w.heap.size + 1)) #[] #[]] ++ lb, W1, ?_, ?_, ?_, ?_, fun _ => h1, ?_⟩
  · rw [← hW1, hR]
    exact run_enterLoop_outer _ _ _ _ _
  · simp only [resolve, hg]
    simp [go_sem]
  · intro f' _
    trivial
  · simp [invoke, go_sem, eg]
  · refine (hseq (w.heap.size + 1) (fun pre W => I pre W ∧ Bk .ready none W) (fun pre W => ∃ c, Ix c pre W ∧ Bk .done (some c) W) W1 (hb0.trans t1 (fun _ _ f => f)) (by omega)
      (fun s A B hs ht => ⟨(hI.le (by omega)) s A B hs.1 ht, move (by omega) ht hs.2⟩)
      (fun s A B hs ht => by
        obtain ⟨c, hc, hk⟩ := hs
        exact ⟨c, ((hIx c).le (by omega)) s A B hc ht, move (by omega) ht hk⟩)
      ?_ ⟨hI _ _ _ h0 t1.none, k1⟩).mono ?_
    · rintro pre x W ⟨hi, hk⟩ hgv
      have hl : W.heap[w.heap.size + 1]? = some (R .ready none) := by rw [hBk] at hk; exact hk.1
      rw [hR] at hl
      have hy := run_yield (P := Try.prog) (args := encs x) hl (hps x)
      refine ⟨fn, _, assign, body, hy, roundIn_of_wpIn hfn (hassign _ pre x W _ hi hgv fun a5 W5 hx5 ht5 => ?_)⟩
      have hk5 : Bk .ready none W5 := by
        rw [hBk] at hk ⊢
        exact ⟨(ht5.block _ (Array.getElem?_eq_some_iff.1 hk.1).1 (fun f => f)).trans hk.1, (ht5.block _ (Array.getElem?_eq_some_iff.1 hk.2).1 (fun f => f)).trans hk.2⟩
      have hl5 : W5.heap[w.heap.size + 1]? = some (R .ready none) := by rw [hBk] at hk5; exact hk5.1
      rw [hR] at hl5
      refine ⟨_, run_beginRound hl5 rfl, ?_⟩
      have hp := put (st' := .busy) (pe' := none) hk5
      rw [hR] at hp
      refine wpIn_mono (hbody _ pre x a5 _ (hI2 _ _ _ _ _ hx5 hp.2.1)) ?_
      have ends : ∀ (jump : Option Code) (W3 : World), Still w.heap.size (W5.putObj (w.heap.size + 1) (.loop { state := .busy, pending := none, fn, tmps := a.tmps, params := ps, assign, body, defers := w.heap.size })) W3 →
          ∃ W4, (Instr.endRound (w.heap.size + 1) jump).run Try.prog W3 = .ok (.bool jump.isNone) W4 ∧ Bk (if jump.isNone then .ready else .done) jump W4 ∧ Turn (odd w.heap.size W3) W3 W4 ∧ Turn S W3 W4 ∧ Still (w.heap.size + 1 + 1) W W4 := by
        intro jump W3 hk3
        have h3 := keep hk3 hp.1
        have hl3 : W3.heap[w.heap.size + 1]? = some (R .busy none) := by rw [hBk] at h3; exact h3.1
        have h4 := put (st' := if jump.isNone then .ready else .done) (pe' := jump) h3
        rw [hR] at hl3 h4
        exact ⟨_, run_endRound jump hl3, h4.1, h4.2.1, h4.2.2, (((Still.turned ht5).trans (Still.put W5 _ _ (Nat.lt_succ_self _))).trans (hk3.le (by omega))).trans (Still.put W3 _ _ (Nat.lt_succ_self _))⟩
      rintro e a3 W3 hpost
      cases e with
      | normal =>
        obtain ⟨hk3, ht3, hi3⟩ := hpost
        obtain ⟨W4, hr, hb4, ht4, hu4, hs4⟩ := ends none W3 hk3
        exact ⟨_, _, hr, .inl ⟨rfl, ⟨hI _ _ _ hi3 ht4, hb4⟩, ((ht5.none.trans hp.2.2 (fun _ _ s => s)).trans ht3 (fun _ _ s => s)).trans hu4 (fun _ _ s => s), hs4⟩⟩
      | ret =>
        obtain ⟨hk3, hi3⟩ := hpost
        obtain ⟨W4, hr, hb4, ht4, hu4, hs4⟩ := ends (some .ret) W3 hk3
        exact ⟨_, _, hr, .inr ⟨rfl, ⟨.ret, hIx _ _ _ _ hi3 ht4, hb4⟩, hs4⟩⟩
      | exit id =>
        obtain ⟨hk3, hi3⟩ := hpost
        obtain ⟨W4, hr, hb4, ht4, hu4, hs4⟩ := ends (some (.exit id)) W3 hk3
        exact ⟨_, _, hr, .inr ⟨rfl, ⟨.exit id, hIx _ _ _ _ hi3 ht4, hb4⟩, hs4⟩⟩
      | goto t =>
        obtain ⟨hk3, hi3⟩ := hpost
        obtain ⟨W4, hr, hb4, ht4, hu4, hs4⟩ := ends (some (.goto t)) W3 hk3
        exact ⟨_, _, hr, .inr ⟨rfl, ⟨.goto t, hIx _ _ _ _ hi3 ht4, hb4⟩, hs4⟩⟩
      | panic ch => exact hpost.elim
      | outgrown => exact hpost.elim
    · have shut : ∀ {st : LoopState} {pe : Option Code} {W2 : World}, st ≠ .busy → Bk st pe W2 → ∃ W3, (Instr.endLoop (w.heap.size + 1)).run Try.prog W2 = .ok pe W3 ∧ W3.heap[w.heap.size]? = some (.deferred (some [])) ∧ Turn (odd w.heap.size W2) W2 W3 := by
        intro st pe W2 hst hk
        have hl : W2.heap[w.heap.size + 1]? = some (R st pe) := by rw [hBk] at hk; exact hk.1
        have h4 := put (st' := .exhausted) (pe' := pe) hk
        have h5 : (W2.putObj (w.heap.size + 1) (R .exhausted pe)).heap[w.heap.size]? = some (.deferred (some [])) := by have h6 := h4.1; rw [hBk] at h6; exact h6.2
        rw [hR] at hl h4 h5
        exact ⟨_, run_endLoop hl hst, h5, h4.2.1⟩
      rintro e W2 ⟨⟨v, rfl⟩, (⟨xs, hA, hi, hk⟩ | ⟨pre, hP, c, hi, hk⟩)⟩
      · obtain ⟨W3, hr, hd, ht⟩ := shut (by simp) hk
        exact ⟨none, W3, hr, hdone _ xs _ (Nat.le_refl _) hA (hI _ _ _ hi ht) hd⟩
      · obtain ⟨W3, hr, hd, ht⟩ := shut (by simp) hk
        exact ⟨some c, W3, hr, hstop _ c pre _ (Nat.le_refl _) hP (hIx c _ _ _ hi ht) hd⟩

end Go.Proofs.Ytklpmajaihmmfaa
