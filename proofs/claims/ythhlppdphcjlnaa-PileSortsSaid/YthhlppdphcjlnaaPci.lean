
/-
  The program's pile (things: int64): what is first goes down.
-/
import Derived.Test.YthhlppdphcjlnaaPbi
namespace Go.Proofs.Ythhlppdphcjlnaa.pli
open Go.RowKit Go.ChangeShapes Go.WideShapes Go.Deep

/-- A fall, under way. -/
def Fall (ad : Addr) (c : Nat) (H : List (Int × Nat)) (w : World) (a : Nat) (wr : World) : Prop :=
  ∃ H', H'.Perm H ∧ DownX (bef ltN) (at0 (0, 0) H') H'.length a ∧ OwE EN 69 wr (.slice (some ad) H.length c) H' ∧ Turn (fun k => k = ad.block) w wr
/-- None of the things under place a comes ahead of that at place k. -/
def Least (f : Nat → Int × Nat) (n a k : Nat) : Prop := ∀ j, 0 < j → j < n → (j - 1) / 2 = a → bef ltN (f j) (f k) = false
theorem least_one {f : Nat → Int × Nat} {n a u : Nat} (hu : u = 2 * a + 1) (h : ¬ u + 1 < n) : Least f n a u := fun j h0 hj h1 => by
  have : j = u := by omega
  rw [this]; exact (weak_bef weak_lt).irr _
theorem least_left {f : Nat → Int × Nat} {n a u : Nat} (hu : u = 2 * a + 1) (h : bef ltN (f (u + 1)) (f u) = false) : Least f n a u := fun j h0 hj h1 => by
  have : j = u ∨ j = u + 1 := by omega
  rcases this with e | e <;> rw [e]
  · exact (weak_bef weak_lt).irr _
  · exact h
theorem least_right {f : Nat → Int × Nat} {n a u : Nat} (hu : u = 2 * a + 1) (h : bef ltN (f (u + 1)) (f u) = true) : Least f n a (u + 1) := fun j h0 hj h1 => by
  have : j = u ∨ j = u + 1 := by omega
  rcases this with e | e <;> rw [e]
  · exact (weak_bef weak_lt).asym _ _ h
  · exact (weak_bef weak_lt).irr _
theorem fall_step {ad : Addr} {c : Nat} {H H' : List (Int × Nat)} {w w4 : World} {a k : Nat} {p q : Int × Nat} (hp : H'[a]? = some p) (hq : H'[k]? = some q) (h0 : 0 < k) (hk : (k - 1) / 2 = a) (hkn : k < H'.length) (hP : H'.Perm H) (hU : DownX (bef ltN) (at0 (0, 0) H') H'.length a)
    (hag : bef ltN q p = true) (hl : Least (at0 (0, 0) H') H'.length a k) (ho : OwE EN 69 w4 (.slice (some ad) H.length c) ((H'.set a q).set k p)) (ht : Turn (fun k => k = ad.block) w w4) : Fall ad c H w k w4 := by
  have h1 : a < H'.length := by omega
  have e : (H'.set a q).set k p = swapL (0, 0) H' a k := by unfold swapL; rw [at0_some hp, at0_some hq]
  rw [e] at ho
  refine ⟨_, (swapL_perm (d := (0, 0)) h1 hkn).trans hP, ?_, ho, ht⟩
  rw [swapL_at h1 hkn, swapL_len]
  exact hU.step (weak_bef weak_lt) h0 hkn hk (by rw [at0_some hp, at0_some hq]; exact hag) hl

theorem fall_done {H' : List (Int × Nat)} {a k : Nat} {p q : Int × Nat} (hp : H'[a]? = some p) (hq : H'[k]? = some q) (hr : bef ltN q p = false) (hl : Least (at0 (0, 0) H') H'.length a k) :
    ∀ j, 0 < j → j < H'.length → (j - 1) / 2 = a → bef ltN (at0 (0, 0) H' j) (at0 (0, 0) H' a) = false := fun j h0 hj h1 => by
  rw [at0_some hp]
  have h2 := hl j h0 hj h1
  rw [at0_some hq] at h2
  exact (weak_bef weak_lt).ntr _ _ _ h2 hr

set_option maxRecDepth 100000 in
set_option maxHeartbeats 4000000 in
theorem sink_any (ad : Addr) (gp c : Nat) (H : List (Int × Nat)) (w : World) (hg : w.cell? ⟨gp, 0, none⟩ = some lessV) (hne : gp ≠ ad.block) (hr : OwE EN 69 w (.slice (some ad) H.length c) H) (hlen : H.length ≤ 1000000)
    (hu : DownX (bef ltN) (at0 (0, 0) H) H.length 0) : Calls Try.prog 35 #[.slice (some ad) H.length c, aheadV gp] w fun e w' => Heaped ad c H w e w' := by
  have HR0 : Hid (Fall ad c H w 0 w) := ⟨H, List.Perm.refl _, hu, hr, Turn.refl _ _⟩
  have HGP : Hid (∀ W, Turn (fun k => k = ad.block) w W → W.cell? ⟨gp, 0, none⟩ = some lessV) := fun W ht => by rw [ht.cell (World.block_lt_of_cell? _ _ hg) hne]; exact hg
  clear hr hu hg
  go_enter Try.func35, Try.ntmps35
  go_wp2_with fail
  go_loopw [4] (fun x4 wr => ∃ a : Nat, x4 = .int .i64 (a : Int) ∧ a ≤ 1000000 ∧ Fall ad c H w a wr) (fun x4 _ => H.length - (intOf x4).toNat)
  case atStart => exact ⟨0, rfl, by omega, HR0.out⟩
  case round =>
    obtain ⟨a, rfl, ham, H', hp, hup, ho, ht⟩ := hrel
    have HP := Lib.hid hp; have HU := Lib.hid hup; have HO := Lib.hid ho; have HT := Lib.hid ht
    have hlen' : H'.length = H.length := hp.length_eq
    clear hp hup ho ht
    obtain ⟨u, hu⟩ : ∃ u, u = 2 * a + 1 := ⟨_, rfl⟩
    have huv : (a : Int) * 2 + 1 = (u : Int) := by omega
    by_cases hun : u < H.length
    · have hui : (u : Int) < H.length := by omega
      obtain ⟨v, hv⟩ : ∃ v, v = u + 1 := ⟨_, rfl⟩
      have hvi : (u : Int) + 1 = (v : Int) := by omega
      by_cases hvn : v < H.length
      · have hvl : (v : Int) < H.length := by omega
        have hwv : IntKind.i64.wrap (v : Int) = (v : Int) := IntWalk.i64_in _ (by omega)
        obtain ⟨p, hp⟩ : ∃ p, H'[v]? = some p := ⟨_, List.getElem?_eq_getElem (by omega)⟩
        obtain ⟨q, hq⟩ : ∃ q, H'[u]? = some q := ⟨_, List.getElem?_eq_getElem (by omega)⟩
        have HSK : Hid (∀ W, Turn (fun _ => False) wr W → (W.cell? ⟨gp, 0, none⟩ = some lessV ∧ (W.cell? (ad.add (v * 2)) = some (.int .i64 p.1) ∧ W.cell? ⟨(ad.add (v * 2)).block, (ad.add (v * 2)).off + 1, none⟩ = some (.int .u64 (p.2 : Int))) ∧ (W.cell? (ad.add (u * 2)) = some (.int .i64 q.1) ∧ W.cell? ⟨(ad.add (u * 2)).block, (ad.add (u * 2)).off + 1, none⟩ = some (.int .u64 (q.2 : Int)))) ∧ Turn (fun _ => False) wr W) :=
          fun W ht => ⟨⟨HGP.out W (HT.out.trans ht (fun _ _ f => f.elim)), en_at HO.out.rd hp ht, en_at HO.out.rd hq ht⟩, ht⟩
        have HAH := Lib.hid (ahead_any p q gp)
        have hag : bef ltN (at0 (0, 0) H' (u + 1)) (at0 (0, 0) H' u) = bef ltN p q := by rw [at0_some hq, at0_some (by rw [← hv]; exact hp)]
        have HAG := Lib.hid hag
        have HUU := Lib.hid hu; have HVV := Lib.hid hv
        clear hp hq hag hu hv
        go_wp2_with fail
        refine drawn_region (fun W => (W.cell? ⟨gp, 0, none⟩ = some lessV ∧ (W.cell? (ad.add (v * 2)) = some (.int .i64 p.1) ∧ W.cell? ⟨(ad.add (v * 2)).block, (ad.add (v * 2)).off + 1, none⟩ = some (.int .u64 (p.2 : Int))) ∧ (W.cell? (ad.add (u * 2)) = some (.int .i64 q.1) ∧ W.cell? ⟨(ad.add (u * 2)).block, (ad.add (u * 2)).off + 1, none⟩ = some (.int .u64 (q.2 : Int)))) ∧ Turn (fun _ => False) wr W) [] (by kernel_rfl) ?_
        have hS0 := HSK.out _ (Turn.refl _ wr).drew
        refine drawn_take 0 13 (.int .i64 (u : Int)) rfl rfl (by kernel_rfl) (by kernel_rfl) (by kernel_rfl) (by kernel_rfl) (fun _ _ _ h => h) (by rfl) (by assumption) (by intro w hSw; obtain ⟨⟨hS1, ⟨hS2, hS3⟩, ⟨hS4, hS5⟩⟩, hS6⟩ := hSw; go_simp) ?_
        try simp only [List.setIfInBounds_toArray, List.set_cons_zero, List.set_cons_succ]
        refine drawn_take 1 14 (.int .i64 (v : Int)) rfl rfl (by kernel_rfl) (by kernel_rfl) (by kernel_rfl) (by kernel_rfl) (fun _ _ _ h => h) (by rfl) (by assumption) (by intro w hSw; obtain ⟨⟨hS1, ⟨hS2, hS3⟩, ⟨hS4, hS5⟩⟩, hS6⟩ := hSw; go_simp) ?_
        try simp only [List.setIfInBounds_toArray, List.set_cons_zero, List.set_cons_succ]
        refine drawn_take 2 15 (.slice (some ad) H.length c) rfl rfl (by kernel_rfl) (by kernel_rfl) (by kernel_rfl) (by kernel_rfl) (fun _ _ _ h => h) (by rfl) (by assumption) (by intro w hSw; obtain ⟨⟨hS1, ⟨hS2, hS3⟩, ⟨hS4, hS5⟩⟩, hS6⟩ := hSw; go_simp) ?_
        try simp only [List.setIfInBounds_toArray, List.set_cons_zero, List.set_cons_succ]
        refine drawn_take 3 16 (.int .i64 (H.length : Int)) rfl rfl (by kernel_rfl) (by kernel_rfl) (by kernel_rfl) (by kernel_rfl) (fun _ _ _ h => h) (by rfl) (by assumption) (by intro w hSw; obtain ⟨⟨hS1, ⟨hS2, hS3⟩, ⟨hS4, hS5⟩⟩, hS6⟩ := hSw; go_simp) ?_
        try simp only [List.setIfInBounds_toArray, List.set_cons_zero, List.set_cons_succ]
        refine drawn_take 4 17 (.bool true) rfl rfl (by kernel_rfl) (by kernel_rfl) (by kernel_rfl) (by kernel_rfl) (fun _ _ _ h => h) (by rfl) (by assumption) (by intro w hSw; obtain ⟨⟨hS1, ⟨hS2, hS3⟩, ⟨hS4, hS5⟩⟩, hS6⟩ := hSw; go_simp) ?_
        try simp only [List.setIfInBounds_toArray, List.set_cons_zero, List.set_cons_succ]
        refine drawn_take 5 18 (.bool true) rfl rfl (by kernel_rfl) (by kernel_rfl) (by kernel_rfl) (by kernel_rfl) (fun _ _ _ h => h) (by rfl) (by assumption) (by intro w hSw; obtain ⟨⟨hS1, ⟨hS2, hS3⟩, ⟨hS4, hS5⟩⟩, hS6⟩ := hSw; go_simp) ?_
        try simp only [List.setIfInBounds_toArray, List.set_cons_zero, List.set_cons_succ]
        refine drawn_take 6 19 (aheadV gp) rfl rfl (by kernel_rfl) (by kernel_rfl) (by kernel_rfl) (by kernel_rfl) (fun _ _ _ h => h) (by rfl) (by assumption) (by intro w hSw; obtain ⟨⟨hS1, ⟨hS2, hS3⟩, ⟨hS4, hS5⟩⟩, hS6⟩ := hSw; go_simp) ?_
        try simp only [List.setIfInBounds_toArray, List.set_cons_zero, List.set_cons_succ]
        refine drawn_take 7 20 (.slice (some ad) H.length c) rfl rfl (by kernel_rfl) (by kernel_rfl) (by kernel_rfl) (by kernel_rfl) (fun _ _ _ h => h) (by rfl) (by assumption) (by intro w hSw; obtain ⟨⟨hS1, ⟨hS2, hS3⟩, ⟨hS4, hS5⟩⟩, hS6⟩ := hSw; go_simp) ?_
        try simp only [List.setIfInBounds_toArray, List.set_cons_zero, List.set_cons_succ]
        refine drawn_take 8 21 (.int .i64 (u : Int)) rfl rfl (by kernel_rfl) (by kernel_rfl) (by kernel_rfl) (by kernel_rfl) (fun _ _ _ h => h) (by rfl) (by assumption) (by intro w hSw; obtain ⟨⟨hS1, ⟨hS2, hS3⟩, ⟨hS4, hS5⟩⟩, hS6⟩ := hSw; go_simp) ?_
        try simp only [List.setIfInBounds_toArray, List.set_cons_zero, List.set_cons_succ]
        refine drawn_take 9 22 (.int .i64 (v : Int)) rfl rfl (by kernel_rfl) (by kernel_rfl) (by kernel_rfl) (by kernel_rfl) (fun _ _ _ h => h) (by rfl) (by assumption) (by intro w hSw; obtain ⟨⟨hS1, ⟨hS2, hS3⟩, ⟨hS4, hS5⟩⟩, hS6⟩ := hSw; go_simp) ?_
        try simp only [List.setIfInBounds_toArray, List.set_cons_zero, List.set_cons_succ]
        refine drawn_take 10 23 (.pointer (some (ad.add (v * 2)))) rfl rfl (by kernel_rfl) (by kernel_rfl) (by kernel_rfl) (by kernel_rfl) (fun _ _ _ h => h) (by rfl) (by assumption) (by intro w hSw; obtain ⟨⟨hS1, ⟨hS2, hS3⟩, ⟨hS4, hS5⟩⟩, hS6⟩ := hSw; go_simp) ?_
        try simp only [List.setIfInBounds_toArray, List.set_cons_zero, List.set_cons_succ]
        refine drawn_take 11 24 (nv p) rfl rfl (by kernel_rfl) (by kernel_rfl) (by kernel_rfl) (by kernel_rfl) (fun _ _ _ h => h) (by rfl) (by assumption) (by intro w hSw; obtain ⟨⟨hS1, ⟨hS2, hS3⟩, ⟨hS4, hS5⟩⟩, hS6⟩ := hSw; go_simp) ?_
        try simp only [List.setIfInBounds_toArray, List.set_cons_zero, List.set_cons_succ]
        refine drawn_take 12 25 (.slice (some ad) H.length c) rfl rfl (by kernel_rfl) (by kernel_rfl) (by kernel_rfl) (by kernel_rfl) (fun _ _ _ h => h) (by rfl) (by assumption) (by intro w hSw; obtain ⟨⟨hS1, ⟨hS2, hS3⟩, ⟨hS4, hS5⟩⟩, hS6⟩ := hSw; go_simp) ?_
        try simp only [List.setIfInBounds_toArray, List.set_cons_zero, List.set_cons_succ]
        refine drawn_take 13 26 (.int .i64 (u : Int)) rfl rfl (by kernel_rfl) (by kernel_rfl) (by kernel_rfl) (by kernel_rfl) (fun _ _ _ h => h) (by rfl) (by assumption) (by intro w hSw; obtain ⟨⟨hS1, ⟨hS2, hS3⟩, ⟨hS4, hS5⟩⟩, hS6⟩ := hSw; go_simp) ?_
        try simp only [List.setIfInBounds_toArray, List.set_cons_zero, List.set_cons_succ]
        refine drawn_take 14 27 (.pointer (some (ad.add (u * 2)))) rfl rfl (by kernel_rfl) (by kernel_rfl) (by kernel_rfl) (by kernel_rfl) (fun _ _ _ h => h) (by rfl) (by assumption) (by intro w hSw; obtain ⟨⟨hS1, ⟨hS2, hS3⟩, ⟨hS4, hS5⟩⟩, hS6⟩ := hSw; go_simp) ?_
        try simp only [List.setIfInBounds_toArray, List.set_cons_zero, List.set_cons_succ]
        refine drawn_take 15 28 (nv q) rfl rfl (by kernel_rfl) (by kernel_rfl) (by kernel_rfl) (by kernel_rfl) (fun _ _ _ h => h) (by rfl) (by assumption) (by intro w hSw; obtain ⟨⟨hS1, ⟨hS2, hS3⟩, ⟨hS4, hS5⟩⟩, hS6⟩ := hSw; go_simp) ?_
        try simp only [List.setIfInBounds_toArray, List.set_cons_zero, List.set_cons_succ]
        refine drawn_any [16] (by kernel_rfl) (by simp) ?_
        refine drawn_cons rfl (fun K hK => ?_) drawn_nil
        go_simp
        refine (HAH.out _ hS0.1.1).mono ?_
        rintro e wx ⟨rfl, ht⟩
        have HTN := Lib.hid ((Turn.refl (fun _ => False) wr).drew.trans ht (fun _ _ f => f)); clear ht
        have hS9 := HSK.out _ HTN.out
        refine hK.out _ _ _ hS9 ?_
        clear hK K hS0
        try simp only [List.setIfInBounds_toArray, List.set_cons_zero, List.set_cons_succ]
        refine drawn_last1 17 30 (.bool (bef ltN p q)) rfl rfl (by kernel_rfl) (by kernel_rfl) (by rfl) (by intro w; go_simp) hS9 ?_
        try simp only [List.setIfInBounds_toArray, List.set_cons_zero, List.set_cons_succ]
        clear hS9
        have HOX := Lib.hid (HO.out.later HTN.out)
        have HTX := Lib.hid (HT.out.trans HTN.out (fun _ _ f => f.elim))
        cases hr : bef ltN p q with
        | false =>
          rw [hr] at HAG
          have HLS : Hid (Least (at0 (0, 0) H') H'.length a u) := least_left HUU.out HAG.out
          have HKA : Hid ((u - 1) / 2 = a) := by have := HUU.out; show _ = _; omega
          have h0k : 0 < u := by have := HUU.out; omega
          have hak : a < u := by have := HUU.out; omega
          clear HSK HAH HAG HTN hr
          obtain ⟨k, hk⟩ : ∃ k, k = u := ⟨_, rfl⟩
          subst hk
          -- from the test of the child at place k on, in world wx
          have hkm : ((k : Nat) : Int) < H.length := by omega
          have ham2 : (a : Int) < H.length := by omega
          obtain ⟨p, hp⟩ : ∃ p, H'[a]? = some p := ⟨_, List.getElem?_eq_getElem (by omega)⟩
          obtain ⟨q, hq⟩ : ∃ q, H'[k]? = some q := ⟨_, List.getElem?_eq_getElem (by omega)⟩
          have HSK : Hid (∀ W, Turn (fun _ => False) wx W → (W.cell? ⟨gp, 0, none⟩ = some lessV ∧ (W.cell? (ad.add (k * 2)) = some (.int .i64 q.1) ∧ W.cell? ⟨(ad.add (k * 2)).block, (ad.add (k * 2)).off + 1, none⟩ = some (.int .u64 (q.2 : Int))) ∧ (W.cell? (ad.add (a * 2)) = some (.int .i64 p.1) ∧ W.cell? ⟨(ad.add (a * 2)).block, (ad.add (a * 2)).off + 1, none⟩ = some (.int .u64 (p.2 : Int)))) ∧ Turn (fun _ => False) wx W) :=
            fun W ht => ⟨⟨HGP.out W (HTX.out.trans ht (fun _ _ f => f.elim)), en_at HOX.out.rd hq ht, en_at HOX.out.rd hp ht⟩, ht⟩
          have HAH := Lib.hid (ahead_any q p gp)
          have HPP := Lib.hid hp; have HQQ := Lib.hid hq
          clear hp hq
          go_wp2_with fail
          go_region_held3 (fun W => (W.cell? ⟨gp, 0, none⟩ = some lessV ∧ (W.cell? (ad.add (k * 2)) = some (.int .i64 q.1) ∧ W.cell? ⟨(ad.add (k * 2)).block, (ad.add (k * 2)).off + 1, none⟩ = some (.int .u64 (q.2 : Int))) ∧ (W.cell? (ad.add (a * 2)) = some (.int .i64 p.1) ∧ W.cell? ⟨(ad.add (a * 2)).block, (ad.add (a * 2)).off + 1, none⟩ = some (.int .u64 (p.2 : Int)))) ∧ Turn (fun _ => False) wx W)
            (first | exact HSK.out _ HTN.out | exact HSK.out _ (Turn.refl _ wx).drew | fail)
            (first
              | (go_at_call 34; refine (HAH.out _ (HSK.out _ (Turn.refl _ wx).drew).1.1).mono ?_; rintro e w2 ⟨rfl, ht⟩; have HTN := Lib.hid ((Turn.refl (fun _ => False) wx).drew.trans ht (fun _ _ f => f)); clear ht)
              | fail)
          have HO2 := Lib.hid (HOX.out.later HTN.out)
          have HT2 := Lib.hid (HTX.out.trans HTN.out (fun _ _ f => f.elim))
          cases hr : bef ltN q p with
          | false =>
            have HRR := Lib.hid hr; clear hr
            go_wp2_with fail
            go_end0
            exact ⟨⟨_, rfl⟩, H', HP.out, HU.out.done (fall_done HPP.out HQQ.out HRR.out HLS.out), HO2.out, HT2.out⟩
          | true =>
            have HRR := Lib.hid hr; clear hr
            go_wp2_with fail
            refine drawn_region (fun W => (W.cell? ⟨gp, 0, none⟩ = some lessV ∧ (W.cell? (ad.add (k * 2)) = some (.int .i64 q.1) ∧ W.cell? ⟨(ad.add (k * 2)).block, (ad.add (k * 2)).off + 1, none⟩ = some (.int .u64 (q.2 : Int))) ∧ (W.cell? (ad.add (a * 2)) = some (.int .i64 p.1) ∧ W.cell? ⟨(ad.add (a * 2)).block, (ad.add (a * 2)).off + 1, none⟩ = some (.int .u64 (p.2 : Int)))) ∧ Turn (fun _ => False) wx W) [13, 15] (by kernel_rfl) ?_
            have hS0 := HSK.out _ HTN.out.drew
            refine drawn_take 0 44 (.slice (some ad) H.length c) rfl rfl (by kernel_rfl) (by kernel_rfl) (by kernel_rfl) (by kernel_rfl) (fun _ _ _ h => h) (by rfl) (by assumption) (by intro w hSw; obtain ⟨⟨hS1, ⟨hS2, hS3⟩, ⟨hS4, hS5⟩⟩, hS6⟩ := hSw; go_simp) ?_
            try simp only [List.setIfInBounds_toArray, List.set_cons_zero, List.set_cons_succ]
            refine drawn_take 1 45 (.int .i64 (a : Int)) rfl rfl (by kernel_rfl) (by kernel_rfl) (by kernel_rfl) (by kernel_rfl) (fun _ _ _ h => h) (by rfl) (by assumption) (by intro w hSw; obtain ⟨⟨hS1, ⟨hS2, hS3⟩, ⟨hS4, hS5⟩⟩, hS6⟩ := hSw; go_simp) ?_
            try simp only [List.setIfInBounds_toArray, List.set_cons_zero, List.set_cons_succ]
            refine drawn_move 2 46 (.slice (some ad) H.length c) rfl rfl (by kernel_rfl) (by kernel_rfl) (by kernel_rfl) (by kernel_rfl) (fun _ _ _ h => h) (by rfl) (fun _ => by assumption) (by intro w; go_simp) ?_
            try simp only [List.setIfInBounds_toArray, List.set_cons_zero, List.set_cons_succ]
            refine drawn_move 3 47 (.int .i64 (k : Int)) rfl rfl (by kernel_rfl) (by kernel_rfl) (by kernel_rfl) (by kernel_rfl) (fun _ _ _ h => h) (by rfl) (fun _ => by assumption) (by intro w; go_simp) ?_
            try simp only [List.setIfInBounds_toArray, List.set_cons_zero, List.set_cons_succ]
            refine drawn_take 4 48 (.slice (some ad) H.length c) rfl rfl (by kernel_rfl) (by kernel_rfl) (by kernel_rfl) (by kernel_rfl) (fun _ _ _ h => h) (by rfl) (by assumption) (by intro w hSw; obtain ⟨⟨hS1, ⟨hS2, hS3⟩, ⟨hS4, hS5⟩⟩, hS6⟩ := hSw; go_simp) ?_
            try simp only [List.setIfInBounds_toArray, List.set_cons_zero, List.set_cons_succ]
            refine drawn_take 5 49 (.int .i64 (k : Int)) rfl rfl (by kernel_rfl) (by kernel_rfl) (by kernel_rfl) (by kernel_rfl) (fun _ _ _ h => h) (by rfl) (by assumption) (by intro w hSw; obtain ⟨⟨hS1, ⟨hS2, hS3⟩, ⟨hS4, hS5⟩⟩, hS6⟩ := hSw; go_simp) ?_
            try simp only [List.setIfInBounds_toArray, List.set_cons_zero, List.set_cons_succ]
            refine drawn_take 6 50 (.pointer (some (ad.add (k * 2)))) rfl rfl (by kernel_rfl) (by kernel_rfl) (by kernel_rfl) (by kernel_rfl) (fun _ _ _ h => h) (by rfl) (by assumption) (by intro w hSw; obtain ⟨⟨hS1, ⟨hS2, hS3⟩, ⟨hS4, hS5⟩⟩, hS6⟩ := hSw; go_simp) ?_
            try simp only [List.setIfInBounds_toArray, List.set_cons_zero, List.set_cons_succ]
            refine drawn_take 7 51 (nv q) rfl rfl (by kernel_rfl) (by kernel_rfl) (by kernel_rfl) (by kernel_rfl) (fun _ _ _ h => h) (by rfl) (by assumption) (by intro w hSw; obtain ⟨⟨hS1, ⟨hS2, hS3⟩, ⟨hS4, hS5⟩⟩, hS6⟩ := hSw; go_simp) ?_
            try simp only [List.setIfInBounds_toArray, List.set_cons_zero, List.set_cons_succ]
            refine drawn_take 8 52 (.slice (some ad) H.length c) rfl rfl (by kernel_rfl) (by kernel_rfl) (by kernel_rfl) (by kernel_rfl) (fun _ _ _ h => h) (by rfl) (by assumption) (by intro w hSw; obtain ⟨⟨hS1, ⟨hS2, hS3⟩, ⟨hS4, hS5⟩⟩, hS6⟩ := hSw; go_simp) ?_
            try simp only [List.setIfInBounds_toArray, List.set_cons_zero, List.set_cons_succ]
            refine drawn_take 9 53 (.int .i64 (a : Int)) rfl rfl (by kernel_rfl) (by kernel_rfl) (by kernel_rfl) (by kernel_rfl) (fun _ _ _ h => h) (by rfl) (by assumption) (by intro w hSw; obtain ⟨⟨hS1, ⟨hS2, hS3⟩, ⟨hS4, hS5⟩⟩, hS6⟩ := hSw; go_simp) ?_
            try simp only [List.setIfInBounds_toArray, List.set_cons_zero, List.set_cons_succ]
            refine drawn_take 10 54 (.pointer (some (ad.add (a * 2)))) rfl rfl (by kernel_rfl) (by kernel_rfl) (by kernel_rfl) (by kernel_rfl) (fun _ _ _ h => h) (by rfl) (by assumption) (by intro w hSw; obtain ⟨⟨hS1, ⟨hS2, hS3⟩, ⟨hS4, hS5⟩⟩, hS6⟩ := hSw; go_simp) ?_
            try simp only [List.setIfInBounds_toArray, List.set_cons_zero, List.set_cons_succ]
            refine drawn_take 11 55 (nv p) rfl rfl (by kernel_rfl) (by kernel_rfl) (by kernel_rfl) (by kernel_rfl) (fun _ _ _ h => h) (by rfl) (by assumption) (by intro w hSw; obtain ⟨⟨hS1, ⟨hS2, hS3⟩, ⟨hS4, hS5⟩⟩, hS6⟩ := hSw; go_simp) ?_
            try simp only [List.setIfInBounds_toArray, List.set_cons_zero, List.set_cons_succ]
            refine drawn_take 12 56 (.pointer (some (ad.add (a * 2)))) rfl rfl (by kernel_rfl) (by kernel_rfl) (by kernel_rfl) (by kernel_rfl) (fun _ _ _ h => h) (by rfl) (by assumption) (by intro w hSw; obtain ⟨⟨hS1, ⟨hS2, hS3⟩, ⟨hS4, hS5⟩⟩, hS6⟩ := hSw; go_simp) ?_
            try simp only [List.setIfInBounds_toArray, List.set_cons_zero, List.set_cons_succ]
            clear hS0
            refine drawn_any [13] (by kernel_rfl) (by simp) ?_
            refine drawn_late rfl (by kernel_rfl) (fun K hK => ?_) drawn_nil
            refine put_store (HO2.out.later (Turn.refl _ _).drew) a q (by omega) rfl rfl (by kernel_rfl) ?_
            intro w3 ho3 ht3
            have HO3 := Lib.hid ho3; have HT3 := Lib.hid ((HT2.out.drew).trans ht3 (fun _ _ e => e)); clear ho3 ht3
            refine hK.out _ _ _ ?_
            clear hK K
            try simp only [List.setIfInBounds_toArray, List.set_cons_zero, List.set_cons_succ]
            refine drawn_move 14 57 (.pointer (some (ad.add (k * 2)))) rfl rfl (by kernel_rfl) (by kernel_rfl) (by kernel_rfl) (by kernel_rfl) (fun _ _ _ h => h) (by rfl) (fun h => absurd h (by decide)) (by intro w; go_simp) ?_
            try simp only [List.setIfInBounds_toArray, List.set_cons_zero, List.set_cons_succ]
            refine drawn_last (z := 15) rfl (by kernel_rfl) (by kernel_rfl) (by kernel_rfl) (fun K hK => ?_)
            refine put_store HO3.out k p (by rw [List.length_set]; omega) rfl rfl (by kernel_rfl) ?_
            intro w4 ho4 ht4
            have HO4 := Lib.hid ho4; have HT4 := Lib.hid (HT3.out.trans ht4 (fun _ _ e => e)); clear ho4 ht4
            refine hK.out _ _ ?_
            clear hK K
            go_wp2
            go_roundw
            case rel => exact ⟨k, rfl, by omega, fall_step HPP.out HQQ.out (by omega) HKA.out (by omega) HP.out HU.out HRR.out HLS.out HO4.out HT4.out⟩
            case measure => simp [intOf]; omega
        | true =>
          rw [hr] at HAG
          have HLS : Hid (Least (at0 (0, 0) H') H'.length a (u + 1)) := least_right HUU.out HAG.out
          rw [← HVV.out] at HLS
          have HKA : Hid ((v - 1) / 2 = a) := by have := HUU.out; have := HVV.out; show _ = _; omega
          have h0k : 0 < v := by have := HVV.out; omega
          have hak : a < v := by have := HUU.out; have := HVV.out; omega
          clear HSK HAH HAG HTN hr
          obtain ⟨k, hk⟩ : ∃ k, k = v := ⟨_, rfl⟩
          subst hk
          -- from the test of the child at place k on, in world wx
          have hkm : ((k : Nat) : Int) < H.length := by omega
          have ham2 : (a : Int) < H.length := by omega
          obtain ⟨p, hp⟩ : ∃ p, H'[a]? = some p := ⟨_, List.getElem?_eq_getElem (by omega)⟩
          obtain ⟨q, hq⟩ : ∃ q, H'[k]? = some q := ⟨_, List.getElem?_eq_getElem (by omega)⟩
          have HSK : Hid (∀ W, Turn (fun _ => False) wx W → (W.cell? ⟨gp, 0, none⟩ = some lessV ∧ (W.cell? (ad.add (k * 2)) = some (.int .i64 q.1) ∧ W.cell? ⟨(ad.add (k * 2)).block, (ad.add (k * 2)).off + 1, none⟩ = some (.int .u64 (q.2 : Int))) ∧ (W.cell? (ad.add (a * 2)) = some (.int .i64 p.1) ∧ W.cell? ⟨(ad.add (a * 2)).block, (ad.add (a * 2)).off + 1, none⟩ = some (.int .u64 (p.2 : Int)))) ∧ Turn (fun _ => False) wx W) :=
            fun W ht => ⟨⟨HGP.out W (HTX.out.trans ht (fun _ _ f => f.elim)), en_at HOX.out.rd hq ht, en_at HOX.out.rd hp ht⟩, ht⟩
          have HAH := Lib.hid (ahead_any q p gp)
          have HPP := Lib.hid hp; have HQQ := Lib.hid hq
          clear hp hq
          go_wp2_with fail
          go_region_held3 (fun W => (W.cell? ⟨gp, 0, none⟩ = some lessV ∧ (W.cell? (ad.add (k * 2)) = some (.int .i64 q.1) ∧ W.cell? ⟨(ad.add (k * 2)).block, (ad.add (k * 2)).off + 1, none⟩ = some (.int .u64 (q.2 : Int))) ∧ (W.cell? (ad.add (a * 2)) = some (.int .i64 p.1) ∧ W.cell? ⟨(ad.add (a * 2)).block, (ad.add (a * 2)).off + 1, none⟩ = some (.int .u64 (p.2 : Int)))) ∧ Turn (fun _ => False) wx W)
            (first | exact HSK.out _ HTN.out | exact HSK.out _ (Turn.refl _ wx).drew | fail)
            (first
              | (go_at_call 34; refine (HAH.out _ (HSK.out _ (Turn.refl _ wx).drew).1.1).mono ?_; rintro e w2 ⟨rfl, ht⟩; have HTN := Lib.hid ((Turn.refl (fun _ => False) wx).drew.trans ht (fun _ _ f => f)); clear ht)
              | fail)
          have HO2 := Lib.hid (HOX.out.later HTN.out)
          have HT2 := Lib.hid (HTX.out.trans HTN.out (fun _ _ f => f.elim))
          cases hr : bef ltN q p with
          | false =>
            have HRR := Lib.hid hr; clear hr
            go_wp2_with fail
            go_end0
            exact ⟨⟨_, rfl⟩, H', HP.out, HU.out.done (fall_done HPP.out HQQ.out HRR.out HLS.out), HO2.out, HT2.out⟩
          | true =>
            have HRR := Lib.hid hr; clear hr
            go_wp2_with fail
            refine drawn_region (fun W => (W.cell? ⟨gp, 0, none⟩ = some lessV ∧ (W.cell? (ad.add (k * 2)) = some (.int .i64 q.1) ∧ W.cell? ⟨(ad.add (k * 2)).block, (ad.add (k * 2)).off + 1, none⟩ = some (.int .u64 (q.2 : Int))) ∧ (W.cell? (ad.add (a * 2)) = some (.int .i64 p.1) ∧ W.cell? ⟨(ad.add (a * 2)).block, (ad.add (a * 2)).off + 1, none⟩ = some (.int .u64 (p.2 : Int)))) ∧ Turn (fun _ => False) wx W) [13, 15] (by kernel_rfl) ?_
            have hS0 := HSK.out _ HTN.out.drew
            refine drawn_take 0 44 (.slice (some ad) H.length c) rfl rfl (by kernel_rfl) (by kernel_rfl) (by kernel_rfl) (by kernel_rfl) (fun _ _ _ h => h) (by rfl) (by assumption) (by intro w hSw; obtain ⟨⟨hS1, ⟨hS2, hS3⟩, ⟨hS4, hS5⟩⟩, hS6⟩ := hSw; go_simp) ?_
            try simp only [List.setIfInBounds_toArray, List.set_cons_zero, List.set_cons_succ]
            refine drawn_take 1 45 (.int .i64 (a : Int)) rfl rfl (by kernel_rfl) (by kernel_rfl) (by kernel_rfl) (by kernel_rfl) (fun _ _ _ h => h) (by rfl) (by assumption) (by intro w hSw; obtain ⟨⟨hS1, ⟨hS2, hS3⟩, ⟨hS4, hS5⟩⟩, hS6⟩ := hSw; go_simp) ?_
            try simp only [List.setIfInBounds_toArray, List.set_cons_zero, List.set_cons_succ]
            refine drawn_move 2 46 (.slice (some ad) H.length c) rfl rfl (by kernel_rfl) (by kernel_rfl) (by kernel_rfl) (by kernel_rfl) (fun _ _ _ h => h) (by rfl) (fun _ => by assumption) (by intro w; go_simp) ?_
            try simp only [List.setIfInBounds_toArray, List.set_cons_zero, List.set_cons_succ]
            refine drawn_move 3 47 (.int .i64 (k : Int)) rfl rfl (by kernel_rfl) (by kernel_rfl) (by kernel_rfl) (by kernel_rfl) (fun _ _ _ h => h) (by rfl) (fun _ => by assumption) (by intro w; go_simp) ?_
            try simp only [List.setIfInBounds_toArray, List.set_cons_zero, List.set_cons_succ]
            refine drawn_take 4 48 (.slice (some ad) H.length c) rfl rfl (by kernel_rfl) (by kernel_rfl) (by kernel_rfl) (by kernel_rfl) (fun _ _ _ h => h) (by rfl) (by assumption) (by intro w hSw; obtain ⟨⟨hS1, ⟨hS2, hS3⟩, ⟨hS4, hS5⟩⟩, hS6⟩ := hSw; go_simp) ?_
            try simp only [List.setIfInBounds_toArray, List.set_cons_zero, List.set_cons_succ]
            refine drawn_take 5 49 (.int .i64 (k : Int)) rfl rfl (by kernel_rfl) (by kernel_rfl) (by kernel_rfl) (by kernel_rfl) (fun _ _ _ h => h) (by rfl) (by assumption) (by intro w hSw; obtain ⟨⟨hS1, ⟨hS2, hS3⟩, ⟨hS4, hS5⟩⟩, hS6⟩ := hSw; go_simp) ?_
            try simp only [List.setIfInBounds_toArray, List.set_cons_zero, List.set_cons_succ]
            refine drawn_take 6 50 (.pointer (some (ad.add (k * 2)))) rfl rfl (by kernel_rfl) (by kernel_rfl) (by kernel_rfl) (by kernel_rfl) (fun _ _ _ h => h) (by rfl) (by assumption) (by intro w hSw; obtain ⟨⟨hS1, ⟨hS2, hS3⟩, ⟨hS4, hS5⟩⟩, hS6⟩ := hSw; go_simp) ?_
            try simp only [List.setIfInBounds_toArray, List.set_cons_zero, List.set_cons_succ]
            refine drawn_take 7 51 (nv q) rfl rfl (by kernel_rfl) (by kernel_rfl) (by kernel_rfl) (by kernel_rfl) (fun _ _ _ h => h) (by rfl) (by assumption) (by intro w hSw; obtain ⟨⟨hS1, ⟨hS2, hS3⟩, ⟨hS4, hS5⟩⟩, hS6⟩ := hSw; go_simp) ?_
            try simp only [List.setIfInBounds_toArray, List.set_cons_zero, List.set_cons_succ]
            refine drawn_take 8 52 (.slice (some ad) H.length c) rfl rfl (by kernel_rfl) (by kernel_rfl) (by kernel_rfl) (by kernel_rfl) (fun _ _ _ h => h) (by rfl) (by assumption) (by intro w hSw; obtain ⟨⟨hS1, ⟨hS2, hS3⟩, ⟨hS4, hS5⟩⟩, hS6⟩ := hSw; go_simp) ?_
            try simp only [List.setIfInBounds_toArray, List.set_cons_zero, List.set_cons_succ]
            refine drawn_take 9 53 (.int .i64 (a : Int)) rfl rfl (by kernel_rfl) (by kernel_rfl) (by kernel_rfl) (by kernel_rfl) (fun _ _ _ h => h) (by rfl) (by assumption) (by intro w hSw; obtain ⟨⟨hS1, ⟨hS2, hS3⟩, ⟨hS4, hS5⟩⟩, hS6⟩ := hSw; go_simp) ?_
            try simp only [List.setIfInBounds_toArray, List.set_cons_zero, List.set_cons_succ]
            refine drawn_take 10 54 (.pointer (some (ad.add (a * 2)))) rfl rfl (by kernel_rfl) (by kernel_rfl) (by kernel_rfl) (by kernel_rfl) (fun _ _ _ h => h) (by rfl) (by assumption) (by intro w hSw; obtain ⟨⟨hS1, ⟨hS2, hS3⟩, ⟨hS4, hS5⟩⟩, hS6⟩ := hSw; go_simp) ?_
            try simp only [List.setIfInBounds_toArray, List.set_cons_zero, List.set_cons_succ]
            refine drawn_take 11 55 (nv p) rfl rfl (by kernel_rfl) (by kernel_rfl) (by kernel_rfl) (by kernel_rfl) (fun _ _ _ h => h) (by rfl) (by assumption) (by intro w hSw; obtain ⟨⟨hS1, ⟨hS2, hS3⟩, ⟨hS4, hS5⟩⟩, hS6⟩ := hSw; go_simp) ?_
            try simp only [List.setIfInBounds_toArray, List.set_cons_zero, List.set_cons_succ]
            refine drawn_take 12 56 (.pointer (some (ad.add (a * 2)))) rfl rfl (by kernel_rfl) (by kernel_rfl) (by kernel_rfl) (by kernel_rfl) (fun _ _ _ h => h) (by rfl) (by assumption) (by intro w hSw; obtain ⟨⟨hS1, ⟨hS2, hS3⟩, ⟨hS4, hS5⟩⟩, hS6⟩ := hSw; go_simp) ?_
            try simp only [List.setIfInBounds_toArray, List.set_cons_zero, List.set_cons_succ]
            clear hS0
            refine drawn_any [13] (by kernel_rfl) (by simp) ?_
            refine drawn_late rfl (by kernel_rfl) (fun K hK => ?_) drawn_nil
            refine put_store (HO2.out.later (Turn.refl _ _).drew) a q (by omega) rfl rfl (by kernel_rfl) ?_
            intro w3 ho3 ht3
            have HO3 := Lib.hid ho3; have HT3 := Lib.hid ((HT2.out.drew).trans ht3 (fun _ _ e => e)); clear ho3 ht3
            refine hK.out _ _ _ ?_
            clear hK K
            try simp only [List.setIfInBounds_toArray, List.set_cons_zero, List.set_cons_succ]
            refine drawn_move 14 57 (.pointer (some (ad.add (k * 2)))) rfl rfl (by kernel_rfl) (by kernel_rfl) (by kernel_rfl) (by kernel_rfl) (fun _ _ _ h => h) (by rfl) (fun h => absurd h (by decide)) (by intro w; go_simp) ?_
            try simp only [List.setIfInBounds_toArray, List.set_cons_zero, List.set_cons_succ]
            refine drawn_last (z := 15) rfl (by kernel_rfl) (by kernel_rfl) (by kernel_rfl) (fun K hK => ?_)
            refine put_store HO3.out k p (by rw [List.length_set]; omega) rfl rfl (by kernel_rfl) ?_
            intro w4 ho4 ht4
            have HO4 := Lib.hid ho4; have HT4 := Lib.hid (HT3.out.trans ht4 (fun _ _ e => e)); clear ho4 ht4
            refine hK.out _ _ ?_
            clear hK K
            go_wp2
            go_roundw
            case rel => exact ⟨k, rfl, by omega, fall_step HPP.out HQQ.out (by omega) HKA.out (by omega) HP.out HU.out HRR.out HLS.out HO4.out HT4.out⟩
            case measure => simp [intOf]; omega
      · have hvl : decide ((v : Int) < H.length) = false := by simp; omega
        have HLS : Hid (Least (at0 (0, 0) H') H'.length a u) := least_one hu (by omega)
        have HKA : Hid ((u - 1) / 2 = a) := by show _ = _; omega
        have h0k : 0 < u := by omega
        have hak : a < u := by omega
        clear hu hv
        go_wp2_with fail
        go_quiet (fail)
        obtain ⟨wx, hwx⟩ : ∃ wx, wx = wr.drewN nq := ⟨_, rfl⟩
        have HOX : Hid (OwE EN 69 wx (.slice (some ad) H.length c) H') := by rw [hwx]; exact HO.out.later ((Turn.refl _ wr).drewN _)
        have HTX : Hid (Turn (fun k => k = ad.block) w wx) := by rw [hwx]; exact HT.out.drewN _
        rw [← hwx]
        clear hwx
        obtain ⟨k, hk⟩ : ∃ k, k = u := ⟨_, rfl⟩
        subst hk
        -- from the test of the child at place k on, in world wx
        have hkm : ((k : Nat) : Int) < H.length := by omega
        have ham2 : (a : Int) < H.length := by omega
        obtain ⟨p, hp⟩ : ∃ p, H'[a]? = some p := ⟨_, List.getElem?_eq_getElem (by omega)⟩
        obtain ⟨q, hq⟩ : ∃ q, H'[k]? = some q := ⟨_, List.getElem?_eq_getElem (by omega)⟩
        have HSK : Hid (∀ W, Turn (fun _ => False) wx W → (W.cell? ⟨gp, 0, none⟩ = some lessV ∧ (W.cell? (ad.add (k * 2)) = some (.int .i64 q.1) ∧ W.cell? ⟨(ad.add (k * 2)).block, (ad.add (k * 2)).off + 1, none⟩ = some (.int .u64 (q.2 : Int))) ∧ (W.cell? (ad.add (a * 2)) = some (.int .i64 p.1) ∧ W.cell? ⟨(ad.add (a * 2)).block, (ad.add (a * 2)).off + 1, none⟩ = some (.int .u64 (p.2 : Int)))) ∧ Turn (fun _ => False) wx W) :=
          fun W ht => ⟨⟨HGP.out W (HTX.out.trans ht (fun _ _ f => f.elim)), en_at HOX.out.rd hq ht, en_at HOX.out.rd hp ht⟩, ht⟩
        have HAH := Lib.hid (ahead_any q p gp)
        have HPP := Lib.hid hp; have HQQ := Lib.hid hq
        clear hp hq
        go_wp2_with fail
        go_region_held3 (fun W => (W.cell? ⟨gp, 0, none⟩ = some lessV ∧ (W.cell? (ad.add (k * 2)) = some (.int .i64 q.1) ∧ W.cell? ⟨(ad.add (k * 2)).block, (ad.add (k * 2)).off + 1, none⟩ = some (.int .u64 (q.2 : Int))) ∧ (W.cell? (ad.add (a * 2)) = some (.int .i64 p.1) ∧ W.cell? ⟨(ad.add (a * 2)).block, (ad.add (a * 2)).off + 1, none⟩ = some (.int .u64 (p.2 : Int)))) ∧ Turn (fun _ => False) wx W)
          (first | exact HSK.out _ HTN.out | exact HSK.out _ (Turn.refl _ wx).drew | fail)
          (first
            | (go_at_call 34; refine (HAH.out _ (HSK.out _ (Turn.refl _ wx).drew).1.1).mono ?_; rintro e w2 ⟨rfl, ht⟩; have HTN := Lib.hid ((Turn.refl (fun _ => False) wx).drew.trans ht (fun _ _ f => f)); clear ht)
            | fail)
        have HO2 := Lib.hid (HOX.out.later HTN.out)
        have HT2 := Lib.hid (HTX.out.trans HTN.out (fun _ _ f => f.elim))
        cases hr : bef ltN q p with
        | false =>
          have HRR := Lib.hid hr; clear hr
          go_wp2_with fail
          go_end0
          exact ⟨⟨_, rfl⟩, H', HP.out, HU.out.done (fall_done HPP.out HQQ.out HRR.out HLS.out), HO2.out, HT2.out⟩
        | true =>
          have HRR := Lib.hid hr; clear hr
          go_wp2_with fail
          refine drawn_region (fun W => (W.cell? ⟨gp, 0, none⟩ = some lessV ∧ (W.cell? (ad.add (k * 2)) = some (.int .i64 q.1) ∧ W.cell? ⟨(ad.add (k * 2)).block, (ad.add (k * 2)).off + 1, none⟩ = some (.int .u64 (q.2 : Int))) ∧ (W.cell? (ad.add (a * 2)) = some (.int .i64 p.1) ∧ W.cell? ⟨(ad.add (a * 2)).block, (ad.add (a * 2)).off + 1, none⟩ = some (.int .u64 (p.2 : Int)))) ∧ Turn (fun _ => False) wx W) [13, 15] (by kernel_rfl) ?_
          have hS0 := HSK.out _ HTN.out.drew
          refine drawn_take 0 44 (.slice (some ad) H.length c) rfl rfl (by kernel_rfl) (by kernel_rfl) (by kernel_rfl) (by kernel_rfl) (fun _ _ _ h => h) (by rfl) (by assumption) (by intro w hSw; obtain ⟨⟨hS1, ⟨hS2, hS3⟩, ⟨hS4, hS5⟩⟩, hS6⟩ := hSw; go_simp) ?_
          try simp only [List.setIfInBounds_toArray, List.set_cons_zero, List.set_cons_succ]
          refine drawn_take 1 45 (.int .i64 (a : Int)) rfl rfl (by kernel_rfl) (by kernel_rfl) (by kernel_rfl) (by kernel_rfl) (fun _ _ _ h => h) (by rfl) (by assumption) (by intro w hSw; obtain ⟨⟨hS1, ⟨hS2, hS3⟩, ⟨hS4, hS5⟩⟩, hS6⟩ := hSw; go_simp) ?_
          try simp only [List.setIfInBounds_toArray, List.set_cons_zero, List.set_cons_succ]
          refine drawn_move 2 46 (.slice (some ad) H.length c) rfl rfl (by kernel_rfl) (by kernel_rfl) (by kernel_rfl) (by kernel_rfl) (fun _ _ _ h => h) (by rfl) (fun _ => by assumption) (by intro w; go_simp) ?_
          try simp only [List.setIfInBounds_toArray, List.set_cons_zero, List.set_cons_succ]
          refine drawn_move 3 47 (.int .i64 (k : Int)) rfl rfl (by kernel_rfl) (by kernel_rfl) (by kernel_rfl) (by kernel_rfl) (fun _ _ _ h => h) (by rfl) (fun _ => by assumption) (by intro w; go_simp) ?_
          try simp only [List.setIfInBounds_toArray, List.set_cons_zero, List.set_cons_succ]
          refine drawn_take 4 48 (.slice (some ad) H.length c) rfl rfl (by kernel_rfl) (by kernel_rfl) (by kernel_rfl) (by kernel_rfl) (fun _ _ _ h => h) (by rfl) (by assumption) (by intro w hSw; obtain ⟨⟨hS1, ⟨hS2, hS3⟩, ⟨hS4, hS5⟩⟩, hS6⟩ := hSw; go_simp) ?_
          try simp only [List.setIfInBounds_toArray, List.set_cons_zero, List.set_cons_succ]
          refine drawn_take 5 49 (.int .i64 (k : Int)) rfl rfl (by kernel_rfl) (by kernel_rfl) (by kernel_rfl) (by kernel_rfl) (fun _ _ _ h => h) (by rfl) (by assumption) (by intro w hSw; obtain ⟨⟨hS1, ⟨hS2, hS3⟩, ⟨hS4, hS5⟩⟩, hS6⟩ := hSw; go_simp) ?_
          try simp only [List.setIfInBounds_toArray, List.set_cons_zero, List.set_cons_succ]
          refine drawn_take 6 50 (.pointer (some (ad.add (k * 2)))) rfl rfl (by kernel_rfl) (by kernel_rfl) (by kernel_rfl) (by kernel_rfl) (fun _ _ _ h => h) (by rfl) (by assumption) (by intro w hSw; obtain ⟨⟨hS1, ⟨hS2, hS3⟩, ⟨hS4, hS5⟩⟩, hS6⟩ := hSw; go_simp) ?_
          try simp only [List.setIfInBounds_toArray, List.set_cons_zero, List.set_cons_succ]
          refine drawn_take 7 51 (nv q) rfl rfl (by kernel_rfl) (by kernel_rfl) (by kernel_rfl) (by kernel_rfl) (fun _ _ _ h => h) (by rfl) (by assumption) (by intro w hSw; obtain ⟨⟨hS1, ⟨hS2, hS3⟩, ⟨hS4, hS5⟩⟩, hS6⟩ := hSw; go_simp) ?_
          try simp only [List.setIfInBounds_toArray, List.set_cons_zero, List.set_cons_succ]
          refine drawn_take 8 52 (.slice (some ad) H.length c) rfl rfl (by kernel_rfl) (by kernel_rfl) (by kernel_rfl) (by kernel_rfl) (fun _ _ _ h => h) (by rfl) (by assumption) (by intro w hSw; obtain ⟨⟨hS1, ⟨hS2, hS3⟩, ⟨hS4, hS5⟩⟩, hS6⟩ := hSw; go_simp) ?_
          try simp only [List.setIfInBounds_toArray, List.set_cons_zero, List.set_cons_succ]
          refine drawn_take 9 53 (.int .i64 (a : Int)) rfl rfl (by kernel_rfl) (by kernel_rfl) (by kernel_rfl) (by kernel_rfl) (fun _ _ _ h => h) (by rfl) (by assumption) (by intro w hSw; obtain ⟨⟨hS1, ⟨hS2, hS3⟩, ⟨hS4, hS5⟩⟩, hS6⟩ := hSw; go_simp) ?_
          try simp only [List.setIfInBounds_toArray, List.set_cons_zero, List.set_cons_succ]
          refine drawn_take 10 54 (.pointer (some (ad.add (a * 2)))) rfl rfl (by kernel_rfl) (by kernel_rfl) (by kernel_rfl) (by kernel_rfl) (fun _ _ _ h => h) (by rfl) (by assumption) (by intro w hSw; obtain ⟨⟨hS1, ⟨hS2, hS3⟩, ⟨hS4, hS5⟩⟩, hS6⟩ := hSw; go_simp) ?_
          try simp only [List.setIfInBounds_toArray, List.set_cons_zero, List.set_cons_succ]
          refine drawn_take 11 55 (nv p) rfl rfl (by kernel_rfl) (by kernel_rfl) (by kernel_rfl) (by kernel_rfl) (fun _ _ _ h => h) (by rfl) (by assumption) (by intro w hSw; obtain ⟨⟨hS1, ⟨hS2, hS3⟩, ⟨hS4, hS5⟩⟩, hS6⟩ := hSw; go_simp) ?_
          try simp only [List.setIfInBounds_toArray, List.set_cons_zero, List.set_cons_succ]
          refine drawn_take 12 56 (.pointer (some (ad.add (a * 2)))) rfl rfl (by kernel_rfl) (by kernel_rfl) (by kernel_rfl) (by kernel_rfl) (fun _ _ _ h => h) (by rfl) (by assumption) (by intro w hSw; obtain ⟨⟨hS1, ⟨hS2, hS3⟩, ⟨hS4, hS5⟩⟩, hS6⟩ := hSw; go_simp) ?_
          try simp only [List.setIfInBounds_toArray, List.set_cons_zero, List.set_cons_succ]
          clear hS0
          refine drawn_any [13] (by kernel_rfl) (by simp) ?_
          refine drawn_late rfl (by kernel_rfl) (fun K hK => ?_) drawn_nil
          refine put_store (HO2.out.later (Turn.refl _ _).drew) a q (by omega) rfl rfl (by kernel_rfl) ?_
          intro w3 ho3 ht3
          have HO3 := Lib.hid ho3; have HT3 := Lib.hid ((HT2.out.drew).trans ht3 (fun _ _ e => e)); clear ho3 ht3
          refine hK.out _ _ _ ?_
          clear hK K
          try simp only [List.setIfInBounds_toArray, List.set_cons_zero, List.set_cons_succ]
          refine drawn_move 14 57 (.pointer (some (ad.add (k * 2)))) rfl rfl (by kernel_rfl) (by kernel_rfl) (by kernel_rfl) (by kernel_rfl) (fun _ _ _ h => h) (by rfl) (fun h => absurd h (by decide)) (by intro w; go_simp) ?_
          try simp only [List.setIfInBounds_toArray, List.set_cons_zero, List.set_cons_succ]
          refine drawn_last (z := 15) rfl (by kernel_rfl) (by kernel_rfl) (by kernel_rfl) (fun K hK => ?_)
          refine put_store HO3.out k p (by rw [List.length_set]; omega) rfl rfl (by kernel_rfl) ?_
          intro w4 ho4 ht4
          have HO4 := Lib.hid ho4; have HT4 := Lib.hid (HT3.out.trans ht4 (fun _ _ e => e)); clear ho4 ht4
          refine hK.out _ _ ?_
          clear hK K
          go_wp2
          go_roundw
          case rel => exact ⟨k, rfl, by omega, fall_step HPP.out HQQ.out (by omega) HKA.out (by omega) HP.out HU.out HRR.out HLS.out HO4.out HT4.out⟩
          case measure => simp [intOf]; omega
    · have hui : (H.length : Int) ≤ (u : Int) := by omega
      have HUU := Lib.hid hu
      clear hu
      go_wp2_with fail
      go_end0
      exact ⟨⟨_, rfl⟩, H', HP.out, HU.out.done (fun j h0 hj h1 => by have := HUU.out; omega), HO.out, HT.out⟩

end Go.Proofs.Ythhlppdphcjlnaa.pli
