
/-
  The program's pile (things: ossuaryref07.Item): a row of items in which two change places; what is last goes up.
-/
import Derived.Test.YthhlppdphcjlnaaPaw
import Derived.Test.YthhlppdphcjlnaaEr
namespace Go.Proofs.Ythhlppdphcjlnaa.plw
open Go.RowKit Go.ChangeShapes Go.WideShapes Go.Deep

/-- An item of a row, in memory. -/
theorem en_at {w : World} {ad : Addr} {n c : Nat} {L : List ((Int × List UInt8) × Nat)} (h : RdE EN w (.slice (some ad) n c) L) {j : Nat} {p : (Int × List UInt8) × Nat} (hj : L[j]? = some p) {W : World} (ht : Turn (fun _ => False) w W) :
    W.cell? (ad.add (j * 3)) = some (.int .i64 p.1.1) ∧ W.cell? ⟨(ad.add (j * 3)).block, (ad.add (j * 3)).off + 2, none⟩ = some (.int .u64 (p.2 : Int)) ∧ W.cell? ⟨(ad.add (j * 3)).block, (ad.add (j * 3)).off + 1, none⟩ = some (.string ⟨p.1.2.toArray⟩) := by
  obtain ⟨ad', hA, hc⟩ := (h.later ht).cells hj
  cases hA
  have e : ∀ i, (⟨(ad.add (j * 3)).block, (ad.add (j * 3)).off + i, none⟩ : Addr).add 0 = ⟨(ad.add (j * 3)).block, (ad.add (j * 3)).off + i, none⟩ := fun i => rfl
  refine ⟨hc 0 _ rfl, ?_, ?_⟩
  · rw [show (⟨(ad.add (j * 3)).block, (ad.add (j * 3)).off + 2, none⟩ : Addr) = (ad.add (j * 3)).add 2 from rfl, eadd_add]
    exact hc 2 _ rfl
  · rw [show (⟨(ad.add (j * 3)).block, (ad.add (j * 3)).off + 1, none⟩ : Addr) = (ad.add (j * 3)).add 1 from rfl, eadd_add]
    exact hc 1 _ rfl

/-- Behind a climb, or a fall. -/
def Heaped (ad : Addr) (c : Nat) (H : List ((Int × List UInt8) × Nat)) (w : World) (e : Ending) (w' : World) : Prop :=
  (∃ v, e = .returned v) ∧ ∃ H', H'.Perm H ∧ Heap (bef ltW) (at0 ((0, []), 0) H') H'.length ∧ OwE EN 61 w' (.slice (some ad) H.length c) H' ∧ Turn (fun k => k = ad.block) w w'
/-- A climb, under way. -/
def Climb (ad : Addr) (c : Nat) (H : List ((Int × List UInt8) × Nat)) (w : World) (a : Nat) (wr : World) : Prop :=
  ∃ H', H'.Perm H ∧ UpX (bef ltW) (at0 ((0, []), 0) H') H'.length a ∧ OwE EN 61 wr (.slice (some ad) H.length c) H' ∧ Turn (fun k => k = ad.block) w wr

theorem climb_step {ad : Addr} {c : Nat} {H H' : List ((Int × List UInt8) × Nat)} {w w4 : World} {a b : Nat} {p q : (Int × List UInt8) × Nat} (hp : H'[a]? = some p) (hq : H'[b]? = some q) (hb : b = (a - 1) / 2) (ha : 0 < a) (hP : H'.Perm H) (hU : UpX (bef ltW) (at0 ((0, []), 0) H') H'.length a)
    (hag : bef ltW (at0 ((0, []), 0) H' a) (at0 ((0, []), 0) H' ((a - 1) / 2)) = true) (ho : OwE EN 61 w4 (.slice (some ad) H.length c) ((H'.set a q).set b p)) (ht : Turn (fun k => k = ad.block) w w4) : Climb ad c H w b w4 := by
  have h1 : a < H'.length := hU.in'
  have h2 : b < H'.length := by omega
  have e : (H'.set a q).set b p = swapL ((0, []), 0) H' a b := by unfold swapL; rw [at0_some hp, at0_some hq]
  rw [e] at ho
  refine ⟨_, (swapL_perm (d := ((0, []), 0)) h1 h2).trans hP, ?_, ho, ht⟩
  rw [swapL_at h1 h2, swapL_len, hb]
  exact hU.step (weak_bef weak_lt) ha hag

set_option maxRecDepth 100000 in
set_option maxHeartbeats 2000000 in
theorem rise_any (ad : Addr) (gp c : Nat) (H : List ((Int × List UInt8) × Nat)) (w : World) (hg : w.cell? ⟨gp, 0, none⟩ = some lessV) (hne : gp ≠ ad.block) (hr : OwE EN 61 w (.slice (some ad) H.length c) H) (h0 : 0 < H.length) (hlen : H.length ≤ 1000000)
    (hu : UpX (bef ltW) (at0 ((0, []), 0) H) H.length (H.length - 1)) : Calls Try.prog 28 #[.slice (some ad) H.length c, aheadV gp] w fun e w' => Heaped ad c H w e w' := by
  have HR0 : Hid (Climb ad c H w (H.length - 1) w) := ⟨H, List.Perm.refl _, hu, hr, Turn.refl _ _⟩
  have HGP : Hid (∀ W, Turn (fun k => k = ad.block) w W → W.cell? ⟨gp, 0, none⟩ = some lessV) := fun W ht => by rw [ht.cell (World.block_lt_of_cell? _ _ hg) hne]; exact hg
  have hn1 : IntKind.i64.wrap ((H.length : Int) - 1) = ((H.length - 1 : Nat) : Int) := by rw [IntWalk.i64_in _ (by omega)]; omega
  clear hr hu hg
  go_enter Try.func28, Try.ntmps28
  go_wp2_with fail
  go_loopw [4] (fun x4 wr => ∃ a : Nat, x4 = .int .i64 (a : Int) ∧ Climb ad c H w a wr) (fun x4 _ => (intOf x4).toNat)
  case atStart => exact ⟨_, rfl, HR0.out⟩
  case round =>
    obtain ⟨a, rfl, H', hp, hup, ho, ht⟩ := hrel
    have HP := Lib.hid hp; have HU := Lib.hid hup; have HO := Lib.hid ho; have HT := Lib.hid ht
    have hlen' : H'.length = H.length := hp.length_eq
    have hin : a < H'.length := hup.in'
    clear hp hup ho ht
    by_cases ha : 0 < a
    · have ha1 : IntKind.i64.wrap ((a : Int) - 1) = ((a - 1 : Nat) : Int) := by rw [IntWalk.i64_in _ (by omega)]; omega
      obtain ⟨b, hb⟩ : ∃ b, b = (a - 1) / 2 := ⟨_, rfl⟩
      have hov : ((a - 1 : Nat) : Int) / 2 = (b : Int) := by omega
      have hba : b < a := by omega
      obtain ⟨p, hp⟩ : ∃ p, H'[a]? = some p := ⟨_, List.getElem?_eq_getElem hin⟩
      obtain ⟨q, hq⟩ : ∃ q, H'[b]? = some q := ⟨_, List.getElem?_eq_getElem (by omega)⟩
      have HSK : Hid (∀ W, Turn (fun _ => False) wr W → (W.cell? ⟨gp, 0, none⟩ = some lessV ∧ (W.cell? (ad.add (a * 3)) = some (.int .i64 p.1.1) ∧ W.cell? ⟨(ad.add (a * 3)).block, (ad.add (a * 3)).off + 2, none⟩ = some (.int .u64 (p.2 : Int)) ∧ W.cell? ⟨(ad.add (a * 3)).block, (ad.add (a * 3)).off + 1, none⟩ = some (.string ⟨p.1.2.toArray⟩)) ∧ (W.cell? (ad.add (b * 3)) = some (.int .i64 q.1.1) ∧ W.cell? ⟨(ad.add (b * 3)).block, (ad.add (b * 3)).off + 2, none⟩ = some (.int .u64 (q.2 : Int)) ∧ W.cell? ⟨(ad.add (b * 3)).block, (ad.add (b * 3)).off + 1, none⟩ = some (.string ⟨q.1.2.toArray⟩))) ∧ Turn (fun _ => False) wr W) :=
        fun W ht => ⟨⟨HGP.out W (HT.out.trans ht (fun _ _ f => f.elim)), en_at HO.out.rd hp ht, en_at HO.out.rd hq ht⟩, ht⟩
      have HAH := Lib.hid (ahead_any p q gp)
      have ha2 : (a : Int) < H.length := by omega
      have hb2 : (b : Int) < H.length := by omega
      have HB := Lib.hid hb; have HPP := Lib.hid hp; have HQQ := Lib.hid hq
      clear hb hp hq
      go_wp2_with fail
      go_region_held3 (fun W => (W.cell? ⟨gp, 0, none⟩ = some lessV ∧ (W.cell? (ad.add (a * 3)) = some (.int .i64 p.1.1) ∧ W.cell? ⟨(ad.add (a * 3)).block, (ad.add (a * 3)).off + 2, none⟩ = some (.int .u64 (p.2 : Int)) ∧ W.cell? ⟨(ad.add (a * 3)).block, (ad.add (a * 3)).off + 1, none⟩ = some (.string ⟨p.1.2.toArray⟩)) ∧ (W.cell? (ad.add (b * 3)) = some (.int .i64 q.1.1) ∧ W.cell? ⟨(ad.add (b * 3)).block, (ad.add (b * 3)).off + 2, none⟩ = some (.int .u64 (q.2 : Int)) ∧ W.cell? ⟨(ad.add (b * 3)).block, (ad.add (b * 3)).off + 1, none⟩ = some (.string ⟨q.1.2.toArray⟩))) ∧ Turn (fun _ => False) wr W)
        (first | exact HSK.out _ HTN.out | exact HSK.out _ (Turn.refl _ wr).drew | fail)
        (first
          | (go_at_call 29; refine (HAH.out _ (HSK.out _ (Turn.refl _ wr).drew).1.1).mono ?_; rintro e w2 ⟨rfl, ht⟩; have HTN := Lib.hid ((Turn.refl (fun _ => False) wr).drew.trans ht (fun _ _ f => f)); clear ht)
          | fail)
      have HO2 := Lib.hid (HO.out.later HTN.out)
      have HT2 := Lib.hid (HT.out.trans HTN.out (fun _ _ f => f.elim))
      have hag : bef ltW (at0 ((0, []), 0) H' a) (at0 ((0, []), 0) H' ((a - 1) / 2)) = bef ltW p q := by rw [at0_some HPP.out, ← HB.out, at0_some HQQ.out]
      have HAG := Lib.hid hag
      clear hag
      cases hr : bef ltW p q with
      | false =>
        rw [hr] at HAG
        go_wp2_with fail
        go_end0
        exact ⟨⟨_, rfl⟩, H', HP.out, HU.out.done (.inr HAG.out), HO2.out, HT2.out⟩
      | true =>
        rw [hr] at HAG
        go_wp2_with fail
        refine drawn_region (fun W => (W.cell? ⟨gp, 0, none⟩ = some lessV ∧ (W.cell? (ad.add (a * 3)) = some (.int .i64 p.1.1) ∧ W.cell? ⟨(ad.add (a * 3)).block, (ad.add (a * 3)).off + 2, none⟩ = some (.int .u64 (p.2 : Int)) ∧ W.cell? ⟨(ad.add (a * 3)).block, (ad.add (a * 3)).off + 1, none⟩ = some (.string ⟨p.1.2.toArray⟩)) ∧ (W.cell? (ad.add (b * 3)) = some (.int .i64 q.1.1) ∧ W.cell? ⟨(ad.add (b * 3)).block, (ad.add (b * 3)).off + 2, none⟩ = some (.int .u64 (q.2 : Int)) ∧ W.cell? ⟨(ad.add (b * 3)).block, (ad.add (b * 3)).off + 1, none⟩ = some (.string ⟨q.1.2.toArray⟩))) ∧ Turn (fun _ => False) wr W) [13, 15] (by kernel_rfl) ?_
        have hS0 := HSK.out _ HTN.out.drew
        refine drawn_take 0 25 (.slice (some ad) H.length c) rfl rfl (by kernel_rfl) (by kernel_rfl) (by kernel_rfl) (by kernel_rfl) (fun _ _ _ h => h) (by rfl) (by assumption) (by intro w hSw; obtain ⟨⟨hS1, ⟨hS2, hS3, hS7⟩, ⟨hS4, hS5, hS8⟩⟩, hS6⟩ := hSw; go_simp) ?_
        try simp only [List.setIfInBounds_toArray, List.set_cons_zero, List.set_cons_succ]
        refine drawn_take 1 26 (.int .i64 (a : Int)) rfl rfl (by kernel_rfl) (by kernel_rfl) (by kernel_rfl) (by kernel_rfl) (fun _ _ _ h => h) (by rfl) (by assumption) (by intro w hSw; obtain ⟨⟨hS1, ⟨hS2, hS3, hS7⟩, ⟨hS4, hS5, hS8⟩⟩, hS6⟩ := hSw; go_simp) ?_
        try simp only [List.setIfInBounds_toArray, List.set_cons_zero, List.set_cons_succ]
        refine drawn_move 2 27 (.slice (some ad) H.length c) rfl rfl (by kernel_rfl) (by kernel_rfl) (by kernel_rfl) (by kernel_rfl) (fun _ _ _ h => h) (by rfl) (fun _ => by assumption) (by intro w; go_simp) ?_
        try simp only [List.setIfInBounds_toArray, List.set_cons_zero, List.set_cons_succ]
        refine drawn_move 3 28 (.int .i64 (b : Int)) rfl rfl (by kernel_rfl) (by kernel_rfl) (by kernel_rfl) (by kernel_rfl) (fun _ _ _ h => h) (by rfl) (fun _ => by assumption) (by intro w; go_simp) ?_
        try simp only [List.setIfInBounds_toArray, List.set_cons_zero, List.set_cons_succ]
        refine drawn_take 4 29 (.slice (some ad) H.length c) rfl rfl (by kernel_rfl) (by kernel_rfl) (by kernel_rfl) (by kernel_rfl) (fun _ _ _ h => h) (by rfl) (by assumption) (by intro w hSw; obtain ⟨⟨hS1, ⟨hS2, hS3, hS7⟩, ⟨hS4, hS5, hS8⟩⟩, hS6⟩ := hSw; go_simp) ?_
        try simp only [List.setIfInBounds_toArray, List.set_cons_zero, List.set_cons_succ]
        refine drawn_take 5 30 (.int .i64 (b : Int)) rfl rfl (by kernel_rfl) (by kernel_rfl) (by kernel_rfl) (by kernel_rfl) (fun _ _ _ h => h) (by rfl) (by assumption) (by intro w hSw; obtain ⟨⟨hS1, ⟨hS2, hS3, hS7⟩, ⟨hS4, hS5, hS8⟩⟩, hS6⟩ := hSw; go_simp) ?_
        try simp only [List.setIfInBounds_toArray, List.set_cons_zero, List.set_cons_succ]
        refine drawn_take 6 31 (.pointer (some (ad.add (b * 3)))) rfl rfl (by kernel_rfl) (by kernel_rfl) (by kernel_rfl) (by kernel_rfl) (fun _ _ _ h => h) (by rfl) (by assumption) (by intro w hSw; obtain ⟨⟨hS1, ⟨hS2, hS3, hS7⟩, ⟨hS4, hS5, hS8⟩⟩, hS6⟩ := hSw; go_simp) ?_
        try simp only [List.setIfInBounds_toArray, List.set_cons_zero, List.set_cons_succ]
        refine drawn_take 7 32 (nv q) rfl rfl (by kernel_rfl) (by kernel_rfl) (by kernel_rfl) (by kernel_rfl) (fun _ _ _ h => h) (by rfl) (by assumption) (by intro w hSw; obtain ⟨⟨hS1, ⟨hS2, hS3, hS7⟩, ⟨hS4, hS5, hS8⟩⟩, hS6⟩ := hSw; go_simp) ?_
        try simp only [List.setIfInBounds_toArray, List.set_cons_zero, List.set_cons_succ]
        refine drawn_take 8 33 (.slice (some ad) H.length c) rfl rfl (by kernel_rfl) (by kernel_rfl) (by kernel_rfl) (by kernel_rfl) (fun _ _ _ h => h) (by rfl) (by assumption) (by intro w hSw; obtain ⟨⟨hS1, ⟨hS2, hS3, hS7⟩, ⟨hS4, hS5, hS8⟩⟩, hS6⟩ := hSw; go_simp) ?_
        try simp only [List.setIfInBounds_toArray, List.set_cons_zero, List.set_cons_succ]
        refine drawn_take 9 34 (.int .i64 (a : Int)) rfl rfl (by kernel_rfl) (by kernel_rfl) (by kernel_rfl) (by kernel_rfl) (fun _ _ _ h => h) (by rfl) (by assumption) (by intro w hSw; obtain ⟨⟨hS1, ⟨hS2, hS3, hS7⟩, ⟨hS4, hS5, hS8⟩⟩, hS6⟩ := hSw; go_simp) ?_
        try simp only [List.setIfInBounds_toArray, List.set_cons_zero, List.set_cons_succ]
        refine drawn_take 10 35 (.pointer (some (ad.add (a * 3)))) rfl rfl (by kernel_rfl) (by kernel_rfl) (by kernel_rfl) (by kernel_rfl) (fun _ _ _ h => h) (by rfl) (by assumption) (by intro w hSw; obtain ⟨⟨hS1, ⟨hS2, hS3, hS7⟩, ⟨hS4, hS5, hS8⟩⟩, hS6⟩ := hSw; go_simp) ?_
        try simp only [List.setIfInBounds_toArray, List.set_cons_zero, List.set_cons_succ]
        refine drawn_take 11 36 (nv p) rfl rfl (by kernel_rfl) (by kernel_rfl) (by kernel_rfl) (by kernel_rfl) (fun _ _ _ h => h) (by rfl) (by assumption) (by intro w hSw; obtain ⟨⟨hS1, ⟨hS2, hS3, hS7⟩, ⟨hS4, hS5, hS8⟩⟩, hS6⟩ := hSw; go_simp) ?_
        try simp only [List.setIfInBounds_toArray, List.set_cons_zero, List.set_cons_succ]
        refine drawn_take 12 37 (.pointer (some (ad.add (a * 3)))) rfl rfl (by kernel_rfl) (by kernel_rfl) (by kernel_rfl) (by kernel_rfl) (fun _ _ _ h => h) (by rfl) (by assumption) (by intro w hSw; obtain ⟨⟨hS1, ⟨hS2, hS3, hS7⟩, ⟨hS4, hS5, hS8⟩⟩, hS6⟩ := hSw; go_simp) ?_
        try simp only [List.setIfInBounds_toArray, List.set_cons_zero, List.set_cons_succ]
        clear hS0
        refine drawn_any [13] (by kernel_rfl) (by simp) ?_
        refine drawn_late rfl (by kernel_rfl) (fun K hK => ?_) drawn_nil
        refine put_store (HO2.out.later (Turn.refl _ _).drew) a q hin rfl rfl (by kernel_rfl) ?_
        intro w3 ho3 ht3
        have HO3 := Lib.hid ho3; have HT3 := Lib.hid ((HT2.out.drew).trans ht3 (fun _ _ e => e)); clear ho3 ht3
        refine hK.out _ _ _ ?_
        clear hK K
        try simp only [Act.put, List.setIfInBounds_toArray, List.set_cons_zero, List.set_cons_succ]
        refine drawn_move 14 38 (.pointer (some (ad.add (b * 3)))) rfl rfl (by kernel_rfl) (by kernel_rfl) (by kernel_rfl) (by kernel_rfl) (fun _ _ _ h => h) (by rfl) (fun h => absurd h (by decide)) (by intro w; go_simp) ?_
        try simp only [List.setIfInBounds_toArray, List.set_cons_zero, List.set_cons_succ]
        refine drawn_last (z := 15) rfl (by kernel_rfl) (by kernel_rfl) (by kernel_rfl) (fun K hK => ?_)
        refine put_store HO3.out b p (by rw [List.length_set]; omega) rfl rfl (by kernel_rfl) ?_
        intro w4 ho4 ht4
        have HO4 := Lib.hid ho4; have HT4 := Lib.hid (HT3.out.trans ht4 (fun _ _ e => e)); clear ho4 ht4
        refine hK.out _ _ ?_
        clear hK K
        go_wp2
        go_roundw
        case rel => exact ⟨b, rfl, climb_step HPP.out HQQ.out HB.out ha HP.out HU.out HAG.out HO4.out HT4.out⟩
        case measure => simp [intOf]; omega
    · go_wp2_with fail
      go_end0
      exact ⟨⟨_, rfl⟩, H', HP.out, HU.out.done (.inl (by omega)), HO.out, HT.out⟩

end Go.Proofs.Ythhlppdphcjlnaa.plw
