/-
  Texts laid one behind the other: Af Ao Tr Ap Ak Ez Ah Ai.
-/
import Derived.Test.YticglepkbihldaaGreatJocan
import Derived.Test.YticglepkbihldaaGreatJocai
import Derived.Test.YticglepkbihldaaGreatJocam
import Derived.Test.YticglepkbihldaaGreatJocal
import Derived.Lib.SliceRun
import Derived.Test.YticglepkbihldaaGreatJocae
import Derived.Test.YticglepkbihldaaGreatJocak
import Derived.Test.YticglepkbihldaaGreatJocac

/-
  Stage 12: Texts.
-/
namespace Go.Proofs.YticglepkbihldaaGreat
open Go.RowKit Go.Shelf
attribute [local go_sem] Oper.semAt_some wide_fn

set_option maxRecDepth 100000

theorem textsL_no {l : List R11} {n : Int} (h : ¬ (0 ≤ n ∧ n < 4)) : textsL l n = [] := if_neg h
theorem textsL_at {l : List R11} {d : Nat} (h : d < 4) : textsL l (d : Int) = dimT l d := by
  unfold textsL
  rw [if_pos ⟨by omega, by omega⟩, Int.toNat_natCast]

/-- In the range: the texts that have come. -/
structure TxtI12 (w3 : World) (S : Nat → Prop) (g R2 : Nat) (d : Nat) (pre : List R11) (V : World) : Prop where
  out : ∃ v, Box V R2 31 #[v] ∧ OwE ET10 9 V v (pre.map fun r => r.k.dim d) ∧ ∀ k, v.ownBlock = some k → S k
  dim : Box V g 3 #[.int .i64 (d : Int)]
  turn : Turn S w3 V
theorem TxtI12.odd {w3 A B : World} {S : Nat → Prop} {g R2 d D : Nat} {pre : List R11} (h : TxtI12 w3 S g R2 d pre A) (hD : w3.heap.size ≤ D) (ht : Turn (odd D A) A B) : TxtI12 w3 S g R2 d pre B := by
  obtain ⟨⟨v, h1, h2, h3⟩, h4, h5⟩ := h
  exact ⟨⟨v, h1.odd ht, holds_own (E := ET10) (e := 9) D (fun _ : Unit => v) (fun _ => pre.map fun r => r.k.dim d) () A B h2 ht, h3⟩, h4.odd ht, h5.trans ht (fun k hk e => by have := e.1; omega)⟩
/-- .. in a round, behind the row that has come. -/
structure TxtB12 (w3 : World) (S : Nat → Prop) (g R2 : Nat) (d : Nat) (pre : List R11) (y : R11) (q : Nat) (V : World) : Prop where
  out : ∃ v, Box V R2 31 #[v] ∧ OwE ET10 9 V v (pre.map fun r => r.k.dim d) ∧ (∀ k, v.ownBlock = some k → S k)
  dim : Box V g 3 #[.int .i64 (d : Int)]
  row : Box V q 52 (cells11 y)
  turn : Turn S w3 V
  pre : pre.length + 1 ≤ 20000
theorem TxtB12.odd {w3 A B : World} {S : Nat → Prop} {g R2 d q D : Nat} {pre : List R11} {y : R11} (h : TxtB12 w3 S g R2 d pre y q A) (hD : w3.heap.size ≤ D) (ht : Turn (odd D A) A B) : TxtB12 w3 S g R2 d pre y q B := by
  obtain ⟨⟨v, h1, h2, h3⟩, h4, h5, h6, h7⟩ := h
  exact ⟨⟨v, h1.odd ht, holds_own (E := ET10) (e := 9) D (fun _ : Unit => v) (fun _ => pre.map fun r => r.k.dim d) () A B h2 ht, h3⟩, h4.odd ht, h5.odd ht, h6.trans ht (fun k hk e => by have := e.1; omega), h7⟩
theorem TxtI12.round {w3 V : World} {S : Nat → Prop} {g R2 d : Nat} {pre L : List R11} {y : R11} (h : TxtI12 w3 S g R2 d pre V) (hp : pre ++ [y] <+: L) (hL : L.length ≤ 20000) : TxtB12 w3 S g R2 d pre y V.heap.size (V.alloc (.cells (cells11 y) 52)) := by
  obtain ⟨⟨v, h1, h2, h3⟩, h4, h5⟩ := h
  have ht : Turn (fun _ => False) V (V.alloc (.cells (cells11 y) 52)) := (Turn.refl _ V).alloc _
  refine ⟨⟨v, h1.alloc _, h2.later ht, h3⟩, h4.alloc _, Box.new V _ _, h5.alloc _, ?_⟩
  obtain ⟨r, hr⟩ := hp
  have := congrArg List.length hr
  simp only [List.length_append, List.length_cons, List.length_nil] at this
  omega

set_option maxHeartbeats 8000000 in
theorem texts_any12 (s : Value) (L : List R11) (n : Int) (w : World) (h : SV11 w s L) : Calls Tryz.prog 12 #[s, .int .i64 n] w fun e w' => ∃ v, e = .returned v ∧ TxR12 w' v (textsL L n) ∧ Turn (fun _ => False) w w' := by
  have HS := Lib.hid h
  have hlen := h.right.2.2
  obtain ⟨p, rfl⟩ := h.ptr
  clear h
  by_cases hn : 0 ≤ n ∧ n < 4
  · obtain ⟨n0, n4⟩ := hn
    obtain ⟨d, rfl⟩ := Int.eq_ofNat_of_zero_le n0
    have hd4 : d < 4 := by omega
    have hge : ¬ (4 : Int) ≤ (d : Int) := by omega
    have hlt0 : ¬ (d : Int) < 0 := by omega
    obtain ⟨g, hg⟩ : ∃ g : Nat, g = w.heap.size := ⟨_, rfl⟩
    obtain ⟨w1, hw1⟩ : ∃ w1, w1 = w.alloc (.cells #[.int .i64 (d : Int)] 3) := ⟨_, rfl⟩
    have HT1 : Hid (Turn (fun _ => False) w w1) := by rw [hw1]; exact (Turn.refl _ w).alloc _
    have HB1 : Hid (Box w1 g 3 #[.int .i64 (d : Int)]) := by rw [hw1, hg]; exact Box.new w _ _
    have c1 := HB1.out.cell 0
    have HLN := Lib.hid (len_same11 (.pointer p) L w1 (HS.out.later HT1.out))
    have hmk := made_texts10 L.length (by omega) w1
    have HR0 := Lib.hid (own_texts10 L.length (by omega) w1)
    have HW1 := Lib.hid hw1; have HGG := Lib.hid hg
    clear hw1 hg
    refine (callsIn_wide (n := 5)).1 ?_
    refine callsIn_of_wp_marks Tryz.func12 rfl trivial ?_ rfl
    simp only [Tryz.ntmps12, List.size_toArray, List.length_cons, List.length_nil, Nat.reduceAdd, Nat.reduceSub, Array.replicate_succ, Array.replicate_zero, List.push_toArray, List.append_toArray, List.nil_append, List.cons_append]
    refine wpIn_wide.2 ?_
    go_wp2_with fail
    rw [← HW1.out, ← HGG.out]
    go_wp2_with fail
    refine HLN.out.mono ?_
    rintro e w1' ⟨rfl, hw⟩
    replace hw := hw.symm
    subst hw
    clear HLN
    go_wp2_with fail
    clear hmk
    obtain ⟨R, hR⟩ : ∃ R : Nat, R = w1.heap.size := ⟨_, rfl⟩
    obtain ⟨wb, hwb⟩ : ∃ wb, wb = (w1.alloc (.cells (madeCells #[.string ⟨#[]⟩] L.length) 9)).alloc (.cells #[.slice (some ⟨R, 0, none⟩) 0 L.length] 31) := ⟨_, rfl⟩
    have HTB : Hid (Turn (fun _ => False) w1 wb) := by rw [hwb]; exact ((Turn.refl _ w1).alloc _).alloc _
    have HBX : Hid (Box wb (R + 1) 31 #[.slice (some ⟨R, 0, none⟩) 0 L.length]) := by
      rw [hwb, hR]
      have h := Box.new (w1.alloc (.cells (madeCells #[.string ⟨#[]⟩] L.length) 9)) 31 #[.slice (some ⟨w1.heap.size, 0, none⟩) 0 L.length]
      rw [World.size_alloc] at h
      exact h
    have HRO : Hid (OwE ET10 9 wb (.slice (some ⟨R, 0, none⟩) 0 L.length) []) := by
      rw [hwb, hR]
      exact HR0.out.turn ((Turn.refl (fun _ => False) _).alloc _) (fun _ _ f => f)
    have HDB := Lib.hid (HB1.out.turn HTB.out (fun f => f))
    have HGR : Hid (w.heap.size ≤ R) := by show _ ≤ R; rw [hR]; exact HT1.out.size
    rw [← hR]
    rw [← hwb]
    have HRA := Lib.hid (rows_any12 (.pointer p) L wb ((HS.out.later HT1.out).later HTB.out))
    clear hwb hR HR0 c1
    refine HRA.out.mono ?_
    rintro e w3 ⟨gf, lb, rfl, heg, t3, hfe⟩
    have HT3 := Lib.hid t3
    have HTW3 : Hid (Turn (fun _ => False) w w3) := (HT1.out.trans HTB.out (fun _ _ f => f)).trans t3 (fun _ _ f => f)
    have HWB : Hid (w.heap.size ≤ wb.heap.size ∧ R + 1 < wb.heap.size ∧ wb.heap.size ≤ w3.heap.size) := ⟨(HT1.out.trans HTB.out (fun _ _ f => f)).size, HBX.out.lt, t3.size⟩
    obtain ⟨S, hS⟩ : ∃ S : Nat → Prop, S = fun k => (w.heap.size ≤ k ∧ k < wb.heap.size) ∨ w3.heap.size ≤ k := ⟨_, rfl⟩
    have HSN : Hid (∀ k, w3.heap.size ≤ k → S k) := fun k hk => by rw [hS]; exact .inr hk
    have HSO : Hid (∀ k, w.heap.size ≤ k → k < wb.heap.size → S k) := fun k h1 h2 => by rw [hS]; exact .inl ⟨h1, h2⟩
    have HSW : Hid (∀ k, S k → w.heap.size ≤ k) := fun k hk => by rw [hS] at hk; have := HWB.out; rcases hk with h | h; exact h.1; omega
    have HFE := Lib.hid (hfe 4 S (fun k cs e h0 hb => by have := hb.lt; rw [hS] at e; omega) (FreeS12.new HS.out HTW3.out HSW.out))
    have H0 : Hid (TxtI12 w3 S g (R + 1) d [] w3) := ⟨⟨_, HBX.out.turn t3 (fun f => f), HRO.out.later t3, fun k hk => by
      simp only [Value.ownBlock, Option.some.injEq] at hk
      have := HGR.out; have := HWB.out
      exact HSO.out k (by omega) (by omega)⟩, HDB.out.turn t3 (fun f => f), Turn.refl _ _⟩
    have HGS : Hid (S (R + 1)) := HSO.out _ (by have := HGR.out; omega) HWB.out.2.1
    have HGN : Hid (g < R + 1) := by have h1 := HB1.out.lt; have h2 := HGR.out; show g < R + 1; have h3 := HGG.out; omega
    clear hfe t3 hS
    go_wp2_with fail
    refine (wpIn_wide (n := 5)).1 ?_
    refine' over5 (n := 5) (by omega) (gf := gf) (lb := lb) rfl heg HFE.out (Turn.refl _ _) (HSN.out _ (Nat.le_succ _)) (fun _ => rfl) _
      (fun (pre : List R11) V => TxtI12 w3 S g (R + 1) d pre V) (fun _ _ _ => False) ?hI ?hIx H0.out
      (fun pre y q V => TxtB12 w3 S g (R + 1) d pre y q V) ?hax ?assign ?body ?done ?stop
    case assign =>
      intro l0 pre x W K hi hgv hK
      have HK := Lib.hid hK
      have HB := Lib.hid (hi.round hgv hlen)
      have HT : Hid (Turn (fun _ => False) W (W.alloc (.cells (cells11 x) 52))) := (Turn.refl _ W).alloc _
      clear hK hi hgv
      gi_wp2
      generalize W.alloc (.cells (cells11 x) 52) = W2 at *
      generalize W.heap.size = q at *
      exact HK.out q _ HB.out HT.out
    case hI =>
      intro pre A B h ht
      exact h.odd (Nat.le_refl _) ht
    case hIx =>
      rintro c pre A B h ht
      exact h
    case hax =>
      rintro pre y q A B h ht
      exact h.odd (Nat.le_refl _) ht
    case stop =>
      rintro D c0 pre V _ _ h _
      exact h.elim
    case body =>
      rintro l0 pre y q V hpb
      obtain ⟨⟨v, hb, ho, hn⟩, hdm, hq, ht, hpl⟩ := hpb
      obtain ⟨A, c, rfl⟩ := ho.shape
      rw [List.length_map] at hb ho hn
      obtain ⟨M, hM⟩ : ∃ M : List (List UInt8), M = pre.map fun r => r.k.dim d := ⟨_, rfl⟩
      rw [← hM] at ho
      have hml : M.length = pre.length := by rw [hM, List.length_map]
      have HML := Lib.hid hml
      have HM := Lib.hid hM
      clear hM hml
      have HOB : Hid (∀ i t cs, Box V i t cs → t ≠ 9 → (Value.slice A pre.length c).ownBlock ≠ some i) := fun i t cs hbx ht e => ho.not_box hbx (Ne.symm ht) e
      have HSK : Hid (∀ W, Turn (fun k => (Value.slice A pre.length c).ownBlock = some k) V W → (W.cell? ⟨R + 1, 0, none⟩ = some (.slice A pre.length c) ∧ W.cell? ⟨g, 0, none⟩ = some (.int .i64 (d : Int)) ∧ W.cell? ⟨q, 1 + d, none⟩ = some (sv9 (y.k.dim d))) ∧ Turn (fun k => (Value.slice A pre.length c).ownBlock = some k) V W) := fun W ht2 =>
        ⟨⟨(hb.turn ht2 (HOB.out _ _ _ hb (by decide))).cell 0, (hdm.turn ht2 (HOB.out _ _ _ hdm (by decide))).cell 0, by
          have h := hq.turn ht2 (HOB.out _ _ _ hq (by decide))
          rw [h.cell]
          exact row_cells12 d hd4⟩, ht2⟩
      have HQ := Lib.hid hq
      have HB := Lib.hid hb; have HO := Lib.hid ho; have HN := Lib.hid hn; have HDM := Lib.hid hdm; have HTV := Lib.hid ht
      clear hb ho hn hdm ht hq
      gi_wp2_with fail
      refine drawn_region_in (fun W => (W.cell? ⟨R + 1, 0, none⟩ = some (.slice A pre.length c) ∧ W.cell? ⟨g, 0, none⟩ = some (.int .i64 (d : Int)) ∧ W.cell? ⟨q, 1 + d, none⟩ = some (sv9 (y.k.dim d))) ∧ Turn (fun k => (Value.slice A pre.length c).ownBlock = some k) V W) [8] (by kernel_rfl) (by kernel_rfl) ?_
      have HTD : Hid (Turn (fun _ => False) V (World.drew V)) := (Turn.refl _ V).drew
      have hS0 := HSK.out _ (HTD.out.none)
      generalize World.drew V = wd at *
      have HOD := Lib.hid (HO.out.later HTD.out)
      have HDV : Hid (Turn (fun k => (Value.slice A pre.length c).ownBlock = some k) V wd) := HTD.out.none
      refine drawn_take 0 19 (.slice A pre.length c) rfl rfl (by kernel_rfl) (by kernel_rfl) (by kernel_rfl) (by kernel_rfl) (fun _ _ _ h => h) (by rfl) (by assumption) (by intro w hSw; obtain ⟨⟨hS1, hS2, hS3⟩, hS5⟩ := hSw; go_simp) ?_
      try simp only [List.setIfInBounds_toArray, List.set_cons_zero, List.set_cons_succ]
      refine drawn_take 1 20 (.int .i64 (d : Int)) rfl rfl (by kernel_rfl) (by kernel_rfl) (by kernel_rfl) (by kernel_rfl) (fun _ _ _ h => h) (by rfl) (by assumption) (by intro w hSw; obtain ⟨⟨hS1, hS2, hS3⟩, hS5⟩ := hSw; go_simp) ?_
      try simp only [List.setIfInBounds_toArray, List.set_cons_zero, List.set_cons_succ]
      refine drawn_take 2 21 (.pointer (some ⟨q, 0, none⟩)) rfl rfl (by kernel_rfl) (by kernel_rfl) (by kernel_rfl) (by kernel_rfl) (fun _ _ _ h => h) (by rfl) (by assumption) (by intro w hSw; obtain ⟨⟨hS1, hS2, hS3⟩, hS5⟩ := hSw; go_simp) ?_
      try simp only [List.setIfInBounds_toArray, List.set_cons_zero, List.set_cons_succ]
      refine drawn_take 3 22 (.pointer (some ⟨q, 1, none⟩)) rfl rfl (by kernel_rfl) (by kernel_rfl) (by kernel_rfl) (by kernel_rfl) (fun _ _ _ h => h) (by rfl) (by assumption) (by intro w hSw; obtain ⟨⟨hS1, hS2, hS3⟩, hS5⟩ := hSw; go_simp) ?_
      try simp only [List.setIfInBounds_toArray, List.set_cons_zero, List.set_cons_succ]
      refine drawn_take 4 23 (.pointer (some ⟨q, 1 + d, none⟩)) rfl rfl (by kernel_rfl) (by kernel_rfl) (by kernel_rfl) (by kernel_rfl) (fun _ _ _ h => h) (by rfl) (by assumption) (by intro w hSw; obtain ⟨⟨hS1, hS2, hS3⟩, hS5⟩ := hSw; go_simp) ?_
      try simp only [List.setIfInBounds_toArray, List.set_cons_zero, List.set_cons_succ]
      refine drawn_take 5 24 (sv9 (y.k.dim d)) rfl rfl (by kernel_rfl) (by kernel_rfl) (by kernel_rfl) (by kernel_rfl) (fun _ _ _ h => h) (by rfl) (by assumption) (by intro w hSw; obtain ⟨⟨hS1, hS2, hS3⟩, hS5⟩ := hSw; go_simp) ?_
      try simp only [List.setIfInBounds_toArray, List.set_cons_zero, List.set_cons_succ]
      refine drawn_any [6] (by kernel_rfl) (by simp) ?_
      refine drawn_cons rfl (fun K hK => ?_) drawn_nil
      go_simp
      have HX : Hid (RdE ET10 (wd.alloc (.cells #[sv9 (y.k.dim d)] 9)) (.slice (some ⟨wd.heap.size, 0, none⟩) 1 1) [y.k.dim d]) := one_row ET10 9 wd (y.k.dim d)
      have HT1' : Hid (Turn (fun k => (Value.slice A pre.length c).ownBlock = some k) V (wd.alloc (.cells #[sv9 (y.k.dim d)] 9))) := HDV.out.alloc _
      have HPX := Lib.hid (HOD.out.later ((Turn.refl _ wd).alloc (.cells #[sv9 (y.k.dim d)] 9)))
      refine hK.out _ _ _ (HSK.out _ HT1'.out) ?_
      clear hK K hS0
      have hS0 := HSK.out _ HT1'.out
      try simp only [List.setIfInBounds_toArray, List.set_cons_zero, List.set_cons_succ]
      refine drawn_any [7] (by kernel_rfl) (by simp) ?_
      refine drawn_cons rfl (fun K hK => ?_) drawn_nil
      refine put_app Tryz.underlying31 str_info10 str_zero10 (by omega) M HPX.out [y.k.dim d] HX.out (by rw [HML.out]; simp only [List.length_cons, List.length_nil]; omega) ?_
      intro A2 n2 c2 w4 ho ht hn2
      obtain ⟨ad, rfl, rfl⟩ := ho.some_at (by simp)
      have HO3 := Lib.hid ho
      have HT4 := Lib.hid (HT1'.out.trans ht (fun _ _ e => e))
      have HN3 : Hid (∀ k, (Value.slice (some ad) (M ++ [y.k.dim d]).length c2).ownBlock = some k → S k) := fun k hk => by
        rcases hn2 with e | e
        · exact HN.out k (e.symm.trans hk)
        · have e1 : ad.block = (wd.alloc (.cells #[sv9 (y.k.dim d)] 9)).heap.size := by simpa [Value.ownBlock] using e
          have hkb : ad.block = k := by simpa [Value.ownBlock] using hk
          have h1 := HT1'.out.size
          have h2 := HTV.out.size
          exact HSN.out k (by omega)
      clear ho ht hn2
      refine hK.out _ _ _ (HSK.out _ HT4.out) ?_
      clear hK K hS0
      have hS0 := HSK.out _ HT4.out
      try simp only [List.setIfInBounds_toArray, List.set_cons_zero, List.set_cons_succ]
      refine drawn_last (z := 8) rfl (by kernel_rfl) (by kernel_rfl) (by kernel_rfl) (fun K hK => ?_)
      clear hS0
      have HBG : Hid (Box w4 (R + 1) 31 #[.slice A pre.length c]) := HB.out.turn HT4.out (HOB.out _ _ _ HB.out (by decide))
      have HDG : Hid (Box w4 g 3 #[.int .i64 (d : Int)]) := HDM.out.turn HT4.out (HOB.out _ _ _ HDM.out (by decide))
      have hz1 := HBG.out.cell 0
      have hz2 := HBG.out.free 0
      go_simp
      refine hK.out _ _ ?_
      clear hK K hz1 hz2
      refine goes_on ?_
      rw [HML.out]
      have hlen2 : (M ++ [y.k.dim d]).length = pre.length + 1 := by rw [List.length_append, HML.out]; rfl
      rw [hlen2] at HO3 HN3
      have hng : ∀ k, (Value.slice (some ad) (pre.length + 1) c2).ownBlock = some k → ¬ k = R + 1 := fun k hk e => by
        rw [e] at hk
        exact HO3.out.not_box HBG.out (by decide) hk
      have hst : Turn (fun k => k = R + 1) w4 (w4.setCell ⟨R + 1, 0, none⟩ (.slice (some ad) (pre.length + 1) c2)) := Turn.setCell (S := fun k => k = R + 1) (p := ⟨R + 1, 0, none⟩) (Turn.refl _ w4) (fun _ => rfl) _
      have hV3 : Turn S V w4 := HT4.out.mono (fun k _ e => HN.out k e)
      have hV4 : Turn S V (w4.setCell ⟨R + 1, 0, none⟩ (.slice (some ad) (pre.length + 1) c2)) := hV3.trans hst (fun k _ e => by rw [e]; exact HGS.out)
      refine ⟨?_, hV4, ⟨⟨_, HBG.out.set 0 (.slice (some ad) (pre.length + 1) c2), ?_, HN3.out⟩, HDG.out.turn hst (by have := HGN.out; omega), HTV.out.trans hV4 (fun _ _ e => e)⟩⟩
      · refine Still.trans ⟨HT4.out.size, fun k o _ hk ho => (HT4.out.block k (Array.getElem?_eq_some_iff.1 hk).1 (fun e => ?_)).trans hk⟩ (Still.setCell _ _ _)
        have := own_cells HO.out e o hk
        rw [this] at ho
        cases ho
      · rw [List.map_append, ← HM.out]
        exact HO3.out.turn hst hng
    case done =>
      rintro D xs V hD hA ⟨⟨v, hb, ho, hn⟩, hdm, ht⟩ hK
      subst hA
      obtain ⟨A, c, rfl⟩ := ho.shape
      rw [List.length_map] at hb ho hn
      have c0 := hb.cell 0
      have HB := Lib.hid hb; have HO := Lib.hid ho; have HN := Lib.hid hn; have HTV := Lib.hid ht; have HKD := Lib.hid hK; have HDD := Lib.hid hD
      clear hb ho hn hdm ht hK hD
      go_wp2_with fail
      have hml : (xs.map fun r => r.k.dim d).length ≤ 1000000 := by rw [List.length_map]; omega
      refine (sorttexts12 _ _ V HO.out hml).mono ?_
      rintro e w5 ⟨rfl, ho, ht⟩
      have HO5 := Lib.hid ho; have HT5 := Lib.hid ht
      have HB5 := Lib.hid (HB.out.turn ht (fun e => HO.out.not_box HB.out (by decide) e))
      have c5 := HB5.out.cell 0
      have HK5 : Hid (w5.heap[D]? = some (.deferred (some []))) := (ht.block D (Array.getElem?_eq_some_iff.1 HKD.out).1 (fun e => by
        have := own_cells HO.out e _ HKD.out
        cases this)).trans HKD.out
      have hml2 : ((xs.map fun r => r.k.dim d).mergeSort fun x y => decide (x ≤ y)).length ≤ 1000000 := by rw [(List.mergeSort_perm _ _).length_eq]; exact hml
      clear ho ht c0
      go_wp2_with fail
      refine (compacttexts12 _ _ w5 HO5.out hml2).mono ?_
      rintro e w6 ⟨v', rfl, ho, hb, ht⟩
      rw [sort_set12] at ho
      have HO6 := Lib.hid ho; have HT6 := Lib.hid ht
      have HK6 : Hid (w6.heap[D]? = some (.deferred (some []))) := (ht.block D (Array.getElem?_eq_some_iff.1 HK5.out).1 (fun e => by
        have := own_cells HO5.out e _ HK5.out
        cases this)).trans HK5.out
      obtain ⟨A6, c6, rfl⟩ := ho.shape
      clear ho hb ht c5
      go_wp2
      have u1 : Turn (fun k => k = D) w6 (w6.putObj D (.deferred none)) := Turn.putObj _ D _ rfl
      refine ⟨by simp, .inl ⟨_, _, rfl, run_takeDeferred HK6.out, ?_⟩⟩
      refine ⟨.slice A6 (ofT (xs.map fun r => r.k.dim d)).length c6, ?_, _, rfl, ?_, ?_⟩
      · simp [results, Tryz.f12, go_sem]
      · rw [textsL_at hd4]
        refine (TxR12.own HO6.out).kept u1 (fun b cs e hb => ?_)
        have h6 := HK6.out
        rw [← e, show w6.heap[b]? = _ from hb] at h6
        cases h6
      · have hsw := HSW.out
        have h5 : Turn S V w5 := HT5.out.mono fun k _ e => HN.out k e
        have h6 : Turn (fun k => w.heap.size ≤ k) w5 w6 := HT6.out.mono fun k _ e => hsw k (HN.out k e)
        have h0 := HTW3.out.size
        have h1 := HDD.out
        exact (((HTW3.out.trans HTV.out (fun k hk e => by have := hsw k e; omega)).trans h5 (fun k hk e => by have := hsw k e; omega)).trans h6 (fun k hk e => by omega)).trans u1 (fun k hk e => by omega)
  · have HZ : Hid (textsL L n = []) := textsL_no hn
    by_cases n0 : n < 0
    · clear hn
      refine (callsIn_wide (n := 5)).1 ?_
      refine callsIn_of_wp_marks Tryz.func12 rfl trivial ?_ rfl
      simp only [Tryz.ntmps12, List.size_toArray, List.length_cons, List.length_nil, Nat.reduceAdd, Nat.reduceSub, Array.replicate_succ, Array.replicate_zero, List.push_toArray, List.append_toArray, List.nil_append, List.cons_append]
      refine wpIn_wide.2 ?_
      go_wp2
      refine ⟨.slice none 0 0, ?_, _, rfl, ?_, (Turn.refl _ w).alloc _⟩
      · simp [results, Tryz.f12, go_sem]
      · rw [HZ.out]; exact TxR12.nil _
    · have n4 : 4 ≤ n := by omega
      clear hn
      refine (callsIn_wide (n := 5)).1 ?_
      refine callsIn_of_wp_marks Tryz.func12 rfl trivial ?_ rfl
      simp only [Tryz.ntmps12, List.size_toArray, List.length_cons, List.length_nil, Nat.reduceAdd, Nat.reduceSub, Array.replicate_succ, Array.replicate_zero, List.push_toArray, List.append_toArray, List.nil_append, List.cons_append]
      refine wpIn_wide.2 ?_
      go_wp2
      refine ⟨.slice none 0 0, ?_, _, rfl, ?_, (Turn.refl _ w).alloc _⟩
      · simp [results, Tryz.f12, go_sem]
      · rw [HZ.out]; exact TxR12.nil _

end Go.Proofs.YticglepkbihldaaGreat

/-
  Stage 12: the program's reader: allUsed.
-/
namespace Go.Proofs.YticglepkbihldaaGreat
open Go.RowKit

set_option maxRecDepth 100000

theorem usedN_not {l : List R11} {T : Nat → List (List UInt8)} {N d : Nat} (hd : d < N) (h : (dimT l d).length ≠ (T d).length) : usedN l T N = false := by
  cases e : usedN l T N with
  | false => rfl
  | true => exact absurd ((usedN_iff N).1 e d hd) h
set_option maxHeartbeats 8000000 in
theorem allUsed_any12 (w0 : World) (p rb : Nat) (st : St12) (D : Nat → Option Addr) (T : Nat → List (List UInt8)) (bad : Bool) (s : Value) (l : List R11) (N : Nat) (hN : N ≤ 4) (w : World) (h : RX12 w0 w p rb st D T bad) (hs : SV11 w s l) :
    Calls Tryz.prog 71 #[.pointer (some ⟨rb, 0, none⟩), s, .int .i64 (N : Int)] w fun e w' => e = .returned (.bool (usedN l T N)) ∧ Turn (fun _ => False) w w' := by
  have H := Lib.hid h; have HS := Lib.hid hs
  have hlen := hs.right.2.2
  obtain ⟨ps, rfl⟩ := hs.ptr
  have HDL : Hid (∀ d, d < 4 → (T d).length ≤ 20000) := fun d hd => (h.dic d hd).len
  clear h hs
  go_enter Tryz.func71, Tryz.ntmps71
  go_wp2_with fail
  go_loopw [9] (fun x9 wr => ∃ i : Nat, x9 = .int .i64 (i : Int) ∧ i ≤ N ∧ (∀ d, d < i → (dimT l d).length = (T d).length) ∧ Turn (fun _ => False) w wr) (fun x9 _ => N - (intOf x9).toNat)
  case atStart => exact ⟨0, rfl, Nat.zero_le _, fun d hd => absurd hd (Nat.not_lt_zero d), Turn.refl _ _⟩
  case round =>
    obtain ⟨i, rfl, hi, he, ht⟩ := hrel
    have HE := Lib.hid he; have HT := Lib.hid ht
    clear he ht
    by_cases hlt : i < N
    · have hil : (i : Int) < N := by omega
      have hi4 : (i : Int) < 4 := by omega
      have HR := Lib.hid (H.out.later HT.out)
      have HSK : Hid (∀ W, Turn (fun _ => False) wr W → W.cell? ⟨rb, 1 + i, none⟩ = some (.pointer (D i)) ∧ Turn (fun _ => False) wr W) := fun W ht => ⟨by rw [(HR.out.box.turn ht (fun f => f)).cell]; exact dic_at12 i (by omega), ht⟩
      go_wp2_with fail
      refine drawn_region (fun W => W.cell? ⟨rb, 1 + i, none⟩ = some (.pointer (D i)) ∧ Turn (fun _ => False) wr W) [] (by kernel_rfl) ?_
      have hS0 := HSK.out _ ((Turn.refl _ wr).drew)
      generalize World.drew wr = wd at *
      refine drawn_take 0 12 (.pointer ps) rfl rfl (by kernel_rfl) (by kernel_rfl) (by kernel_rfl) (by kernel_rfl) (fun _ _ _ h => h) (by rfl) (by assumption) (by intro w hSw; obtain ⟨hS1, hS2⟩ := hSw; go_simp) ?_
      try simp only [List.setIfInBounds_toArray, List.set_cons_zero, List.set_cons_succ]
      refine drawn_take 1 13 (.int .i64 (i : Int)) rfl rfl (by kernel_rfl) (by kernel_rfl) (by kernel_rfl) (by kernel_rfl) (fun _ _ _ h => h) (by rfl) (by assumption) (by intro w hSw; obtain ⟨hS1, hS2⟩ := hSw; go_simp) ?_
      try simp only [List.setIfInBounds_toArray, List.set_cons_zero, List.set_cons_succ]
      refine drawn_take 4 16 (.pointer (some ⟨rb, 0, none⟩)) rfl rfl (by kernel_rfl) (by kernel_rfl) (by kernel_rfl) (by kernel_rfl) (fun _ _ _ h => h) (by rfl) (by assumption) (by intro w hSw; obtain ⟨hS1, hS2⟩ := hSw; go_simp) ?_
      try simp only [List.setIfInBounds_toArray, List.set_cons_zero, List.set_cons_succ]
      refine drawn_take 5 17 (.int .i64 (i : Int)) rfl rfl (by kernel_rfl) (by kernel_rfl) (by kernel_rfl) (by kernel_rfl) (fun _ _ _ h => h) (by rfl) (by assumption) (by intro w hSw; obtain ⟨hS1, hS2⟩ := hSw; go_simp) ?_
      try simp only [List.setIfInBounds_toArray, List.set_cons_zero, List.set_cons_succ]
      refine drawn_take 6 18 (.pointer (some ⟨rb, 0, none⟩)) rfl rfl (by kernel_rfl) (by kernel_rfl) (by kernel_rfl) (by kernel_rfl) (fun _ _ _ h => h) (by rfl) (by assumption) (by intro w hSw; obtain ⟨hS1, hS2⟩ := hSw; go_simp) ?_
      try simp only [List.setIfInBounds_toArray, List.set_cons_zero, List.set_cons_succ]
      refine drawn_take 7 19 (.pointer (some ⟨rb, 1, none⟩)) rfl rfl (by kernel_rfl) (by kernel_rfl) (by kernel_rfl) (by kernel_rfl) (fun _ _ _ h => h) (by rfl) (by assumption) (by intro w hSw; obtain ⟨hS1, hS2⟩ := hSw; go_simp) ?_
      try simp only [List.setIfInBounds_toArray, List.set_cons_zero, List.set_cons_succ]
      refine drawn_take 8 20 (.pointer (some ⟨rb, 1 + i, none⟩)) rfl rfl (by kernel_rfl) (by kernel_rfl) (by kernel_rfl) (by kernel_rfl) (fun _ _ _ h => h) (by rfl) (by assumption) (by intro w hSw; obtain ⟨hS1, hS2⟩ := hSw; go_simp) ?_
      try simp only [List.setIfInBounds_toArray, List.set_cons_zero, List.set_cons_succ]
      refine drawn_take 9 21 (.pointer (D i)) rfl rfl (by kernel_rfl) (by kernel_rfl) (by kernel_rfl) (by kernel_rfl) (fun _ _ _ h => h) (by rfl) (by assumption) (by intro w hSw; obtain ⟨hS1, hS2⟩ := hSw; go_simp) ?_
      try simp only [List.setIfInBounds_toArray, List.set_cons_zero, List.set_cons_succ]
      refine drawn_any [2] (by kernel_rfl) (by simp) ?_
      refine drawn_cons rfl (fun K hK => ?_) drawn_nil
      go_simp
      have htx := texts_any12 (.pointer ps) l (i : Int) wd ((HS.out.later HT.out).later hS0.2)
      rw [textsL_at (show i < 4 by omega)] at htx
      refine htx.mono ?_
      rintro e w1 ⟨v, rfl, hv, t1⟩
      obtain ⟨A, c, rfl⟩ := hv.rd.shape
      have hS3 := HSK.out _ (hS0.2.trans t1 (fun _ _ f => f))
      refine hK.out _ _ _ hS3 ?_
      clear hK K hS0 hv t1 htx
      try simp only [List.setIfInBounds_toArray, List.set_cons_zero, List.set_cons_succ]
      refine drawn_take 3 15 (.int .i64 ((dimT l i).length : Int)) rfl rfl (by kernel_rfl) (by kernel_rfl) (by kernel_rfl) (by kernel_rfl) (fun _ _ _ h => h) (by rfl) (by assumption) (by intro w hSw; obtain ⟨hS1, hS2⟩ := hSw; go_simp) ?_
      try simp only [List.setIfInBounds_toArray, List.set_cons_zero, List.set_cons_succ]
      refine drawn_any [10] (by kernel_rfl) (by simp) ?_
      refine drawn_cons rfl (fun K hK => ?_) drawn_nil
      go_simp
      refine (len_any10 (.pointer (D i)) (T i) w1 ((HR.out.dic i (by omega)).later hS3.2)).mono ?_
      rintro e w2 ⟨rfl, t2⟩
      have hS4 := HSK.out _ (hS3.2.trans t2 (fun _ _ f => f))
      refine hK.out _ _ _ hS4 ?_
      clear hK K hS3 t2
      try simp only [List.setIfInBounds_toArray, List.set_cons_zero, List.set_cons_succ]
      have hDI := HDL.out i (by omega)
      by_cases heq : (dimT l i).length = (T i).length
      · have hb : (((dimT l i).length : Int) != ((T i).length : Int)) = false := by rw [heq]; simp
        refine drawn_last1 11 23 (.bool false) rfl rfl (by kernel_rfl) (by kernel_rfl) (by rfl) (by intro w; go_simp) hS4 ?_
        try simp only [List.setIfInBounds_toArray, List.set_cons_zero, List.set_cons_succ]
        have HT5 := Lib.hid (HT.out.trans hS4.2 (fun _ _ f => f))
        have HEN : Hid (∀ d, d < i + 1 → (dimT l d).length = (T d).length) := fun d hd => by
          by_cases e : d = i
          · rw [e]; exact heq
          · exact HE.out d (by omega)
        clear hS4 heq hb hDI
        go_wp2
        go_roundw
        case rel => exact ⟨i + 1, by go_num, hlt, HEN.out, HT5.out⟩
        case measure => simp [intOf]; omega
      · have hb : (((dimT l i).length : Int) != ((T i).length : Int)) = true := by rw [bne_iff_ne]; omega
        refine drawn_last1 11 23 (.bool true) rfl rfl (by kernel_rfl) (by kernel_rfl) (by rfl) (by intro w; go_simp) hS4 ?_
        try simp only [List.setIfInBounds_toArray, List.set_cons_zero, List.set_cons_succ]
        have HT5 := Lib.hid (HT.out.trans hS4.2 (fun _ _ f => f))
        have HU := Lib.hid (usedN_not (T := T) hlt heq)
        clear hS4 heq hb hDI
        go_wp2
        go_ret
        rw [HU.out]
        exact ⟨rfl, HT5.out⟩
    · obtain rfl : i = N := by omega
      have HU : Hid (usedN l T i = true) := (usedN_iff i).2 HE.out
      go_wp2
      go_ret
      rw [HU.out]
      exact ⟨rfl, HT.out⟩

end Go.Proofs.YticglepkbihldaaGreat

/-
  Stage 11: the program's Rows; a row of rows copied.
-/
namespace Go.Proofs.YticglepkbihldaaGreat
open Go.RowKit Go.ChangeShapes Go.WideShapes Go.Deep

set_option maxRecDepth 100000

/-- Behind a row that was copied. -/
def Copied11 (w : World) (l : List R11) (e : Ending) (w' : World) : Prop := ∃ v, e = .returned v ∧ NewE ER 52 w w' v l

set_option maxHeartbeats 2000000 in
theorem clone11 (sv : Value) (l : List R11) (w : World) (h : RdE ER w sv l) (hl : l.length ≤ 1000000) :
    Calls Tryz.prog 44 #[sv] w fun e w' => Copied11 w l e w' := by
  have HH := Lib.hid h
  obtain ⟨A, c, rfl⟩ := h.shape
  have hf := h.fits
  clear h
  cases A with
  | none =>
    obtain ⟨rfl, rfl⟩ := hf.2.2.2 rfl
    clear hf
    simp only [List.length_nil] at HH ⊢
    go_enter Tryz.func44, Tryz.ntmps44
    have hrun : ∀ W, Sem.run Tryz.prog (binOp .eql 22 (.slice none 0 0) (.slice none 0 0)) W = .ok (.bool true) W := fun W => Lib.run_eql_slice_nil W _ _ none 0 0 0 0 Tryz.underlying22
    go_wp2
    go_ret
    exact ⟨_, rfl, OwE.nil _, (fun k e => by simp [Value.ownBlock] at e), Turn.refl _ w⟩
  | some ad =>
    clear hf
    have HN0 := Lib.hid (NewE.empty (E := ER) (e := 52) w w (Turn.refl _ w))
    have HS := Lib.hid (HH.out.later HN0.out.turn)
    go_enter Tryz.func44, Tryz.ntmps44
    have hrun : ∀ W, Sem.run Tryz.prog (binOp .eql 22 (.slice (some ad) l.length c) (.slice none 0 0)) W = .ok (.bool false) W := fun W => Lib.run_eql_slice_nil W _ _ (some ad) l.length c 0 0 Tryz.underlying22
    go_wp2_with (at_builtin; refine wpList_rows11 _ rfl _ _ rfl _ [] rfl HN0.out.own _ rfl l HS.out (by simp only [List.length_nil]; omega) ?_; intro A3 n3 c3 w3 ho ht hn; have HN3 := Lib.hid (HN0.out.step ho ht hn); clear ho ht hn)
    go_ret
    exact ⟨_, rfl, HN3.out⟩

theorem okRow_eq (r : R11) : okRow r = (!(r.c.n == 0) && rightC r.c) := by
  unfold okRow
  by_cases h : r.c.n = 0
  · have : (r.c.n == 0) = true := beq_iff_eq.2 h
    rw [this, decide_eq_false (by omega)]
    rfl
  · have e : (r.c.n == 0) = false := beq_eq_false_iff_ne.2 h
    rw [e, Bool.not_false, Bool.true_and]
    cases hr : rightC r.c with
    | false => rw [Bool.and_false]
    | true =>
      have : 1 ≤ r.c.n := by
        unfold rightC at hr
        rw [if_neg h] at hr
        simp only [Bool.and_eq_true, decide_eq_true_iff] at hr
        omega
      rw [decide_eq_true this]
      rfl

set_option maxHeartbeats 8000000 in
theorem rows_any11 (v : Value) (l : List R11) (w : World) (hv : RdE ER w v l) (hok : ∀ r ∈ l, okC r.c) (hl : l.length ≤ 20000) : Calls Tryz.prog 21 #[v] w fun e w' => RowsA11 w l e w' := by
  have HV := Lib.hid hv
  have HOK := Lib.hid hok
  obtain ⟨A, c, rfl⟩ := hv.shape
  clear hv hok
  go_enter Tryz.func21, Tryz.ntmps21
  go_wp2_with fail
  go_loopw [8] (fun x8 wr => ∃ i : Nat, x8 = .int .i64 (i : Int) ∧ i ≤ l.length ∧ (∀ k, k < i → rightAt l k = true) ∧ Turn (fun _ => False) w wr) (fun x8 _ => l.length - (intOf x8).toNat)
  case atStart => exact ⟨0, rfl, Nat.zero_le _, fun k hk => absurd hk (Nat.not_lt_zero k), Turn.refl _ w⟩
  case round =>
    obtain ⟨i, rfl, hi, hok, ht⟩ := hrel
    have HOI := Lib.hid hok
    have HT := Lib.hid ht
    clear hok ht
    by_cases hlt : i < l.length
    · obtain ⟨r, hr⟩ : ∃ r, l[i]? = some r := ⟨_, List.getElem?_eq_getElem hlt⟩
      obtain ⟨ad, rfl, hc⟩ := row_at11 HV.out hr
      obtain ⟨a0, a1, a2, a3, a4, a5, a6, a7, a8⟩ := hc wr HT.out
      have HNX : Hid (rightAt l i = true → ∀ k, k < i + 1 → rightAt l k = true) := fun h k hk => by
        by_cases e : k = i
        · rw [e]; exact h
        · exact HOI.out k (by omega)
      have HNO : Hid (rightAt l i = false → rightR l = false) := fun h => rightR_not h
      have hil : (i : Int) < l.length := by omega
      have HRO := Lib.hid (okRow_eq r)
      have HLO : Hid (okRow r = false → rightAt l i = false) := fun h => by
        unfold rightAt
        rw [hr]
        dsimp only
        rw [h, Bool.and_false]
      obtain ⟨w3, hw3⟩ : ∃ w3, w3 = wr.alloc (.cells (cells11 r) 52) := ⟨_, rfl⟩
      obtain ⟨g, hg⟩ : ∃ g, g = wr.heap.size := ⟨_, rfl⟩
      have HT3 : Hid (Turn (fun _ => False) w w3) := by rw [hw3]; exact HT.out.alloc _
      have HB3 : Hid (Box w3 g 52 (cells11 r)) := by rw [hw3, hg]; exact Box.new wr _ _
      have HCR : Hid (∀ W, Calls Tryz.prog 42 #[.agg #[.int .i64 r.c.n, .int .i64 r.c.s, .int .i64 r.c.lo, .int .i64 r.c.hi]] W fun e w' => e = .returned (.bool (rightC r.c)) ∧ Turn (fun _ => False) W w') := fun W => right_any r.c.n r.c.s r.c.lo r.c.hi W
      have HW3 := Lib.hid hw3; have HGG := Lib.hid hg
      clear hw3 hg
      by_cases hz : r.c.n = 0
      · have hzb : (r.c.n == 0) = true := beq_iff_eq.2 hz
        have HF : Hid (rightR l = false) := HNO.out (HLO.out (by rw [HRO.out, hzb]; rfl))
        have HE := Lib.hid (HT.out.alloc (.cells (cells11 r) 52))
        clear hc hr hz
        go_wp2
        go_ret2
        refine ⟨.pointer none, by rw [HF.out]; rfl, by rw [HF.out]; exact SV11.nil _, fun _ => rfl, HE.out⟩
      · have hzb : (r.c.n == 0) = false := beq_eq_false_iff_ne.2 hz
        clear hz
        cases hrc : rightC r.c with
        | false =>
          have HF : Hid (rightR l = false) := HNO.out (HLO.out (by rw [HRO.out, hrc, Bool.and_false]))
          rw [hrc] at HCR
          clear hc hr hrc
          go_wp2_with fail
          refine (HCR.out _).mono ?_
          rintro e w4 ⟨rfl, t4⟩
          have HE := Lib.hid ((HT.out.alloc (.cells (cells11 r) 52)).trans t4 (fun _ _ f => f))
          clear t4
          go_wp2
          go_ret2
          refine ⟨.pointer none, by rw [HF.out]; rfl, by rw [HF.out]; exact SV11.nil _, fun _ => rfl, HE.out⟩
        | true =>
          have HOR : Hid (okRow r = true) := by show _ = _; rw [HRO.out, hzb, hrc]; rfl
          rw [hrc] at HCR
          clear hrc
          go_wp2_with fail
          refine (HCR.out _).mono ?_
          rintro e w4 ⟨rfl, t4⟩
          have HT4 : Hid (Turn (fun _ => False) w3 w4) := by rw [HW3.out]; exact t4
          have HTW : Hid (Turn (fun _ => False) w w4) := HT3.out.trans HT4.out (fun _ _ f => f)
          have HBR : Hid (∀ W, Turn (fun _ => False) w4 W → Box W g 52 (cells11 r)) := fun W ht => (HB3.out.turn HT4.out (fun f => f)).turn ht (fun f => f)
          have HRV : Hid (RdE ER w4 (.slice (some ad) l.length c) l) := HV.out.later HTW.out
          clear t4 a0 a1 a2 a3 a4 a5 a6 a7 a8 hc HT3 HB3
          by_cases hpos : 0 < i
          · obtain ⟨q, hq⟩ : ∃ q, i = q + 1 := ⟨i - 1, by omega⟩
            obtain ⟨p, hp⟩ : ∃ p, l[q]? = some p := ⟨_, List.getElem?_eq_getElem (by omega)⟩
            obtain ⟨_, g2, hcp⟩ := row_at11 HRV.out hp
            cases g2
            have HPW : Hid (∀ W, Turn (fun _ => False) w4 W → RowAt W (ad.add (q * 9)) p) := fun W ht => hcp W ht
            unfold RowAt at HPW
            have hat : rightAt l i = (keyLt p.k r.k && okRow r) := by subst hq; exact rightAt_succ hr hp
            rw [HOR.out, Bool.and_true] at hat
            have hsub : IntKind.i64.wrap ((i : Int) - 1) = (q : Int) := by rw [hq, IntKind.wrap_i64]; omega
            have hql : (q : Int) < l.length := by omega
            have hpi : (0 : Int) < (i : Int) := by omega
            have HCM : Hid (∀ W, Calls Tryz.prog 43 #[.agg #[.int .i64 p.k.h, sv9 p.k.a, sv9 p.k.b, sv9 p.k.c, sv9 p.k.d], .agg #[.int .i64 r.k.h, sv9 r.k.a, sv9 r.k.b, sv9 r.k.c, sv9 r.k.d]] W fun e w' => e = .returned (.int .i64 (cmpK p.k r.k)) ∧ Turn (fun _ => False) W w') := fun W => compare_any9 p.k r.k W
            have hcg := cmpK_ge (p := p.k) (q := r.k)
            generalize cmpK p.k r.k = cm at *
            have HAT := Lib.hid hat
            clear hr hp hcp hat hq
            rcases hcg with ⟨hk, hneg⟩ | ⟨hk, hneg⟩
            · have HA : Hid (rightAt l i = true) := by show _ = _; rw [HAT.out, hk]
              have hn0 : ¬ (0 ≤ cm) := by omega
              clear hk
              go_wp2_with fail
              rw [← HGG.out]
              refine drawn_region (fun W => Turn (fun _ => False) w4 W) [] (by kernel_rfl) ?_
              have hS0 : Turn (fun _ => False) w4 (World.drew w4) := (Turn.refl _ w4).drew
              generalize World.drew w4 = wd at *
              refine drawn_take 0 23 (.int .i64 (i : Int)) rfl rfl (by kernel_rfl) (by kernel_rfl) (by kernel_rfl) (by kernel_rfl) (fun _ _ _ h => h) (by rfl) (by assumption) (by intro w hSw; obtain hS1 := hSw; go_simp) ?_
              try simp only [List.setIfInBounds_toArray, List.set_cons_zero, List.set_cons_succ]
              refine drawn_take 1 24 (.bool true) rfl rfl (by kernel_rfl) (by kernel_rfl) (by kernel_rfl) (by kernel_rfl) (fun _ _ _ h => h) (by rfl) (by assumption) (by intro w hSw; obtain hS1 := hSw; go_simp) ?_
              try simp only [List.setIfInBounds_toArray, List.set_cons_zero, List.set_cons_succ]
              refine drawn_take 2 25 (.bool true) rfl rfl (by kernel_rfl) (by kernel_rfl) (by kernel_rfl) (by kernel_rfl) (fun _ _ _ h => h) (by rfl) (by assumption) (by intro w hSw; obtain hS1 := hSw; go_simp) ?_
              try simp only [List.setIfInBounds_toArray, List.set_cons_zero, List.set_cons_succ]
              refine drawn_take 3 26 (.slice (some ad) l.length c) rfl rfl (by kernel_rfl) (by kernel_rfl) (by kernel_rfl) (by kernel_rfl) (fun _ _ _ h => h) (by rfl) (by assumption) (by intro w hSw; obtain hS1 := hSw; go_simp) ?_
              try simp only [List.setIfInBounds_toArray, List.set_cons_zero, List.set_cons_succ]
              refine drawn_take 4 27 (.int .i64 (i : Int)) rfl rfl (by kernel_rfl) (by kernel_rfl) (by kernel_rfl) (by kernel_rfl) (fun _ _ _ h => h) (by rfl) (by assumption) (by intro w hSw; obtain hS1 := hSw; go_simp) ?_
              try simp only [List.setIfInBounds_toArray, List.set_cons_zero, List.set_cons_succ]
              refine drawn_take 5 28 (.int .i64 (q : Int)) rfl rfl (by kernel_rfl) (by kernel_rfl) (by kernel_rfl) (by kernel_rfl) (fun _ _ _ h => h) (by rfl) (by assumption) (by intro w hSw; obtain hS1 := hSw; go_simp) ?_
              try simp only [List.setIfInBounds_toArray, List.set_cons_zero, List.set_cons_succ]
              refine drawn_take 6 29 (.pointer (some (ad.add (q * 9)))) rfl rfl (by kernel_rfl) (by kernel_rfl) (by kernel_rfl) (by kernel_rfl) (fun _ _ _ h => h) (by rfl) (by assumption) (by intro w hSw; obtain hS1 := hSw; go_simp) ?_
              try simp only [List.setIfInBounds_toArray, List.set_cons_zero, List.set_cons_succ]
              refine drawn_take 7 30 (.pointer (some (ad.add (q * 9)))) rfl rfl (by kernel_rfl) (by kernel_rfl) (by kernel_rfl) (by kernel_rfl) (fun _ _ _ h => h) (by rfl) (by assumption) (by intro w hSw; obtain hS1 := hSw; go_simp) ?_
              try simp only [List.setIfInBounds_toArray, List.set_cons_zero, List.set_cons_succ]
              refine drawn_take 8 31 (.agg #[.int .i64 p.k.h, sv9 p.k.a, sv9 p.k.b, sv9 p.k.c, sv9 p.k.d]) rfl rfl (by kernel_rfl) (by kernel_rfl) (by kernel_rfl) (by kernel_rfl) (fun _ _ _ h => h) (by rfl) (by assumption) (by intro w hSw; obtain ⟨a0, a1, a2, a3, a4, a5, a6, a7, a8⟩ := HPW.out w hSw; clear hSw; go_simp) ?_
              try simp only [List.setIfInBounds_toArray, List.set_cons_zero, List.set_cons_succ]
              refine drawn_take 9 32 (.pointer (some ⟨g, 0, none⟩)) rfl rfl (by kernel_rfl) (by kernel_rfl) (by kernel_rfl) (by kernel_rfl) (fun _ _ _ h => h) (by rfl) (by assumption) (by intro w hSw; obtain hS1 := hSw; go_simp) ?_
              try simp only [List.setIfInBounds_toArray, List.set_cons_zero, List.set_cons_succ]
              refine drawn_take 10 33 (.agg #[.int .i64 r.k.h, sv9 r.k.a, sv9 r.k.b, sv9 r.k.c, sv9 r.k.d]) rfl rfl (by kernel_rfl) (by kernel_rfl) (by kernel_rfl) (by kernel_rfl) (fun _ _ _ h => h) (by rfl) (by assumption) (by intro w hSw; have hb := HBR.out w hSw; have a0 := hb.cell 0; have a1 := hb.cell 1; have a2 := hb.cell 2; have a3 := hb.cell 3; have a4 := hb.cell 4; clear hSw hb; go_simp) ?_
              try simp only [List.setIfInBounds_toArray, List.set_cons_zero, List.set_cons_succ]
              refine drawn_any [11] (by kernel_rfl) (by simp) ?_
              refine drawn_cons rfl (fun K hK => ?_) drawn_nil
              go_simp
              refine (HCM.out _).mono ?_
              rintro e w5 ⟨rfl, t5⟩
              have hS4 := hS0.trans t5 (fun _ _ f => f)
              refine hK.out _ _ _ hS4 ?_
              clear hK K t5 hS0
              have hS0 := hS4
              clear hS4
              try simp only [List.setIfInBounds_toArray, List.set_cons_zero, List.set_cons_succ]
              refine drawn_take 12 35 (.bool false) rfl rfl (by kernel_rfl) (by kernel_rfl) (by kernel_rfl) (by kernel_rfl) (fun _ _ _ h => h) (by rfl) (by assumption) (by intro w hSw; obtain hS1 := hSw; go_simp) ?_
              try simp only [List.setIfInBounds_toArray, List.set_cons_zero, List.set_cons_succ]
              refine drawn_last1 13 36 (.bool false) rfl rfl (by kernel_rfl) (by kernel_rfl) (by rfl) (by intro w; go_simp) hS0 ?_
              try simp only [List.setIfInBounds_toArray, List.set_cons_zero, List.set_cons_succ]
              have HE := Lib.hid (HTW.out.trans hS0 (fun _ _ f => f))
              clear hS0
              go_wp2
              go_roundw
              case rel => exact ⟨i + 1, by go_num, hlt, HNX.out HA.out, HE.out⟩
              case measure => simp [intOf]; omega
            · have HF : Hid (rightR l = false) := HNO.out (by rw [HAT.out, hk])
              clear hk
              go_wp2_with fail
              rw [← HGG.out]
              refine drawn_region (fun W => Turn (fun _ => False) w4 W) [] (by kernel_rfl) ?_
              have hS0 : Turn (fun _ => False) w4 (World.drew w4) := (Turn.refl _ w4).drew
              generalize World.drew w4 = wd at *
              refine drawn_take 0 23 (.int .i64 (i : Int)) rfl rfl (by kernel_rfl) (by kernel_rfl) (by kernel_rfl) (by kernel_rfl) (fun _ _ _ h => h) (by rfl) (by assumption) (by intro w hSw; obtain hS1 := hSw; go_simp) ?_
              try simp only [List.setIfInBounds_toArray, List.set_cons_zero, List.set_cons_succ]
              refine drawn_take 1 24 (.bool true) rfl rfl (by kernel_rfl) (by kernel_rfl) (by kernel_rfl) (by kernel_rfl) (fun _ _ _ h => h) (by rfl) (by assumption) (by intro w hSw; obtain hS1 := hSw; go_simp) ?_
              try simp only [List.setIfInBounds_toArray, List.set_cons_zero, List.set_cons_succ]
              refine drawn_take 2 25 (.bool true) rfl rfl (by kernel_rfl) (by kernel_rfl) (by kernel_rfl) (by kernel_rfl) (fun _ _ _ h => h) (by rfl) (by assumption) (by intro w hSw; obtain hS1 := hSw; go_simp) ?_
              try simp only [List.setIfInBounds_toArray, List.set_cons_zero, List.set_cons_succ]
              refine drawn_take 3 26 (.slice (some ad) l.length c) rfl rfl (by kernel_rfl) (by kernel_rfl) (by kernel_rfl) (by kernel_rfl) (fun _ _ _ h => h) (by rfl) (by assumption) (by intro w hSw; obtain hS1 := hSw; go_simp) ?_
              try simp only [List.setIfInBounds_toArray, List.set_cons_zero, List.set_cons_succ]
              refine drawn_take 4 27 (.int .i64 (i : Int)) rfl rfl (by kernel_rfl) (by kernel_rfl) (by kernel_rfl) (by kernel_rfl) (fun _ _ _ h => h) (by rfl) (by assumption) (by intro w hSw; obtain hS1 := hSw; go_simp) ?_
              try simp only [List.setIfInBounds_toArray, List.set_cons_zero, List.set_cons_succ]
              refine drawn_take 5 28 (.int .i64 (q : Int)) rfl rfl (by kernel_rfl) (by kernel_rfl) (by kernel_rfl) (by kernel_rfl) (fun _ _ _ h => h) (by rfl) (by assumption) (by intro w hSw; obtain hS1 := hSw; go_simp) ?_
              try simp only [List.setIfInBounds_toArray, List.set_cons_zero, List.set_cons_succ]
              refine drawn_take 6 29 (.pointer (some (ad.add (q * 9)))) rfl rfl (by kernel_rfl) (by kernel_rfl) (by kernel_rfl) (by kernel_rfl) (fun _ _ _ h => h) (by rfl) (by assumption) (by intro w hSw; obtain hS1 := hSw; go_simp) ?_
              try simp only [List.setIfInBounds_toArray, List.set_cons_zero, List.set_cons_succ]
              refine drawn_take 7 30 (.pointer (some (ad.add (q * 9)))) rfl rfl (by kernel_rfl) (by kernel_rfl) (by kernel_rfl) (by kernel_rfl) (fun _ _ _ h => h) (by rfl) (by assumption) (by intro w hSw; obtain hS1 := hSw; go_simp) ?_
              try simp only [List.setIfInBounds_toArray, List.set_cons_zero, List.set_cons_succ]
              refine drawn_take 8 31 (.agg #[.int .i64 p.k.h, sv9 p.k.a, sv9 p.k.b, sv9 p.k.c, sv9 p.k.d]) rfl rfl (by kernel_rfl) (by kernel_rfl) (by kernel_rfl) (by kernel_rfl) (fun _ _ _ h => h) (by rfl) (by assumption) (by intro w hSw; obtain ⟨a0, a1, a2, a3, a4, a5, a6, a7, a8⟩ := HPW.out w hSw; clear hSw; go_simp) ?_
              try simp only [List.setIfInBounds_toArray, List.set_cons_zero, List.set_cons_succ]
              refine drawn_take 9 32 (.pointer (some ⟨g, 0, none⟩)) rfl rfl (by kernel_rfl) (by kernel_rfl) (by kernel_rfl) (by kernel_rfl) (fun _ _ _ h => h) (by rfl) (by assumption) (by intro w hSw; obtain hS1 := hSw; go_simp) ?_
              try simp only [List.setIfInBounds_toArray, List.set_cons_zero, List.set_cons_succ]
              refine drawn_take 10 33 (.agg #[.int .i64 r.k.h, sv9 r.k.a, sv9 r.k.b, sv9 r.k.c, sv9 r.k.d]) rfl rfl (by kernel_rfl) (by kernel_rfl) (by kernel_rfl) (by kernel_rfl) (fun _ _ _ h => h) (by rfl) (by assumption) (by intro w hSw; have hb := HBR.out w hSw; have a0 := hb.cell 0; have a1 := hb.cell 1; have a2 := hb.cell 2; have a3 := hb.cell 3; have a4 := hb.cell 4; clear hSw hb; go_simp) ?_
              try simp only [List.setIfInBounds_toArray, List.set_cons_zero, List.set_cons_succ]
              refine drawn_any [11] (by kernel_rfl) (by simp) ?_
              refine drawn_cons rfl (fun K hK => ?_) drawn_nil
              go_simp
              refine (HCM.out _).mono ?_
              rintro e w5 ⟨rfl, t5⟩
              have hS4 := hS0.trans t5 (fun _ _ f => f)
              refine hK.out _ _ _ hS4 ?_
              clear hK K t5 hS0
              have hS0 := hS4
              clear hS4
              try simp only [List.setIfInBounds_toArray, List.set_cons_zero, List.set_cons_succ]
              refine drawn_take 12 35 (.bool true) rfl rfl (by kernel_rfl) (by kernel_rfl) (by kernel_rfl) (by kernel_rfl) (fun _ _ _ h => h) (by rfl) (by assumption) (by intro w hSw; obtain hS1 := hSw; go_simp) ?_
              try simp only [List.setIfInBounds_toArray, List.set_cons_zero, List.set_cons_succ]
              refine drawn_last1 13 36 (.bool true) rfl rfl (by kernel_rfl) (by kernel_rfl) (by rfl) (by intro w; go_simp) hS0 ?_
              try simp only [List.setIfInBounds_toArray, List.set_cons_zero, List.set_cons_succ]
              have HE := Lib.hid (HTW.out.trans hS0 (fun _ _ f => f))
              clear hS0
              go_wp2
              go_ret2
              refine ⟨.pointer none, by rw [HF.out]; rfl, by rw [HF.out]; exact SV11.nil _, fun _ => rfl, HE.out⟩
          · have HA : Hid (rightAt l i = true) := by
              obtain rfl : i = 0 := by omega
              show _ = _
              rw [rightAt_zero hr, HOR.out]
            have hpi : ¬ (0 : Int) < (i : Int) := by omega
            clear hr
            go_wp2_with fail
            rw [← HGG.out]
            refine drawn_region (fun W => Turn (fun _ => False) w4 W) [] (by kernel_rfl) ?_
            have hS0 : Turn (fun _ => False) w4 (World.drew w4) := (Turn.refl _ w4).drew
            generalize World.drew w4 = wd at *
            refine drawn_take 0 23 (.int .i64 (i : Int)) rfl rfl (by kernel_rfl) (by kernel_rfl) (by kernel_rfl) (by kernel_rfl) (fun _ _ _ h => h) (by rfl) (by assumption) (by intro w hSw; obtain hS1 := hSw; go_simp) ?_
            try simp only [List.setIfInBounds_toArray, List.set_cons_zero, List.set_cons_succ]
            refine drawn_take 1 24 (.bool false) rfl rfl (by kernel_rfl) (by kernel_rfl) (by kernel_rfl) (by kernel_rfl) (fun _ _ _ h => h) (by rfl) (by assumption) (by intro w hSw; obtain hS1 := hSw; go_simp) ?_
            try simp only [List.setIfInBounds_toArray, List.set_cons_zero, List.set_cons_succ]
            refine drawn_take 2 25 (.bool false) rfl rfl (by kernel_rfl) (by kernel_rfl) (by kernel_rfl) (by kernel_rfl) (fun _ _ _ h => h) (by rfl) (by assumption) (by intro w hSw; obtain hS1 := hSw; go_simp) ?_
            try simp only [List.setIfInBounds_toArray, List.set_cons_zero, List.set_cons_succ]
            refine drawn_skip 3 26 rfl rfl (by kernel_rfl) (by kernel_rfl) (by kernel_rfl) (by kernel_rfl) (fun _ _ _ h => h) (by rfl) (fun _ => by assumption) ?_
            try simp only [List.setIfInBounds_toArray, List.set_cons_zero, List.set_cons_succ]
            refine drawn_skip 4 27 rfl rfl (by kernel_rfl) (by kernel_rfl) (by kernel_rfl) (by kernel_rfl) (fun _ _ _ h => h) (by rfl) (fun _ => by assumption) ?_
            try simp only [List.setIfInBounds_toArray, List.set_cons_zero, List.set_cons_succ]
            refine drawn_skip 5 28 rfl rfl (by kernel_rfl) (by kernel_rfl) (by kernel_rfl) (by kernel_rfl) (fun _ _ _ h => h) (by rfl) (fun _ => by assumption) ?_
            try simp only [List.setIfInBounds_toArray, List.set_cons_zero, List.set_cons_succ]
            refine drawn_skip 6 29 rfl rfl (by kernel_rfl) (by kernel_rfl) (by kernel_rfl) (by kernel_rfl) (fun _ _ _ h => h) (by rfl) (fun _ => by assumption) ?_
            try simp only [List.setIfInBounds_toArray, List.set_cons_zero, List.set_cons_succ]
            refine drawn_skip 7 30 rfl rfl (by kernel_rfl) (by kernel_rfl) (by kernel_rfl) (by kernel_rfl) (fun _ _ _ h => h) (by rfl) (fun _ => by assumption) ?_
            try simp only [List.setIfInBounds_toArray, List.set_cons_zero, List.set_cons_succ]
            refine drawn_skip 8 31 rfl rfl (by kernel_rfl) (by kernel_rfl) (by kernel_rfl) (by kernel_rfl) (fun _ _ _ h => h) (by rfl) (fun _ => by assumption) ?_
            try simp only [List.setIfInBounds_toArray, List.set_cons_zero, List.set_cons_succ]
            refine drawn_skip 9 32 rfl rfl (by kernel_rfl) (by kernel_rfl) (by kernel_rfl) (by kernel_rfl) (fun _ _ _ h => h) (by rfl) (fun _ => by assumption) ?_
            try simp only [List.setIfInBounds_toArray, List.set_cons_zero, List.set_cons_succ]
            refine drawn_skip 10 33 rfl rfl (by kernel_rfl) (by kernel_rfl) (by kernel_rfl) (by kernel_rfl) (fun _ _ _ h => h) (by rfl) (fun _ => by assumption) ?_
            try simp only [List.setIfInBounds_toArray, List.set_cons_zero, List.set_cons_succ]
            refine drawn_skip 11 34 rfl rfl (by kernel_rfl) (by kernel_rfl) (by kernel_rfl) (by kernel_rfl) (fun _ _ _ h => h) (by rfl) (fun _ => by assumption) ?_
            try simp only [List.setIfInBounds_toArray, List.set_cons_zero, List.set_cons_succ]
            refine drawn_skip 12 35 rfl rfl (by kernel_rfl) (by kernel_rfl) (by kernel_rfl) (by kernel_rfl) (fun _ _ _ h => h) (by rfl) (fun _ => by assumption) ?_
            try simp only [List.setIfInBounds_toArray, List.set_cons_zero, List.set_cons_succ]
            refine drawn_last1 13 36 (.bool false) rfl rfl (by kernel_rfl) (by kernel_rfl) (by rfl) (by intro w; go_simp) hS0 ?_
            try simp only [List.setIfInBounds_toArray, List.set_cons_zero, List.set_cons_succ]
            have HE := Lib.hid (HTW.out.trans hS0 (fun _ _ f => f))
            clear hS0
            go_wp2
            go_roundw
            case rel => exact ⟨i + 1, by go_num, hlt, HNX.out HA.out, HE.out⟩
            case measure => simp [intOf]; omega
    · obtain rfl : i = l.length := by omega
      have HY : Hid (rightR l = true) := rightR_yes HOI.out
      have HOK2 : Hid (rightR l = true ∧ (∀ r ∈ l, okC r.c) ∧ l.length ≤ 20000) := ⟨HY.out, HOK.out, hl⟩
      have HC := Lib.hid (clone11 _ l wr (HV.out.later HT.out) (by omega))
      go_wp2_with fail
      refine HC.out.mono ?_
      rintro e w4 ⟨sv, rfl, hn⟩
      have HN := Lib.hid hn
      obtain ⟨A2, c2, rfl⟩ := hn.own.shape
      clear hn HC
      go_wp2
      go_ret2
      exact ⟨_, by rw [HY.out]; rfl, by rw [HY.out]; exact SV11.new HN.out.own.rd HOK2.out, (fun e => by rw [HY.out] at e; cases e), (HT.out.trans HN.out.turn (fun _ _ f => f)).alloc _⟩

end Go.Proofs.YticglepkbihldaaGreat

/-
  Stage 12: decode: the segment of a payload.
-/
namespace Go.Proofs.YticglepkbihldaaGreat
open Go.RowKit

set_option maxRecDepth 100000

theorem rowsR_ok12 {T : Nat → List (List UInt8)} {N : Nat} : ∀ (i h : Nat) (s : St12) (out : List R11) (bad : Bool), (∀ r ∈ out, okC r.c) → ∀ r ∈ (rowsR T N i h s out bad).2.1, okC r.c
  | 0, _, _, _, _, ho => ho
  | i + 1, h, s, out, bad, ho => by
    by_cases hz : (st4 (rowR T N (hourN h s) (gNum' s) bad).2.1).2 = 0
    · rw [rowsR_more hz]
      refine rowsR_ok12 i _ _ _ _ fun r hr => ?_
      rcases List.mem_append.1 hr with hr | hr
      · exact ho r hr
      · rw [List.mem_singleton.1 hr]; exact cellR_ok _
    · rw [rowsR_fault hz]
      intro r hr
      cases hr
theorem dimR_short : ∀ (i : Nat) (s : St12) (out : List (List UInt8)) (bad : Bool), (dimR i s out bad).1.1.length ≤ s.1.length
  | 0, _, _, _ => Nat.le_refl _
  | i + 1, s, out, bad => by
    by_cases hz : (gText' 16 s).2 = 0
    · rw [dimR_more hz]
      exact Nat.le_trans (dimR_short i _ _ _) (gtext_short s)
    · rw [dimR_fault hz]
      exact gtext_short s
theorem dimsD_short : ∀ (N : Nat) (s : St12) (bad : Bool), (dimsD N s bad).1.1.length ≤ s.1.length
  | 0, _, _ => Nat.le_refl _
  | N + 1, s, bad => by
    show (dimD (dimsD N s bad).1 (dimsD N s bad).2.2).1.1.length ≤ _
    unfold dimD
    exact Nat.le_trans (dimR_short _ _ _ _) (Nat.le_trans (gcount_short _ _) (dimsD_short N s bad))
theorem gnum_short (s : St12) : (gNum' s).1.length ≤ s.1.length := by
  unfold gNum'
  split
  · rw [List.length_drop]; exact Nat.sub_le _ _
  · exact Nat.le_refl _
theorem rcells_put12 (p : Nat) (D : Nat → Option Addr) (bad : Bool) (E : Option Addr) : ∀ d, d < 4 → (rcells12 p D bad).setIfInBounds (1 + d) (.pointer E) = rcells12 p (fun x => if x = d then E else D x) bad := fun d hd => by
  match d, hd with
  | 0, _ => rfl
  | 1, _ => rfl
  | 2, _ => rfl
  | 3, _ => rfl
section
variable {w0 w w' : World} {p rb : Nat} {s s' : St12} {D : Nat → Option Addr} {T : Nat → List (List UInt8)} {bad : Bool}
theorem RX12.flag (h : RX12 w0 w p rb s D T bad) (b : Bool) : RX12 w0 (w.setCell ⟨rb, 5, none⟩ (.bool b)) p rb s D T b :=
  h.step (h.pr.stored h.new h.box 5 _) (h.box.set 5 (.bool b)) (Turn.setCell (S := fun g => g = p ∨ g = rb) (p := ⟨rb, 5, none⟩) (Turn.refl _ w) (fun _ => .inr rfl) _)
theorem RX12.put (h : RX12 w0 w p rb s D T bad) {d : Nat} (hd : d < 4) (E : Option Addr) {L : List (List UInt8)} (hE : DV10 w (.pointer E) L) : RX12 w0 (w.setCell ⟨rb, 1 + d, none⟩ (.pointer E)) p rb s (fun x => if x = d then E else D x) (fun x => if x = d then L else T x) bad := by
  have ht : Turn (fun g => g = p ∨ g = rb) w (w.setCell ⟨rb, 1 + d, none⟩ (.pointer E)) := Turn.setCell (S := fun g => g = p ∨ g = rb) (p := ⟨rb, 1 + d, none⟩) (Turn.refl _ w) (fun _ => .inr rfl) _
  refine ⟨h.pr.stored h.new h.box (1 + d) _, h.new, ?_, fun x hx => ?_⟩
  · have := h.box.set (1 + d) (.pointer E)
    rw [rcells_put12 p D bad E d hd] at this
    exact this
  · by_cases e : x = d
    · rw [if_pos e, if_pos e]
      exact hE.kept ht h.apart
    · rw [if_neg e, if_neg e]
      exact (h.dic x hx).kept ht h.apart
end
/-- What decF answers, by cases. -/
theorem decF_fault {p : List UInt8} {N : Nat} (h : (rows0 p N).1.2 ≠ 0) : decF p N = (((rows0 p N).1.2 : Int), []) := if_pos h
theorem decF_left {p : List UInt8} {N : Nat} (h0 : (rows0 p N).1.2 = 0) (h : (rows0 p N).2.2 = true ∨ 0 < (rows0 p N).1.1.length) : decF p N = (4, []) := by
  unfold decF
  rw [if_neg (by omega), if_pos h]
theorem decF_rows {p : List UInt8} {N : Nat} (h0 : (rows0 p N).1.2 = 0) (h1 : (rows0 p N).2.2 = false) (h2 : (rows0 p N).1.1.length = 0) (h : rightR (rows0 p N).2.1 = false) : decF p N = (4, []) := by
  unfold decF
  rw [if_neg (by omega), if_neg (by rw [h1, h2]; simp), if_pos h]
theorem decF_fit {p : List UInt8} {N : Nat} (h0 : (rows0 p N).1.2 = 0) (h1 : (rows0 p N).2.2 = false) (h2 : (rows0 p N).1.1.length = 0) (h3 : rightR (rows0 p N).2.1 = true) (h : fitL (rows0 p N).2.1 N ≠ 0 ∨ usedN (rows0 p N).2.1 (dims0 p N).2.1 N = false) : decF p N = (4, []) := by
  unfold decF
  rw [if_neg (by omega), if_neg (by rw [h1, h2]; simp), if_neg (by rw [h3]; simp), if_pos h]
theorem decF_ok {p : List UInt8} {N : Nat} (h0 : (rows0 p N).1.2 = 0) (h1 : (rows0 p N).2.2 = false) (h2 : (rows0 p N).1.1.length = 0) (h3 : rightR (rows0 p N).2.1 = true) (h4 : fitL (rows0 p N).2.1 N = 0) (h5 : usedN (rows0 p N).2.1 (dims0 p N).2.1 N = true) : decF p N = (0, (rows0 p N).2.1) := by
  unfold decF
  rw [if_neg (by omega), if_neg (by rw [h1, h2]; simp), if_neg (by rw [h3]; simp), if_neg (by rw [h4, h5]; simp)]

/-- Behind decode. -/
def DecA12 (w : World) (r : Int × List R11) (e : Ending) (w' : World) : Prop := ∃ s, e = .returned (.tuple #[s, .int .i64 r.1]) ∧ SV11 w' s r.2 ∧ (r.1 ≠ 0 → s = .pointer none) ∧ Turn (fun _ => False) w w'
set_option maxHeartbeats 16000000 in
theorem decode_any12 (v : Value) (pl : List UInt8) (N : Nat) (hN1 : 1 ≤ N) (hN : N ≤ 4) (w : World) (hv : Rd w v pl) (hl : pl.length ≤ 20000) :
    Calls Tryz.prog 37 #[v, .int .i64 (N : Int)] w fun e w' => DecA12 w (decF pl N) e w' := by
  obtain ⟨Z, hZ⟩ : ∃ Z, Z = decF pl N := ⟨_, rfl⟩
  rw [← hZ]
  have HZE := Lib.hid hZ
  clear hZ
  have HNR := Lib.hid (pr_new v pl (Turn.refl _ w) hv (by omega))
  obtain ⟨A, c, rfl⟩ := hv.shape
  have HLP := Lib.hid hl
  clear hv hl
  have hwN : IntKind.u64.wrap (N : Int) = (N : Int) := by rw [IntKind.wrap_u64]; omega
  go_enter Tryz.func37, Tryz.ntmps37
  go_wp2_with fail
  refine HNR.out.mono ?_
  rintro e w1 ⟨q, rfl, h1, hq⟩
  obtain ⟨rb, hrb⟩ : ∃ rb : Nat, rb = w1.heap.size := ⟨_, rfl⟩
  obtain ⟨w2, hw2⟩ : ∃ w2, w2 = w1.alloc (.cells (rcells12 q (fun _ => none) false) 111) := ⟨_, rfl⟩
  have HX2 : Hid (RX12 w w2 q rb (pl, 0) (fun _ => none) (fun _ => []) false) := by
    rw [hw2, hrb]
    exact ⟨h1.later ((Turn.refl _ w1).alloc _), h1.turn.size, Box.new w1 _ _, fun d _ => DV10.nil _⟩
  have HW2 := Lib.hid hw2; have HRB := Lib.hid hrb
  have hc0 : w2.cell? ⟨rb, 0, none⟩ = some (.pointer (some ⟨q, 0, none⟩)) := HX2.out.box.cell 0
  clear h1 hq HNR hw2 hrb
  go_wp2_with fail
  rw [← HW2.out, ← HRB.out]
  go_wp2_with fail
  refine (pr_num HX2.out.pr).mono ?_
  rintro e w3 ⟨rfl, h3, t3⟩
  have HX3 := Lib.hid (HX2.out.read h3 t3)
  obtain ⟨b0, hb0⟩ : ∃ b0, b0 = !decide (gNum (pl, 0) = N) := ⟨_, rfl⟩
  obtain ⟨s1, hs1⟩ : ∃ s1, s1 = gNum' (pl, 0) := ⟨_, rfl⟩
  have HD0 : Hid (∀ M, dimsD M s1 b0 = dimsD M (gNum' (pl, 0)) (!decide (gNum (pl, 0) = N))) := fun M => by rw [hb0, hs1]
  have HK1 : Hid (s1.1.length ≤ 20000) := by show _ ≤ _; rw [hs1]; exact Nat.le_trans (gnum_short _) HLP.out
  rw [← hs1] at HX3
  obtain ⟨g, hg⟩ : ∃ g, g = gNum (pl, 0) := ⟨_, rfl⟩
  have hbn : ((g : Int) != (N : Int)) = b0 := by
    rw [hb0, ← hg]
    by_cases e : g = N
    · subst e; simp
    · rw [decide_eq_false e]
      show _ = true
      rw [bne_iff_ne]
      omega
  rw [← hg]
  have hf5 := HX3.out.box.free 5
  have hc5 := HX3.out.box.cell 5
  have HX4 := Lib.hid (HX3.out.flag b0)
  clear h3 t3 hb0 hs1 hg hc0
  go_wp2_with fail
  clear hbn hf5 hc5
  generalize w3.setCell ⟨rb, 5, none⟩ (.bool b0) = w4 at *
  go_loopw [28] (fun x28 wr => ∃ (d : Nat) (D : Nat → Option Addr), x28 = .int .i64 (d : Int) ∧ d ≤ N ∧ RX12 w wr q rb (dimsD d s1 b0).1 D (dimsD d s1 b0).2.1 (dimsD d s1 b0).2.2) (fun x28 _ => N - (intOf x28).toNat)
  case atStart => exact ⟨0, _, rfl, Nat.zero_le _, HX4.out⟩
  case round =>
    clear HX4 HX3 HX2
    obtain ⟨d, D, rfl, hdN, hx⟩ := hrel
    have HX := Lib.hid hx
    clear hx
    by_cases hlt : d < N
    · have hdl : (d : Int) < N := by omega
      have hd4 : (d : Int) < 4 := by omega
      have HDS : Hid (dimsD (d + 1) s1 b0 = ((dimD (dimsD d s1 b0).1 (dimsD d s1 b0).2.2).1, fun x => if x = d then ofT (dimD (dimsD d s1 b0).1 (dimsD d s1 b0).2.2).2.1 else (dimsD d s1 b0).2.1 x, (dimD (dimsD d s1 b0).1 (dimsD d s1 b0).2.2).2.2)) := rfl
      have HSH : Hid ((dimsD d s1 b0).1.1.length ≤ 20000) := Nat.le_trans (dimsD_short d s1 b0) HK1.out
      obtain ⟨P, hP⟩ : ∃ P, P = dimsD d s1 b0 := ⟨_, rfl⟩
      rw [← hP] at HX HDS HSH
      clear hP
      go_wp2_with fail
      refine drawn_region (fun W => Turn (fun g => g = q ∨ g = rb) wr W) [7] (by kernel_rfl) ?_
      have HTD : Hid (Turn (fun _ => False) wr (World.drew wr)) := (Turn.refl _ wr).drew
      have hS0 : Turn (fun g => g = q ∨ g = rb) wr (World.drew wr) := HTD.out.none
      have HDM := Lib.hid (dimension_any12 w q rb P.1 D P.2.1 P.2.2 (World.drew wr) (HX.out.later HTD.out) HSH.out)
      generalize World.drew wr = wd at *
      refine drawn_take 0 31 (.pointer (some ⟨rb, 0, none⟩)) rfl rfl (by kernel_rfl) (by kernel_rfl) (by kernel_rfl) (by kernel_rfl) (fun _ _ _ h => h) (by rfl) (by assumption) (by intro w hSw; obtain hS1 := hSw; go_simp) ?_
      try simp only [List.setIfInBounds_toArray, List.set_cons_zero, List.set_cons_succ]
      refine drawn_take 1 32 (.int .i64 (d : Int)) rfl rfl (by kernel_rfl) (by kernel_rfl) (by kernel_rfl) (by kernel_rfl) (fun _ _ _ h => h) (by rfl) (by assumption) (by intro w hSw; obtain hS1 := hSw; go_simp) ?_
      try simp only [List.setIfInBounds_toArray, List.set_cons_zero, List.set_cons_succ]
      refine drawn_take 2 33 (.pointer (some ⟨rb, 0, none⟩)) rfl rfl (by kernel_rfl) (by kernel_rfl) (by kernel_rfl) (by kernel_rfl) (fun _ _ _ h => h) (by rfl) (by assumption) (by intro w hSw; obtain hS1 := hSw; go_simp) ?_
      try simp only [List.setIfInBounds_toArray, List.set_cons_zero, List.set_cons_succ]
      refine drawn_take 4 35 (.pointer (some ⟨rb, 0, none⟩)) rfl rfl (by kernel_rfl) (by kernel_rfl) (by kernel_rfl) (by kernel_rfl) (fun _ _ _ h => h) (by rfl) (by assumption) (by intro w hSw; obtain hS1 := hSw; go_simp) ?_
      try simp only [List.setIfInBounds_toArray, List.set_cons_zero, List.set_cons_succ]
      refine drawn_take 5 36 (.pointer (some ⟨rb, 1, none⟩)) rfl rfl (by kernel_rfl) (by kernel_rfl) (by kernel_rfl) (by kernel_rfl) (fun _ _ _ h => h) (by rfl) (by assumption) (by intro w hSw; obtain hS1 := hSw; go_simp) ?_
      try simp only [List.setIfInBounds_toArray, List.set_cons_zero, List.set_cons_succ]
      refine drawn_any [3] (by kernel_rfl) (by simp) ?_
      refine drawn_cons rfl (fun K hK => ?_) drawn_nil
      go_simp
      refine HDM.out.mono ?_
      rintro e w5 ⟨E, rfl, hx, hE, t5⟩
      have hS3 := hS0.trans t5 (fun _ _ e => e)
      have HX5 := Lib.hid hx
      have HPT := Lib.hid (hx.put (show d < 4 by omega) E hE)
      refine hK.out _ _ _ hS3 ?_
      clear hK K hS0 hx hE t5 HDM
      try simp only [List.setIfInBounds_toArray, List.set_cons_zero, List.set_cons_succ]
      refine drawn_take 6 37 (.pointer (some ⟨rb, 1 + d, none⟩)) rfl rfl (by kernel_rfl) (by kernel_rfl) (by kernel_rfl) (by kernel_rfl) (fun _ _ _ h => h) (by rfl) (by assumption) (by intro w hSw; obtain hS1 := hSw; go_simp) ?_
      try simp only [List.setIfInBounds_toArray, List.set_cons_zero, List.set_cons_succ]
      refine drawn_last (z := 7) rfl (by kernel_rfl) (by kernel_rfl) (by kernel_rfl) (fun K hK => ?_)
      have hfd := HX5.out.box.free (1 + d)
      have hcd : w5.cell? ⟨rb, 1 + d, none⟩ = some (.pointer (D d)) := by rw [HX5.out.box.cell]; exact dic_at12 d (by omega)
      go_simp
      refine hK.out _ _ ?_
      clear hK K hS3 hfd hcd
      try simp only [List.setIfInBounds_toArray, List.set_cons_zero, List.set_cons_succ]
      go_wp2
      go_roundw
      case rel => exact ⟨d + 1, _, by go_num, hlt, by rw [HDS.out]; exact HPT.out⟩
      case measure => simp [intOf]; omega
    · obtain rfl : d = N := by omega
      have HSH : Hid ((dimsD d s1 b0).1.1.length ≤ 20000) := Nat.le_trans (dimsD_short d s1 b0) HK1.out
      have hE0 : dims0 pl d = dimsD d s1 b0 := (HD0.out d).symm
      have HR0 : Hid (rows0 pl d = rowsR (dimsD d s1 b0).2.1 d (gCount 1048576 (dimsD d s1 b0).1) 0 (gCount' 1048576 (dimsD d s1 b0).1) [] (dimsD d s1 b0).2.2) := by show _ = _; rw [← hE0]; rfl
      have HRR := Lib.hid (rows_read12 w q rb (dimsD d s1 b0).1 D (dimsD d s1 b0).2.1 (dimsD d s1 b0).2.2 d hN wr HX.out HSH.out)
      unfold RowsD12 at HRR
      rw [← HR0.out] at HRR
      have HOK : Hid (∀ r ∈ (rows0 pl d).2.1, okC r.c) := by rw [HR0.out]; exact rowsR_ok12 _ _ _ _ _ (fun r hr => by cases hr)
      obtain ⟨T, hT⟩ : ∃ T, T = (dimsD d s1 b0).2.1 := ⟨_, rfl⟩
      rw [← hT] at HRR
      have HDF1 : Hid ((rows0 pl d).1.2 ≠ 0 → decF pl d = (((rows0 pl d).1.2 : Int), [])) := fun h => decF_fault h
      have HDF2 : Hid ((rows0 pl d).1.2 = 0 → ((rows0 pl d).2.2 = true ∨ 0 < (rows0 pl d).1.1.length) → decF pl d = (4, [])) := fun h => decF_left h
      have HDF3 : Hid ((rows0 pl d).1.2 = 0 → (rows0 pl d).2.2 = false → (rows0 pl d).1.1.length = 0 → rightR (rows0 pl d).2.1 = false → decF pl d = (4, [])) := fun h0 h1 h2 h => decF_rows h0 h1 h2 h
      have HDF4 : Hid ((rows0 pl d).1.2 = 0 → (rows0 pl d).2.2 = false → (rows0 pl d).1.1.length = 0 → rightR (rows0 pl d).2.1 = true → (fitL (rows0 pl d).2.1 d ≠ 0 ∨ usedN (rows0 pl d).2.1 T d = false) → decF pl d = (4, [])) := fun h0 h1 h2 h3 h => decF_fit h0 h1 h2 h3 (by rw [hE0, ← hT]; exact h)
      have HDF5 : Hid ((rows0 pl d).1.2 = 0 → (rows0 pl d).2.2 = false → (rows0 pl d).1.1.length = 0 → rightR (rows0 pl d).2.1 = true → fitL (rows0 pl d).2.1 d = 0 → usedN (rows0 pl d).2.1 T d = true → decF pl d = (0, (rows0 pl d).2.1)) := fun h0 h1 h2 h3 h4 h5 => decF_ok h0 h1 h2 h3 h4 (by rw [hE0, ← hT]; exact h5)
      rw [← HZE.out] at HDF1 HDF2 HDF3 HDF4 HDF5
      clear HR0 hE0 hT
      generalize rows0 pl d = R0 at *
      obtain ⟨⟨rest, f⟩, rs, bd⟩ := R0
      dsimp only at HRR HOK HDF1 HDF2 HDF3 HDF4 HDF5
      go_wp2_with fail
      refine HRR.out.mono ?_
      rintro e w5 ⟨v5, rfl, hx, hrd, hrl, t5⟩
      obtain ⟨A5, c5, rfl⟩ := hrd.shape
      have HX5 := Lib.hid hx; have HRD := Lib.hid hrd; have HRL := Lib.hid hrl
      have hc0 : w5.cell? ⟨rb, 0, none⟩ = some (.pointer (some ⟨q, 0, none⟩)) := hx.box.cell 0
      have hc5 : w5.cell? ⟨rb, 5, none⟩ = some (.bool bd) := hx.box.cell 5
      clear hx hrd hrl t5 HRR HX
      go_wp2_with fail
      refine (pr_fault HX5.out.pr).mono ?_
      rintro e w5' ⟨rfl, hw⟩
      subst hw
      by_cases hf : f = 0
      · subst hf
        cases bd with
        | true =>
          have HZ := Lib.hid (HDF2.out (by first | rfl | trivial) (.inl (by first | rfl | trivial)))
          go_wp2
          go_ret2
          exact ⟨_, by rw [HZ.out]; rfl, by rw [HZ.out]; exact SV11.nil _, fun _ => rfl, HX5.out.turn⟩
        | false =>
          go_wp2_with fail
          refine (pr_left HX5.out.pr rfl).mono ?_
          rintro e w6 ⟨rfl, nn, rfl⟩
          have HT6 : Hid (Turn (fun _ => False) w5 (w5.drewN nn)) := (Turn.refl _ w5).drewN nn
          generalize w5.drewN nn = w6 at *
          by_cases hre : 0 < rest.length
          · have HZ := Lib.hid (HDF2.out (by first | rfl | trivial) (.inr hre))
            have hri : (0 : Int) < (rest.length : Int) := by omega
            go_wp2
            go_ret2
            exact ⟨_, by rw [HZ.out]; rfl, by rw [HZ.out]; exact SV11.nil _, fun _ => rfl, HX5.out.turn.trans HT6.out (fun _ _ f => f)⟩
          · have hr0 : rest.length = 0 := by omega
            have HR0 := Lib.hid hr0
            have hri : ¬ (0 : Int) < (rest.length : Int) := by omega
            have HSR := Lib.hid (rows_any11 _ rs w6 (HRD.out.later HT6.out) HOK.out HRL.out)
            unfold RowsA11 at HSR
            cases hrr : rightR rs with
            | false =>
              rw [hrr] at HSR
              have HZ := Lib.hid (HDF3.out (by first | rfl | trivial) (by first | rfl | trivial) hr0 hrr)
              clear hr0
              go_wp2_with fail
              refine HSR.out.mono ?_
              rintro e w7 ⟨s7, rfl, hs, hn, t7⟩
              obtain rfl := hn (by first | rfl | trivial)
              have HT7 := Lib.hid t7
              clear hs hn t7 HSR
              simp only [Bool.false_eq_true, if_false]
              go_wp2
              go_ret2
              exact ⟨_, by rw [HZ.out]; rfl, by rw [HZ.out]; exact SV11.nil _, fun _ => rfl, (HX5.out.turn.trans HT6.out (fun _ _ f => f)).trans HT7.out (fun _ _ f => f)⟩
            | true =>
              rw [hrr] at HSR
              have HRR := Lib.hid hrr
              clear hr0 hrr
              go_wp2_with fail
              refine HSR.out.mono ?_
              rintro e w7 ⟨s7, rfl, hs, hn, t7⟩
              simp only [if_true] at hs
              obtain ⟨p7, rfl⟩ := hs.ptr
              have HS7 := Lib.hid hs; have HT7 := Lib.hid t7
              clear hs hn t7 HSR
              simp only [if_true]
              have HTW : Hid (Turn (fun _ => False) w w7) := (HX5.out.turn.trans HT6.out (fun _ _ f => f)).trans HT7.out (fun _ _ f => f)
              have HFT := Lib.hid (fits_any12 (.pointer p7) rs (d : Int) w7 HS7.out)
              by_cases hfi : fitL rs (d : Int) = 0
              · have HFI := Lib.hid hfi
                rw [hfi] at HFT
                clear hfi
                go_wp2_with fail
                refine HFT.out.mono ?_
                rintro e w8 ⟨rfl, t8⟩
                have HT8 := Lib.hid t8
                have HAU := Lib.hid (allUsed_any12 w q rb _ D T _ (.pointer p7) rs d hN w8 (((HX5.out.later HT6.out).later HT7.out).later t8) (HS7.out.later t8))
                clear t8 HFT
                go_wp2_with fail
                refine HAU.out.mono ?_
                rintro e w9 ⟨rfl, t9⟩
                have HT9 := Lib.hid t9
                clear t9 HAU
                cases hu : usedN rs T d with
                | true =>
                  have HZ := Lib.hid (HDF5.out (by first | rfl | trivial) (by first | rfl | trivial) HR0.out HRR.out HFI.out hu)
                  clear hu
                  go_wp2
                  go_ret2
                  exact ⟨_, by rw [HZ.out]; rfl, by rw [HZ.out]; exact (HS7.out.later HT8.out).later HT9.out, fun h => absurd (by rw [HZ.out]) h, (HTW.out.trans HT8.out (fun _ _ f => f)).trans HT9.out (fun _ _ f => f)⟩
                | false =>
                  have HZ := Lib.hid (HDF4.out (by first | rfl | trivial) (by first | rfl | trivial) HR0.out HRR.out (.inr hu))
                  clear hu
                  go_wp2
                  go_ret2
                  exact ⟨_, by rw [HZ.out]; rfl, by rw [HZ.out]; exact SV11.nil _, fun _ => rfl, (HTW.out.trans HT8.out (fun _ _ f => f)).trans HT9.out (fun _ _ f => f)⟩
              · have HZ := Lib.hid (HDF4.out (by first | rfl | trivial) (by first | rfl | trivial) HR0.out HRR.out (.inl hfi))
                obtain ⟨ff, hff⟩ : ∃ ff, ff = fitL rs (d : Int) := ⟨_, rfl⟩
                rw [← hff] at HFT hfi
                have hx1 : (ff == 0) = false := by rw [beq_eq_false_iff_ne]; exact hfi
                have hx2 : (ff != 0) = true := by rw [bne_iff_ne]; exact hfi
                clear hff hfi
                go_wp2_with fail
                refine HFT.out.mono ?_
                rintro e w8 ⟨rfl, t8⟩
                have HT8 := Lib.hid t8
                clear t8 HFT
                go_wp2
                go_ret2
                exact ⟨_, by rw [HZ.out]; rfl, by rw [HZ.out]; exact SV11.nil _, fun _ => rfl, HTW.out.trans HT8.out (fun _ _ f => f)⟩
      · have HZ := Lib.hid (HDF1.out hf)
        have hx2 : (((f : Int) != 0) = true) := by rw [bne_iff_ne]; omega
        have hx1 : (((f : Int) == 0) = false) := by rw [beq_eq_false_iff_ne]; omega
        clear hf
        go_wp2
        go_ret2
        exact ⟨_, by rw [HZ.out]; rfl, by rw [HZ.out]; exact SV11.nil _, fun _ => rfl, HX5.out.turn⟩

end Go.Proofs.YticglepkbihldaaGreat

/-
  Stage 12, plain: what is put is read as it was.
-/
namespace Go.Proofs.YticglepkbihldaaGreat
open Go.RowKit

theorem dimR_back : ∀ (new out : List (List UInt8)) (r : List UInt8), (∀ t ∈ new, t.length ≤ 16) → ((out ++ new).Pairwise fun x y => Op.bytesLess x y = true) → dimR new.length (new.flatMap tB ++ r, 0) out false = ((r, 0), out ++ new, false)
  | [], out, r, _, _ => by simp [dimR]
  | t :: new, out, r, hs, hp => by
    have ht := hs t (List.mem_cons_self ..)
    obtain ⟨a1, a2⟩ := gtext_back (most := 16) (by omega) ht (new.flatMap tB ++ r)
    have e : (t :: new).flatMap tB ++ r = tB t ++ (new.flatMap tB ++ r) := by rw [List.flatMap_cons, List.append_assoc]
    have hp2 : ((out ++ [t]) ++ new).Pairwise fun x y => Op.bytesLess x y = true := by rw [List.append_assoc]; exact hp
    have hu : unrise out t = false := unrise_no (List.pairwise_append.1 hp2).1
    show (if (gText' 16 ((t :: new).flatMap tB ++ r, 0)).2 ≠ 0 then _ else dimR new.length _ _ _) = _
    rw [e, a1, a2, if_neg (by simp), hu, Bool.or_false]
    rw [dimR_back new (out ++ [t]) r (fun x hx => hs x (List.mem_cons_of_mem _ hx)) hp2, List.append_assoc]
    rfl
theorem dimD_back {T : List (List UInt8)} (hl : T.length ≤ 65536) (hs : ∀ t ∈ T, t.length ≤ 16) (hp : T.Pairwise fun x y => Op.bytesLess x y = true) (r : List UInt8) : dimD (dimB T ++ r, 0) false = ((r, 0), T, false) := by
  unfold dimD dimB
  rw [List.append_assoc]
  obtain ⟨a1, a2⟩ := gcount_back (most := 65536) (by omega) hl (T.flatMap tB ++ r)
  rw [a1, a2]
  have := dimR_back T [] r hs (by simpa using hp)
  simpa using this
theorem dimsD_back {T : Nat → List (List UInt8)} : ∀ (N : Nat) (r : List UInt8), (∀ d, d < N → (T d).length ≤ 65536 ∧ (∀ t ∈ T d, t.length ≤ 16) ∧ (T d).Pairwise fun x y => Op.bytesLess x y = true) →
    (dimsD N (dimsB T N ++ r, 0) false).1 = (r, 0) ∧ (dimsD N (dimsB T N ++ r, 0) false).2.2 = false ∧ ∀ d, d < N → (dimsD N (dimsB T N ++ r, 0) false).2.1 d = T d
  | 0, r, _ => ⟨rfl, rfl, fun d hd => absurd hd (Nat.not_lt_zero d)⟩
  | N + 1, r, h => by
    obtain ⟨a1, a2, a3⟩ := dimsD_back N (dimB (T N) ++ r) (fun d hd => h d (by omega))
    obtain ⟨g1, g2, g3⟩ := h N (by omega)
    have e : dimsB T (N + 1) ++ r = dimsB T N ++ (dimB (T N) ++ r) := by
      show dimsB T N ++ dimB (T N) ++ r = _
      rw [List.append_assoc]
    have ed := dimD_back g1 g2 g3 r
    rw [e]
    have eD : dimD (dimsD N (dimsB T N ++ (dimB (T N) ++ r), 0) false).1 (dimsD N (dimsB T N ++ (dimB (T N) ++ r), 0) false).2.2 = ((r, 0), T N, false) := by rw [a1, a2]; exact ed
    refine ⟨?_, ?_, fun d hd => ?_⟩
    · show (dimD _ _).1 = _
      rw [eD]
    · show (dimD _ _).2.2 = _
      rw [eD]
    · show (if d = N then ofT (dimD _ _).2.1 else _) = _
      by_cases c : d = N
      · rw [if_pos c, eD, c]
        obtain ⟨s1, s2⟩ := setG_is Op.bytesLess rises_bytes (T N)
        exact rising_same rises_bytes s1 g3 s2
      · rw [if_neg c]
        exact a3 d (by omega)
theorem plcR_back {T : Nat → List (List UInt8)} (k0 k : K9) : ∀ (N : Nat) (r : List UInt8), (∀ d, d < N → k.dim d ∈ T d ∧ (T d).length ≤ 65536) → plcR T k0 (placesB T k N ++ r, 0) false N = (putN12 k0 k N, (r, 0), false)
  | 0, _, _ => rfl
  | N + 1, r, h => by
    have ih := plcR_back k0 k N (enc (idxG (k.dim N) (T N)) ++ r) (fun d hd => h d (by omega))
    obtain ⟨hm, hl⟩ := h N (by omega)
    have hi : idxG (k.dim N) (T N) < (T N).length := idxG_mem.2 hm
    have ha := idxG_at (x := k.dim N) (l := T N) rfl hi
    obtain ⟨c1, c2⟩ := gcount_back (most := 65535) (n := idxG (k.dim N) (T N)) (by omega) (by omega) r
    have e : placesB T k (N + 1) ++ r = placesB T k N ++ (enc (idxG (k.dim N) (T N)) ++ r) := by
      show placesB T k N ++ enc (idxG (k.dim N) (T N)) ++ r = _
      rw [List.append_assoc]
    rw [e]
    show ((plcR T k0 (placesB T k N ++ (enc (idxG (k.dim N) (T N)) ++ r), 0) false N).1.put N _, gCount' 65535 (plcR T k0 (placesB T k N ++ (enc (idxG (k.dim N) (T N)) ++ r), 0) false N).2.1, (plcR T k0 (placesB T k N ++ (enc (idxG (k.dim N) (T N)) ++ r), 0) false N).2.2 || _) = _
    rw [ih]
    simp only
    rw [c1, c2, ha]
    rfl
theorem cell_back {c : Cl} (h : okC c) (h0 : 0 ≤ c.n) (r : List UInt8) : cellR (cellB c ++ r, 0) = c ∧ st4 (cellB c ++ r, 0) = (r, 0) := by
  obtain ⟨o1, o2, o3, o4⟩ := h
  have o1' := o1
  rw [fit_iff] at o1'
  obtain ⟨m, hm⟩ := Int.eq_ofNat_of_zero_le h0
  obtain ⟨n, s, lo, hi⟩ := c
  simp only at hm o1 o2 o3 o4 o1' h0
  subst hm
  have e : cellB ⟨(m : Int), s, lo, hi⟩ ++ r = enc m ++ (enc (zig s) ++ (enc (zig lo) ++ (enc (zig hi) ++ r))) := by
    unfold cellB
    simp only [Int.toNat_natCast, List.append_assoc]
  obtain ⟨a1, a2⟩ := gnum_back (n := m) (by omega) (enc (zig s) ++ (enc (zig lo) ++ (enc (zig hi) ++ r)))
  obtain ⟨b1, b2⟩ := gint_back o2 (enc (zig lo) ++ (enc (zig hi) ++ r))
  obtain ⟨c1, c2⟩ := gint_back o3 (enc (zig hi) ++ r)
  obtain ⟨d1, d2⟩ := gint_back o4 r
  unfold cellR st4
  rw [e, a1, a2, b1, b2, c1, c2, d1, d2, IntWalk.i64_in _ (by omega)]
  exact ⟨rfl, rfl⟩
/-- Rows in their order, from an hour on. -/
def UpH : Int → List R11 → Prop
  | _, [] => True
  | h, r :: l => h ≤ r.k.h ∧ UpH r.k.h l
theorem upH_of {l : List R11} (hl : RiseR l) : ∀ {h : Int}, (∀ r ∈ l, h ≤ r.k.h) → UpH h l := by
  induction l with
  | nil => intro h _; trivial
  | cons r l ih =>
    intro h hr
    refine ⟨hr r (List.mem_cons_self ..), ?_⟩
    unfold RiseR at hl
    rw [List.pairwise_cons] at hl
    refine ih hl.2 fun s hs => ?_
    have h2 := hl.1 s hs
    by_cases e : r.k.h = s.k.h
    · omega
    · simp [keyLt, lexB, K9.tup, e] at h2
      have h3 := of_decide_eq_true h2
      omega
theorem rowsR_back {T : Nat → List (List UInt8)} {N : Nat} (hN1 : 1 ≤ N) (hN : N ≤ 4) : ∀ (l out : List R11) (h : Nat) (r : List UInt8), UpH (h : Int) l → (∀ x ∈ l, Fit12 N x.k ∧ okC x.c ∧ 1 ≤ x.c.n ∧ ∀ d, d < N → x.k.dim d ∈ T d ∧ (T d).length ≤ 65536) →
    rowsR T N l.length h (rowsB T N (h : Int) l ++ r, 0) out false = ((r, 0), out ++ l, false)
  | [], out, h, r, _, _ => by simp [rowsR, rowsB]
  | x :: l, out, h, r, hup, hall => by
    obtain ⟨hf, ho, hn, hp⟩ := hall x (List.mem_cons_self ..)
    obtain ⟨u1, u2⟩ := hup
    have hf0 := hf.h0
    have hf1 := hf.h1
    obtain ⟨H, hH⟩ := Int.eq_ofNat_of_zero_le hf0
    have e : rowsB T N (h : Int) (x :: l) ++ r = enc (H - h) ++ (placesB T x.k N ++ (cellB x.c ++ (rowsB T N (H : Int) l ++ r))) := by
      show rowB T N (h : Int) x ++ rowsB T N x.k.h l ++ r = _
      unfold rowB
      rw [hH, show ((H : Int) - (h : Int)).toNat = H - h by omega]
      simp only [List.append_assoc]
    obtain ⟨n1, n2⟩ := gnum_back (n := H - h) (by omega) (placesB T x.k N ++ (cellB x.c ++ (rowsB T N (H : Int) l ++ r)))
    have eh : hourN h (enc (H - h) ++ (placesB T x.k N ++ (cellB x.c ++ (rowsB T N (H : Int) l ++ r))), 0) = H := by
      unfold hourN
      rw [n1]
      omega
    have ep := plcR_back ⟨(H : Int), [], [], [], []⟩ x.k N (cellB x.c ++ (rowsB T N (H : Int) l ++ r)) hp
    have ek : putN12 ⟨(H : Int), [], [], [], []⟩ x.k N = x.k := by
      rw [← hH]
      exact putN12_all hN1 hN hf.e
    rw [ek] at ep
    obtain ⟨c1, c2⟩ := cell_back ho (by omega) (rowsB T N (H : Int) l ++ r)
    have er : rowR T N (hourN h (enc (H - h) ++ (placesB T x.k N ++ (cellB x.c ++ (rowsB T N (H : Int) l ++ r))), 0)) (gNum' (enc (H - h) ++ (placesB T x.k N ++ (cellB x.c ++ (rowsB T N (H : Int) l ++ r))), 0)) false = (x.k, (cellB x.c ++ (rowsB T N (H : Int) l ++ r), 0), false) := by
      unfold rowR
      rw [eh, n2]
      exact ep
    have ih := rowsR_back hN1 hN l (out ++ [x]) H r (by rw [← hH]; exact u2) (fun y hy => hall y (List.mem_cons_of_mem _ hy))
    rw [e]
    show (if (st4 (rowR T N (hourN h _) (gNum' _) false).2.1).2 ≠ 0 then _ else rowsR T N l.length (hourN h _) (st4 (rowR T N (hourN h _) (gNum' _) false).2.1) (out ++ [⟨(rowR T N (hourN h _) (gNum' _) false).1, cellR (rowR T N (hourN h _) (gNum' _) false).2.1⟩]) (rowR T N (hourN h _) (gNum' _) false).2.2) = _
    rw [er, eh]
    simp only
    rw [c1, c2, if_neg (by simp), ih]
    simp
/-- A segment that fits is read as it was. -/
theorem decF_back {l : List R11} {N : Nat} (hN1 : 1 ≤ N) (hN : N ≤ 4) (hr : rightR l = true) (ho : ∀ r ∈ l, okC r.c) (hf : fitL l N = 0) (hl : l.length ≤ 20000) : decF (payB l N) N = (0, l) := by
  obtain ⟨hrise, hrow⟩ := rightR_spec hr
  obtain ⟨f1, f2⟩ := fitL_ok.1 hf
  have hd : ∀ d, d < N → (dimT l d).length ≤ 65536 ∧ (∀ t ∈ dimT l d, t.length ≤ 16) ∧ (dimT l d).Pairwise fun x y => Op.bytesLess x y = true := fun d hd => ⟨Nat.le_trans (dimT_len l d) (by omega), fun t ht => by
    obtain ⟨r, hr, rfl⟩ := (dimT_mem l d t).1 ht
    exact (chk_fit (f2 r hr)).t d (by omega), dimT_up l d⟩
  obtain ⟨n1, n2⟩ := gnum_back (n := N) (by omega) (dimsB (dimT l) N ++ (enc l.length ++ rowsB (dimT l) N 0 l))
  obtain ⟨d1, d2, d3⟩ := dimsD_back (T := dimT l) N (enc l.length ++ rowsB (dimT l) N 0 l) hd
  have e0 : dims0 (payB l N) N = dimsD N (dimsB (dimT l) N ++ (enc l.length ++ rowsB (dimT l) N 0 l), 0) false := by
    unfold dims0 payB
    rw [n1, n2]
    simp
  obtain ⟨c1, c2⟩ := gcount_back (most := 1048576) (n := l.length) (by omega) (by omega) (rowsB (dimT l) N 0 l)
  rw [← e0] at d1 d2 d3
  have e1 : rows0 (payB l N) N = (([], 0), l, false) := by
    unfold rows0
    rw [d1, d2, c1, c2]
    have := rowsR_back (T := (dims0 (payB l N) N).2.1) hN1 hN l [] 0 [] (upH_of hrise fun r hr => (chk_fit (f2 r hr)).h0) (fun x hx => by
      have h7 := hrow x hx
      unfold okRow at h7
      rw [Bool.and_eq_true, decide_eq_true_iff] at h7
      exact ⟨chk_fit (f2 x hx), ho x hx, h7.1, fun d hdN => by rw [d3 d hdN]; exact ⟨(dimT_mem l d _).2 ⟨x, hx, rfl⟩, (hd d hdN).1⟩⟩)
    rw [List.append_nil, List.nil_append] at this
    rw [← rowsB_T (T := (dims0 (payB l N) N).2.1) (T' := dimT l) d3 0 l]
    exact this
  have hu : usedN l (dims0 (payB l N) N).2.1 N = true := (usedN_iff N).2 fun d hdN => by rw [d3 d hdN]
  unfold decF
  rw [e1]
  simp only [hr, hf, hu]
  simp

end Go.Proofs.YticglepkbihldaaGreat

/-
  A region that draws, walked by hand in a function that holds a range over a function: no panic is owed. No type is named here.
-/
namespace Go.Proofs.YticglepkbihldaaGreat
open Go.RowKit

def calm (Q : Exit → Act → World → Prop) : Exit → Act → World → Prop
  | .panic _, _, _ => False
  | .normal, a, w => Q .normal a w
  | .ret, a, w => Q .ret a w
  | .exit c, a, w => Q (.exit c) a w
  | .goto t, a, w => Q (.goto t) a w
  | .outgrown, a, w => Q .outgrown a w
theorem calm_normal {Q : Exit → Act → World → Prop} {a : Act} {w : World} (h : Q .normal a w) : calm Q .normal a w := h
theorem drawn_region_calm {P : Program} {ops : Array Oper} {Q : Exit → Act → World → Prop} (S : World → Prop) (zs : List Nat) {id : Nat} {ts : Array Value} {ds : List Deferred} {w : World} (hm : P.follows .mixedOrders = true) (h : Drawn P ops (calm Q) S zs ops.size (Array.replicate ops.size false) ts ds w.drew) : (Code.region id ops true).wp P Q { tmps := ts, defers := ds } w :=
  Code.wp_mono (fun e a w h => by cases e <;> first | exact h | exact h.elim) (drawn_region S zs hm h)

end Go.Proofs.YticglepkbihldaaGreat

/-
  Stage 12: putRows: rows by the places of their texts.
-/
namespace Go.Proofs.YticglepkbihldaaGreat
open Go.RowKit Go.Shelf
attribute [local go_sem] Oper.semAt_some wide_fn

set_option maxRecDepth 100000

theorem odd_box12 {w : World} {D k : Nat} {t : TypeId} {cs : Array Value} (h : odd D w k) (hb : Box w k t cs) : False := by
  obtain ⟨_, o, ho, hc⟩ := h
  rw [show w.heap[k]? = _ from hb] at ho
  cases ho
  cases hc
theorem odd_apart12 (w : World) (D : Nat) : Apart12 w (odd D w) := fun _ _ _ h hb => (odd_box12 h hb).elim
theorem Wt.odd {w0 a b : World} {p D : Nat} {l : List UInt8} (h : Wt w0 p a l) (hD : w0.heap.size ≤ D) (ht : Turn (odd D a) a b) : Wt w0 p b l := by
  obtain ⟨h0, u, ⟨h1, h2⟩, h3, h4⟩ := h
  refine ⟨h0, u, ⟨h1.odd ht, h2.turn ht (fun k hk e => ?_)⟩, h3, h4.trans ht (fun k hk e => by have := e.1; omega)⟩
  rcases h2.form with ⟨e1, _⟩ | ⟨g, cap, cur, e1, hb, _⟩
  · rw [e1] at hk; cases hk
  · rw [e1] at hk
    simp only [Value.ownBlock, Option.some.injEq] at hk
    subst hk
    exact odd_box12 e hb
/-- A slice of dictionaries, one for each of the first dimensions. -/
structure Tx12 (w : World) (tv : Value) (T : Nat → List (List UInt8)) (N : Nat) : Prop where
  out : ∃ b c cs, tv = .slice (some ⟨b, 0, none⟩) N c ∧ Box w b 65 cs ∧ ∀ d, d < N → ∃ D, cs[d]? = some (.pointer D) ∧ DV10 w (.pointer D) (T d)
theorem Tx12.kept {w w' : World} {tv : Value} {T : Nat → List (List UInt8)} {N : Nat} {S : Nat → Prop} (h : Tx12 w tv T N) (ht : Turn S w w') (h1 : Apart12 w S) (h2 : ∀ k cs, S k → ¬ Box w k 65 cs) : Tx12 w' tv T N := by
  obtain ⟨b, c, cs, e, hb, hd⟩ := h.out
  exact ⟨b, c, cs, e, hb.turn ht (fun e => h2 _ _ e hb), fun d hdN => (hd d hdN).imp fun D ⟨g1, g2⟩ => ⟨g1, g2.kept ht h1⟩⟩
theorem Tx12.wt {w0 a b : World} {tv : Value} {T : Nat → List (List UInt8)} {N : Nat} (h : Tx12 a tv T N) (ht : WT12 w0 a b) : Tx12 b tv T N :=
  h.kept ht (WS12.apart _ _) fun k cs e hb => by rcases e.type hb with e | e <;> exact absurd e (by decide)
theorem Tx12.later {a b : World} {tv : Value} {T : Nat → List (List UInt8)} {N : Nat} (h : Tx12 a tv T N) (ht : Turn (fun _ => False) a b) : Tx12 b tv T N := h.kept ht (fun _ _ _ f => f.elim) fun _ _ f => f.elim
theorem Tx12.odd {a b : World} {tv : Value} {T : Nat → List (List UInt8)} {N D : Nat} (h : Tx12 a tv T N) (ht : Turn (odd D a) a b) : Tx12 b tv T N := h.kept ht (odd_apart12 _ _) fun _ _ h hb => odd_box12 h hb
theorem code_in12 {x : List UInt8} {T : List (List UInt8)} (h : x ∈ T) : codeA x T = .tuple #[.int .i64 (idxG x T : Int), .bool true] := by
  have hi : idxG x T < T.length := idxG_mem.2 h
  unfold codeA
  rw [if_pos hi, decide_eq_true hi]

/-- In the range: what has been put. -/
structure PutI12 (w0 w4 : World) (p b3 b5 b6 : Nat) (base : List UInt8) (tv : Value) (T : Nat → List (List UInt8)) (N : Nat) (S : Nat → Prop) (pre : List R11) (V : World) : Prop where
  wt : Wt w0 p V (base ++ rowsB T N 0 pre)
  c3 : Box V b3 66 #[.pointer (some ⟨p, 0, none⟩)]
  c5 : Box V b5 71 #[tv]
  c6 : Box V b6 2 #[.int .i64 (lastH 0 pre)]
  tx : Tx12 V tv T N
  turn : Turn S w4 V
theorem PutI12.odd {w0 w4 A B : World} {p b3 b5 b6 D : Nat} {base : List UInt8} {tv : Value} {T : Nat → List (List UInt8)} {N : Nat} {S : Nat → Prop} {pre : List R11} (h : PutI12 w0 w4 p b3 b5 b6 base tv T N S pre A) (h0 : w0.heap.size ≤ D) (hD : w4.heap.size ≤ D) (ht : Turn (odd D A) A B) : PutI12 w0 w4 p b3 b5 b6 base tv T N S pre B :=
  ⟨h.wt.odd h0 ht, h.c3.odd ht, h.c5.odd ht, h.c6.odd ht, h.tx.odd ht, h.turn.trans ht (fun k hk e => by have := e.1; omega)⟩
theorem PutI12.later {w0 w4 A B : World} {p b3 b5 b6 : Nat} {base : List UInt8} {tv : Value} {T : Nat → List (List UInt8)} {N : Nat} {S : Nat → Prop} {pre : List R11} (h : PutI12 w0 w4 p b3 b5 b6 base tv T N S pre A) (ht : Turn (fun _ => False) A B) : PutI12 w0 w4 p b3 b5 b6 base tv T N S pre B :=
  ⟨h.wt.later ht, h.c3.turn ht (fun f => f), h.c5.turn ht (fun f => f), h.c6.turn ht (fun f => f), h.tx.later ht, h.turn.trans ht (fun _ _ f => f.elim)⟩

set_option maxHeartbeats 16000000 in
theorem putrows_any12 (w0 : World) (p : Nat) (l : List UInt8) (s : Value) (L : List R11) (tv : Value) (T : Nat → List (List UInt8)) (N : Nat) (w : World) (h : Wt w0 p w l) (hs : SV11 w0 s L) (hT : Tx12 w tv T N) (hN : N ≤ 4)
    (hin : ∀ r ∈ L, ∀ d, d < N → r.k.dim d ∈ T d) (hh : ∀ r ∈ L, 0 ≤ r.k.h ∧ r.k.h ≤ 16777216) (hTl : ∀ d, d < N → (T d).length ≤ 20000) (hl : (l ++ (enc L.length ++ rowsB T N 0 L)).length ≤ 900000) :
    Calls Tryz.prog 30 #[.pointer (some ⟨p, 0, none⟩), s, tv] w fun e w' => (e = .returned (.tuple #[])) ∧ Wt w0 p w' (l ++ (enc L.length ++ rowsB T N 0 L)) := by
  have HS := Lib.hid hs
  have hlen := hs.right.2.2
  have HOK := Lib.hid hs.right.2.1
  have HRI := Lib.hid (rightR_spec hs.right.1)
  have HIN := Lib.hid hin; have HHR := Lib.hid hh; have HTL := Lib.hid hTl
  obtain ⟨ps, rfl⟩ := hs.ptr
  obtain ⟨tb, tc, tcs, rfl, -⟩ := hT.out
  obtain ⟨base, hbase⟩ : ∃ base, base = l ++ enc L.length := ⟨_, rfl⟩
  have HBA : Hid (l ++ (enc L.length ++ rowsB T N 0 L) = base ++ rowsB T N 0 L) := by show _ = _; rw [hbase, List.append_assoc]
  have HLB : Hid (∀ pre, pre <+: L → (base ++ rowsB T N 0 pre).length ≤ 900000) := fun pre hp => by
    have h1 := rowsB_pre T N 0 hp
    rw [HBA.out] at hl
    simp only [List.length_append] at hl ⊢
    omega
  have hl0 : l.length ≤ 1000000 := by rw [List.length_append] at hl; omega
  obtain ⟨b3, hb3⟩ : ∃ b3 : Nat, b3 = w.heap.size := ⟨_, rfl⟩
  obtain ⟨w1, hw1⟩ : ∃ w1, w1 = (w.alloc (.cells #[.pointer (some ⟨p, 0, none⟩)] 66)).alloc (.cells #[.slice (some ⟨tb, 0, none⟩) N tc] 71) := ⟨_, rfl⟩
  have HT1 : Hid (Turn (fun _ => False) w w1) := by rw [hw1]; exact ((Turn.refl _ w).alloc _).alloc _
  have HB3 : Hid (Box w1 b3 66 #[.pointer (some ⟨p, 0, none⟩)]) := by rw [hw1, hb3]; exact (Box.new w _ _).alloc _
  have HB5 : Hid (Box w1 (b3 + 1) 71 #[.slice (some ⟨tb, 0, none⟩) N tc]) := by
    rw [hw1, hb3]
    have h := Box.new (w.alloc (.cells #[.pointer (some ⟨p, 0, none⟩)] 66)) 71 #[.slice (some ⟨tb, 0, none⟩) N tc]
    rw [World.size_alloc] at h
    exact h
  have HWT := Lib.hid h; have HTX := Lib.hid hT
  have HW1 := Lib.hid hw1; have HBB := Lib.hid hb3; have HBS := Lib.hid hbase
  have HNL : Hid (L.length < 18446744073709551616) := by show _ < _; omega
  have hwr : IntKind.u64.wrap (L.length : Int) = (L.length : Int) := by rw [IntKind.wrap_u64]; omega
  clear hw1 hb3 h hT hs hin hh hTl hl hbase
  refine (callsIn_wide (n := 5)).1 ?_
  refine callsIn_of_wp_marks Tryz.func30 rfl trivial ?_ rfl
  simp only [Tryz.ntmps30, List.size_toArray, List.length_cons, List.length_nil, Nat.reduceAdd, Nat.reduceSub, Array.replicate_succ, Array.replicate_zero, List.push_toArray, List.append_toArray, List.nil_append, List.cons_append]
  refine wpIn_wide.2 ?_
  go_wp2_with fail
  rw [← HW1.out, ← HBB.out]
  go_wp2_with fail
  refine drawn_region_calm (fun W => Turn (fun _ => False) w1 W) [4] (by kernel_rfl) ?_
  have hS0 : Turn (fun _ => False) w1 (World.drew w1) := (Turn.refl _ w1).drew
  generalize World.drew w1 = wd at *
  refine drawn_take 0 12 (.pointer (some ⟨p, 0, none⟩)) rfl rfl (by kernel_rfl) (by kernel_rfl) (by kernel_rfl) (by kernel_rfl) (fun _ _ _ h => h) (by rfl) (by assumption) (by intro w hSw; have a0 := (HB3.out.turn hSw (fun f => f)).cell 0; clear hSw; go_simp) ?_
  try simp only [List.setIfInBounds_toArray, List.set_cons_zero, List.set_cons_succ]
  refine drawn_take 1 13 (.pointer ps) rfl rfl (by kernel_rfl) (by kernel_rfl) (by kernel_rfl) (by kernel_rfl) (fun _ _ _ h => h) (by rfl) (by assumption) (by intro w hSw; obtain hS1 := hSw; go_simp) ?_
  try simp only [List.setIfInBounds_toArray, List.set_cons_zero, List.set_cons_succ]
  refine drawn_any [2] (by kernel_rfl) (by simp) ?_
  refine drawn_cons rfl (fun K hK => ?_) drawn_nil
  go_simp
  refine (len_any11 (.pointer ps) L wd (HS.out.later ((HWT.out.turn.trans HT1.out (fun _ _ f => f)).trans hS0 (fun _ _ f => f)))).mono ?_
  rintro e wa ⟨rfl, ta⟩
  have hS1 := hS0.trans ta (fun _ _ f => f)
  refine hK.out _ _ _ hS1 ?_
  clear hK K ta hS0
  try simp only [List.setIfInBounds_toArray, List.set_cons_zero, List.set_cons_succ]
  refine drawn_take 3 15 (.int .u64 (L.length : Int)) rfl rfl (by kernel_rfl) (by kernel_rfl) (by kernel_rfl) (by kernel_rfl) (fun _ _ _ h => h) (by rfl) (by assumption) (by intro w hSw; obtain hS1 := hSw; go_simp) ?_
  try simp only [List.setIfInBounds_toArray, List.set_cons_zero, List.set_cons_succ]
  refine drawn_last (z := 4) rfl (by kernel_rfl) (by kernel_rfl) (by kernel_rfl) (fun K hK => ?_)
  go_simp
  have HTA := Lib.hid hS1
  refine (wx_num ((HWT.out.later HT1.out).later hS1) L.length HNL hl0).mono ?_
  rintro e w2 ⟨rfl, h2, t2⟩
  rw [← HBS.out] at h2
  have HB3a := Lib.hid (t2.box (HB3.out.turn hS1 (fun f => f)) (by decide) (by decide)); have HB5a := Lib.hid (t2.box (HB5.out.turn hS1 (fun f => f)) (by decide) (by decide)); have HTXa := Lib.hid (((HTX.out.later HT1.out).later hS1).wt t2)
  have HWT2 := Lib.hid h2
  refine hK.out _ _ ?_
  refine calm_normal ?_
  clear hK K hS1 h2 t2 hwr HB3 HB5 HTX HWT
  try simp only [List.setIfInBounds_toArray, List.set_cons_zero, List.set_cons_succ]
  obtain ⟨b6, hb6⟩ : ∃ b6 : Nat, b6 = w2.heap.size := ⟨_, rfl⟩
  obtain ⟨w3, hw3⟩ : ∃ w3, w3 = w2.alloc (.cells #[.int .i64 0] 2) := ⟨_, rfl⟩
  have HT3 : Hid (Turn (fun _ => False) w2 w3) := by rw [hw3]; exact (Turn.refl _ w2).alloc _
  have HB6 : Hid (Box w3 b6 2 #[.int .i64 0]) := by rw [hw3, hb6]; exact Box.new w2 _ _
  have HW3 := Lib.hid hw3; have HB6E := Lib.hid hb6
  clear hw3 hb6
  go_wp2_with fail
  rw [← HW3.out, ← HB6E.out]
  refine (rows_any12 (.pointer ps) L w3 (HS.out.later (HWT2.out.turn.trans HT3.out (fun _ _ f => f)))).mono ?_
  rintro e w4 ⟨gf, lb, rfl, heg, t4, hfe⟩
  have HW04 : Hid (Turn (fun _ => False) w0 w4) := (HWT2.out.turn.trans HT3.out (fun _ _ f => f)).trans t4 (fun _ _ f => f)
  obtain ⟨S, hS⟩ : ∃ S : Nat → Prop, S = fun k => w0.heap.size ≤ k ∧ ∀ cs, ¬ Box w4 k 25 cs := ⟨_, rfl⟩
  have HSW : Hid (∀ V, Turn S w4 V → ∀ k, WS12 w0 V k → S k) := fun V ht k hk => by
    rw [hS] at ht ⊢
    refine ⟨hk.1, fun cs hb => ?_⟩
    have hb2 := hb.turn ht (fun e => e.2 cs hb)
    rcases hk.type hb2 with e | e <;> exact absurd e (by decide)
  have HSN : Hid (∀ k, w4.heap.size ≤ k → S k) := fun k hk => by
    rw [hS]
    exact ⟨Nat.le_trans HW04.out.size hk, fun cs hb => by have := hb.lt; omega⟩
  have HFE := Lib.hid (hfe 4 S (fun k cs e _ hb => by rw [hS] at e; exact e.2 cs hb) (FreeS12.new HS.out HW04.out (fun k e => by rw [hS] at e; exact e.1)))
  have HB64 := Lib.hid (HB6.out.turn t4 (fun f => f))
  have HS6 : Hid (S b6) := by
    show S b6
    rw [hS]
    refine ⟨by rw [HB6E.out]; exact HWT2.out.turn.size, fun cs hb => ?_⟩
    exact absurd (box_type12 HB64.out hb).1 (by decide)
  have T24 : Turn (fun _ => False) w2 w4 := HT3.out.trans t4 (fun _ _ f => f)
  have H0 : Hid (PutI12 w0 w4 p b3 (b3 + 1) b6 base (.slice (some ⟨tb, 0, none⟩) N tc) T N S [] w4) := ⟨by
    show Wt w0 p w4 (base ++ [])
    rw [List.append_nil]
    exact HWT2.out.later T24, HB3a.out.turn T24 (fun f => f), HB5a.out.turn T24 (fun f => f), HB64.out, HTXa.out.later T24, Turn.refl _ _⟩
  clear hfe t4 hS T24
  go_wp2_with fail
  refine (wpIn_wide (n := 5)).1 ?_
  refine' over5 (n := 5) (by omega) (gf := gf) (lb := lb) rfl heg HFE.out (Turn.refl _ _) (HSN.out _ (Nat.le_succ _)) (fun _ => rfl) _
    (fun (pre : List R11) V => PutI12 w0 w4 p b3 (b3 + 1) b6 base (.slice (some ⟨tb, 0, none⟩) N tc) T N S pre V) (fun _ _ _ => False) ?hI ?hIx H0.out
    (fun pre y q V => PutI12 w0 w4 p b3 (b3 + 1) b6 base (.slice (some ⟨tb, 0, none⟩) N tc) T N S pre V ∧ Box V q 52 (cells11 y) ∧ pre ++ [y] <+: L) ?hax ?assign ?body ?done ?stop
  case assign =>
    intro l0 pre x W K hi hgv hK
    have HK := Lib.hid hK
    have HT : Hid (Turn (fun _ => False) W (W.alloc (.cells (cells11 x) 52))) := (Turn.refl _ W).alloc _
    have HB : Hid (PutI12 w0 w4 p b3 (b3 + 1) b6 base (.slice (some ⟨tb, 0, none⟩) N tc) T N S pre (W.alloc (.cells (cells11 x) 52)) ∧ Box (W.alloc (.cells (cells11 x) 52)) W.heap.size 52 (cells11 x) ∧ pre ++ [x] <+: L) := ⟨hi.later HT.out, Box.new W _ _, hgv⟩
    clear hK hi hgv
    gi_wp2
    generalize W.alloc (.cells (cells11 x) 52) = W2 at *
    generalize W.heap.size = q at *
    exact HK.out q _ HB.out HT.out
  case hI =>
    intro pre A B h ht
    exact h.odd (Nat.le_trans HW04.out.size (Nat.le_refl _)) (Nat.le_refl _) ht
  case hIx =>
    rintro c pre A B h ht
    exact h
  case hax =>
    rintro pre y q A B ⟨h1, h2, h3⟩ ht
    exact ⟨h1.odd (Nat.le_trans HW04.out.size (Nat.le_refl _)) (Nat.le_refl _) ht, h2.odd ht, h3⟩
  case stop =>
    rintro D c0 pre V _ _ h _
    exact h.elim
  case done =>
    rintro D xs V hD hA hi hK
    subst hA
    have HI := Lib.hid hi; have HKD := Lib.hid hK; have HDD := Lib.hid hD
    clear hi hK hD
    go_wp2
    have u1 : Turn (fun k => k = D) V (V.putObj D (.deferred none)) := Turn.putObj _ D _ rfl
    refine ⟨by simp, .inl ⟨_, _, rfl, run_takeDeferred HKD.out, ?_⟩⟩
    refine ⟨.tuple #[], ?_, rfl, ?_⟩
    · simp [results, Tryz.f30, go_sem]
    · rw [HBA.out]
      have hodd : Turn (odd w4.heap.size V) V (V.putObj D (.deferred none)) := Turn.putObj _ D _ ⟨HDD.out, _, HKD.out, rfl⟩
      exact HI.out.wt.odd HW04.out.size hodd
  case body =>
    rintro l0 pre ⟨k, ⟨cn, csu, clo, chi⟩⟩ q V ⟨hi, hq, hgv⟩
    have hmem : (⟨k, ⟨cn, csu, clo, chi⟩⟩ : R11) ∈ L := by obtain ⟨t, rfl⟩ := hgv; simp
    have hrow := HRI.out.2 _ hmem
    simp only [okRow, Bool.and_eq_true, decide_eq_true_iff] at hrow
    have hn1 : 1 ≤ cn := hrow.1
    obtain ⟨m, rfl⟩ := Int.eq_ofNat_of_zero_le (show 0 ≤ cn by omega)
    obtain ⟨hk0, hk1⟩ := HHR.out _ hmem
    simp only at hk0 hk1
    have hlh := last_le HRI.out.1 hgv (fun r hr => (HHR.out r hr).1)
    simp only at hlh
    obtain ⟨o1, o2, o3, o4⟩ := HOK.out _ hmem
    rw [fit_iff] at o1 o2 o3 o4
    simp only at o1 o2 o3 o4
    have HCM : Hid (m < 18446744073709551616) := by show _ < _; omega
    have hwm : IntKind.u64.wrap (m : Int) = (m : Int) := by rw [IntKind.wrap_u64]; omega
    have HO2 := Lib.hid o2; have HO3 := Lib.hid o3; have HO4 := Lib.hid o4
    obtain ⟨dh, hdh⟩ : ∃ dh : Nat, k.h - lastH 0 pre = (dh : Int) := Int.eq_ofNat_of_zero_le (by omega)
    have hsub : IntKind.i64.wrap (k.h - lastH 0 pre) = (dh : Int) := by rw [hdh]; exact IntWalk.i64_in _ (by omega)
    have hwd : IntKind.u64.wrap (dh : Int) = (dh : Int) := by rw [IntKind.wrap_u64]; omega
    have HDH : Hid (dh < 18446744073709551616) := by show _ < _; omega
    have HMI : Hid (∀ d, d < N → k.dim d ∈ T d) := fun d hd => HIN.out _ hmem d hd
    have hpp : pre <+: L := List.IsPrefix.trans (List.prefix_append _ _) hgv
    have hbl : (base ++ rowsB T N 0 (pre ++ [⟨k, ⟨(m : Int), csu, clo, chi⟩⟩])).length ≤ 900000 := HLB.out _ hgv
    rw [rowsB_snoc] at hbl
    have HRB : Hid (base ++ rowsB T N 0 (pre ++ [⟨k, ⟨(m : Int), csu, clo, chi⟩⟩]) = base ++ rowsB T N 0 pre ++ enc dh ++ placesB T k N ++ enc m ++ enc (zig csu) ++ enc (zig clo) ++ enc (zig chi)) := by
      show _ = _
      rw [rowsB_snoc]
      unfold rowB cellB
      rw [hdh]
      simp only [Int.toNat_natCast, List.append_assoc]
    have HLN : Hid ((base ++ rowsB T N 0 pre ++ enc dh ++ placesB T k N ++ enc m ++ enc (zig csu) ++ enc (zig clo) ++ enc (zig chi)).length ≤ 900000) := by
      rw [← HRB.out, rowsB_snoc]
      exact hbl
    obtain ⟨bs, hbs⟩ : ∃ bs, bs = base ++ rowsB T N 0 pre := ⟨_, rfl⟩
    have hw0 := hi.wt
    rw [← hbs] at hw0 HRB HLN
    have HLP : Hid (∀ d, d ≤ N → (bs ++ enc dh ++ placesB T k d).length ≤ 900000) := fun d hd => by
      have h1 := HLN.out
      have h2 := placesB_le T k hd
      simp only [List.length_append] at h1 ⊢
      omega
    have HLQ : Hid (bs.length ≤ 900000 ∧ (bs ++ enc dh ++ placesB T k N ++ enc m).length ≤ 900000 ∧ (bs ++ enc dh ++ placesB T k N ++ enc m ++ enc (zig csu)).length ≤ 900000 ∧ (bs ++ enc dh ++ placesB T k N ++ enc m ++ enc (zig csu) ++ enc (zig clo)).length ≤ 900000) := by
      have h1 := HLN.out
      simp only [List.length_append] at h1
      refine ⟨by omega, by simp only [List.length_append]; omega, by simp only [List.length_append]; omega, by simp only [List.length_append]; omega⟩
    have HSB : Hid (S b6) := HS6
    have HI := Lib.hid hi; have HQ := Lib.hid hq; have HWV := Lib.hid hw0; have HGV := Lib.hid hgv
    have c3 := hi.c3.cell 0; have c6 := hi.c6.cell 0; have q0 := hq.cell 0
    simp only [cells11] at q0
    clear hmem hrow hn1 hlh o1 o2 o3 o4 hpp hbl hbs hi hq hw0 hgv hdh
    gi_wp2_with fail
    refine (CallsIn.inRound l0 (callsIn_wide.2 (wx_num HWV.out dh HDH (by have := HLQ.out.1; omega)))).mono ?_
    rintro e V1 ⟨rfl, h1, t1⟩
    have HW1' := Lib.hid h1; have HT1' := Lib.hid t1
    have HQ1 := Lib.hid (t1.box HQ.out (by decide) (by decide))
    have HC31 := Lib.hid (t1.box HI.out.c3 (by decide) (by decide)); have HC51 := Lib.hid (t1.box HI.out.c5 (by decide) (by decide)); have HC61 := Lib.hid (t1.box HI.out.c6 (by decide) (by decide))
    have HTX1 := Lib.hid (HI.out.tx.wt t1)
    have q0 := HQ1.out.cell 0
    simp only [cells11] at q0
    have c6 := HC61.out.cell 0; have f6 := HC61.out.free 0
    have hw2 : Turn (fun g => g = b6) V1 (V1.setCell ⟨b6, 0, none⟩ (.int .i64 k.h)) := Turn.setCell (S := fun g => g = b6) (p := ⟨b6, 0, none⟩) (Turn.refl _ V1) (fun _ => rfl) _
    have hn : ∀ {g : Nat} {t : TypeId} {cs : Array Value}, Box V1 g t cs → t ≠ 2 → ¬ g = b6 := fun hb ht e => by subst e; exact ht (box_type12 hb HC61.out).1
    have HQ2 := Lib.hid (HQ1.out.turn hw2 (hn HQ1.out (by decide))); have HC32 := Lib.hid (HC31.out.turn hw2 (hn HC31.out (by decide))); have HC52 := Lib.hid (HC51.out.turn hw2 (hn HC51.out (by decide)))
    have HC62 := Lib.hid (HC61.out.set 0 (.int .i64 k.h))
    have HTX2 := Lib.hid (HTX1.out.kept hw2 (fun g t cs e hb => by subst e; have e2 := (box_type12 hb HC61.out).1; subst e2; exact ⟨by decide, by decide, by decide, by decide⟩) (fun g cs e hb => by subst e; exact absurd (box_type12 hb HC61.out).1 (by decide)))
    have HW2' : Hid (Wt w0 p (V1.setCell ⟨b6, 0, none⟩ (.int .i64 k.h)) (bs ++ enc dh)) := by
      obtain ⟨g0, u, ⟨g1, g2⟩, g3, g4⟩ := h1
      refine ⟨g0, u, ⟨g1.turn hw2 (hn g1 (by decide)), g2.turn hw2 (fun x hx e => ?_)⟩, g3, g4.trans hw2 (fun x hx e => by have := HI.out.c6; have h6 := HS6.out; have := g4.size; subst e; have := HB6E.out; have h7 := HWT2.out.turn.size; omega)⟩
      subst e
      exact g2.ne_box HC61.out (by decide) hx
    have HT2' : Hid (Turn S V (V1.setCell ⟨b6, 0, none⟩ (.int .i64 k.h)) ∧ Still w4.heap.size V (V1.setCell ⟨b6, 0, none⟩ (.int .i64 k.h))) := by
      refine ⟨(t1.mono fun g _ e => HSW.out V HI.out.turn g e).trans hw2 (fun g _ e => by rw [e]; exact HSB.out), ?_⟩
      refine Still.trans ⟨t1.size, fun g o _ hk ho => (Turn.block t1 g (Array.getElem?_eq_some_iff.1 hk).1 (fun e => ?_)).trans hk⟩ (Still.setCell _ _ _)
      rcases e.2 with ⟨cs, hc⟩ | ⟨cs, hc⟩
      · rw [show V.heap[g]? = _ from hc] at hk; cases hk; cases ho
      · rw [show V.heap[g]? = _ from hc] at hk; cases hk; cases ho
    have c5 := HC52.out.cell 0
    clear hn hw2 h1 t1 HTX1 c3
    gi_wp2_with fail
    generalize V1.setCell ⟨b6, 0, none⟩ (.int .i64 k.h) = V2 at *
    clear q0 c6 f6
    gi_wp2_with fail
    gi_loopw [33] (fun x33 wr => ∃ i : Nat, x33 = .int .i64 (i : Int) ∧ i ≤ N ∧ Wt w0 p wr (bs ++ enc dh ++ placesB T k i) ∧ WT12 w0 V2 wr) (fun x33 _ => N - (intOf x33).toNat)
    case atStart => exact ⟨0, rfl, Nat.zero_le _, by show Wt _ _ _ (_ ++ []); rw [List.append_nil]; exact HW2'.out, WT12.refl _ _⟩
    case round =>
      obtain ⟨i, rfl, hi, hw, ht⟩ := hrel
      have HWR := Lib.hid hw; have HTR := Lib.hid ht
      have HC3R := Lib.hid (ht.box HC32.out (by decide) (by decide)); have HQR := Lib.hid (ht.box HQ2.out (by decide) (by decide))
      have htx := HTX2.out.wt ht
      clear hw ht c5
      by_cases hlt : i < N
      · obtain ⟨tb', tc', cs', e, hbx, hd⟩ := htx.out
        cases e
        obtain ⟨D, hcs, hdv⟩ := hd i hlt
        have e0 : wr.cell? ⟨tb, i, none⟩ = some (.pointer D) := by rw [hbx.cell]; exact hcs
        have hil : (i : Int) < N := by omega
        have hi4 : (i : Int) < 4 := by omega
        have qd : wr.cell? ⟨q, 1 + i, none⟩ = some (sv10 (k.dim i)) := by rw [HQR.out.cell]; exact row_cells12 i (by omega)
        have hcd := code_any10 (.pointer D) (T i) (k.dim i) wr hdv
        rw [code_in12 (HMI.out i hlt)] at hcd
        have HCD := Lib.hid hcd
        have hix := idxG_le (k.dim i) (T i)
        have hTi := HTL.out i hlt
        have HPB : Hid (placesB T k (i + 1) = placesB T k i ++ enc (idxG (k.dim i) (T i))) := rfl
        obtain ⟨ix, hxe⟩ : ∃ ix, ix = idxG (k.dim i) (T i) := ⟨_, rfl⟩
        rw [← hxe] at HPB HCD hix
        have hxw : IntKind.u64.wrap (ix : Int) = (ix : Int) := by rw [IntKind.wrap_u64]; omega
        have HXN : Hid (ix < 18446744073709551616) := by show _ < _; omega
        have HLI : Hid ((bs ++ enc dh ++ placesB T k i).length ≤ 900000) := HLP.out i (by omega)
        clear hbx hd hcs hdv hcd hix hTi hxe htx
        unfold sv10 at qd HCD
        gi_wp2_with fail
        refine (CallsIn.inRound l0 (callsIn_wide.2 HCD.out)).mono ?_
        rintro e Va ⟨rfl, ta⟩
        have HTa := Lib.hid ta
        have c3 := (HC3R.out.turn ta (fun f => f)).cell 0
        clear ta e0 qd HCD
        gi_wp2_with fail
        refine (CallsIn.inRound l0 (callsIn_wide.2 (wx_num (HWR.out.later HTa.out) ix HXN (by have := HLI.out; omega)))).mono ?_
        rintro e Vb ⟨rfl, hb, tb2⟩
        rw [List.append_assoc, ← HPB.out] at hb
        have HB := Lib.hid hb
        have HTb : Hid (WT12 w0 V2 Vb) := (HTR.out.trans (WT12.of HTa.out)).trans tb2
        clear hb tb2 c3 hxw
        gi_wp2
        go_roundw
        case rel => exact ⟨i + 1, by go_num, hlt, HB.out, HTb.out⟩
        case measure => simp [intOf]; omega
      · obtain rfl : i = N := by omega
        have HSK : Hid (∀ W, WT12 w0 wr W → (W.cell? ⟨b3, 0, none⟩ = some (.pointer (some ⟨p, 0, none⟩)) ∧ W.cell? ⟨q, 5, none⟩ = some (.int .i64 (m : Int)) ∧ W.cell? ⟨q, 6, none⟩ = some (.int .i64 csu) ∧ W.cell? ⟨q, 7, none⟩ = some (.int .i64 clo) ∧ W.cell? ⟨q, 8, none⟩ = some (.int .i64 chi)) ∧ WT12 w0 wr W) := fun W ht => by
          have h1 := ht.box HC3R.out (by decide) (by decide)
          have h2 := ht.box HQR.out (by decide) (by decide)
          exact ⟨⟨h1.cell 0, h2.cell 5, h2.cell 6, h2.cell 7, h2.cell 8⟩, ht⟩
        gi_wp2_with fail
        refine drawn_region_in (fun W => (W.cell? ⟨b3, 0, none⟩ = some (.pointer (some ⟨p, 0, none⟩)) ∧ W.cell? ⟨q, 5, none⟩ = some (.int .i64 (m : Int)) ∧ W.cell? ⟨q, 6, none⟩ = some (.int .i64 csu) ∧ W.cell? ⟨q, 7, none⟩ = some (.int .i64 clo) ∧ W.cell? ⟨q, 8, none⟩ = some (.int .i64 chi)) ∧ WT12 w0 wr W) [17] (by kernel_rfl) (by kernel_rfl) ?_
        have HTD : Hid (Turn (fun _ => False) wr (World.drew wr)) := (Turn.refl _ wr).drew
        have hS0 := HSK.out _ (WT12.of HTD.out)
        generalize World.drew wr = wd at *
        refine drawn_take 0 53 (.pointer (some ⟨p, 0, none⟩)) rfl rfl (by kernel_rfl) (by kernel_rfl) (by kernel_rfl) (by kernel_rfl) (fun _ _ _ h => h) (by rfl) (by assumption) (by intro w hSw; obtain ⟨⟨hS1, hS2, hS3, hS4, hS5⟩, hS6⟩ := hSw; go_simp) ?_
        try simp only [List.setIfInBounds_toArray, List.set_cons_zero, List.set_cons_succ]
        refine drawn_take 1 54 (.pointer (some ⟨q, 5, none⟩)) rfl rfl (by kernel_rfl) (by kernel_rfl) (by kernel_rfl) (by kernel_rfl) (fun _ _ _ h => h) (by rfl) (by assumption) (by intro w hSw; obtain ⟨⟨hS1, hS2, hS3, hS4, hS5⟩, hS6⟩ := hSw; go_simp) ?_
        try simp only [List.setIfInBounds_toArray, List.set_cons_zero, List.set_cons_succ]
        refine drawn_take 2 55 (.pointer (some ⟨q, 5, none⟩)) rfl rfl (by kernel_rfl) (by kernel_rfl) (by kernel_rfl) (by kernel_rfl) (fun _ _ _ h => h) (by rfl) (by assumption) (by intro w hSw; obtain ⟨⟨hS1, hS2, hS3, hS4, hS5⟩, hS6⟩ := hSw; go_simp) ?_
        try simp only [List.setIfInBounds_toArray, List.set_cons_zero, List.set_cons_succ]
        refine drawn_take 3 56 (.int .i64 (m : Int)) rfl rfl (by kernel_rfl) (by kernel_rfl) (by kernel_rfl) (by kernel_rfl) (fun _ _ _ h => h) (by rfl) (by assumption) (by intro w hSw; obtain ⟨⟨hS1, hS2, hS3, hS4, hS5⟩, hS6⟩ := hSw; go_simp) ?_
        try simp only [List.setIfInBounds_toArray, List.set_cons_zero, List.set_cons_succ]
        refine drawn_take 4 57 (.int .u64 (m : Int)) rfl rfl (by kernel_rfl) (by kernel_rfl) (by kernel_rfl) (by kernel_rfl) (fun _ _ _ h => h) (by rfl) (by assumption) (by intro w hSw; obtain ⟨⟨hS1, hS2, hS3, hS4, hS5⟩, hS6⟩ := hSw; go_simp) ?_
        try simp only [List.setIfInBounds_toArray, List.set_cons_zero, List.set_cons_succ]
        refine drawn_take 6 59 (.pointer (some ⟨q, 5, none⟩)) rfl rfl (by kernel_rfl) (by kernel_rfl) (by kernel_rfl) (by kernel_rfl) (fun _ _ _ h => h) (by rfl) (by assumption) (by intro w hSw; obtain ⟨⟨hS1, hS2, hS3, hS4, hS5⟩, hS6⟩ := hSw; go_simp) ?_
        try simp only [List.setIfInBounds_toArray, List.set_cons_zero, List.set_cons_succ]
        refine drawn_take 7 60 (.pointer (some ⟨q, 6, none⟩)) rfl rfl (by kernel_rfl) (by kernel_rfl) (by kernel_rfl) (by kernel_rfl) (fun _ _ _ h => h) (by rfl) (by assumption) (by intro w hSw; obtain ⟨⟨hS1, hS2, hS3, hS4, hS5⟩, hS6⟩ := hSw; go_simp) ?_
        try simp only [List.setIfInBounds_toArray, List.set_cons_zero, List.set_cons_succ]
        refine drawn_take 8 61 (.int .i64 csu) rfl rfl (by kernel_rfl) (by kernel_rfl) (by kernel_rfl) (by kernel_rfl) (fun _ _ _ h => h) (by rfl) (by assumption) (by intro w hSw; obtain ⟨⟨hS1, hS2, hS3, hS4, hS5⟩, hS6⟩ := hSw; go_simp) ?_
        try simp only [List.setIfInBounds_toArray, List.set_cons_zero, List.set_cons_succ]
        refine drawn_take 10 63 (.pointer (some ⟨q, 5, none⟩)) rfl rfl (by kernel_rfl) (by kernel_rfl) (by kernel_rfl) (by kernel_rfl) (fun _ _ _ h => h) (by rfl) (by assumption) (by intro w hSw; obtain ⟨⟨hS1, hS2, hS3, hS4, hS5⟩, hS6⟩ := hSw; go_simp) ?_
        try simp only [List.setIfInBounds_toArray, List.set_cons_zero, List.set_cons_succ]
        refine drawn_take 11 64 (.pointer (some ⟨q, 7, none⟩)) rfl rfl (by kernel_rfl) (by kernel_rfl) (by kernel_rfl) (by kernel_rfl) (fun _ _ _ h => h) (by rfl) (by assumption) (by intro w hSw; obtain ⟨⟨hS1, hS2, hS3, hS4, hS5⟩, hS6⟩ := hSw; go_simp) ?_
        try simp only [List.setIfInBounds_toArray, List.set_cons_zero, List.set_cons_succ]
        refine drawn_take 12 65 (.int .i64 clo) rfl rfl (by kernel_rfl) (by kernel_rfl) (by kernel_rfl) (by kernel_rfl) (fun _ _ _ h => h) (by rfl) (by assumption) (by intro w hSw; obtain ⟨⟨hS1, hS2, hS3, hS4, hS5⟩, hS6⟩ := hSw; go_simp) ?_
        try simp only [List.setIfInBounds_toArray, List.set_cons_zero, List.set_cons_succ]
        refine drawn_take 14 67 (.pointer (some ⟨q, 5, none⟩)) rfl rfl (by kernel_rfl) (by kernel_rfl) (by kernel_rfl) (by kernel_rfl) (fun _ _ _ h => h) (by rfl) (by assumption) (by intro w hSw; obtain ⟨⟨hS1, hS2, hS3, hS4, hS5⟩, hS6⟩ := hSw; go_simp) ?_
        try simp only [List.setIfInBounds_toArray, List.set_cons_zero, List.set_cons_succ]
        refine drawn_take 15 68 (.pointer (some ⟨q, 8, none⟩)) rfl rfl (by kernel_rfl) (by kernel_rfl) (by kernel_rfl) (by kernel_rfl) (fun _ _ _ h => h) (by rfl) (by assumption) (by intro w hSw; obtain ⟨⟨hS1, hS2, hS3, hS4, hS5⟩, hS6⟩ := hSw; go_simp) ?_
        try simp only [List.setIfInBounds_toArray, List.set_cons_zero, List.set_cons_succ]
        refine drawn_take 16 69 (.int .i64 chi) rfl rfl (by kernel_rfl) (by kernel_rfl) (by kernel_rfl) (by kernel_rfl) (fun _ _ _ h => h) (by rfl) (by assumption) (by intro w hSw; obtain ⟨⟨hS1, hS2, hS3, hS4, hS5⟩, hS6⟩ := hSw; go_simp) ?_
        try simp only [List.setIfInBounds_toArray, List.set_cons_zero, List.set_cons_succ]
        refine drawn_any [5] (by kernel_rfl) (by simp) ?_
        refine drawn_cons rfl (fun K hK => ?_) drawn_nil
        go_simp
        refine (wx_num (HWR.out.later HTD.out) m HCM (by have := HLP.out i (Nat.le_refl _); omega)).mono ?_
        rintro e Va ⟨rfl, ha, ta⟩
        have HA := Lib.hid ha
        have hSa := HSK.out _ ((WT12.of HTD.out).trans ta)
        refine hK.out _ _ _ hSa ?_
        clear hK K hS0 ha ta
        try simp only [List.setIfInBounds_toArray, List.set_cons_zero, List.set_cons_succ]
        refine drawn_any [9] (by kernel_rfl) (by simp) ?_
        refine drawn_cons rfl (fun K hK => ?_) drawn_nil
        go_simp
        refine (wx_int HA.out csu HO2.out.1 HO2.out.2 (by have := HLQ.out; omega)).mono ?_
        rintro e Vb ⟨rfl, hb, tb2⟩
        have HB := Lib.hid hb
        have hSb := HSK.out _ (hSa.2.trans tb2)
        refine hK.out _ _ _ hSb ?_
        clear hK K hSa hb tb2 HA
        try simp only [List.setIfInBounds_toArray, List.set_cons_zero, List.set_cons_succ]
        refine drawn_any [13] (by kernel_rfl) (by simp) ?_
        refine drawn_cons rfl (fun K hK => ?_) drawn_nil
        go_simp
        refine (wx_int HB.out clo HO3.out.1 HO3.out.2 (by have := HLQ.out; omega)).mono ?_
        rintro e Vc ⟨rfl, hc, tc2⟩
        have HC := Lib.hid hc
        have hSc := HSK.out _ (hSb.2.trans tc2)
        refine hK.out _ _ _ hSc ?_
        clear hK K hSb hc tc2 HB
        try simp only [List.setIfInBounds_toArray, List.set_cons_zero, List.set_cons_succ]
        refine drawn_last (z := 17) rfl (by kernel_rfl) (by kernel_rfl) (by kernel_rfl) (fun K hK => ?_)
        go_simp
        refine (wx_int HC.out chi HO4.out.1 HO4.out.2 (by have := HLQ.out; omega)).mono ?_
        rintro e Vd ⟨rfl, hd, td⟩
        have hW := HTR.out.trans (hSc.2.trans td)
        refine hK.out _ _ ?_
        clear hK K
        refine goes_on ?_
        have hVS : Turn S V2 Vd := hW.mono fun g _ e => HSW.out V2 (HI.out.turn.trans HT2'.out.1 (fun _ _ e => e)) g e
        refine ⟨HT2'.out.2.trans ⟨hW.size, fun g o _ hk ho => (Turn.block hW g (Array.getElem?_eq_some_iff.1 hk).1 (fun e => ?_)).trans hk⟩, HT2'.out.1.trans hVS (fun _ _ e => e), ?_⟩
        · rcases e.2 with ⟨cs, hc⟩ | ⟨cs, hc⟩
          · rw [show V2.heap[g]? = _ from hc] at hk; cases hk; cases ho
          · rw [show V2.heap[g]? = _ from hc] at hk; cases hk; cases ho
        · refine ⟨by rw [HRB.out]; exact hd, hW.box HC32.out (by decide) (by decide), hW.box HC52.out (by decide) (by decide), ?_, HTX2.out.wt hW, (HI.out.turn.trans HT2'.out.1 (fun _ _ e => e)).trans hVS (fun _ _ e => e)⟩
          rw [lastH_snoc]
          exact hW.box HC62.out (by decide) (by decide)

end Go.Proofs.YticglepkbihldaaGreat

/-
  Stage 12: Encode.
-/
namespace Go.Proofs.YticglepkbihldaaGreat
open Go.RowKit

set_option maxRecDepth 100000

theorem ofT_rise12 {T : List (List UInt8)} (h : T.Pairwise fun x y => Op.bytesLess x y = true) : ofT T = T := by
  obtain ⟨h1, h2⟩ := setG_is Op.bytesLess rises_bytes T
  exact rising_same rises_bytes h1 h h2
theorem wx_len {w wr : World} {p : Nat} {l : List UInt8} (h : Wt w p wr l) : Calls Tryz.prog 31 #[.pointer (some ⟨p, 0, none⟩)] wr fun e w' => e = .returned (.int .i64 (l.length : Int)) ∧ wr = w' := by
  obtain ⟨h0, u, h1, h3, h4⟩ := h
  exact len_any p u l wr h1
/-- The dictionaries of the first dimensions. -/
structure Dx12 (w : World) (b : Nat) (T : Nat → List (List UInt8)) (i : Nat) : Prop where
  out : ∃ cs, Box w b 65 cs ∧ cs.size = 4 ∧ ∀ d, d < i → ∃ D, cs[d]? = some (.pointer D) ∧ DV10 w (.pointer D) (T d)
theorem Dx12.kept {w w' : World} {b : Nat} {T : Nat → List (List UInt8)} {i : Nat} {S : Nat → Prop} (h : Dx12 w b T i) (ht : Turn S w w') (h1 : Apart12 w S) (h2 : ∀ k cs, S k → ¬ Box w k 65 cs) : Dx12 w' b T i := by
  obtain ⟨cs, hb, hc, hd⟩ := h.out
  exact ⟨cs, hb.turn ht (fun e => h2 _ _ e hb), hc, fun d hdN => (hd d hdN).imp fun D ⟨g1, g2⟩ => ⟨g1, g2.kept ht h1⟩⟩
theorem Dx12.wt {w0 a b : World} {g : Nat} {T : Nat → List (List UInt8)} {i : Nat} (h : Dx12 a g T i) (ht : WT12 w0 a b) : Dx12 b g T i :=
  h.kept ht (WS12.apart _ _) fun k cs e hb => by rcases e.type hb with e | e <;> exact absurd e (by decide)
theorem Dx12.later {a b : World} {g : Nat} {T : Nat → List (List UInt8)} {i : Nat} (h : Dx12 a g T i) (ht : Turn (fun _ => False) a b) : Dx12 b g T i := h.kept ht (fun _ _ _ f => f.elim) fun _ _ f => f.elim
/-- One more is laid. -/
theorem Dx12.put {w : World} {b : Nat} {T : Nat → List (List UInt8)} {i : Nat} (h : Dx12 w b T i) (hi : i < 4) (D : Option Addr) (hD : DV10 w (.pointer D) (T i)) : Dx12 (w.setCell ⟨b, i, none⟩ (.pointer D)) b T (i + 1) := by
  obtain ⟨cs, hb, hc, hd⟩ := h.out
  have ht : Turn (fun k => k = b) w (w.setCell ⟨b, i, none⟩ (.pointer D)) := Turn.setCell (S := fun k => k = b) (p := ⟨b, i, none⟩) (Turn.refl _ w) (fun _ => rfl) _
  have ha : Apart12 w (fun k => k = b) := fun k t cs' e hb' => by
    subst e
    have e2 := (box_type12 hb' hb).1
    subst e2
    exact ⟨by decide, by decide, by decide, by decide⟩
  refine ⟨_, hb.set i _, by rw [Array.size_setIfInBounds]; exact hc, fun d hdi => ?_⟩
  by_cases e : d = i
  · subst e
    exact ⟨D, by rw [Array.getElem?_setIfInBounds_self_of_lt (by omega)], hD.kept ht ha⟩
  · obtain ⟨E, g1, g2⟩ := hd d (by omega)
    exact ⟨E, by rw [Array.getElem?_setIfInBounds_ne (Ne.symm e)]; exact g1, g2.kept ht ha⟩

theorem encL_no {L : List R11} {n : Int} (h : fitL L n ≠ 0) : encL L n = [] := if_neg h
theorem encL_ok {L : List R11} {n : Int} (h : fitL L n = 0) : encL L n = fr (payB L n.toNat) := if_pos h

/-- Behind Encode. -/
def Enc12 (w : World) (L : List R11) (n : Int) (e : Ending) (w' : World) : Prop := ∃ v, e = .returned (.tuple #[v, .int .i64 (fitL L n)]) ∧ Made w w' v (encL L n)
set_option maxHeartbeats 8000000 in
theorem encode_any12 (s : Value) (L : List R11) (n : Int) (w : World) (h : SV11 w s L) (hb : fitL L n = 0 → (payB L n.toNat).length ≤ 900000) :
    Calls Tryz.prog 14 #[s, .int .i64 n] w fun e w' => Enc12 w L n e w' := by
  have HS := Lib.hid h
  have HF := Lib.hid (fits_any12 s L n w h)
  have hlen := h.right.2.2
  obtain ⟨p, rfl⟩ := h.ptr
  clear h
  by_cases hfit : fitL L n = 0
  · have HFI := Lib.hid hfit
    have hb2 := hb hfit
    obtain ⟨hok, hall⟩ := fitL_ok.1 hfit
    obtain ⟨N, rfl, hN1, hN4⟩ := okDims_nat hok
    rw [Int.toNat_natCast] at hb2
    have HEN : Hid (encL L (N : Int) = fr (payB L N)) := by show _ = _; rw [encL_ok hfit, Int.toNat_natCast]
    have HALL := Lib.hid (fun r hr => chk_fit (hall r hr))
    obtain ⟨T, hT⟩ : ∃ T, T = dimT L := ⟨_, rfl⟩
    have HTE := Lib.hid hT
    have HTL : Hid (∀ d : Nat, (T d).length ≤ 20000) := fun d => by rw [hT]; exact Nat.le_trans (dimT_len L d) hlen
    have HTO : Hid (∀ d : Nat, ofT (T d) = T d) := fun d => by rw [hT]; exact ofT_rise12 (dimT_up L d)
    have HTI : Hid (∀ r ∈ L, ∀ d, d < N → r.k.dim d ∈ T d) := fun r hr d _ => by rw [hT]; exact (dimT_mem L d _).2 ⟨r, hr, rfl⟩
    have HTX : Hid (∀ d : Nat, d < 4 → textsL L (d : Int) = T d) := fun d hd => by rw [hT]; exact textsL_at hd
    have HPB : Hid (payB L N = enc N ++ dimsB T N ++ (enc L.length ++ rowsB T N 0 L)) := by show _ = _; rw [hT]; unfold payB; rw [List.append_assoc]
    have HPL : Hid ((enc N ++ dimsB T N ++ (enc L.length ++ rowsB T N 0 L)).length ≤ 900000) := by rw [← HPB.out]; exact hb2
    have HDL : Hid (∀ d, d ≤ N → (enc N ++ dimsB T d).length ≤ 900000) := fun d hd => by
      have h1 := HPL.out
      have h2 := dimsB_le T hd
      simp only [List.length_append] at h1 ⊢
      omega
    rw [hfit] at HF
    clear hb hb2 hok hall hT hfit
    have hwN : IntKind.u64.wrap (N : Int) = (N : Int) := by rw [IntKind.wrap_u64]; omega
    have HNL : Hid (N < 18446744073709551616) := by show _ < _; omega
    go_enter Tryz.func14, Tryz.ntmps14
    go_wp2_with fail
    refine HF.out.mono ?_
    rintro e w1 ⟨rfl, t1⟩
    have HT1 := Lib.hid t1
    clear t1 HF
    obtain ⟨b7, hb7⟩ : ∃ b7 : Nat, b7 = w1.heap.size := ⟨_, rfl⟩
    obtain ⟨w3, hw3⟩ : ∃ w3, w3 = (w1.alloc (.cells #[.slice none 0 0] 62)).alloc (.cells #[.pointer none, .pointer none, .pointer none, .pointer none] 65) := ⟨_, rfl⟩
    have HW3 : Hid (Wt w b7 w3 []) := by rw [hw3, hb7]; exact (Wt.new w HT1.out).later ((Turn.refl _ _).alloc _)
    have HD3 : Hid (Dx12 w3 (b7 + 1) T 0) := by
      rw [hw3, hb7]
      have h := Box.new (w1.alloc (.cells #[.slice none 0 0] 62)) 65 #[.pointer none, .pointer none, .pointer none, .pointer none]
      rw [World.size_alloc] at h
      exact ⟨_, h, rfl, fun d hd => absurd hd (Nat.not_lt_zero _)⟩
    have HW3E := Lib.hid hw3; have HB7 := Lib.hid hb7
    clear hw3 hb7
    go_wp2_with fail
    rw [← HW3E.out, ← HB7.out]
    go_wp2_with fail
    refine (wx_num HW3.out N HNL (by simp)).mono ?_
    rintro e w4 ⟨rfl, h4, t4⟩
    rw [List.nil_append] at h4
    have HW4 : Hid (Wt w b7 w4 (enc N ++ dimsB T 0)) := by show Wt _ _ _ (_ ++ []); rw [List.append_nil]; exact h4
    have HD4 := Lib.hid (HD3.out.wt t4)
    clear h4 t4 hwN
    go_wp2_with fail
    go_loopw [20] (fun x20 wr => ∃ i : Nat, x20 = .int .i64 (i : Int) ∧ i ≤ N ∧ Wt w b7 wr (enc N ++ dimsB T i) ∧ Dx12 wr (b7 + 1) T i) (fun x20 _ => N - (intOf x20).toNat)
    case atStart => exact ⟨0, rfl, Nat.zero_le _, HW4.out, HD4.out⟩
    case round =>
      clear HW4 HD4
      obtain ⟨i, rfl, hi, hw, hd⟩ := hrel
      have HWR := Lib.hid hw; have HDR := Lib.hid hd
      clear hw hd
      by_cases hlt : i < N
      · have hil : (i : Int) < N := by omega
        have hi4 : (i : Int) < 4 := by omega
        have htx := texts_any12 (.pointer p) L (i : Int) wr (HS.out.later HWR.out.turn)
        rw [HTX.out i (by omega)] at htx
        have HTXT := Lib.hid htx
        have HDS : Hid (dimsB T (i + 1) = dimsB T i ++ dimB (T i)) := rfl
        have HLI : Hid ((enc N ++ dimsB T i ++ dimB (T i)).length ≤ 900000) := by rw [List.append_assoc, ← HDS.out]; exact HDL.out (i + 1) (by omega)
        clear htx
        go_wp2_with fail
        refine HTXT.out.mono ?_
        rintro e w5 ⟨v, rfl, hv, t5⟩
        obtain ⟨A, c, rfl⟩ := hv.rd.shape
        have HV := Lib.hid hv; have HT5 := Lib.hid t5
        clear hv t5 HTXT
        go_wp2_with fail
        refine (puttexts_any12 w b7 _ _ (T i) w5 (HWR.out.later HT5.out) HV.out (HTL.out i) HLI.out).mono ?_
        rintro e w6 ⟨D, rfl, hd, hw, ht⟩
        rw [HTO.out] at hd
        rw [List.append_assoc, ← HDS.out] at hw
        have HDD := Lib.hid hd; have HW6 := Lib.hid hw
        have HDX := Lib.hid ((HDR.out.later HT5.out).wt ht)
        obtain ⟨cs, hbx, hcs, -⟩ := HDX.out.out
        obtain ⟨x0, hx0⟩ : ∃ x0, w6.cell? ⟨b7 + 1, i, none⟩ = some x0 := ⟨cs[i], by rw [hbx.cell]; exact Array.getElem?_eq_getElem (by omega)⟩
        have hfz := hbx.free i
        have HPT := Lib.hid (HDX.out.put (show i < 4 by omega) D HDD.out)
        have HTS : Hid (Turn (fun k => k = b7 + 1) w6 (w6.setCell ⟨b7 + 1, i, none⟩ (.pointer D))) := Turn.setCell (S := fun k => k = b7 + 1) (p := ⟨b7 + 1, i, none⟩) (Turn.refl _ w6) (fun _ => rfl) _
        have HWS : Hid (Wt w b7 (w6.setCell ⟨b7 + 1, i, none⟩ (.pointer D)) (enc N ++ dimsB T (i + 1))) := by
          obtain ⟨g0, u, ⟨g1, g2⟩, g3, g4⟩ := hw
          refine ⟨g0, u, ⟨g1.turn HTS.out (by omega), g2.turn HTS.out (fun x hx e => ?_)⟩, g3, g4.trans HTS.out (fun x hx e => by omega)⟩
          subst e
          exact g2.ne_box hbx (by decide) hx
        clear hd hw ht hbx hcs
        go_wp2
        go_roundw
        case rel => exact ⟨i + 1, by go_num, hlt, HWS.out, HPT.out⟩
        case measure => simp [intOf]; omega
      · obtain rfl : i = N := by omega
        have hN4i : (i : Int) ≤ 4 := by omega
        have HTX2 : Hid (Tx12 wr (.slice (some ⟨b7 + 1, 0, none⟩) i 4) T i) := by
          obtain ⟨cs, hbx, hcs, hd⟩ := HDR.out.out
          exact ⟨b7 + 1, 4, cs, rfl, hbx, hd⟩
        have HPR := Lib.hid (putrows_any12 w b7 _ (.pointer p) L _ T i wr HWR.out HS.out HTX2.out hN4 HTI.out (fun r hr => ⟨(HALL.out r hr).h0, (HALL.out r hr).h1⟩) (fun d _ => HTL.out d) HPL.out)
        have hl9 : ((enc i ++ dimsB T i ++ (enc L.length ++ rowsB T i 0 L)).length : Int) ≤ 4194304 := by have := HPL.out; omega
        have hl8 := Lib.hid hl9
        clear hl9
        go_wp2_with fail
        refine HPR.out.mono ?_
        rintro e w5 ⟨rfl, h5⟩
        have HW5 := Lib.hid h5
        clear h5 HPR
        rw [← HPB.out] at HW5 HPL hl8
        have hl9 := hl8.out
        generalize payB L i = P at *
        go_wp2_with fail
        refine (wx_len HW5.out).mono ?_
        rintro e w6 ⟨rfl, rfl⟩
        go_wp2_with fail
        refine (wt_bytes HW5.out (by have := HPL.out; omega)).mono ?_
        rintro e w7 ⟨v, rfl, hm⟩
        obtain ⟨A, c, rfl⟩ := hm.1.shape
        have HM := Lib.hid hm
        clear hm
        go_wp2_with fail
        refine (frame_put _ P w7 HM.out.1.rd HPL.out).mono ?_
        rintro e w8 ⟨v, rfl, hm⟩
        obtain ⟨A8, c8, rfl⟩ := hm.1.shape
        have HM8 := Lib.hid hm
        clear hm
        go_wp2
        go_ret2
        refine ⟨_, by rw [HFI.out]; rfl, ?_⟩
        rw [HEN.out]
        exact ⟨HM8.out.1, HM.out.2.1.trans HM8.out.2.1 (fun _ _ f => f), fun k hk => Nat.le_trans HM.out.2.1.size (HM8.out.2.2 k hk)⟩
  · have HZ := Lib.hid (encL_no hfit)
    obtain ⟨f, hf⟩ : ∃ f, f = fitL L n := ⟨_, rfl⟩
    rw [← hf] at HF hfit
    have HFF := Lib.hid hf
    have hx1 : (f == 0) = false := by rw [beq_eq_false_iff_ne]; exact hfit
    have hx2 : (f != 0) = true := by rw [bne_iff_ne]; exact hfit
    clear hb hf hfit
    go_enter Tryz.func14, Tryz.ntmps14
    go_wp2_with fail
    refine HF.out.mono ?_
    rintro e w1 ⟨rfl, t1⟩
    have HT1 := Lib.hid t1
    clear t1 HF
    go_wp2
    go_ret2
    refine ⟨_, by rw [← HFF.out]; rfl, ?_⟩
    rw [HZ.out]
    exact ⟨By.nil _, HT1.out, fun k hk => by cases hk⟩

end Go.Proofs.YticglepkbihldaaGreat
