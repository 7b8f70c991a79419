
/-
  The program's pile (things: ossuaryref07.Item): Push.
-/
import Derived.Test.YthhlppdphcjlnaaPdw
namespace Go.Proofs.Ythhlppdphcjlnaa.plw
open Go.RowKit Go.ChangeShapes Go.WideShapes Go.Deep

/-- Behind a push. -/
def Pushed (w : World) (g : Nat) (sv : Value) (L : List (Int × List UInt8)) (n : Nat) (e : Ending) (w' : World) : Prop :=
  (∃ v, e = .returned v) ∧ ∃ sv', Mp w' g sv' L n ∧ Turn (fun k => k = g ∨ sv.ownBlock = some k) w w' ∧ ∀ k, sv'.ownBlock = some k → w.heap.size ≤ k ∨ sv.ownBlock = some k
theorem push_post {w w5 w6 : World} {g n c : Nat} {sv : Value} {ad : Addr} {H S H' : List ((Int × List UInt8) × Nat)} {x : (Int × List UInt8)} (hr : Rep ltW ((0, []), 0) H S) (hl : ∀ p ∈ S, p.2 < n)
    (ho : OwE EN 61 w6 (.slice (some ad) (H ++ [(x, n)]).length c) H') (hb : Box w5 g 59 #[lessV, .slice (some ad) (H ++ [(x, n)]).length c, .int .u64 ((n + 1 : Nat) : Int)]) (hne : g ≠ ad.block)
    (hp : H'.Perm (H ++ [(x, n)])) (hh : Heap (bef ltW) (at0 ((0, []), 0) H') H'.length) (ht : Turn (fun k => k = ad.block) w5 w6) (ht5 : Turn (fun k => k = g ∨ sv.ownBlock = some k) w w5)
    (hn : (Value.slice (some ad) (H ++ [(x, n)]).length c).ownBlock = sv.ownBlock ∨ w.heap.size ≤ ad.block) (e : Ending) (he : ∃ v, e = .returned v) : Pushed w g sv (insS ltW x (S.map (·.1))) (n + 1) e w6 := by
  obtain ⟨h1, h2, h3, h4⟩ := push_order weak_lt (x := x) hr.srt hr.nums hl
  refine ⟨he, .slice (some ad) (H ++ [(x, n)]).length c, ⟨H', insS (bef ltW) (x, n) S, ⟨hb.turn ht hne, ho⟩, ⟨hh, ?_, h1, h2⟩, h3, h4⟩, ht5.trans ht (fun k hk e => ?_), fun k hk => ?_⟩
  · refine hp.trans (List.Perm.trans ?_ (insS_perm (x, n) S).symm)
    exact (List.perm_append_singleton _ _).trans (hr.perm.cons _)
  · rcases hn with h | h
    · right
      rw [← h, e]
      rfl
    · omega
  · rcases hn with h | h
    · right; rw [← h]; exact hk
    · left
      have : ad.block = k := by simpa [Value.ownBlock] using hk
      omega

set_option maxRecDepth 100000 in
set_option maxHeartbeats 4000000 in
theorem push_any (g n : Nat) (sv : Value) (L : List (Int × List UInt8)) (x : (Int × List UInt8)) (w : World) (h : Mp w g sv L n) (hn : n ≤ 100000) (hl : L.length ≤ 100000) :
    Calls Try.prog 10 #[.pointer (some ⟨g, 0, none⟩), (.agg #[.int .i64 x.1, .string ⟨x.2.toArray⟩])] w fun e w' => Pushed w g sv (insS ltW x L) (n + 1) e w' := by
  have hlt := h.lt
  obtain ⟨H, S, hp, hr, rfl, hS⟩ := h
  have hHl : H.length ≤ 100000 := by rw [hr.len, ← List.length_map (f := (·.1))]; exact hl
  have hfar := hp.far
  obtain ⟨A, c, rfl⟩ := hp.row.shape
  obtain ⟨w0, hw0⟩ : ∃ w0, w0 = w.alloc (.cells #[.int .i64 x.1, .string ⟨x.2.toArray⟩] 27) := ⟨_, rfl⟩
  have HT0 : Hid (Turn (fun _ => False) w w0) := by rw [hw0]; exact (Turn.refl _ w).alloc _
  have HBX : Hid (Box w0 w.heap.size 27 #[.int .i64 x.1, .string ⟨x.2.toArray⟩]) := by rw [hw0]; exact Box.new w _ _
  have HW0 := Lib.hid hw0
  have HP0 : Hid (PP w0 g (.slice A H.length c) H n) := hp.turn HT0.out (fun f => f) (fun _ _ f => f)
  have HSK : Hid (∀ W, Turn (fun k => (Value.slice A H.length c).ownBlock = some k) w0 W → (W.cell? ⟨g, 1, none⟩ = some (.slice A H.length c) ∧ W.cell? ⟨g, 2, none⟩ = some (.int .u64 (n : Int)) ∧ W.cell? ⟨w.heap.size, 0, none⟩ = some (.int .i64 x.1) ∧ W.cell? ⟨w.heap.size, 1, none⟩ = some (.string ⟨x.2.toArray⟩)) ∧ Turn (fun k => (Value.slice A H.length c).ownBlock = some k) w0 W) :=
    fun W ht => ⟨⟨(HP0.out.obj.turn ht hfar).cell 1, (HP0.out.obj.turn ht hfar).cell 2, (HBX.out.turn ht (fun e => Nat.lt_irrefl _ (hlt.2 _ e).1)).cell 0, (HBX.out.turn ht (fun e => Nat.lt_irrefl _ (hlt.2 _ e).1)).cell 1⟩, ht⟩
  have HFR : Hid (∀ W, Turn (fun k => (Value.slice A H.length c).ownBlock = some k) w0 W → Box W g 59 #[lessV, .slice A H.length c, .int .u64 (n : Int)]) := fun W ht => HP0.out.obj.turn ht hfar
  have HFAR := Lib.hid hfar
  have HLT := Lib.hid hlt
  have HR := Lib.hid hr; have HSS := Lib.hid hS
  have c0 := HP0.out.obj.cell 0
  have hnm : (n : Int) + 1 = ((n + 1 : Nat) : Int) := by omega
  have hwm : IntKind.u64.wrap ((n + 1 : Nat) : Int) = ((n + 1 : Nat) : Int) := by rw [← hnm]; exact IntWalk.u64_in _ (by omega)
  generalize hm : n + 1 = m at hnm hwm
  have hrun : ∀ W, Sem.run Try.prog (binOp .eql 28 lessV .nilFunc) W = .ok (.bool false) W := fun W => by kernel_rfl
  have cw0 : (w.alloc (.cells #[.int .i64 x.1, .string ⟨x.2.toArray⟩] 27)).cell? ⟨g, 0, none⟩ = some lessV := by rw [← hw0]; exact c0
  have HM := Lib.hid hm
  clear hm hp hr hS hfar hlt
  go_enter Try.func10, Try.ntmps10
  clear hw0
  go_wp2_with fail
  rw [← HW0.out]
  clear cw0
  go_wp2_with fail
  refine drawn_region (fun W => (W.cell? ⟨g, 1, none⟩ = some (.slice A H.length c) ∧ W.cell? ⟨g, 2, none⟩ = some (.int .u64 (n : Int)) ∧ W.cell? ⟨w.heap.size, 0, none⟩ = some (.int .i64 x.1) ∧ W.cell? ⟨w.heap.size, 1, none⟩ = some (.string ⟨x.2.toArray⟩)) ∧ Turn (fun k => (Value.slice A H.length c).ownBlock = some k) w0 W) [15] (by kernel_rfl) ?_
  generalize hwd : World.drew w0 = wd
  have HTD : Hid (Turn (fun k => (Value.slice A H.length c).ownBlock = some k) w0 wd) := by rw [← hwd]; exact (Turn.refl _ w0).drew
  have HPD : Hid (OwE EN 61 wd (.slice A H.length c) H) := by rw [← hwd]; exact HP0.out.row.later (Turn.refl _ w0).drew
  clear hwd
  have hS0 := HSK.out _ HTD.out
  refine drawn_take 0 13 (.pointer (some ⟨g, 0, none⟩)) rfl rfl (by kernel_rfl) (by kernel_rfl) (by kernel_rfl) (by kernel_rfl) (fun _ _ _ h => h) (by rfl) (by assumption) (by intro w hSw; obtain ⟨⟨hS1, hS2, hS3, hS4⟩, hS5⟩ := hSw; go_simp) ?_
  try simp only [List.setIfInBounds_toArray, List.set_cons_zero, List.set_cons_succ]
  refine drawn_take 1 14 (.pointer (some ⟨g, 0, none⟩)) rfl rfl (by kernel_rfl) (by kernel_rfl) (by kernel_rfl) (by kernel_rfl) (fun _ _ _ h => h) (by rfl) (by assumption) (by intro w hSw; obtain ⟨⟨hS1, hS2, hS3, hS4⟩, hS5⟩ := hSw; go_simp) ?_
  try simp only [List.setIfInBounds_toArray, List.set_cons_zero, List.set_cons_succ]
  refine drawn_take 2 15 (.pointer (some ⟨g, 0, none⟩)) rfl rfl (by kernel_rfl) (by kernel_rfl) (by kernel_rfl) (by kernel_rfl) (fun _ _ _ h => h) (by rfl) (by assumption) (by intro w hSw; obtain ⟨⟨hS1, hS2, hS3, hS4⟩, hS5⟩ := hSw; go_simp) ?_
  try simp only [List.setIfInBounds_toArray, List.set_cons_zero, List.set_cons_succ]
  refine drawn_take 3 16 (.pointer (some ⟨g, 1, none⟩)) rfl rfl (by kernel_rfl) (by kernel_rfl) (by kernel_rfl) (by kernel_rfl) (fun _ _ _ h => h) (by rfl) (by assumption) (by intro w hSw; obtain ⟨⟨hS1, hS2, hS3, hS4⟩, hS5⟩ := hSw; go_simp) ?_
  try simp only [List.setIfInBounds_toArray, List.set_cons_zero, List.set_cons_succ]
  refine drawn_take 4 17 (.slice A H.length c) rfl rfl (by kernel_rfl) (by kernel_rfl) (by kernel_rfl) (by kernel_rfl) (fun _ _ _ h => h) (by rfl) (by assumption) (by intro w hSw; obtain ⟨⟨hS1, hS2, hS3, hS4⟩, hS5⟩ := hSw; go_simp) ?_
  try simp only [List.setIfInBounds_toArray, List.set_cons_zero, List.set_cons_succ]
  refine drawn_take 5 18 (.agg #[.int .i64 x.1, .string ⟨x.2.toArray⟩]) rfl rfl (by kernel_rfl) (by kernel_rfl) (by kernel_rfl) (by kernel_rfl) (fun _ _ _ h => h) (by rfl) (by assumption) (by intro w hSw; obtain ⟨⟨hS1, hS2, hS3, hS4⟩, hS5⟩ := hSw; go_simp) ?_
  try simp only [List.setIfInBounds_toArray, List.set_cons_zero, List.set_cons_succ]
  refine drawn_take 6 19 (.pointer (some ⟨g, 0, none⟩)) rfl rfl (by kernel_rfl) (by kernel_rfl) (by kernel_rfl) (by kernel_rfl) (fun _ _ _ h => h) (by rfl) (by assumption) (by intro w hSw; obtain ⟨⟨hS1, hS2, hS3, hS4⟩, hS5⟩ := hSw; go_simp) ?_
  try simp only [List.setIfInBounds_toArray, List.set_cons_zero, List.set_cons_succ]
  refine drawn_take 7 20 (.pointer (some ⟨g, 0, none⟩)) rfl rfl (by kernel_rfl) (by kernel_rfl) (by kernel_rfl) (by kernel_rfl) (fun _ _ _ h => h) (by rfl) (by assumption) (by intro w hSw; obtain ⟨⟨hS1, hS2, hS3, hS4⟩, hS5⟩ := hSw; go_simp) ?_
  try simp only [List.setIfInBounds_toArray, List.set_cons_zero, List.set_cons_succ]
  refine drawn_take 8 21 (.pointer (some ⟨g, 2, none⟩)) rfl rfl (by kernel_rfl) (by kernel_rfl) (by kernel_rfl) (by kernel_rfl) (fun _ _ _ h => h) (by rfl) (by assumption) (by intro w hSw; obtain ⟨⟨hS1, hS2, hS3, hS4⟩, hS5⟩ := hSw; go_simp) ?_
  try simp only [List.setIfInBounds_toArray, List.set_cons_zero, List.set_cons_succ]
  refine drawn_take 9 22 (.int .u64 (n : Int)) rfl rfl (by kernel_rfl) (by kernel_rfl) (by kernel_rfl) (by kernel_rfl) (fun _ _ _ h => h) (by rfl) (by assumption) (by intro w hSw; obtain ⟨⟨hS1, hS2, hS3, hS4⟩, hS5⟩ := hSw; go_simp) ?_
  try simp only [List.setIfInBounds_toArray, List.set_cons_zero, List.set_cons_succ]
  refine drawn_take 10 23 (nv (x, n)) rfl rfl (by kernel_rfl) (by kernel_rfl) (by kernel_rfl) (by kernel_rfl) (fun _ _ _ h => h) (by rfl) (by assumption) (by intro w hSw; obtain ⟨⟨hS1, hS2, hS3, hS4⟩, hS5⟩ := hSw; go_simp) ?_
  try simp only [List.setIfInBounds_toArray, List.set_cons_zero, List.set_cons_succ]
  refine drawn_any [11] (by kernel_rfl) (by simp) ?_
  refine drawn_cons rfl (fun K hK => ?_) drawn_nil
  go_simp
  have HX := Lib.hid (one_row EN 61 wd (x, n))
  have HT1 : Hid (Turn (fun k => (Value.slice A H.length c).ownBlock = some k) w0 (wd.alloc (.cells (EN.enc (x, n)).toArray 61))) := HTD.out.alloc _
  have HPX := Lib.hid (HPD.out.later ((Turn.refl _ wd).alloc (.cells (EN.enc (x, n)).toArray 61)))
  refine hK.out _ _ _ (HSK.out _ HT1.out) ?_
  clear hK K hS0
  have hS0 := HSK.out _ HT1.out
  try simp only [List.setIfInBounds_toArray, List.set_cons_zero, List.set_cons_succ]
  refine drawn_any [12] (by kernel_rfl) (by simp) ?_
  refine drawn_cons rfl (fun K hK => ?_) drawn_nil
  refine put_app Try.underlying56 item_info item_zero (by omega) H HPX.out [(x, n)] HX.out (by simp only [List.length_cons, List.length_nil]; omega) ?_
  intro A2 n2 c2 w3 ho ht hn2
  obtain ⟨ad, rfl, rfl⟩ := ho.some_at (by simp)
  have HO := Lib.hid ho
  have HT3 := Lib.hid (HT1.out.trans ht (fun _ _ e => e))
  have HN2 : Hid ((Value.slice (some ad) (H ++ [(x, n)]).length c2).ownBlock = (Value.slice A H.length c).ownBlock ∨ w.heap.size ≤ ad.block) := by
    rcases hn2 with e | e
    · exact .inl e
    · right
      have e1 : ad.block = (wd.alloc (.cells (EN.enc (x, n)).toArray 61)).heap.size := by simpa [Value.ownBlock] using e
      rw [e1]
      exact Nat.le_trans HT0.out.size HT1.out.size
  clear ho ht hn2
  refine hK.out _ _ _ (HSK.out _ HT3.out) ?_
  clear hK K hS0
  have hS0 := HSK.out _ HT3.out
  try simp only [List.setIfInBounds_toArray, List.set_cons_zero, List.set_cons_succ]
  refine drawn_take 13 26 (.pointer (some ⟨g, 0, none⟩)) rfl rfl (by kernel_rfl) (by kernel_rfl) (by kernel_rfl) (by kernel_rfl) (fun _ _ _ h => h) (by rfl) (by assumption) (by intro w hSw; obtain ⟨⟨hS1, hS2, hS3, hS4⟩, hS5⟩ := hSw; go_simp) ?_
  try simp only [List.setIfInBounds_toArray, List.set_cons_zero, List.set_cons_succ]
  refine drawn_take 14 27 (.pointer (some ⟨g, 1, none⟩)) rfl rfl (by kernel_rfl) (by kernel_rfl) (by kernel_rfl) (by kernel_rfl) (fun _ _ _ h => h) (by rfl) (by assumption) (by intro w hSw; obtain ⟨⟨hS1, hS2, hS3, hS4⟩, hS5⟩ := hSw; go_simp) ?_
  try simp only [List.setIfInBounds_toArray, List.set_cons_zero, List.set_cons_succ]
  refine drawn_last (z := 15) rfl (by kernel_rfl) (by kernel_rfl) (by kernel_rfl) (fun K hK => ?_)
  clear hS0
  have hz1 := (HFR.out _ HT3.out).cell 1
  have hz2 := (HFR.out _ HT3.out).free 1
  go_simp
  refine hK.out _ _ ?_
  clear hK K hz1 hz2
  have hlen : (H ++ [(x, n)]).length = H.length + 1 := by simp
  have hne : g ≠ ad.block := fun e => (HO.out.not_box (HFR.out _ HT3.out) (by decide)) (by rw [e]; rfl)
  generalize hw4 : w3.setCell ⟨g, 1, none⟩ (.slice (some ad) (H.length + 1) c2) = w4
  have HB4 : Hid (Box w4 g 59 #[lessV, .slice (some ad) (H.length + 1) c2, .int .u64 (n : Int)]) := by rw [← hw4]; exact (HFR.out _ HT3.out).set 1 _
  have HO4 : Hid (OwE EN 61 w4 (.slice (some ad) (H ++ [(x, n)]).length c2) (H ++ [(x, n)])) := by
    rw [← hw4]; exact HO.out.turn (S := fun k => k = g) (Turn.setCell (S := fun k => k = g) (p := ⟨g, 1, none⟩) (Turn.refl _ w3) (fun _ => rfl) _) (fun k hk e => hne (by rw [← e]; simpa [Value.ownBlock] using hk.symm))
  have HT4 : Hid (Turn (fun k => k = g ∨ (Value.slice A H.length c).ownBlock = some k) w0 w4) := by
    rw [← hw4]; exact Turn.setCell (S := fun k => k = g ∨ (Value.slice A H.length c).ownBlock = some k) (p := ⟨g, 1, none⟩) (HT3.out.mono (fun _ _ e => .inr e)) (fun _ => .inl rfl) _
  clear hw4
  have d0 := HB4.out.cell 0
  have d1 := HB4.out.cell 1
  have d2 := HB4.out.cell 2
  have d3 := HB4.out.free 2
  have hwn : IntKind.u64.wrap ((n : Int) + 1) = (m : Int) := by rw [hnm]; exact hwm
  have HB5 : Hid (Box (w4.setCell ⟨g, 2, none⟩ (.int .u64 (m : Int))) g 59 #[lessV, .slice (some ad) (H.length + 1) c2, .int .u64 (m : Int)]) := HB4.out.set 2 _
  have HO5 : Hid (OwE EN 61 (w4.setCell ⟨g, 2, none⟩ (.int .u64 (m : Int))) (.slice (some ad) (H ++ [(x, n)]).length c2) (H ++ [(x, n)])) :=
    HO4.out.turn (S := fun k => k = g) (Turn.setCell (S := fun k => k = g) (p := ⟨g, 2, none⟩) (Turn.refl _ w4) (fun _ => rfl) _) (fun k hk e => hne (by rw [← e]; simpa [Value.ownBlock] using hk.symm))
  have HT5 : Hid (Turn (fun k => k = g ∨ (Value.slice A H.length c).ownBlock = some k) w0 (w4.setCell ⟨g, 2, none⟩ (.int .u64 (m : Int)))) :=
    Turn.setCell (S := fun k => k = g ∨ (Value.slice A H.length c).ownBlock = some k) (p := ⟨g, 2, none⟩) HT4.out (fun _ => .inl rfl) _
  have HRI : Hid (Calls Try.prog 28 #[.slice (some ad) (H.length + 1) c2, aheadV g] (w4.setCell ⟨g, 2, none⟩ (.int .u64 (m : Int))) fun e w' => Heaped ad c2 (H ++ [(x, n)]) (w4.setCell ⟨g, 2, none⟩ (.int .u64 (m : Int))) e w') := by
    have h := rise_any ad g c2 (H ++ [(x, n)]) (w4.setCell ⟨g, 2, none⟩ (.int .u64 (m : Int))) (HB5.out.cell 0) hne HO5.out (by omega) (by omega) (by rw [hlen]; have := push_up (lt := bef ltW) (d := ((0, []), 0)) (x := (x, n)) HR.out.heap; rw [hlen] at this; exact this)
    rw [hlen] at h
    exact h
  go_wp2_with (go_at_call 28; refine HRI.out.mono ?_; rintro e w6 ⟨⟨v, rfl⟩, H', hp, hh, ho, ht⟩; have HPE := Lib.hid hp; have HHE := Lib.hid hh; have HOE := Lib.hid ho; have HTE := Lib.hid ht; clear hp hh ho ht)
  go_end0
  rw [← HM.out]
  have hb5 := HB5.out
  rw [← hlen, ← HM.out] at hb5
  have ht0 : Turn (fun k => k = g ∨ (Value.slice A H.length c).ownBlock = some k) w (w4.setCell ⟨g, 2, none⟩ (.int .u64 (m : Int))) := (HT0.out.mono (fun _ _ f => f.elim)).trans HT5.out (fun _ _ e => e)
  rw [← HM.out] at ht0
  have hte := HTE.out
  rw [← HM.out] at hte
  exact push_post HR.out HSS.out HOE.out hb5 hne HPE.out HHE.out hte ht0 HN2.out _ ⟨_, rfl⟩

end Go.Proofs.Ythhlppdphcjlnaa.plw
