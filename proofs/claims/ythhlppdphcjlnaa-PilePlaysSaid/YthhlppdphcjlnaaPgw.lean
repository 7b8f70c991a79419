
/-
  The program's pile (things: ossuaryref07.Item): Pop of what is there.
-/
import Derived.Test.YthhlppdphcjlnaaPfw
namespace Go.Proofs.Ythhlppdphcjlnaa.plw
open Go.RowKit Go.ChangeShapes Go.WideShapes Go.Deep

theorem pop_post {w w5 w6 : World} {g n c : Nat} {sv : Value} {ad : Addr} {H H' T' : List ((Int × List UInt8) × Nat)} {s z : (Int × List UInt8) × Nat} {k : Nat} {v : Value} (hr : Rep ltW ((0, []), 0) H (s :: T')) (hl : ∀ p ∈ s :: T', p.2 < n) (hk : H.length = k + 1) (hz : H[k]? = some z)
    (hsv : sv = .slice (some ad) H.length c) (ho : OwE EN 61 w6 (.slice (some ad) ((H.set 0 z).take k).length c) H') (hb : Box w5 g 59 #[lessV, .slice (some ad) ((H.set 0 z).take k).length c, .int .u64 (n : Int)]) (hne : g ≠ ad.block)
    (hp : H'.Perm ((H.set 0 z).take k)) (hh : Heap (bef ltW) (at0 ((0, []), 0) H') H'.length) (ht : Turn (fun k => k = ad.block) w5 w6) (ht5 : Turn (fun k => k = g ∨ sv.ownBlock = some k) w w5) (e : Ending) (he : e = .returned v) (w7 : World) (h7 : Turn (fun j => w.heap.size ≤ j) w6 w7) (hg : g < w.heap.size) (had : ad.block < w.heap.size) :
    Popped w g sv (T'.map (·.1)) n v e w7 := by
  subst hsv
  obtain ⟨_, h2⟩ := pop_rep hr hk hz
  have hm : Mp w6 g (.slice (some ad) ((H.set 0 z).take k).length c) (T'.map (·.1)) n :=
    ⟨H', T', ⟨hb.turn ht hne, ho⟩, ⟨hh, hp.trans h2, (List.pairwise_cons.1 hr.srt).2, (List.pairwise_cons.1 hr.nums).2⟩, rfl, fun p hp => hl p (List.mem_cons_of_mem _ hp)⟩
  refine ⟨he, _, hm.turn h7 (by omega) (fun j hj => ?_), (ht5.trans ht (fun j _ e => .inr (by subst e; rfl))).trans h7 (fun j hj e => absurd hj (by omega)), fun j hj => hj⟩
  have : ad.block = j := by simpa [Value.ownBlock] using hj
  omega

set_option maxRecDepth 100000 in
set_option maxHeartbeats 8000000 in
theorem pop_some (g n : Nat) (sv : Value) (x : (Int × List UInt8)) (R : List (Int × List UInt8)) (w : World) (h : Mp w g sv (x :: R) n) (hl : R.length ≤ 100000) :
    Calls Try.prog 12 #[.pointer (some ⟨g, 0, none⟩)] w fun e w' => Popped w g sv R n (.tuple #[(.agg #[.int .i64 x.1, .string ⟨x.2.toArray⟩]), .bool true]) e w' := by
  have HM := Lib.hid h
  have HTOP : Hid (∀ W, Turn (fun _ => False) w W → Calls Try.prog 14 #[.pointer (some ⟨g, 0, none⟩)] W fun e w' => e = .returned (.tuple #[(.agg #[.int .i64 x.1, .string ⟨x.2.toArray⟩]), .bool true]) ∧ Turn (fun _ => False) W w') := fun W ht => top_any g n sv (x :: R) W (h.later ht)
  have hlt := h.lt
  obtain ⟨H, S, hp, hr, hL, hS⟩ := h
  obtain ⟨s, T', rfl⟩ : ∃ s T, S = s :: T := by
    cases S with
    | nil => cases hL
    | cons s T => exact ⟨s, T, rfl⟩
  obtain rfl : T'.map (·.1) = R := by injection hL
  obtain ⟨k, hk⟩ : ∃ k, k = T'.length := ⟨_, rfl⟩
  have hH : H.length = k + 1 := by rw [hr.len, hk]; simp
  obtain ⟨A, c, rfl⟩ := hp.row.shape
  obtain ⟨ad, rfl, -⟩ := hp.row.some_at (by omega)
  obtain ⟨z, hz⟩ : ∃ z, H[k]? = some z := ⟨_, List.getElem?_eq_getElem (by omega)⟩
  have hfit := hp.row.rd.fits
  have hgl := hlt.1
  have hal : ad.block < w.heap.size := (hlt.2 _ rfl).1
  have hne : g ≠ ad.block := fun e => (hlt.2 ad.block rfl).2 e.symm
  have HLEN : Hid (∀ W, Turn (fun _ => False) w W → Calls Try.prog 15 #[.pointer (some ⟨g, 0, none⟩)] W fun e w' => e = .returned (.int .i64 (H.length : Int)) ∧ W = w') := fun W ht => by
    have h1 := len_any g n _ _ W (HM.out.later ht)
    rw [show (x :: T'.map (·.1)).length = H.length by rw [hH, hk]; simp] at h1
    exact h1
  have hwk : IntKind.i64.wrap ((H.length : Int) - 1) = (k : Int) := by rw [IntWalk.i64_in _ (by rw [List.length_map] at hl; omega)]; omega
  have HP := Lib.hid hp; have HR := Lib.hid hr; have HS := Lib.hid hS; have HZ := Lib.hid hz; have HH := Lib.hid hH
  have hk1 : (k : Int) < H.length := by omega
  have hk0 : (0 : Int) < H.length := by omega
  have hHe : ¬ H = [] := fun e => by rw [e] at hH; simp at hH
  have hkc : (k : Int) ≤ c := by omega
  have hkc0 : ¬ c - k = 0 := by omega
  have hkc1 : ¬ c = k := by omega
  have hkn : (k : Int) ≤ H.length := by omega
  have hk00 : (0 : Int) ≤ k := by omega
  have hnk : H.length - k = 1 := by omega
  have hnc : (H.length : Int) ≤ c := by omega
  have hkl : k ≤ 100000 := by rw [List.length_map] at hl; omega
  clear hp hr hL hS hz hfit hlt hH hk hl
  go_enter Try.func12, Try.ntmps12
  go_wp2_with (first
    | (go_at_call 14; refine (HTOP.out _ ((Turn.refl _ w).alloc _)).mono ?_; rintro e w1 ⟨rfl, ht⟩; have HT1 := Lib.hid (((Turn.refl (fun _ => False) w).alloc (.cells #[.int .i64 0, .string ⟨#[]⟩] 27)).trans ht (fun _ _ f => f)); have HR1 := Lib.hid (((Box.new w 27 #[.int .i64 0, .string ⟨#[]⟩]).turn ht (fun f => f)).alloc (.cells #[.int .i64 x.1, .string ⟨x.2.toArray⟩] 27)); have HF1 := Lib.hid (Box.new w1 27 #[.int .i64 x.1, .string ⟨x.2.toArray⟩]); clear ht; have HT2 := Lib.hid (HT1.out.alloc (.cells #[.int .i64 x.1, .string ⟨x.2.toArray⟩] 27)))
    | (go_at_call 15; refine (HLEN.out _ HT2.out).mono ?_; rintro e w2 ⟨rfl, rfl⟩)
    | fail)
  obtain ⟨w2, hw2⟩ : ∃ w2, w2 = w1.alloc (.cells #[.int .i64 x.1, .string ⟨x.2.toArray⟩] 27) := ⟨_, rfl⟩
  rw [← hw2] at HT2 HR1 HF1 ⊢
  clear hw2
  have hb1 : w.heap.size ≤ w1.heap.size := HT1.out.size
  have HFA : Hid (∀ W, Turn (fun k => k = g ∨ k = ad.block) w2 W → Box W w1.heap.size 27 #[.int .i64 x.1, .string ⟨x.2.toArray⟩] ∧ Box W w.heap.size 27 #[.int .i64 0, .string ⟨#[]⟩]) := fun W ht => ⟨HF1.out.turn ht (by omega), HR1.out.turn ht (by omega)⟩
  have HP2 := Lib.hid (HP.out.turn HT2.out (fun f => f) (fun _ _ f => f))
  have HSK : Hid (∀ W, Turn (fun _ => False) w2 W → (W.cell? ⟨g, 1, none⟩ = some (.slice (some ad) H.length c) ∧ W.cell? (ad.add (k * 3)) = some (.int .i64 z.1.1) ∧ W.cell? ⟨(ad.add (k * 3)).block, (ad.add (k * 3)).off + 2, none⟩ = some (.int .u64 (z.2 : Int)) ∧ W.cell? ⟨(ad.add (k * 3)).block, (ad.add (k * 3)).off + 1, none⟩ = some (.string ⟨z.1.2.toArray⟩)) ∧ Turn (fun _ => False) w2 W) :=
    fun W ht => ⟨⟨(HP2.out.obj.turn ht (fun f => f)).cell 1, en_at HP2.out.row.rd HZ.out ht⟩, ht⟩
  refine drawn_region (fun W => (W.cell? ⟨g, 1, none⟩ = some (.slice (some ad) H.length c) ∧ W.cell? (ad.add (k * 3)) = some (.int .i64 z.1.1) ∧ W.cell? ⟨(ad.add (k * 3)).block, (ad.add (k * 3)).off + 2, none⟩ = some (.int .u64 (z.2 : Int)) ∧ W.cell? ⟨(ad.add (k * 3)).block, (ad.add (k * 3)).off + 1, none⟩ = some (.string ⟨z.1.2.toArray⟩)) ∧ Turn (fun _ => False) w2 W) [12] (by kernel_rfl) ?_
  have hS0 := HSK.out _ (Turn.refl _ w2).drew
  refine drawn_take 0 18 (.pointer (some ⟨g, 0, none⟩)) rfl rfl (by kernel_rfl) (by kernel_rfl) (by kernel_rfl) (by kernel_rfl) (fun _ _ _ h => h) (by rfl) (by assumption) (by intro w hSw; obtain ⟨⟨hS1, hS2, hS3, hS7⟩, hS5⟩ := hSw; go_simp) ?_
  try simp only [List.setIfInBounds_toArray, List.set_cons_zero, List.set_cons_succ]
  refine drawn_take 1 19 (.pointer (some ⟨g, 0, none⟩)) rfl rfl (by kernel_rfl) (by kernel_rfl) (by kernel_rfl) (by kernel_rfl) (fun _ _ _ h => h) (by rfl) (by assumption) (by intro w hSw; obtain ⟨⟨hS1, hS2, hS3, hS7⟩, hS5⟩ := hSw; go_simp) ?_
  try simp only [List.setIfInBounds_toArray, List.set_cons_zero, List.set_cons_succ]
  refine drawn_take 2 20 (.pointer (some ⟨g, 1, none⟩)) rfl rfl (by kernel_rfl) (by kernel_rfl) (by kernel_rfl) (by kernel_rfl) (fun _ _ _ h => h) (by rfl) (by assumption) (by intro w hSw; obtain ⟨⟨hS1, hS2, hS3, hS7⟩, hS5⟩ := hSw; go_simp) ?_
  try simp only [List.setIfInBounds_toArray, List.set_cons_zero, List.set_cons_succ]
  refine drawn_take 3 21 (.slice (some ad) H.length c) rfl rfl (by kernel_rfl) (by kernel_rfl) (by kernel_rfl) (by kernel_rfl) (fun _ _ _ h => h) (by rfl) (by assumption) (by intro w hSw; obtain ⟨⟨hS1, hS2, hS3, hS7⟩, hS5⟩ := hSw; go_simp) ?_
  try simp only [List.setIfInBounds_toArray, List.set_cons_zero, List.set_cons_succ]
  refine drawn_take 4 22 (.pointer (some ⟨g, 0, none⟩)) rfl rfl (by kernel_rfl) (by kernel_rfl) (by kernel_rfl) (by kernel_rfl) (fun _ _ _ h => h) (by rfl) (by assumption) (by intro w hSw; obtain ⟨⟨hS1, hS2, hS3, hS7⟩, hS5⟩ := hSw; go_simp) ?_
  try simp only [List.setIfInBounds_toArray, List.set_cons_zero, List.set_cons_succ]
  refine drawn_take 5 23 (.pointer (some ⟨g, 0, none⟩)) rfl rfl (by kernel_rfl) (by kernel_rfl) (by kernel_rfl) (by kernel_rfl) (fun _ _ _ h => h) (by rfl) (by assumption) (by intro w hSw; obtain ⟨⟨hS1, hS2, hS3, hS7⟩, hS5⟩ := hSw; go_simp) ?_
  try simp only [List.setIfInBounds_toArray, List.set_cons_zero, List.set_cons_succ]
  refine drawn_take 6 24 (.pointer (some ⟨g, 1, none⟩)) rfl rfl (by kernel_rfl) (by kernel_rfl) (by kernel_rfl) (by kernel_rfl) (fun _ _ _ h => h) (by rfl) (by assumption) (by intro w hSw; obtain ⟨⟨hS1, hS2, hS3, hS7⟩, hS5⟩ := hSw; go_simp) ?_
  try simp only [List.setIfInBounds_toArray, List.set_cons_zero, List.set_cons_succ]
  refine drawn_take 7 25 (.slice (some ad) H.length c) rfl rfl (by kernel_rfl) (by kernel_rfl) (by kernel_rfl) (by kernel_rfl) (fun _ _ _ h => h) (by rfl) (by assumption) (by intro w hSw; obtain ⟨⟨hS1, hS2, hS3, hS7⟩, hS5⟩ := hSw; go_simp) ?_
  try simp only [List.setIfInBounds_toArray, List.set_cons_zero, List.set_cons_succ]
  refine drawn_take 8 26 (.int .i64 (k : Int)) rfl rfl (by kernel_rfl) (by kernel_rfl) (by kernel_rfl) (by kernel_rfl) (fun _ _ _ h => h) (by rfl) (by assumption) (by intro w hSw; obtain ⟨⟨hS1, hS2, hS3, hS7⟩, hS5⟩ := hSw; go_simp) ?_
  try simp only [List.setIfInBounds_toArray, List.set_cons_zero, List.set_cons_succ]
  refine drawn_take 9 27 (.pointer (some (ad.add (k * 3)))) rfl rfl (by kernel_rfl) (by kernel_rfl) (by kernel_rfl) (by kernel_rfl) (fun _ _ _ h => h) (by rfl) (by assumption) (by intro w hSw; obtain ⟨⟨hS1, hS2, hS3, hS7⟩, hS5⟩ := hSw; go_simp) ?_
  try simp only [List.setIfInBounds_toArray, List.set_cons_zero, List.set_cons_succ]
  refine drawn_take 10 28 (nv z) rfl rfl (by kernel_rfl) (by kernel_rfl) (by kernel_rfl) (by kernel_rfl) (fun _ _ _ h => h) (by rfl) (by assumption) (by intro w hSw; obtain ⟨⟨hS1, hS2, hS3, hS7⟩, hS5⟩ := hSw; go_simp) ?_
  try simp only [List.setIfInBounds_toArray, List.set_cons_zero, List.set_cons_succ]
  refine drawn_take 11 29 (.pointer (some ad)) rfl rfl (by kernel_rfl) (by kernel_rfl) (by kernel_rfl) (by kernel_rfl) (fun _ _ _ h => h) (by rfl) (by assumption) (by intro w hSw; obtain ⟨⟨hS1, hS2, hS3, hS7⟩, hS5⟩ := hSw; go_simp) ?_
  try simp only [List.setIfInBounds_toArray, List.set_cons_zero, List.set_cons_succ]
  clear hS0
  refine drawn_last (z := 12) rfl (by kernel_rfl) (by kernel_rfl) (by kernel_rfl) (fun K hK => ?_)
  refine put_store (HP2.out.row.later (Turn.refl _ w2).drew) 0 z (by have := HH.out; omega) rfl rfl (by kernel_rfl) ?_
  intro w3 ho3 ht3
  have HO3 := Lib.hid ho3; have HT3 := Lib.hid ((Turn.refl (fun k => k = ad.block) w2).drew.trans ht3 (fun _ _ e => e)); clear ho3 ht3
  refine hK.out _ _ ?_
  clear hK K
  have HB3 := Lib.hid (HP2.out.obj.turn HT3.out hne)
  have c1 := HB3.out.cell 1
  have hcl := clear_one (c' := c - k) HO3.out (j := k) (by rw [List.length_set]; have := HH.out; omega)
  have HO4 : Hid (OwE EN 61 (w3.setCells ad.block (ad.off + k * 3) (EN.enc zeroI)) (.slice (some ad) H.length c) ((H.set 0 z).set k zeroI)) := HO3.out.put (by rw [List.length_set]; have := HH.out; omega) zeroI
  have HT4 : Hid (Turn (fun k => k = ad.block) w2 (w3.setCells ad.block (ad.off + k * 3) (EN.enc zeroI))) := HT3.out.trans (turn_setCells (S := fun k => k = ad.block) rfl _ _ _) (fun _ _ e => e)
  generalize w3.setCells ad.block (ad.off + k * 3) (EN.enc zeroI) = w4 at hcl HO4 HT4
  have HB4 := Lib.hid (HP2.out.obj.turn HT4.out hne)
  have d1 := HB4.out.cell 1
  have d2 := HB4.out.free 1
  have hGl : ((H.set 0 z).take k).length = k := by rw [List.length_take, List.length_set]; have := HH.out; omega
  have HB5 : Hid (Box (w4.setCell ⟨g, 1, none⟩ (.slice (some ad) k c)) g 59 #[lessV, .slice (some ad) k c, .int .u64 (n : Int)]) := HB4.out.set 1 _
  have HT5 : Hid (Turn (fun k => k = g ∨ k = ad.block) w2 (w4.setCell ⟨g, 1, none⟩ (.slice (some ad) k c))) := Turn.setCell (S := fun k => k = g ∨ k = ad.block) (p := ⟨g, 1, none⟩) (HT4.out.mono (fun _ _ e => .inr e)) (fun _ => .inl rfl) _
  have HO5 : Hid (OwE EN 61 (w4.setCell ⟨g, 1, none⟩ (.slice (some ad) k c)) (.slice (some ad) k c) ((H.set 0 z).take k)) := by
    have h1 := HO4.out.cut (m := k) (by rw [List.length_set, List.length_set]; have := HH.out; omega)
    rw [List.take_set_of_le (Nat.le_refl _)] at h1
    exact h1.turn (S := fun k => k = g) (Turn.setCell (S := fun k => k = g) (p := ⟨g, 1, none⟩) (Turn.refl _ w4) (fun _ => rfl) _) (fun j hj e => hne (by rw [← e]; simpa [Value.ownBlock] using hj.symm))
  have HSI : Hid (Calls Try.prog 30 #[.slice (some ad) k c, aheadV g] (w4.setCell ⟨g, 1, none⟩ (.slice (some ad) k c)) fun e w' => Heaped ad c ((H.set 0 z).take k) (w4.setCell ⟨g, 1, none⟩ (.slice (some ad) k c)) e w') := by
    have h := sink_any ad g c ((H.set 0 z).take k) (w4.setCell ⟨g, 1, none⟩ (.slice (some ad) k c)) (HB5.out.cell 0) hne (by rw [hGl]; exact HO5.out) (by omega) (pop_rep HR.out HH.out HZ.out).1
    rw [hGl] at h
    exact h
  have HW : Hid (∀ W, Turn (fun k => k = ad.block) (w4.setCell ⟨g, 1, none⟩ (.slice (some ad) k c)) W → Turn (fun k => k = g ∨ k = ad.block) w2 W) := fun W ht => HT5.out.trans ht (fun _ _ e => .inr e)
  go_wp2_with (go_at_call 30; refine HSI.out.mono ?_; rintro e w6 ⟨⟨v, rfl⟩, H', hp, hh, ho, ht⟩; have HPE := Lib.hid hp; have HHE := Lib.hid hh; have HOE := Lib.hid ho; have HTE := Lib.hid ht; clear hp hh ho ht; obtain ⟨hf, hr⟩ := HFA.out w6 (HW.out w6 HTE.out); have f0 := hf.cell 0; have f1 := hf.cell 1; have r0 := hr.cell 0; have r1 := hr.cell 1; have r2 := hr.free 0; have r3 := hr.free 1; clear hf hr)
  have hb5 : Box (w4.setCell ⟨g, 1, none⟩ (.slice (some ad) k c)) g 59 #[lessV, .slice (some ad) ((H.set 0 z).take k).length c, .int .u64 (n : Int)] := by rw [hGl]; exact HB5.out
  have hoe : OwE EN 61 w6 (.slice (some ad) ((H.set 0 z).take k).length c) H' := by
    have h := HOE.out
    rwa [hGl] at h ⊢
  have hte := HTE.out
  have ht0 : Turn (fun j => j = g ∨ (Value.slice (some ad) H.length c).ownBlock = some j) w (w4.setCell ⟨g, 1, none⟩ (.slice (some ad) k c)) :=
    (HT2.out.mono (fun _ _ f => f.elim)).trans HT5.out (fun j _ e => e.elim .inl (fun e => .inr (by rw [e]; rfl)))
  have h7 : Turn (fun j => w.heap.size ≤ j) w6 ((w6.setCell ⟨w.heap.size, 0, none⟩ (.int .i64 x.1)).setCell ⟨w.heap.size, 1, none⟩ (.string ⟨x.2.toArray⟩)) :=
    Turn.setCell (S := fun j => w.heap.size ≤ j) (p := ⟨w.heap.size, 1, none⟩) (Turn.setCell (S := fun j => w.heap.size ≤ j) (p := ⟨w.heap.size, 0, none⟩) (Turn.refl _ w6) (fun _ => Nat.le_refl _) _) (fun _ => Nat.le_refl _) _
  refine bodyPost_ret (v := .tuple #[(.agg #[.int .i64 x.1, .string ⟨x.2.toArray⟩]), .bool true]) ?_ rfl (pop_post HR.out HS.out HH.out HZ.out rfl hoe hb5 hne HPE.out HHE.out hte ht0 _ rfl _ h7 hgl hal)
  rw [results_cell_tmp rfl]
  go_simp

end Go.Proofs.Ythhlppdphcjlnaa.plw
