/-
  Texts laid one behind the other: R5j R4v R4o.
-/
import Derived.Test.YtgbphkbbedkepaaJocan
import Derived.Test.YtgbphkbbedkepaaJocaf
import Derived.Test.YtgbphkbbedkepaaJocaj
import Derived.Test.YtgbphkbbedkepaaJocam
import Derived.Test.YtgbphkbbedkepaaJocah

/-
  Stage 20: the program's Segs.
-/
namespace Go.Proofs.Ytgbphkbbedkepaa
open Go.RowKit Go.Shelf
attribute [local go_sem] Oper.semAt_some wide_fn

set_option maxRecDepth 100000

theorem enc_num20 (x : Int) : EI20.enc x = [Value.int .i64 x] := rfl
/-- Behind slices.Sort of a row of one's own. -/
def NumsSorted20 (w : World) (v : Value) (l : List Int) (e : Ending) (w' : World) : Prop := e = .returned (.tuple #[]) ∧ OwE EI20 2 w' v (l.mergeSort fun x y => decide (x ≤ y)) ∧ Turn (fun k => v.ownBlock = some k) w w'
theorem sortnums20 (v : Value) (l : List Int) (w : World) (h : OwE EI20 2 w v l) (hl : l.length ≤ 1000000) :
    Calls Try.prog 40 #[v] w fun e w' => NumsSorted20 w v l e w' := by
  by_cases h0 : l = []
  · subst h0
    obtain ⟨A, c, rfl⟩ := h.shape
    have hcon := AnyM.slices_Sort_int_none Try.sortN20 A c w
    exact hcon.mono fun e w' ⟨he, hw⟩ => ⟨he, by rw [hw, List.mergeSort_nil]; exact h, by rw [hw]; exact Turn.refl _ w⟩
  · have hpos : 0 < l.length := List.length_pos_iff.2 h0
    obtain ⟨A, c, rfl⟩ := h.shape
    obtain ⟨ad, rfl, _⟩ := h.some_at hpos
    obtain ⟨cur, had, _, hb, _⟩ := h.home
    have hcon := AnyM.slices_Sort_int Try.sortN20 ad.block 0 c l w (h.holds1 enc_num20) hb.lt (by omega)
    rw [← had] at hcon
    refine hcon.mono fun e w' ⟨he, n, os, hw⟩ => ?_
    have hs := h.row enc_num20 (l.mergeSort fun x y => decide (x ≤ y)) (List.mergeSort_perm l _).length_eq n os
    rw [← hw] at hs
    exact ⟨he, hs.1, hs.2.mono fun k _ hk => by rw [hk]; rfl⟩
/-- A row of numbers that make lays, of none yet. -/
theorem own_made20 (N : Nat) (hN : N ≤ 1000000) (w : World) : (Instr.makeSlice 54 (.int .i64 0) (.int .i64 (N : Int))).run Try.prog w = .ok (.slice (some ⟨w.heap.size, 0, none⟩) 0 N) (w.alloc (.cells (madeCells (Value.cells (.int .i64 0)) N) 2)) ∧ OwE EI20 2 (w.alloc (.cells (madeCells (Value.cells (.int .i64 0)) N) 2)) (.slice (some ⟨w.heap.size, 0, none⟩) 0 N) [] := by
  obtain ⟨i, hi, hz0, h1, h2⟩ := info_parts num_info20
  have hNb : N * 8 ≤ 1000000 * 8 := Nat.mul_le_mul_right 8 hN
  have h := run_make (P := Try.prog) w 54 2 i _ Try.underlying54 hi hz0 .i64 .i64 0 (N : Int) (Int.le_refl _) (by omega) (by rw [h2]; first | (rw [← Int.natCast_mul, Nat.mul_comm]; omega) | (rw [← Int.natCast_mul]; omega) | (rw [Nat.mul_comm]; omega) | omega | fail) (by omega)
  rw [h1, show ((N : Int)).toNat = N from Int.toNat_natCast N, show EI20.sz = 1 from rfl, Nat.mul_one] at h
  exact ⟨h, OwE.of_box (E := EI20) (L := []) (c := N) (Box.new w _ _) (Nat.zero_le _) (by simp only [maxLen]; omega) (by rw [size_madeCells, show EI20.sz = 1 from rfl, Nat.mul_one]) (by simp [El.flat])⟩

/-- In the range: the list's box, the list, whose row is R or new since block B. -/
structure SI20 (wb : World) (lb R : Nat) (B : Nat) (v : Value) (L : List Int) (V : World) : Prop where
  b : Box V lb 54 #[v]
  own : OwE EI20 2 V v L
  new : ∀ k, v.ownBlock = some k → k = R ∨ B ≤ k
  ge : B ≤ V.heap.size
  low : wb.heap.size ≤ B
  turn : Turn (fun k => k = lb ∨ k = R) wb V
theorem SI20.later {wb V V' : World} {lb R B : Nat} {v : Value} {L : List Int} (h : SI20 wb lb R B v L V) (ht : Turn (fun _ => False) V V') : SI20 wb lb R B v L V' :=
  ⟨h.b.turn ht (fun f => f), h.own.later ht, h.new, Nat.le_trans h.ge ht.size, h.low, h.turn.trans ht (fun _ _ f => f.elim)⟩
theorem SI20.odd {wb A V : World} {lb R B D : Nat} {v : Value} {L : List Int} (h : SI20 wb lb R B v L A) (hD : wb.heap.size ≤ D) (ht : Turn (odd D A) A V) : SI20 wb lb R B v L V :=
  ⟨h.b.odd ht, holds_own D (fun _ : Unit => v) (fun _ => L) () A V h.own ht, h.new, Nat.le_trans h.ge ht.size, h.low, h.turn.trans ht (fun k hk e => by have := e.1; omega)⟩
/-- One more number in the list. -/
theorem SI20.app {wb V w6 : World} {lb R B : Nat} {L : List Int} {v : Value} {e : Int} {A5 : Option Addr} {n5 c5 : Nat} (h : SI20 wb lb R B v L V)
    (hwb : wb.heap.size ≤ B) (ho : OwE EI20 2 w6 (.slice A5 n5 c5) (L ++ [e])) (ht : Turn (fun k => v.ownBlock = some k) V w6)
    (hc : (Value.slice A5 n5 c5).ownBlock = v.ownBlock ∨ (Value.slice A5 n5 c5).ownBlock = some V.heap.size) :
    SI20 wb lb R B (.slice A5 n5 c5) (L ++ [e]) (w6.setCell ⟨lb, 0, none⟩ (.slice A5 n5 c5)) ∧ Box w6 lb 54 #[v] ∧ KeepsOthers V (w6.setCell ⟨lb, 0, none⟩ (.slice A5 n5 c5)) ∧ Turn (fun k => (k = lb ∨ k = R) ∨ B ≤ k) V (w6.setCell ⟨lb, 0, none⟩ (.slice A5 n5 c5)) := by
  have hs : Turn (fun k => k = lb) w6 (w6.setCell ⟨lb, 0, none⟩ (.slice A5 n5 c5)) := Turn.setCell (S := fun k => k = lb) (p := ⟨lb, 0, none⟩) (Turn.refl _ w6) (fun _ => rfl) _
  have b2 : Box w6 lb 54 #[v] := h.b.turn ht (fun e => h.own.not_box h.b (by decide) e)
  have hne : ∀ k, (Value.slice A5 n5 c5).ownBlock = some k → k ≠ lb := fun k hk e => ho.not_box b2 (by decide) (by rw [hk, e])
  have hge : B ≤ w6.heap.size := Nat.le_trans h.ge ht.size
  refine ⟨⟨b2.set 0 _, ho.turn hs hne, fun k hk => ?_, Nat.le_trans hge hs.size, h.low, ?_⟩, b2, (keeps_turn ht (fun k hk o hok => own_cells h.own hk o hok)).trans (KeepsOthers.setCell _ _ _), ?_⟩
  · rcases hc with e1 | e1
    · rw [e1] at hk; exact h.new k hk
    · rw [e1] at hk
      injection hk with hk
      rw [← hk]; exact .inr h.ge
  · exact (h.turn.trans ht (fun k hk e => by rcases h.new k e with h | h; exact .inr h; omega)).trans hs (fun k _ e => .inl e)
  · exact (ht.mono (fun k _ e => (h.new k e).imp .inr id)).trans hs (fun k _ e => .inl (.inl e))

set_option maxHeartbeats 8000000 in
theorem segs_any20 (p : Value) (l : List N20) (w : World) (hl : l.length ≤ 5000) (hlen : Calls Try.prog 22 #[p] w fun e w' => e = .returned (.int .i64 (l.length : Int)) ∧ w = w')
    (hall : ∀ W, Turn (fun _ => False) w W → Calls Try.prog 20 #[p] W fun e w' => AllP20 W l e w') (hp : ∃ a, p = .pointer a) :
    Calls Try.prog 23 #[p] w fun e w' => Numbs20 w (segs20 l) e w' := by
  obtain ⟨a, rfl⟩ := hp
  have HLN := Lib.hid hlen; have HAL := Lib.hid hall
  obtain ⟨N, hN⟩ : ∃ N, N = l.length := ⟨_, rfl⟩
  rw [← hN] at HLN hl
  have HNN := Lib.hid hN
  have hmk := (own_made20 N (by omega) w).1
  have HR0 := Lib.hid (own_made20 N (by omega) w).2
  clear hlen hall hN
  refine (callsIn_wide (n := 5)).1 ?_
  refine callsIn_of_wp_marks Try.func23 rfl trivial ?_ rfl
  simp only [Try.ntmps23, List.size_toArray, List.length_cons, List.length_nil, Nat.reduceAdd, Nat.reduceSub, Array.replicate_succ, Array.replicate_zero, List.push_toArray, List.append_toArray, List.nil_append, List.cons_append]
  refine wpIn_wide.2 ?_
  go_wp2_with fail
  refine HLN.out.mono ?_
  rintro e wx ⟨rfl, rfl⟩
  go_wp2_with fail
  clear hmk
  obtain ⟨R, hR⟩ : ∃ R : Nat, R = w.heap.size := ⟨_, rfl⟩
  obtain ⟨wb, hwb⟩ : ∃ wb, wb = (w.alloc (.cells (madeCells #[.int .i64 0] N) 2)).alloc (.cells #[.slice (some ⟨R, 0, none⟩) 0 N] 54) := ⟨_, rfl⟩
  have HTB : Hid (Turn (fun _ => False) w wb) := by rw [hwb]; exact ((Turn.refl _ w).alloc _).alloc _
  have HBX : Hid (Box wb (R + 1) 54 #[.slice (some ⟨R, 0, none⟩) 0 N]) := by
    rw [hwb, hR]
    have h := Box.new (w.alloc (.cells (madeCells #[.int .i64 0] N) 2)) 54 #[.slice (some ⟨w.heap.size, 0, none⟩) 0 N]
    rw [World.size_alloc] at h
    exact h
  have HRO : Hid (OwE EI20 2 wb (.slice (some ⟨R, 0, none⟩) 0 N) []) := by
    rw [hwb, hR]
    exact HR0.out.turn ((Turn.refl (fun _ => False) _).alloc _) (fun _ _ f => f)
  have HRW : Hid (R = w.heap.size ∧ R + 1 < wb.heap.size) := ⟨hR, HBX.out.lt⟩
  rw [← hR]
  rw [← hwb]
  clear hwb hR HR0
  refine (HAL.out wb HTB.out).mono ?_
  rintro e w3 ⟨qa, q1, q2, rfl, hat, hnew, t3⟩
  have HTW3 : Hid (Turn (fun _ => False) w w3) := HTB.out.trans t3 (fun _ _ f => f)
  have HWS : Hid (R + 1 < w3.heap.size) := Nat.lt_of_lt_of_le HRW.out.2 t3.size
  have HB3 := Lib.hid (HBX.out.turn t3 (fun f => f)); have HR3 := Lib.hid (HRO.out.later t3)
  have HFE : Hid (Feeds5 4 38 #[.pointer (some ⟨qa, 0, none⟩)] (fun e => #[ev20 e]) (fun k => (k = R + 1 ∨ k = R) ∨ k = w3.heap.size + 1) (fun pre y _ => pre ++ [y] <+: l) (fun xs => xs = l) (fun pre => pre <+: l) w3) := by
    obtain ⟨A, x, hs, -⟩ := hat.src
    have k1 := hat.rest.lt; have k4 := hs.root.lt; have k5 := hs.fun'.lt; have h := HRW.out
    exact all_feeds20 4 hat _ (by omega) (by omega) (by omega) ⟨fun g cs hb e => by
      rcases e with (e | e) | e
      · exact box_ne10 hb HB3.out (by decide) e
      · exact box_not_own hb HR3.out rfl (by decide) e
      · have := hb.lt; omega⟩
  have HI0 : Hid (∀ W, Turn (fun _ => False) w3 W → SI20 w3 (R + 1) R W.heap.size (.slice (some ⟨R, 0, none⟩) 0 N) [] W) := fun W ht =>
    ⟨HB3.out.turn ht (fun f => f), HR3.out.later ht, (fun k e => .inl (by simpa [Value.ownBlock] using e.symm)), Nat.le_refl _, ht.size, ht.mono (fun _ _ f => f.elim)⟩
  clear hat hnew t3 HAL
  go_wp2_with fail
  refine (wpIn_wide (n := 5)).1 ?_
  refine' over8 (n := 5) (by omega) (gf := 38) (lb := #[.pointer (some ⟨qa, 0, none⟩)]) rfl (enters_of Try.func38 (by kernel_rfl) rfl)
    HFE.out (Turn.refl _ _) (Or.inr rfl) ?hS2 (fun _ => rfl) _
    (fun B (pre : List N20) V => ∃ v, SI20 w3 (R + 1) R B v (pre.map (·.seg)) V)
    (fun _ (_ : List N20) _ => False)
    ?hI ?hIx ?h0
    (fun B pre y q V => (∃ v, SI20 w3 (R + 1) R B v (pre.map (·.seg)) V) ∧ Box V q 32 (ecells20 y) ∧ pre ++ [y] <+: l)
    ?hax ?assign ?body ?done ?stop
  case hS2 =>
    intro k hk
    have := HWS.out
    rcases hk with (h | h) | h <;> omega
  case hI => exact fun B pre A C ⟨v, h⟩ ht => ⟨v, h.odd (Nat.le_refl _) ht⟩
  case hIx => exact fun c pre A C h ht => h
  case hax => exact fun B pre y q A C ⟨⟨v, h1⟩, h2, h3⟩ ht => ⟨⟨v, h1.odd (Nat.le_refl _) ht⟩, h2.odd ht, h3⟩
  case h0 => exact fun W ht => ⟨_, HI0.out W ht⟩
  case stop => exact fun D c0 pre V _ _ h _ => h.elim
  case assign =>
    rintro l0 B pre x Wa K hN ⟨v, hi0⟩ hgv hK
    have HK := Lib.hid hK
    have HT : Hid (Turn (fun _ => False) Wa (Wa.alloc (.cells (ecells20 x) 32))) := (Turn.refl _ Wa).alloc _
    have HBX : Hid ((∃ v, SI20 w3 (R + 1) R B v (pre.map (·.seg)) (Wa.alloc (.cells (ecells20 x) 32))) ∧ Box (Wa.alloc (.cells (ecells20 x) 32)) Wa.heap.size 32 (ecells20 x) ∧ pre ++ [x] <+: l) := ⟨⟨v, hi0.later HT.out⟩, Box.new Wa _ _, hgv⟩
    clear hK hi0 hgv
    gi_wp2
    generalize Wa.alloc (.cells (ecells20 x) 32) = V2 at *
    generalize Wa.heap.size = p at *
    exact HK.out p _ HBX.out HT.out
  case body =>
    rintro l0 B pre y q V hN ⟨⟨v, hsi⟩, hq, hgv⟩
    obtain ⟨A9, c9, rfl⟩ := hsi.own.shape
    have hlt := (pre_at10 hgv).2
    obtain ⟨L, hL⟩ : ∃ L, L = (pre.map (·.seg) : List Int) := ⟨_, rfl⟩
    have HNX : Hid ((pre ++ [y]).map (·.seg) = L ++ [y.seg]) := by show _ = _; rw [List.map_append, ← hL]; rfl
    have HLN : Hid (L.length + 1 ≤ 5001) := by show _ ≤ _; rw [hL, List.length_map]; have := HNN.out; omega
    rw [← hL] at hsi
    obtain ⟨n9, hn9⟩ : ∃ n, n = L.length := ⟨_, rfl⟩
    rw [← hn9] at hsi
    have b0 := hsi.b.cell 0
    obtain ⟨a0, a1, a2, a3, a4, a5⟩ := box_n20 hq
    have HSI := Lib.hid hsi; have HBN := Lib.hid hN
    have HO3 := Lib.hid (hsi.later ((Turn.refl (fun _ => False) V).alloc (.cells #[.int .i64 y.seg] 2)))
    have HSR : Hid (Src Try.prog EI20.sz 54 (.slice (some ⟨V.heap.size, 0, none⟩) 1 1) 1 (EI20.flat [y.seg]) (V.alloc (.cells #[.int .i64 y.seg] 2))) := (one_row EI20 2 V y.seg).src Try.underlying54
    clear hsi hq hgv hL hn9 hlt hN
    gi_wp2_with (gi_at_builtin; refine halt20 ?_)
    show wpListIn _ _ _ _ _ _ _ _
    refine wpListIn_appE Try.underlying54 num_info20 num_zero20 _ rfl _ _ _ rfl _ L rfl HO3.out.own _ rfl [y.seg] HSR.out (by have := HLN.out; simp only [maxLen, List.length_cons, List.length_nil]; omega) (by have := HLN.out; simp only [List.length_cons, List.length_nil]; omega) ?_
    intro A5 n5 c5 w6 ho ht hc
    have HAP := Lib.hid (HO3.out.app (by have h3 := HBN.out; omega) ho ht hc)
    have g0 := HAP.out.2.1.cell 0
    have g1 := HAP.out.2.1.free 0
    have HTA : Hid (Turn (fun _ => False) V (V.alloc (.cells #[.int .i64 y.seg] 2))) := (Turn.refl _ V).alloc _
    clear ho ht hc a0 a1 a2 a3 a4 a5 b0
    gi_wp2
    exact ⟨Still.others ((KeepsOthers.turned HTA.out).trans HAP.out.2.2.1), HTA.out.none.trans (HAP.out.2.2.2.mono (fun k _ e => e.imp .inl id)) (fun _ _ e => e), _, by rw [HNX.out]; exact HAP.out.1⟩
  case done =>
    rintro D B xs V hD hA ⟨v, hsi⟩ hK
    have hA2 : xs = l := hA
    rw [hA2] at hsi
    obtain ⟨A9, c9, rfl⟩ := hsi.own.shape
    obtain ⟨L, hL⟩ : ∃ L, L = (l.map (·.seg) : List Int) := ⟨_, rfl⟩
    have HLN : Hid (L.length ≤ 1000000) := by show _ ≤ _; rw [hL, List.length_map]; have := HNN.out; omega
    have HSG : Hid (L.mergeSort (fun x y => decide (x ≤ y)) = segs20 l) := by show _ = _; rw [hL]; exact segs_sort20 l
    rw [← hL] at hsi
    obtain ⟨n9, hn9⟩ : ∃ n, n = L.length := ⟨_, rfl⟩
    have HN9 := Lib.hid hn9
    rw [← hn9] at hsi
    have c3 := hsi.b.cell 0
    have HSI := Lib.hid hsi; have HKD := Lib.hid hK; have HDD := Lib.hid hD
    clear hsi hK hD hA hA2 hL hn9
    go_wp2_with fail
    refine (sortnums20 _ L V HSI.out.own HLN.out).mono ?_
    rintro e w5 ⟨rfl, ho, ht⟩
    have HO5 := Lib.hid ho; have HT5 := Lib.hid ht
    have HB5 := Lib.hid (HSI.out.b.turn ht (fun e => HSI.out.own.not_box HSI.out.b (by decide) e))
    have c5 := HB5.out.cell 0
    have HK5 : Hid (w5.heap[D]? = some (.deferred (some []))) := (ht.block D (Array.getElem?_eq_some_iff.1 HKD.out).1 (fun e => by
      have := own_cells HSI.out.own e _ HKD.out
      cases this)).trans HKD.out
    clear ho ht c3
    go_wp2
    have k1 : w5.heap[D]? = some (.deferred (some [])) := HK5.out
    have u1 : Turn (fun k => k = D) w5 (w5.putObj D (.deferred none)) := Turn.putObj _ D _ rfl
    have o9 : OwE EI20 2 (w5.putObj D (.deferred none)) (.slice A9 n9 c9) (L.mergeSort fun x y => decide (x ≤ y)) := holds_own w3.heap.size (fun _ : Unit => Value.slice A9 n9 c9) (fun _ => L.mergeSort fun x y => decide (x ≤ y)) () w5 _ HO5.out (Turn.putObj w5 D (.deferred none) ⟨HDD.out, _, k1, rfl⟩)
    refine ⟨by simp, .inl ⟨_, _, rfl, run_takeDeferred k1, ?_⟩⟩
    refine ⟨.slice A9 n9 c9, ?_, ?_⟩
    · simp [results, Try.f23, go_sem]
    · have hR := HRW.out.1
      have h3 := HTW3.out.size
      have hlow := HSI.out.low
      have hrd := o9.rd
      rw [HSG.out] at hrd
      have t9 : Turn (fun _ => False) w V := HTW3.out.fresh HSI.out.turn (fun k e => by rcases e with e | e <;> omega)
      have t10 : Turn (fun _ => False) w w5 := t9.fresh HT5.out (fun k e => by rcases HSI.out.new k e with h | h <;> omega)
      have hsz : (segs20 l).length = n9 := by rw [← HSG.out, List.length_mergeSort, HN9.out]
      exact ⟨_, rfl, hrd, t10.fresh u1 (fun k e => by rw [e]; have := HDD.out; omega)⟩
theorem segs_mem20 {w : World} {F : Nat → Prop} {g : Nat} {l : List N20} (h : CM20 w F g l) (hl : l.length ≤ 5000) : Calls Try.prog 23 #[.pointer (some ⟨g, 0, none⟩)] w fun e w' => Numbs20 w (segs20 l) e w' :=
  segs_any20 _ l w hl (len_any20 h) (fun _ ht => all_any20 (h.later ht)) ⟨_, rfl⟩
theorem segs_nil20 (w : World) : Calls Try.prog 23 #[.pointer none] w fun e w' => Numbs20 w [] e w' :=
  segs_any20 _ [] w (by decide) (len_nil20 w) (fun W _ => all_nil20 W) ⟨_, rfl⟩

end Go.Proofs.Ytgbphkbbedkepaa

/-
  Stage 20: the program's catalog answers as is asked of it.
-/
namespace Go.Proofs.Ytgbphkbbedkepaa
open Go.RowKit

set_option maxRecDepth 100000

theorem apply_nil20 (w : World) : Calls Try.prog 18 #[.pointer none, .agg #[.slice none 0 0, .slice none 0 0]] w fun e w' => SaysC20 w (.int .i64 1) e w' := by
  have HT : Hid (∀ o, Turn (fun _ => False) w (w.alloc o)) := fun o => (Turn.refl _ w).alloc _
  go_enter Try.func18, Try.ntmps18
  go_wp2
  go_ret
  exact ⟨rfl, HT.out _⟩
theorem says_of20 {w w' : World} {v : Value} {e : Ending} (h : e = .returned v ∧ w = w') : SaysC20 w v e w' := ⟨h.1, by rw [← h.2]; exact Turn.refl _ _⟩
theorem prog20 : Prog20 CM20 where
  lt := fun h => h.lt
  later := fun h ht => h.later ht
  apart := fun h h2 hd ht => h.apart h2 hd ht
  right := fun e w _ => right_any20 e w
  new := new_any20
  apply := fun dv pv D C hm hb hd hp _ _ hdn hpn _ _ => apply_any20 dv pv D C hm hb.ok hb.len hd hp hdn hpn
  at_ := fun h _ hm hb => at_any20 h hm hb.ok
  get := fun p _ hm hb => get_any20' p hm hb.ok
  over := fun lo hi _ _ hm hb => over_any20 lo hi hm hb.ok hb.len
  len := fun hm _ => (len_any20 hm).mono fun _ _ h => says_of20 h
  segs := fun hm hb => segs_mem20 hm hb.len
  copy := fun hm _ => copy_any20 hm
  all := fun hm _ => (all_any20 hm).mono fun _ _ h => allp_is20 h
theorem nil20 : Nil20 where
  all := fun w => (all_nil20 w).mono fun _ _ h => allp_is20 h
  at_ := fun h w _ => at_nil20 h w
  get := fun p w _ => get_nil20 p w
  apply := apply_nil20
  over := fun w => over_nil20 0 9 w
  len := fun w => (len_nil20 w).mono fun _ _ h => says_of20 h
  copy := copy_nil20
  segs := segs_nil20
end Go.Proofs.Ytgbphkbbedkepaa

/-
  Stage 20: an edit that came in by value; numbers that came in.
-/
namespace Go.Proofs.Ytgbphkbbedkepaa
open Go.RowKit Go.ChangeShapes Go.WideShapes Go.Deep

set_option maxRecDepth 100000
set_option linter.unusedSimpArgs false
set_option linter.unusedVariables false

theorem open_actv20 {H : Type} {enc : TypeId × Value → H} {W : World} {b0 : Nat} {v : Value} {d : DataW H} {p : List MemPlace} (hv : Value.okWide Try.prog W .any b0 44 v) (h : DataW.Trod enc Try.prog W 0 (fun _ => true) true 44 v d p) : ∃ a : AC20, v = av20 a ∧ AcOk20 W a := by
  simp only [Value.okWide, Try.underlying44] at hv
  obtain ⟨cs, rfl, hsz, _⟩ := hv
  obtain ⟨fuel, hf⟩ := h
  have e5 : Try.prog.cellsOf 44 = 2 := by kernel_rfl
  obtain ⟨a, ha, hok⟩ := open_act20 _ _ _ (by show (Value.cells (.agg cs)).toList.length = 2; simp [Value.cells]; omega) hf
  refine ⟨a, ?_, hok⟩
  have h2 : cs.toList = [a.ds, a.ps] := ha
  have h3 : cs = #[a.ds, a.ps] := by rw [← Array.toList_inj]; exact h2
  rw [h3]
theorem open_num20 {H : Type} {enc : TypeId × Value → H} {W : World} (n : Nat) (cs : List Value) (y : DataW H × List MemPlace) (hl : cs.length = EI20.sz) (h : DataW.trod enc Try.prog W 0 (fun _ => true) true n 2 cs = some y) :
    ∃ x, cs = EI20.enc x ∧ rng19 x := by
  obtain ⟨K, k0, _, kw⟩ := DataW.trod_int Try.underlying2 h
  exact ⟨K, k0, rng_wf19 kw⟩
theorem open_nums20 {H : Type} {enc : TypeId × Value → H} {W : World} {v : Value} {d : DataW H} {p : List MemPlace} {a : Option Addr} {len cap : Nat} (hv : v = .slice a len cap)
    (h : DataW.Trod enc Try.prog W 0 (fun _ => true) true 54 v d p) : ∃ l : List Int, RdE EI20 W v l ∧ l.length ≤ maxLen ∧ ∀ x ∈ l, rng19 x :=
  open_elems EI20 rng19 Try.underlying54 (by kernel_rfl) hv h open_num20

end Go.Proofs.Ytgbphkbbedkepaa
